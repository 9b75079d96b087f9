/-
  The document's From; law05's same of a bag of the program and one of the document that have the same list.
  No condition but the list's length.
-/
import Derived.Test.YtbenpcnmkhmkbaaAlike
namespace Go.Proofs.Ytbenpcnmkhmkbaa
open Go.RowKit

set_option maxRecDepth 100000 in
set_option maxHeartbeats 1000000 in
theorem r_from (R : Nat → Prop) (v : Value) (x : List V) (Q : Nat → Prop) (g : Nat) (l : List En) (w : World) (hx : IsRow w R v x) (hb : RefL w Q g l) :
    Calls Try.prog 24 #[.pointer (some ⟨g, 0, none⟩), v] w (Tells w Q (told (some ⟨g, 0, none⟩) (fromL x l).head?)) := by
  have HF := Lib.hid (r_find R v x Q g l w hx hb)
  obtain ⟨hgo, hlen, L, c, hL, hc, hbox, hen⟩ := hb
  have hfr : (fromL x l).head? = l[findL x l]? := by rw [fromL_drop, List.head?_drop]
  have HFR := Lib.hid hfr
  have HB := Lib.hid hbox
  have HE := Lib.hid hen
  have hglt := hbox.lt
  have hfle := findL_le x l
  obtain ⟨_, A, cx, rfl, _, _⟩ := hx
  clear hgo hbox hen hfr
  generalize hn : l.length = n at *
  generalize hfk : findL x l = k at *
  have HN := Lib.hid hn
  clear hn hfk
  by_cases hkn : k < n
  · obtain ⟨e, he⟩ : ∃ e, l[k]? = some e := ⟨_, List.getElem?_eq_getElem (by rw [HN.out]; exact hkn)⟩
    have HEE := Lib.hid he
    obtain ⟨a, rv, rfl, hrow, hblt, c0, c1⟩ := HE.out.get k e he
    have HR := Lib.hid hrow
    obtain ⟨_, A', c', rfl, _, _⟩ := hrow
    clear he
    go_enter Try.func24, Try.ntmps24
    go_wp2_with fail
    refine HF.out.mono ?_
    rintro e2 w1 ⟨rfl, hb1⟩
    have b1 := box_later HB.out hb1
    have cb := b1.cell
    have hc1 := hb1.cell (p := a.add (k * 2)) hblt
    have HB1 := Lib.hid hb1
    clear b1 hb1
    go_wp2
    go_ret2
    rw [HFR.out, HEE.out]
    exact ⟨_, rfl, HR.out.below HB1.out, HB1.out⟩
  · go_enter Try.func24, Try.ntmps24
    have hnone : l[k]? = none := by rw [List.getElem?_eq_none_iff, HN.out]; omega
    have HNO := Lib.hid hnone
    clear hnone
    go_wp2_with fail
    refine HF.out.mono ?_
    rintro e2 w1 ⟨rfl, hb1⟩
    have b1 := box_later HB.out hb1
    have cb := b1.cell
    have HB1 := Lib.hid hb1
    clear b1 hb1
    go_wp2
    go_ret2
    rw [HFR.out, HNO.out]
    exact ⟨_, rfl, row_none _ _, HB1.out⟩

set_option maxRecDepth 100000 in
set_option maxHeartbeats 1000000 in
theorem l_same (Q R : Nat → Prop) (p : Option Addr) (g : Nat) (l : List En) (w : World) (hQ : ∀ k, w.heap.size ≤ k → Q k) (hp : BagP w Q p l) (hb : RefL w R g l) :
    Calls Try.prog 26 #[.pointer p, .pointer (some ⟨g, 0, none⟩)] w fun e w' => e = .returned (.bool true) ∧ Below w.heap.size w w' := by
  obtain ⟨hgo, hlen, L, c, hL, hc, hbox, hen⟩ := hb
  have HP := Lib.hid hp
  have HQ := Lib.hid hQ
  have HE := Lib.hid hen
  have hglt := hbox.lt
  have c0 := hbox.cell
  have HAL := Lib.hid (alikeL_self l)
  clear hgo hbox hen hp hQ
  generalize hn : l.length = n at *
  have HN := Lib.hid hn
  clear hn
  go_enter Try.func26, Try.ntmps26
  go_wp2
  go_region_held3 (fun w' => w'.cell? { block := g, off := 0 } = some (.slice L n c)) (go_keep)
    (first
    | (go_at_call 36; refine (b_len Q p l _ (by exact HP.out.below (below_drew _ _))).mono ?_; rintro e w1 ⟨rfl, rfl⟩; rw [HN.out])
    | (go_at_call 37; refine (b_rows Q p l _ (by exact HQ.out) (by exact HP.out.below (below_drew _ _)) (by rw [HN.out]; exact hlen)).mono ?_; rintro e w1 ⟨L3, c3, rfl, hL3, hE3, hb3⟩; rw [HN.out]; have hbb := (below_drew w.heap.size w).trans (hb3.mono (Nat.le_refl _)); have hcb := fun i => cl_of hbb g i hglt)
    | (go_at_call 33; refine (r_alike Q R _ _ l l n n _ _ _ HN.out HN.out hlen (by exact hE3) (by exact HE.out.below hbb)).mono ?_; rintro e w2 ⟨rfl, nd, rfl⟩; rw [HAL.out]))
  go_wp2
  go_ret
  exact ⟨rfl, below_drewN' hbb _⟩
end Go.Proofs.Ytbenpcnmkhmkbaa
