/-
  The document's bag: find, few and Many answer what the plain list does.
  No condition but that a bag has no more rows, and a row no more cells, than fits.
-/
import Derived.Test.YtpliofhphijdkaaFpure
import Derived.Test.YtpliofhphijdkaaEnt
namespace Go.Proofs.Ytpliofhphijdkaa
open Go.RowKit

theorem box_later {W W' : World} {B : Nat} {t : TypeId} {v : Value} (hv : Boxed W B t v) (h : Below W.heap.size W W') : Boxed W' B t v := (h.block B hv.lt).trans hv
/-- The document's bag with the list l lies in the box at block g; what it has lies in blocks of Q. -/
def RefL (w : World) (Q : Nat → Prop) (g : Nat) (l : List En) : Prop := Good l ∧ l.length ≤ 700000 ∧ ∃ L c, (L = none → c = 0) ∧ l.length ≤ c ∧ Boxed w g 42 (.slice L l.length c) ∧ EntsQ w Q L l
theorem RefL.lt {w : World} {Q : Nat → Prop} {g : Nat} {l : List En} (h : RefL w Q g l) : g < w.heap.size := by
  obtain ⟨_, _, L, c, _, _, h1, _⟩ := h
  exact h1.lt
theorem RefL.keep {w w' : World} {Q : Nat → Prop} {g : Nat} {l : List En} (h : RefL w Q g l) (hk : KeepQ Q w w') (hg : w'.heap[g]? = w.heap[g]?) : RefL w' Q g l := by
  obtain ⟨h0, hl, L, c, h1, h2, h3, h4⟩ := h
  exact ⟨h0, hl, L, c, h1, h2, hg.trans h3, h4.keep hk⟩
theorem RefL.below {w w' : World} {Q : Nat → Prop} {g : Nat} {l : List En} (h : RefL w Q g l) (hb : Below w.heap.size w w') : RefL w' Q g l := h.keep (Below.keepQ hb Q) (hb.block g h.lt)
theorem RefL.only {w w' : World} {Q : Nat → Prop} {g g' : Nat} {l : List En} (h : RefL w Q g l) (hb : Only g' w w') (hg : ¬ Q g') (hne : g ≠ g') : RefL w' Q g l := h.keep (hb.keepQ hg) (hb.2 g h.lt hne)
theorem RefL.imp {w : World} {Q Q' : Nat → Prop} {g : Nat} {l : List En} (h : RefL w Q g l) (hq : ∀ k, k < w.heap.size → Q k → Q' k) : RefL w Q' g l := by
  obtain ⟨h0, hl, L, c, h1, h2, h3, h4⟩ := h
  exact ⟨h0, hl, L, c, h1, h2, h3, h4.imp hq⟩

theorem ref_cmp_rows (R S : Nat → Prop) (u v : Value) (xs ys : List V) (w : World) (hf : Fit xs) (hx : IsRow w R u xs) (hy : IsRow w S v ys) : Calls Try.prog 52 #[u, v] w fun e w' => e = .returned (.int .i64 (cmpR xs ys)) ∧ Below w.heap.size w w' := by
  have hl := hx.len
  obtain ⟨_, A, c, rfl, _, h1⟩ := hx
  obtain ⟨_, B, d, rfl, _, h2⟩ := hy
  exact ref_cmpR A B xs ys _ _ c d w rfl rfl hl hf h1.at h2.at
theorem ref_same_rows (R S : Nat → Prop) (u v : Value) (xs ys : List V) (w : World) (hf : Fit xs) (hx : IsRow w R u xs) (hy : IsRow w S v ys) : Calls Try.prog 53 #[u, v] w fun e w' => e = .returned (.bool (cmpR xs ys == 0)) ∧ Below w.heap.size w w' := by
  have hl := hx.len
  obtain ⟨_, A, c, rfl, _, h1⟩ := hx
  obtain ⟨_, B, d, rfl, _, h2⟩ := hy
  exact ref_sameR A B xs ys _ _ c d w rfl rfl hl hf h1.at h2.at
theorem ref_equal_rows (R S : Nat → Prop) (u v : Value) (xs ys : List V) (w : World) (hx : IsRow w R u xs) (hy : IsRow w S v ys) : Calls Try.prog 25 #[u, v] w fun e w' => e = .returned (.bool (eqR xs ys)) ∧ ∃ nd, w' = w.drewN nd := by
  have hl := hx.len
  obtain ⟨_, A, c, rfl, _, h1⟩ := hx
  obtain ⟨_, B, d, rfl, _, h2⟩ := hy
  exact ref_equal A B xs ys _ _ c d w rfl rfl hl h1.at h2.at
theorem ref_right_rows (R : Nat → Prop) (v : Value) (x : List V) (w : World) (hx : IsRow w R v x) : Calls Try.prog 33 #[v] w fun e w' => e = .returned (.bool (rightR x)) ∧ Below w.heap.size w w' := by
  obtain ⟨_, A, c, rfl, _, h1⟩ := hx
  exact ref_rightR A x _ c w rfl h1.at

set_option maxHeartbeats 400000 in
theorem r_few (n : Int) (w : World) : Calls Try.prog 35 #[.int .i64 n] w fun e w' => e = .returned (.bool (fewN n)) ∧ w = w' := by
  by_cases h1 : -1073741824 ≤ n
  · by_cases h2 : n ≤ 1073741824
    · go_enter Try.func35, Try.ntmps35
      go_wp2
      go_ret
      exact ⟨ret_bool (by simp [fewN, h1, h2]), rfl⟩
    · go_enter Try.func35, Try.ntmps35
      go_wp2
      go_ret
      exact ⟨ret_bool (by simp [fewN]; omega), rfl⟩
  · go_enter Try.func35, Try.ntmps35
    go_wp2
    go_ret
    exact ⟨ret_bool (by simp [fewN]; omega), rfl⟩

set_option maxRecDepth 100000 in
set_option maxHeartbeats 1000000 in
theorem r_find (R : Nat → Prop) (v : Value) (x : List V) (Q : Nat → Prop) (g : Nat) (l : List En) (w : World) (hx : IsRow w R v x) (hb : RefL w Q g l) :
    Calls Try.prog 36 #[.pointer (some ⟨g, 0, none⟩), v] w fun e w' => e = .returned (.tuple #[.int .i64 (findL x l : Int), .bool (hasL x l)]) ∧ Below w.heap.size w w' := by
  obtain ⟨hgo, hlen, L, c, hL, hc, hbox, hen⟩ := hb
  have HX := Lib.hid hx
  have HG := Lib.hid hgo
  have HB := Lib.hid hbox
  have HE := Lib.hid hen
  have hglt := hbox.lt
  obtain ⟨_, A, cx, rfl, _, _⟩ := hx
  clear hgo hbox hen
  generalize hn : l.length = n at *
  have HN := Lib.hid hn
  clear hn
  go_enter Try.func36, Try.ntmps36
  go_wp2
  go_loopw [6] (fun i wr => ∃ k : Nat, k ≤ n ∧ i = .int .i64 k ∧ Hid (k ≤ findL x l) ∧ Below w.heap.size w wr) (fun i _ => n - (intOf i).toNat)
  case atStart => exact ⟨0, Nat.zero_le _, rfl, Lib.hid (Nat.zero_le _), Below.refl _ _⟩
  case round =>
    obtain ⟨k, hk, rfl, hkf, hb⟩ := hrel
    have b1 := box_later HB.out hb
    have cb := b1.cell
    have HBW := Lib.hid hb
    have hsz := hb.size
    have HB1 := Lib.hid b1
    clear hb b1
    by_cases hkn : k < n
    · obtain ⟨e, he⟩ : ∃ e, l[k]? = some e := ⟨_, List.getElem?_eq_getElem (by rw [HN.out]; exact hkn)⟩
      obtain ⟨a, rv, rfl, hrow, hblt, c0, c1⟩ := (HE.out.below HBW.out).get k e he
      have hfit := right_fit e.1 (HG.out.2 e (List.mem_of_getElem? he)).2.2
      have HF := Lib.hid hfit
      have HR := Lib.hid hrow
      obtain ⟨_, A', c', rfl, _, _⟩ := hrow
      have HEE := Lib.hid he
      clear hfit he
      by_cases hlt : cmpR e.1 x < 0
      · have hkf2 : k < findL x l := by
          by_cases h : k < findL x l
          · exact h
          · have h2 : k = findL x l := by have := hkf.out; omega
            have := (findL_stop x l e (by rw [← h2]; exact HEE.out)).1
            exact absurd hlt this
        have HK2 := Lib.hid hkf2
        have hlt' : decide (cmpR e.1 x < 0) = true := by simpa using hlt
        clear hkf2
        go_wp2_with fail
        refine (ref_cmp_rows Q R _ _ e.1 x _ HF.out HR.out (HX.out.below HBW.out)).mono ?_
        rintro e2 w2 ⟨rfl, hbw⟩
        go_wp2
        go_roundw
        case rel => exact ⟨k + 1, by omega, by go_num, Lib.hid HK2.out, HBW.out.trans (hbw.mono hsz)⟩
        case measure => simp [intOf]; omega
      · have hkf2 : findL x l = k := by
          by_cases h : k < findL x l
          · exact absurd (findL_low x l k e h HEE.out) hlt
          · have := hkf.out; omega
        have hst := (findL_stop x l e (by rw [hkf2]; exact HEE.out)).2
        have HK2 := Lib.hid hkf2
        have HST := Lib.hid hst
        have hlt' : decide (cmpR e.1 x < 0) = false := by simpa using hlt
        clear hkf2 hst
        go_wp2_with fail
        refine (ref_cmp_rows Q R _ _ e.1 x _ HF.out HR.out (HX.out.below HBW.out)).mono ?_
        rintro e2 w2 ⟨rfl, hbw⟩
        have b2 := box_later HB1.out hbw
        have cb2 := b2.cell
        have hc2 := hbw.cell (p := a.add (k * 2)) hblt
        have HB2 := Lib.hid hbw
        have hs2 := hbw.size
        clear b2 hbw
        go_wp2_with fail
        refine (ref_same_rows Q R _ _ e.1 x _ HF.out (HR.out.below HB2.out) ((HX.out.below HBW.out).below HB2.out)).mono ?_
        rintro e3 w3 ⟨rfl, hbw⟩
        go_wp2
        go_ret2
        refine ⟨?_, HBW.out.trans ((HB2.out.trans (hbw.mono hs2)).mono hsz)⟩
        rw [HK2.out, HST.out]
        exact rfl
    · obtain rfl : k = n := by omega
      have hkf2 : findL x l = k := by have h1 := findL_le x l; have h2 := hkf.out; have h3 := HN.out; omega
      have hst := hasL_end x l (by have h3 := HN.out; omega)
      have HK2 := Lib.hid hkf2
      have HST := Lib.hid hst
      clear hkf2 hst
      go_wp2
      go_ret2
      exact ⟨by rw [HK2.out, HST.out]; exact rfl, HBW.out⟩

set_option maxRecDepth 100000 in
set_option maxHeartbeats 1000000 in
theorem r_many (R : Nat → Prop) (v : Value) (x : List V) (Q : Nat → Prop) (g : Nat) (l : List En) (w : World) (hx : IsRow w R v x) (hb : RefL w Q g l) :
    Calls Try.prog 34 #[.pointer (some ⟨g, 0, none⟩), v] w fun e w' => e = .returned (.int .i64 (manyL x l)) ∧ Below w.heap.size w w' := by
  have HF := Lib.hid (r_find R v x Q g l w hx hb)
  obtain ⟨hgo, hlen, L, c, hL, hc, hbox, hen⟩ := hb
  have HX := Lib.hid hx
  have HB := Lib.hid hbox
  have HE := Lib.hid hen
  have hglt := hbox.lt
  obtain ⟨_, A, cx, rfl, _, _⟩ := hx
  clear hgo hbox hen
  rcases Bool.eq_false_or_eq_true (hasL x l) with h | h
  · have hlt := hasL_lt x l h
    obtain ⟨e, he⟩ : ∃ e, l[findL x l]? = some e := ⟨_, List.getElem?_eq_getElem hlt⟩
    have HM := Lib.hid (manyL_yes x l e h he)
    have HEE := Lib.hid he
    have HH := Lib.hid h
    clear h he
    generalize hk : findL x l = k at *
    generalize hn : l.length = n at *
    clear hk hn
    go_enter Try.func34, Try.ntmps34
    go_wp2_with fail
    refine HF.out.mono ?_
    rintro e2 w1 ⟨rfl, hbw⟩
    rw [HH.out]
    have b1 := box_later HB.out hbw
    have cb := b1.cell
    obtain ⟨a, rv, rfl, hrow, hblt, c0, c1⟩ := (HE.out.below hbw).get k e HEE.out
    go_wp2
    go_ret
    exact ⟨ret_int HM.out.symm, hbw⟩
  · have HM := Lib.hid (manyL_no x l h)
    have HH := Lib.hid h
    clear h
    go_enter Try.func34, Try.ntmps34
    go_wp2_with fail
    refine HF.out.mono ?_
    rintro e2 w1 ⟨rfl, hbw⟩
    rw [HH.out]
    go_wp2
    go_ret
    exact ⟨ret_int HM.out.symm, hbw⟩
end Go.Proofs.Ytpliofhphijdkaa
