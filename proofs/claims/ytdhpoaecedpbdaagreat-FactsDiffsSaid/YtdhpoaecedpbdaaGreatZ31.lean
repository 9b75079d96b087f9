/-
  The rows of a list of objects: package facts' rowsOf.
  At every list of at most 1000.
  Pure: the rows of tenants by rising names, of objects of one kind in their order, are in order, each once.
  The document's Rows: of the tenants by rising names, of the objects of a kind in their order.
  At every tree and store that stand.
-/
import Derived.Test.YtdhpoaecedpbdaaGreatZ17
import Derived.Test.YtdhpoaecedpbdaaGreatZ25
import Derived.Test.YtdhpoaecedpbdaaGreatZ26
import Derived.Test.YtdhpoaecedpbdaaGreatZ29
import Derived.Test.YtdhpoaecedpbdaaGreatZ30
import Derived.Test.YtdhpoaecedpbdaaGreatZ8
import Derived.Test.YtdhpoaecedpbdaaGreatZ9
namespace Go.Proofs.YtdhpoaecedpbdaaGreat
section
open Go.RowKit

def rowO (o : Ob) : List V := txV o.key.2.1 :: txV o.key.2.2 :: o.c
theorem objs_get {w : World} {P : Nat → Prop} {A : Option Addr} {zs : List OE} (h : CellsQ w P A (flatO zs)) (k : Nat) (e : OE) (he : zs[k]? = some e) : ∃ a : Addr, A = some a ∧ w.cell? (a.add (k * 5)) = some (.string e.key.1) ∧ w.cell? { block := (a.add (k * 5)).block, off := (a.add (k * 5)).off + 1 } = some (.string e.key.2.1) ∧ w.cell? { block := (a.add (k * 5)).block, off := (a.add (k * 5)).off + 2 } = some (.string e.key.2.2) ∧ w.cell? { block := (a.add (k * 5)).block, off := (a.add (k * 5)).off + 3 } = some (.int .i64 e.v) ∧ w.cell? { block := (a.add (k * 5)).block, off := (a.add (k * 5)).off + 4 } = some e.u := by
  obtain ⟨a, ha, _, c0⟩ := h _ _ ((flatO_get zs k e 0 he (by omega)).trans rfl)
  have key : ∀ j (u : Value), 0 < j → (flatO zs)[k * 5 + j]? = some u → w.cell? { block := (a.add (k * 5)).block, off := (a.add (k * 5)).off + j } = some u := by
    intro j u hj hu
    obtain ⟨b, hb, _, c⟩ := h _ _ hu
    rw [ha] at hb
    injection hb with hb
    subst hb
    rw [show ({ block := (a.add (k * 5)).block, off := (a.add (k * 5)).off + j } : Addr) = a.add (k * 5 + j) from add_off a (k * 5) j hj]
    exact c
  exact ⟨a, ha, c0, key 1 _ (by omega) ((flatO_get zs k e 1 he (by omega)).trans rfl), key 2 _ (by omega) ((flatO_get zs k e 2 he (by omega)).trans rfl), key 3 _ (by omega) ((flatO_get zs k e 3 he (by omega)).trans rfl), key 4 _ (by omega) ((flatO_get zs k e 4 he (by omega)).trans rfl)⟩
theorem obR_get {w : World} {Q : Nat → Prop} : ∀ {es : List OE} {os : List Ob} (k : Nat) (e : OE), ObR w Q es os → es[k]? = some e → ∃ o, os[k]? = some o ∧ e.key = o.key ∧ e.v = o.v ∧ IsRow w Q e.u o.c
  | [], _, _, _, _, h => by simp at h
  | x :: es, [], _, _, h, _ => by cases h
  | x :: es, o :: os, 0, e, h, he => by
    have e1 : x = e := by simpa using he
    subst e1
    exact ⟨o, rfl, h.1⟩
  | x :: es, o :: os, k + 1, e, h, he => by
    obtain ⟨y, h1, h2⟩ := obR_get k e h.2 (by simpa using he)
    exact ⟨y, by simpa using h1, h2⟩

set_option maxRecDepth 100000 in
set_option maxHeartbeats 4000000 in
theorem f_rowsO (P Q : Nat → Prop) (A : Option Addr) (n c : Nat) (zs : List OE) (os : List Ob) (w : World) (hn : zs.length = n) (hl : n ≤ 1000) (hA : CellsQ w P A (flatO zs)) (hz : ObR w Q zs os) (hsh : ∀ o ∈ os, o.c.length ≤ 900000) :
    Calls Tryz.prog 44 #[.func (.func 13) #[] #[], .slice A n c] w fun e w' => ∃ v us, e = .returned v ∧ OwnG w' w.heap.size v us ∧ RwsQ w' (fun _ => True) us (os.map rowO) ∧ Below w.heap.size w w' := by
  have HA := Lib.hid (hA.imp (Q' := fun k => P k ∧ k < w.heap.size) (fun k hk h => ⟨h, hk⟩))
  have HZ := Lib.hid hz
  have HN := Lib.hid hn
  have HLN := Lib.hid hz.len
  have HSH := Lib.hid hsh
  clear hA hn hz hsh
  go_enter Tryz.func44, Tryz.ntmps44
  go_wp2_with (at_make; go_must (refine wp_make_L _ rfl _ _ rfl w.heap.size n rfl rfl (by omega) (Nat.le_refl _) ?_; intro v3 w3 hown3 hb3; have HO3 := Lib.hid hown3; have HB3 := Lib.hid hb3; clear hown3 hb3))
  go_loopw [5, 13] (fun v i wr => ∃ (k : Nat) (us : List Value), k ≤ n ∧ i = .int .i64 k ∧ OwnG wr w.heap.size v us ∧ RwsQ wr (fun j => some j ≠ v.ownBlock) us ((os.take k).map rowO) ∧ Below w.heap.size w wr) (fun _ i _ => n - (intOf i).toNat)
  case atStart => exact ⟨0, [], Nat.zero_le _, rfl, HO3.out, trivial, HB3.out⟩
  case round =>
    obtain ⟨k, us, hk, rfl, hown, hen, hb⟩ := hrel
    have HO := Lib.hid hown
    have HEN := Lib.hid hen
    have HB := Lib.hid hb
    have hsz := hb.size
    have hul : us.length ≤ k := by
      rw [hen.len, List.length_map]
      exact List.length_take_le _ _
    clear hown hen
    by_cases h1 : k < n
    · obtain ⟨e, he⟩ : ∃ e, zs[k]? = some e := ⟨_, List.getElem?_eq_getElem (by rw [HN.out]; exact h1)⟩
      obtain ⟨o, ho, hek, hev, hrow⟩ := obR_get k e HZ.out he
      obtain ⟨a, rfl, c0, c1, c2, c3, c4⟩ := objs_get (HA.out.keep (fun j hj _ => hb.block j hj.2)) k e he
      obtain ⟨⟨k1, k2, k3⟩, v, u⟩ := e
      have htk : (os.take (k + 1)).map rowO = (os.take k).map rowO ++ [txV k2 :: txV k3 :: o.c] := by
        rw [List.take_add_one, ho]
        have hek : (k1, k2, k3) = o.key := hek
        simp [rowO, ← hek]
      have HTK := Lib.hid htk
      have hrs := HSH.out o (List.mem_of_getElem? ho)
      obtain ⟨_, Ax, cx, hue, hux0, hrq⟩ := hrow
      have hue : u = .slice Ax o.c.length cx := hue
      subst hue
      dsimp only at c0 c1 c2 c3 c4
      obtain ⟨m, hm⟩ : ∃ m, o.c.length = m := ⟨_, rfl⟩
      obtain ⟨xs, hxs⟩ : ∃ xs, xs = o.c := ⟨_, rfl⟩
      rw [← hxs] at hm hrs hrq HTK
      rw [← hxs, hm] at c4
      rw [hm] at hrs
      have HM := Lib.hid hm.symm
      have HRA := Lib.hid (hrq.at.later hb)
      have HFO := Lib.hid (fun W (hW : Below wr.heap.size wr W) => f_object k1 k2 k3 v Ax m cx xs W HM.out hrs hux0 (HRA.out.later hW))
      clear he ho hek hev htk hb hux0 hrq hm hxs
      go_wp2_with fail
      refine (HFO.out _ (one_new wr _)).mono ?_
      rintro e w6 ⟨uv, rfl, hown6, hb6⟩
      have hb6' : Below wr.heap.size wr w6 := (one_new wr _).trans (hb6.mono (by simp))
      have hs6 := hb6'.size
      have hu := IsRw.own (Q := fun k => wr.heap.size ≤ k) hown6 (by have := HM.out; simp; omega) (fun k hk => by simp at hk; omega)
      have HU := Lib.hid hu
      have HB6 := Lib.hid hb6'
      have HO6 := Lib.hid (HO.out.below hb6')
      obtain ⟨A9, c9, m9, hm9, rfl⟩ : ∃ A9 c9 m9, (txV k2 :: txV k3 :: xs).length = m9 ∧ uv = .slice A9 m9 c9 := by
        obtain ⟨_, A9, c9, e, _⟩ := hu
        exact ⟨A9, c9, _, rfl, e⟩
      clear hown6 hb6 hb6' hu hm9
      go_wp2_with (at_builtin; go_must (refine wp_append_G _ rfl (.tmp 17) (.tmp 21) rfl w.heap.size _ us [Value.slice A9 m9 c9] rfl (HO6.out.alloc _) _ 1 _ rfl rfl (lit_S w6 _ _) (by simp [Value.oneCell']) (by simp; omega) (by simp; omega) ?_; intro v7 w7 hown7 hb7 hg7 hor7))
      have hrw7 := rw_next HO.out HB6.out HEN.out HU.out rfl hg7 hor7
      have hb7' : Below w.heap.size wr w7 := (HB6.out.mono hsz).trans (((one_new w6 _).mono (Nat.le_trans hsz hs6)).trans hb7)
      go_roundw
      case rel => exact ⟨k + 1, us ++ [Value.slice A9 m9 c9], by omega, by go_num, hown7, by rw [HTK.out]; exact hrw7, HB.out.trans hb7'⟩
      case measure => simp [intOf]; omega
    · obtain rfl : k = n := by omega
      have e : os.take k = os := List.take_of_length_le (by have := HN.out; have := HLN.out; omega)
      rw [e] at HEN
      have HR := Lib.hid (HEN.out.imp (Q' := fun _ => True) (fun _ _ _ => trivial))
      clear hb
      go_wp2
      go_ret
      exact ⟨_, us, rfl, HO.out, HR.out, HB.out⟩
end
end Go.Proofs.YtdhpoaecedpbdaaGreat
namespace Go.Proofs.YtdhpoaecedpbdaaGreat
section
open Go.RowKit

theorem cmpV_tx (a b : ByteArray) : cmpV (txV a) (txV b) = cmpS a b := by
  unfold cmpV txV
  simp
theorem cmpR_tx {a b : ByteArray} {x y : List V} : cmpR (txV a :: x) (txV b :: y) = if cmpS a b = 0 then cmpR x y else cmpS a b := by
  rw [cmpR, cmpV_tx]
theorem rowsT_id {L : List Tn} (h : SrtT L) : sortL (L.map rowT) = L.map rowT := by
  refine sortL_id ?_
  rw [List.pairwise_map]
  refine List.Pairwise.imp (fun {a b} hab => ?_) h
  unfold rowT
  rw [cmpR_tx, if_neg (by omega)]
  exact hab
theorem rowsO_id {os : List Ob} (h : SrtO os) (kd : ByteArray) : sortL ((ofKind os kd).map rowO) = (ofKind os kd).map rowO := by
  refine sortL_id ?_
  rw [List.pairwise_map]
  have hk : ∀ o ∈ ofKind os kd, o.key.1 = kd := by
    intro o ho
    unfold ofKind at ho
    exact toList_eqO.1 (List.mem_filter.1 ho).2
  have hp : (ofKind os kd).Pairwise fun a b => cmpK a.key b.key < 0 := List.Pairwise.filter _ h
  refine List.Pairwise.imp_of_mem (fun {a b} ha hb hab => ?_) hp
  have e : a.key.1 = b.key.1 := by rw [hk a ha, hk b hb]
  unfold cmpK at hab
  rw [e, if_pos (cmpS_ordered.self _)] at hab
  unfold rowO
  rw [cmpR_tx, cmpR_tx]
  by_cases h1 : cmpS a.key.2.1 b.key.2.1 = 0
  · rw [if_pos h1] at hab ⊢
    rw [if_neg (by omega)]
    exact hab
  · rw [if_neg h1] at hab ⊢
    exact hab
end
end Go.Proofs.YtdhpoaecedpbdaaGreat
namespace Go.Proofs.YtdhpoaecedpbdaaGreat
section
open Go.RowKit

theorem fit_tx {a b : ByteArray} {c : List V} (ha : a.size ≤ maxLen) (hb : b.size ≤ maxLen) (hc : Fit c) : Fit (txV a :: txV b :: c) := by
  intro i v hi
  match i, hi with
  | 0, hi =>
    have e : txV a = v := by simpa using hi
    rw [← e]; exact ha
  | 1, hi =>
    have e : txV b = v := by simpa using hi
    rw [← e]; exact hb
  | i + 2, hi => exact hc i v (by simpa using hi)

set_option maxRecDepth 100000 in
set_option maxHeartbeats 4000000 in
theorem r_relT (s : Option Addr) (q r : Nat) (v0 : Value) (L : List Tn) (w : World) (hR : RefB w q r v0 L) (hS : SrtT L) (hl : L.length ≤ 1000) (hsz : ∀ x ∈ L, x.1.size ≤ maxLen ∧ x.2.size ≤ maxLen) :
    Calls Tryz.prog 11 #[.pointer s, .pointer (some ⟨r, 0, none⟩), .string tenB] w fun e w' => ∃ v us, e = .returned v ∧ OwnG w' w.heap.size v us ∧ RwsQ w' (fun _ => True) us (L.map rowT) ∧ Below w.heap.size w w' := by
  have hrl := hR.lt
  have C0 := Lib.hid (show w.cell? ⟨r, 0, none⟩ = some v0 from cell_of_row w r 0 _ _ _ hR.1)
  obtain ⟨A, c, rfl, -, -, hA, -⟩ := hR.2.slice
  have HA := Lib.hid hA
  have HSZ := Lib.hid hsz
  have HID := Lib.hid (rowsT_id hS)
  obtain ⟨n, hn⟩ : ∃ n, L.length = n := ⟨_, rfl⟩
  have HN := Lib.hid hn
  rw [hn] at hl C0
  clear hA hR hn hsz hS
  unfold tenB
  go_enter Tryz.func11, Tryz.ntmps11
  go_wp2
  go_loopw [7, 8] (fun v i wr => ∃ (k : Nat) (us : List Value), k ≤ n ∧ i = .int .i64 k ∧ OwnG wr w.heap.size v us ∧ RwsQ wr (fun j => some j ≠ v.ownBlock) us ((L.take k).map rowT) ∧ Below w.heap.size w wr) (fun _ i _ => n - (intOf i).toNat)
  case atStart => exact ⟨0, [], Nat.zero_le _, rfl, OwnG.nil _ _, trivial, Below.refl _ _⟩
  case round =>
    obtain ⟨k, us, hk, rfl, hown, hen, hb⟩ := hrel
    have HO := Lib.hid hown
    have HEN := Lib.hid hen
    have HB := Lib.hid hb
    have hsz := hb.size
    have c0 := (hb.cell (p := ⟨r, 0, none⟩) hrl).trans C0.out
    have hul : us.length ≤ k := by
      rw [hen.len, List.length_map]
      exact List.length_take_le _ _
    by_cases h1 : k < n
    · obtain ⟨⟨xa, xb⟩, hx⟩ : ∃ x, L[k]? = some x := ⟨_, List.getElem?_eq_getElem (by rw [HN.out]; exact h1)⟩
      obtain ⟨a, rfl, c1, c2⟩ := (HA.out.below hb).get2 k _ hx
      have htk : (L.take (k + 1)).map rowT = (L.take k).map rowT ++ [[txV xa, txV xb]] := by
        rw [List.take_add_one, hx]
        simp [rowT]
      have HTK := Lib.hid htk
      have HFT := Lib.hid (fun W => r_tenantF xa xb W)
      dsimp only at c1 c2
      clear hx htk hb hown hen
      go_wp2_with fail
      refine (HFT.out _).mono ?_
      rintro e w6 ⟨uv, rfl, hown6, hb6⟩
      have hb6' : Below wr.heap.size wr w6 := hb6
      have hs6 := hb6'.size
      have hu := IsRw.own (Q := fun k => wr.heap.size ≤ k) hown6 (by simp) (fun k hk => hk)
      have HU := Lib.hid hu
      have HB6 := Lib.hid hb6'
      have HO6 := Lib.hid (HO.out.below hb6')
      obtain ⟨A9, c9, rfl⟩ : ∃ A9 c9, uv = .slice A9 2 c9 := by
        obtain ⟨_, A9, c9, e, _⟩ := hu
        exact ⟨A9, c9, e⟩
      clear hown6 hb6 hb6' hu
      go_wp2_with (at_builtin; go_must (refine wp_append_G _ rfl (.tmp 22) (.tmp 31) rfl w.heap.size _ us [Value.slice A9 2 c9] rfl (HO6.out.alloc _) _ 1 _ rfl rfl (lit_S w6 _ _) (by simp [Value.oneCell']) (by simp; omega) (by simp; omega) ?_; intro v7 w7 hown7 hb7 hg7 hor7))
      have hrw7 := rw_next HO.out HB6.out HEN.out HU.out rfl hg7 hor7
      have hb7' : Below w.heap.size wr w7 := (HB6.out.mono hsz).trans (((one_new w6 _).mono (Nat.le_trans hsz hs6)).trans hb7)
      go_roundw
      case rel => exact ⟨k + 1, us ++ [Value.slice A9 2 c9], by omega, by go_num, hown7, by rw [HTK.out]; exact hrw7, HB.out.trans hb7'⟩
      case measure => simp [intOf]; omega
    · obtain rfl : k = n := by omega
      have e : L.take k = L := List.take_of_length_le (by have := HN.out; omega)
      rw [e] at hen
      obtain ⟨A0, cg, hv, hcg, hgc⟩ := hown.cells
      subst hv
      have hlen := hen.len
      rw [List.length_map, HN.out] at hlen
      have hs := ref_sort _ A0 cg us (L.map rowT) us.length wr (by rw [hlen, List.length_map, HN.out]) (by omega) (hgc.imp (fun k hk h => hk)) hen (fun x hx => by
        obtain ⟨y, hy, rfl⟩ := List.mem_map.1 hx
        exact fit_tx (HSZ.out y hy).1 (HSZ.out y hy).2 (fun i v h => by simp at h))
      rw [HID.out] at hs
      have HS := Lib.hid hs
      clear hs hgc hlen hown hen hb e
      go_wp2_with fail
      refine HS.out.mono ?_
      rintro e w5 ⟨v, us5, rfl, hown5, hrw5, hb5⟩
      have HO5 := Lib.hid (hown5.lower hsz)
      have HR5 := Lib.hid (hrw5.imp (Q' := fun _ => True) (fun _ _ _ => trivial))
      have HB5 := Lib.hid (HB.out.trans (hb5.mono hsz))
      clear hown5 hrw5 hb5
      go_wp2
      go_ret
      exact ⟨_, us5, rfl, HO5.out, HR5.out, HB5.out⟩
end
end Go.Proofs.YtdhpoaecedpbdaaGreat
