/-
  BagPlays of verdererlaw05 answers true at every list of entries and every row, in every world, and changes nothing that was there.
  No condition.
-/
import Derived.Test.YtbenpcnmkhmkbaaLsame
import Derived.Test.YtbenpcnmkhmkbaaBknown
namespace Go.Proofs.Ytbenpcnmkhmkbaa
open Go.RowKit

def Q2 (s : Nat) : Nat → Prop := fun j => j ≠ s ∧ j ≠ s + 1
/-- A bag of the program in the box at s and one of the document in the next, both with the list l, made since the world w. -/
structure Both (w wr : World) (s : Nat) (l : List En) : Prop where
  low : w.heap.size ≤ s
  below : Below s w wr
  size : s + 2 ≤ wr.heap.size
  bag : BagL wr (Q2 s) s l
  ref : RefL wr (Q2 s) (s + 1) l
theorem Both.q {w wr : World} {s : Nat} {l : List En} (h : Both w wr s l) : ∀ k, wr.heap.size ≤ k → Q2 s k := fun k hk => by
  have := h.size
  exact ⟨by omega, by omega⟩
theorem Both.later {w wr w' : World} {s : Nat} {l : List En} (h : Both w wr s l) (hb : Below wr.heap.size wr w') : Both w w' s l :=
  ⟨h.low, h.below.trans (hb.mono (by have := h.size; omega)), Nat.le_trans h.size hb.size, h.bag.below hb, h.ref.below hb⟩
theorem Both.old {w wr : World} {s : Nat} {l : List En} (h : Both w wr s l) : Below w.heap.size w wr := h.below.mono h.low
theorem nq1 (s : Nat) : ¬ Q2 s s := fun h => h.1 rfl
theorem nq2 (s : Nat) : ¬ Q2 s (s + 1) := fun h => h.2 rfl
theorem told_at (a b : Addr) (e : Option En) : told (some a) e = told (some b) e := by simp [told]
theorem told_none (a : Addr) : told (some a) none = ([], 5) := by simp [told]
theorem told_one (a : Addr) (e : En) : told (some a) (some e) = (e.1, 0) := by simp [told]
theorem addL_len (x : List V) (k : Int) (l : List En) : (addL x k l).1.length ≤ l.length + 1 := by
  unfold addL
  split
  · exact Nat.le_succ _
  · split
    · exact Nat.le_succ _
    · exact setL_len1 x _ l
theorem IsRow.oldRow {w w' : World} {v : Value} {x : List V} {Q : Nat → Prop} (h : IsRow w Q v x) (hb : Below w.heap.size w w') : IsRow w' Q v x := h.below hb

theorem Both.adds {w wr w1 w2 : World} {s : Nat} {l l2 : List En} (h : Both w wr s l) (hB : BagL w1 (Q2 s) s l2) (ho1 : Only s wr w1) (hR : RefL w2 (Q2 s) (s + 1) l2) (ho2 : Only (s + 1) w1 w2) : Both w w2 s l2 := by
  have hs := h.size
  have hs1 := ho1.1.size
  refine ⟨h.low, (h.below.trans ho1.1).trans (ho2.1.mono (Nat.le_succ s)), Nat.le_trans (Nat.le_trans hs hs1) ho2.1.size, ?_, hR⟩
  exact hB.keep (ho2.keepQ (nq2 s)) (ho2.2 s (by omega) (by omega))

theorem ents_many {w : World} {A : Option Addr} {es : List WE} (h : WeakE w A es) (i : Nat) (e : En) (he : (ents es)[i]? = some e) : -9223372036854775808 ≤ e.2 ∧ e.2 ≤ 9223372036854775807 := by
  unfold ents at he
  rw [List.getElem?_map] at he
  cases hx : es[i]? with
  | none => rw [hx] at he; cases he
  | some x =>
    rw [hx] at he
    have he2 : (x.row, x.many) = e := by simpa using he
    subst he2
    exact (h i x hx).1.2.2.2

theorem new_both (w : World) : Both w ((w.alloc (.cells #[.pointer none] 84)).alloc (.cells #[.slice none 0 0] 35)) w.heap.size [] := by
  refine ⟨Nat.le_refl _, two_new _ _ _, by simp, (bag_new _ w).below (one_new _ _), ?_⟩
  have hb := Boxed.new (w.alloc (.cells #[.pointer none] 84)) 35 (.slice none 0 0)
  rw [World.size_alloc] at hb
  exact ⟨Good.nil, by simp, none, 0, fun _ => rfl, Nat.le_refl _, hb, [], trivial, fun j u hj => by simp [flatE] at hj⟩

/-- All four calls of a round. -/
theorem round_calls {w wr : World} {s : Nat} {l : List En} (h : Both w wr s l) (hlen : l.length ≤ 600000) (R : Nat → Prop) (v : Value) (e : En) (he : -9223372036854775808 ≤ e.2 ∧ e.2 ≤ 9223372036854775807) (hv : IsRow w R v e.1) (l2 : List En) (ek : Int) (hadd : addL e.1 e.2 l = (l2, ek)) :
    Calls Try.prog 19 #[.pointer (some ⟨s, 0, none⟩), v, .int .i64 e.2] wr (fun x w1 => x = .returned (.int .i64 ek) ∧ Below s w w1 ∧
      Calls Try.prog 20 #[.pointer (some ⟨s + 1, 0, none⟩), v, .int .i64 e.2] w1 (fun x w2 => x = .returned (.int .i64 ek) ∧ Both w w2 s l2 ∧
        Calls Try.prog 21 #[.pointer (some ⟨s, 0, none⟩), v] w2 (fun x w3 => x = .returned (.int .i64 (manyL e.1 l2)) ∧ Both w w3 s l2 ∧
          Calls Try.prog 22 #[.pointer (some ⟨s + 1, 0, none⟩), v] w3 (fun x w4 => x = .returned (.int .i64 (manyL e.1 l2)) ∧ Both w w4 s l2)))) := by
  refine (b_add R v e.1 e.2 (Q2 s) s l wr he h.q (nq1 s) (hv.below h.old) h.bag (by omega)).mono ?_
  rintro x w1 ⟨rfl, hB, ho1⟩
  rw [hadd] at hB ⊢
  have hb1 := h.below.trans ho1.1
  have hs1 := ho1.1.size
  have hq1 : ∀ k, w1.heap.size ≤ k → Q2 s k := fun k hk => h.q k (by omega)
  refine ⟨rfl, hb1, (r_add R v e.1 e.2 (Q2 s) (s + 1) l w1 hq1 (nq2 s) (hv.below (hb1.mono h.low)) (h.ref.only ho1 (nq1 s) (by omega)) hlen).mono ?_⟩
  rintro x w2 ⟨rfl, hR, ho2⟩
  rw [hadd] at hR ⊢
  have h2 := h.adds hB ho1 hR ho2
  refine ⟨rfl, h2, (b_many R v e.1 (Q2 s) _ l2 w2 (hv.below h2.old) (Or.inr ⟨s, rfl, h2.bag⟩)).mono ?_⟩
  rintro x w3 ⟨rfl, hb3⟩
  have h3 := h2.later hb3
  refine ⟨rfl, h3, (r_many R v e.1 (Q2 s) _ l2 w3 (hv.below h3.old) h3.ref).mono ?_⟩
  rintro x w4 ⟨rfl, hb4⟩
  exact ⟨rfl, h3.later hb4⟩

set_option maxRecDepth 100000 in
set_option maxHeartbeats 2000000 in
theorem bagPlays_main (w : World) (A : Option Addr) (c : Nat) (es : List WE) (n : Nat) (hn : es.length = n) (hl : n ≤ 120) (hrows : ∀ e ∈ es, e.row.length ≤ 50) (hW : WeakE w A es) (v : Value) (B : Option Addr) (d : Nat) (xs : List V) (hv : v = .slice B xs.length d) (hx : IsRow w (fun _ => True) v xs) (h50 : xs.length ≤ 50) :
    Calls Try.prog 4 #[.slice A n c, v] w fun e w' => e = .returned (.bool true) ∧ Below w.heap.size w w' := by
  have HF := Lib.hid (l_few A es n c w hn (by omega) hW)
  have HFW : Hid (fewW es = true) := Lib.hid ((fewW_iff es).2 ⟨by omega, hrows⟩)
  have HE := Lib.hid (hW.ents hrows)
  have HM := Lib.hid (fun i e he => ents_many hW i e he)
  have HN : Hid ((ents es).length = n) := Lib.hid (by rw [ents_len]; exact hn)
  have HX := Lib.hid hx
  subst hv
  clear hW hn hrows hx
  go_enter Try.func4, Try.ntmps4
  go_wp2_with fail
  refine HF.out.mono ?_
  rintro e w' ⟨rfl, rfl⟩
  rw [HFW.out]
  go_wp2_with fail
  refine (b_new _).mono ?_
  rintro e w1 ⟨rfl, rfl⟩
  have HNB := Lib.hid (new_both w)
  go_wp2
  go_loopw [7] (fun i wr => ∃ (k : Nat) (l : List En), k ≤ n ∧ i = .int .i64 k ∧ l.length ≤ k ∧ Both w wr w.heap.size l) (fun i _ => n - (intOf i).toNat)
  case atStart => exact ⟨0, [], Nat.zero_le _, rfl, Nat.le_refl _, HNB.out⟩
  case round =>
    obtain ⟨k, l, hk, rfl, hlk, hbo⟩ := hrel
    by_cases hkn : k < n
    · obtain ⟨e, he⟩ : ∃ e, (ents es)[k]? = some e := ⟨_, List.getElem?_eq_getElem (by rw [HN.out]; exact hkn)⟩
      have hmany := HM.out k e he
      obtain ⟨a, rv, rfl, hrow, hblt, c0, c1⟩ := HE.out.get k e he
      obtain ⟨l2, ek, hadd⟩ : ∃ l2 ek, addL e.1 e.2 l = (l2, ek) := ⟨_, _, rfl⟩
      have hl2 : l2.length ≤ k + 1 := by
        have := addL_len e.1 e.2 l
        rw [hadd] at this
        simp only at this
        omega
      have hd := hbo.later (below_drew _ wr)
      have HC := Lib.hid (round_calls hd (by omega) _ _ e hmany hrow l2 ek hadd)
      have hcr0 := (hbo.old.cell (p := a.add (k * 2)) hblt).trans c0
      have hcr1 := (hbo.old.cell (p := { block := (a.add (k * 2)).block, off := (a.add (k * 2)).off + 1 }) hblt).trans c1
      obtain ⟨_, A', c', rfl, _, _⟩ := hrow
      have HL2 := Lib.hid hl2
      have H0 := Lib.hid c0
      have H1 := Lib.hid c1
      clear hd he hadd hmany hbo hl2 c0 c1
      have hne1 : (ek != ek) = false := by simp
      have hne2 : (manyL e.1 l2 != manyL e.1 l2) = false := by simp
      go_wp2
      go_region_held3 (fun w' => w'.cell? (a.add (k * 2)) = some (.slice A' e.1.length c') ∧ w'.cell? { block := (a.add (k * 2)).block, off := (a.add (k * 2)).off + 1 } = some (.int .i64 e.2)) (go_keep)
        (first
        | (go_at_call 19; refine HC.out.mono ?_; rintro x w1 ⟨rfl, hb1, hc1⟩; have hk0 := (hb1.cell (p := a.add (k * 2)) hblt).trans H0.out; have hk1 := (hb1.cell (p := { block := (a.add (k * 2)).block, off := (a.add (k * 2)).off + 1 }) hblt).trans H1.out; have HC1 := Lib.hid hc1; clear hc1)
        | (go_at_call 20; refine HC1.out.mono ?_; rintro x w2 ⟨rfl, hb2, hc2⟩; have hm0 := (hb2.old.cell (p := a.add (k * 2)) hblt).trans H0.out; have hm1 := (hb2.old.cell (p := { block := (a.add (k * 2)).block, off := (a.add (k * 2)).off + 1 }) hblt).trans H1.out; have HC2 := Lib.hid hc2; clear hc2)
        | (go_at_call 21; refine HC2.out.mono ?_; rintro x w3 ⟨rfl, hb3, hc3⟩; have hn0 := (hb3.old.cell (p := a.add (k * 2)) hblt).trans H0.out; have hn1 := (hb3.old.cell (p := { block := (a.add (k * 2)).block, off := (a.add (k * 2)).off + 1 }) hblt).trans H1.out; have HC3 := Lib.hid hc3; clear hc3)
        | (go_at_call 22; refine HC3.out.mono ?_; rintro x w4 ⟨rfl, hb4⟩; have hp0 := (hb4.old.cell (p := a.add (k * 2)) hblt).trans H0.out; have hp1 := (hb4.old.cell (p := { block := (a.add (k * 2)).block, off := (a.add (k * 2)).off + 1 }) hblt).trans H1.out))
      go_wp2
      go_roundw
      case rel => exact ⟨k + 1, l2, by omega, by go_num, HL2.out, hb4⟩
      case measure => simp [intOf]; omega
    · obtain rfl : k = n := by omega
      have HBO := Lib.hid hbo
      clear hbo
      go_wp2_with fail
      refine (b_from _ _ xs (Q2 w.heap.size) _ l _ HBO.out.q (HX.out.below HBO.out.old) (Or.inr ⟨_, rfl, HBO.out.bag⟩)).mono ?_
      rintro e w1 ⟨u, rfl, hu, hb1⟩
      have HB1 := Lib.hid (HBO.out.later hb1)
      generalize ht : told (some ⟨w.heap.size, 0, none⟩) (fromL xs l).head? = t at *
      have HT := Lib.hid ht
      have HU := Lib.hid hu
      obtain ⟨_, Au, cu, rfl, _, _⟩ := hu
      clear ht hb1
      go_wp2_with fail
      refine (r_from _ _ xs _ _ l _ (HX.out.below HB1.out.old) HB1.out.ref).mono ?_
      rw [told_at _ ⟨w.heap.size, 0, none⟩, HT.out]
      rintro e w2 ⟨u2, rfl, hu2, hb2⟩
      have HB2 := Lib.hid (HB1.out.later hb2)
      have HU2 := Lib.hid (HU.out.below hb2)
      have HV2 := Lib.hid hu2
      obtain ⟨_, Au2, cu2, rfl, _, _⟩ := hu2
      clear hb2
      go_wp2_with fail
      refine (ref_equal_rows _ _ _ _ t.1 t.1 _ HU2.out HV2.out).mono ?_
      rintro e w3 ⟨rfl, nd, rfl⟩
      rw [eqR_self]
      have HB3 := Lib.hid (HB2.out.later (below_drewN' (Below.refl _ _) nd))
      have hne : (t.2 != t.2) = false := by simp
      go_wp2_with fail
      refine (b_many _ _ xs (Q2 w.heap.size) _ l _ (HX.out.below HB3.out.old) (Or.inr ⟨_, rfl, HB3.out.bag⟩)).mono ?_
      rintro e w4 ⟨rfl, hb4⟩
      have HB4 := Lib.hid (HB3.out.later hb4)
      clear hb4
      go_wp2_with fail
      refine (r_many _ _ xs _ _ l _ (HX.out.below HB4.out.old) HB4.out.ref).mono ?_
      rintro e w5 ⟨rfl, hb5⟩
      have HB5 := Lib.hid (HB4.out.later hb5)
      have hne2 : (manyL xs l != manyL xs l) = false := by simp
      clear hb5
      go_wp2_with fail
      refine (l_same (Q2 w.heap.size) _ _ _ l _ HB5.out.q (Or.inr ⟨_, rfl, HB5.out.bag⟩) HB5.out.ref).mono ?_
      rintro e w6 ⟨rfl, hb6⟩
      have HB6 := Lib.hid (HB5.out.later hb6)
      clear hb6
      go_wp2_with fail
      rcases Nat.eq_zero_or_pos l.length with h0 | h0
      · obtain rfl := List.eq_nil_of_length_eq_zero h0
        refine (b_least (Q2 w.heap.size) _ [] _ HB6.out.q (Or.inr ⟨_, rfl, HB6.out.bag⟩)).mono ?_
        rw [show ([] : List En).head? = none from rfl, told_none]
        rintro e w7 ⟨p, rfl, hp, hb7⟩
        have HB7 := Lib.hid (HB6.out.later hb7)
        obtain ⟨_, Ap, cp, rfl, _, _⟩ := hp
        clear hb7
        go_wp2_with fail
        refine (b_most (Q2 w.heap.size) _ [] _ HB7.out.q (Or.inr ⟨_, rfl, HB7.out.bag⟩)).mono ?_
        rw [show ([] : List En).getLast? = none from rfl, told_none]
        rintro e w8 ⟨q, rfl, hq, hb8⟩
        have HB8 := Lib.hid (HB7.out.later hb8)
        obtain ⟨_, Aq, cq, rfl, _, _⟩ := hq
        obtain ⟨_, _, L, cl, _, _, hbox, _⟩ := HB8.out.ref
        have cbx := hbox.cell
        clear hb8 hbox
        go_wp2_with fail
        refine (known5 _).mono ?_
        rintro e w9 ⟨rfl, hb9⟩
        go_wp2
        go_ret
        exact ⟨rfl, HB8.out.old.trans (hb9.mono HB8.out.old.size)⟩
      · obtain ⟨m, hm⟩ : ∃ m, l.length = m + 1 := ⟨l.length - 1, by omega⟩
        obtain ⟨e0, he0⟩ : ∃ e, l[0]? = some e := ⟨_, List.getElem?_eq_getElem h0⟩
        obtain ⟨e1, he1⟩ : ∃ e, l[m]? = some e := ⟨_, List.getElem?_eq_getElem (by omega)⟩
        have hh : l.head? = some e0 := by rw [List.head?_eq_getElem?, he0]
        have hg : l.getLast? = some e1 := by rw [List.getLast?_eq_getElem?, hm]; exact he1
        have HG := Lib.hid hg
        have HE0 := Lib.hid he0
        have HE1 := Lib.hid he1
        have HLM := Lib.hid hm
        have hmk : m < 120 := by omega
        refine (b_least (Q2 w.heap.size) _ l _ HB6.out.q (Or.inr ⟨_, rfl, HB6.out.bag⟩)).mono ?_
        rw [hh, told_one]
        rintro e w7 ⟨p, rfl, hp, hb7⟩
        have HB7 := Lib.hid (HB6.out.later hb7)
        have HP := Lib.hid hp
        obtain ⟨_, Ap, cp, rfl, _, _⟩ := hp
        clear hh hg he0 he1 hm
        go_wp2_with fail
        refine (b_most (Q2 w.heap.size) _ l _ HB7.out.q (Or.inr ⟨_, rfl, HB7.out.bag⟩)).mono ?_
        rw [HG.out, told_one]
        rintro e w8 ⟨q, rfl, hq, hb8⟩
        have HB8 := Lib.hid (HB7.out.later hb8)
        have HP8 := Lib.hid (HP.out.below hb8)
        have HQ8 := Lib.hid hq
        obtain ⟨_, Aq, cq, rfl, _, _⟩ := hq
        obtain ⟨_, _, L, cl, _, _, hbox, hen⟩ := HB8.out.ref
        have cbx := hbox.cell
        have hblt := hbox.lt
        rw [HLM.out] at cbx
        obtain ⟨a, r0, rfl, hr0, hl0, d0, _⟩ := hen.get 0 e0 HE0.out
        obtain ⟨a', r1, ha, hr1, hl1, d1, _⟩ := hen.get m e1 HE1.out
        injection ha with ha
        subst ha
        have hz : a.add (0 * 2) = a := by simp [Addr.add]
        rw [hz] at d0 hl0
        have HR0 := Lib.hid hr0
        have HR1 := Lib.hid hr1
        obtain ⟨_, A0, c0, rfl, _, _⟩ := hr0
        obtain ⟨_, A1, c1, rfl, _, _⟩ := hr1
        clear hb7 hb8 hbox hen hz
        have i1 : IntKind.i64.wrap ((m : Int) + 1 - 1) = (m : Int) := by
          rw [show (m : Int) + 1 - 1 = (m : Int) from by omega]
          exact IntWalk.i64_in _ (by omega)
        have i2 : m < m + 1 := by omega
        have i3 : ((m : Int)).toNat = m := by omega
        have i4 : ¬ ((m : Int) < 0) := by omega
        have i5 : (0 : Int) ≤ (m : Int) := by omega
        have i6 : (m : Int) < (m : Int) + 1 := by omega
        have i7 : IntKind.i64.wrap (m : Int) = (m : Int) := IntWalk.i64_in _ (by omega)
        go_wp2_with fail
        go_region_held3 (fun w' => w'.cell? { block := w.heap.size + 1, off := 0 } = some (.slice (some a) (m + 1) cl) ∧ w'.cell? a = some (.slice A0 e0.1.length c0) ∧ w'.cell? (a.add (m * 2)) = some (.slice A1 e1.1.length c1)) (go_keep)
          (first
          | (go_at_call_of 25 (Value.slice Ap e0.1.length cp); refine (ref_equal_rows _ _ _ _ e0.1 e0.1 _ (by exact HP8.out.below (below_drew _ _)) (by exact HR0.out.below (below_drew _ _))).mono ?_; rintro e w9 ⟨rfl, nd1, rfl⟩; rw [eqR_self])
          | (go_at_call_of 25 (Value.slice Aq e1.1.length cq); refine (ref_equal_rows _ _ _ _ e1.1 e1.1 _ (by exact HQ8.out.below (below_drewN' (Below.refl _ _) _)) (by exact HR1.out.below (below_drewN' (Below.refl _ _) _))).mono ?_; rintro e w9 ⟨rfl, nd2, rfl⟩; rw [eqR_self])
          | (go_at_call 17; refine (known5 _).mono ?_; rintro e w9 ⟨rfl, hb9⟩; have hk1 := hb9.cell (p := ⟨w.heap.size + 1, 0, none⟩) (by simpa using hblt); have hk2 := hb9.cell (p := a) (by simpa using hl0); have hk3 := hb9.cell (p := a.add (m * 2)) (by simpa using hl1)))
        go_wp2
        go_ret
        refine ⟨rfl, Below.trans ?_ (hb9.mono (by simpa using HB8.out.old.size))⟩
        repeat (first | exact HB8.out.old | apply Below.drew | apply below_drewN')
end Go.Proofs.Ytbenpcnmkhmkbaa
