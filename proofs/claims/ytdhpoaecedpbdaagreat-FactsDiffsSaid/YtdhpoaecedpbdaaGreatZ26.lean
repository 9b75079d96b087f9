/-
  The two kinds that every statement of package store uses; a store of the program and the document's, made of them.
  No condition.
  The fixed calls that every statement of package store makes answer as they must, in every world.
  No condition.
  Objects in order: where one goes, what is there, one more, one in the place of one, one less.
  No condition.
  Lists of objects of a call's own: what append leaves.
  Condition: no more than a million objects.
-/
import Derived.Maps.AppendAt
import Derived.Deep.Cut
import Derived.Test.YtdhpoaecedpbdaaGreatZ2
import Derived.Test.YtdhpoaecedpbdaaGreatZ24
import Derived.Test.YtdhpoaecedpbdaaGreatZ25
namespace Go.Proofs.YtdhpoaecedpbdaaGreat
section
section
open Go.RowKit Go.Maps

def bPod : ByteArray := ⟨#[112, 111, 100]⟩
def bHost : ByteArray := ⟨#[104, 111, 115, 116]⟩
def bImage : ByteArray := ⟨#[105, 109, 97, 103, 101]⟩
def bCpu : ByteArray := ⟨#[99, 112, 117]⟩
def bNode : ByteArray := ⟨#[110, 111, 100, 101]⟩
def bUp : ByteArray := ⟨#[117, 112]⟩
def KL8 : List Sc := [⟨bPod, [⟨bImage, 3, false⟩, ⟨bCpu, 2, false⟩, ⟨bNode, 3, true⟩]⟩, ⟨bHost, [⟨bUp, 1, false⟩]⟩]
theorem KL8_fault : faultR KL8 = 0 := by decide +kernel
theorem lit_cellsQ (w : World) (cs : Array Value) (t : TypeId) (Q : Nat → Prop) (hq : Q w.heap.size) : CellsQ (w.alloc (.cells cs t)) Q (some ⟨w.heap.size, 0, none⟩) cs.toList := by
  intro j u hj
  have ha : (⟨w.heap.size, 0, none⟩ : Addr).add j = ⟨w.heap.size, j, none⟩ := by unfold Addr.add; split <;> simp_all
  refine ⟨_, rfl, by rw [ha]; exact hq, ?_⟩
  rw [ha]
  exact (alloc_new_cells w cs t j).trans (by rw [← Array.getElem?_toList]; exact hj)
theorem podF : flatC [⟨bImage, 3, false⟩, ⟨bCpu, 2, false⟩, ⟨bNode, 3, true⟩] = [.string bImage, .int .i64 3, .bool false, .string bCpu, .int .i64 2, .bool false, .string bNode, .int .i64 3, .bool true] := rfl
theorem hostF : flatC [⟨bUp, 1, false⟩] = [.string bUp, .int .i64 1, .bool false] := rfl
set_option maxRecDepth 100000 in
set_option maxHeartbeats 1000000 in
theorem l_kinds (w : World) : Calls Tryz.prog 27 #[] w fun r w' => ∃ v, r = .returned v ∧ IsKinds w' (Behind w) v KL8 ∧ Below w.heap.size w w' := by
  go_enter Tryz.func27, Tryz.ntmps27
  go_wp2
  go_ret
  have c1 := lit_cellsQ w #[.string bImage, .int .i64 3, .bool false, .string bCpu, .int .i64 2, .bool false, .string bNode, .int .i64 3, .bool true] 123 (Behind w) (Nat.le_refl _)
  have c2 := lit_cellsQ (w.alloc (.cells #[.string bImage, .int .i64 3, .bool false, .string bCpu, .int .i64 2, .bool false, .string bNode, .int .i64 3, .bool true] 123)) #[.string bUp, .int .i64 1, .bool false] 123 (Behind w) (by simp [Behind])
  have c3 := lit_cellsQ ((w.alloc (.cells #[.string bImage, .int .i64 3, .bool false, .string bCpu, .int .i64 2, .bool false, .string bNode, .int .i64 3, .bool true] 123)).alloc (.cells #[.string bUp, .int .i64 1, .bool false] 123)) #[.string bPod, .slice (some ⟨w.heap.size, 0, none⟩) 3 3, .string bHost, .slice (some ⟨w.heap.size + 1, 0, none⟩) 1 1] 126 (Behind w) (by simp [Behind]; omega)
  rw [World.size_alloc] at c2
  rw [World.size_alloc, World.size_alloc] at c3
  have k1 := (c1.keep (Below.keepQ (one_new _ (.cells #[.string bUp, .int .i64 1, .bool false] 123)) _)).keep (Below.keepQ (one_new _ (.cells #[.string bPod, .slice (some ⟨w.heap.size, 0, none⟩) 3 3, .string bHost, .slice (some ⟨w.heap.size + 1, 0, none⟩) 1 1] 126)) _)
  have k2 := c2.keep (Below.keepQ (one_new _ (.cells #[.string bPod, .slice (some ⟨w.heap.size, 0, none⟩) 3 3, .string bHost, .slice (some ⟨w.heap.size + 1, 0, none⟩) 1 1] 126)) _)
  refine ⟨.slice (some ⟨w.heap.size + 1 + 1, 0, none⟩) 2 2, rfl, ⟨by decide, _, 2, rfl, fun h => (by cases h), by decide, [(bPod, .slice (some ⟨w.heap.size, 0, none⟩) 3 3), (bHost, .slice (some ⟨w.heap.size + 1, 0, none⟩) 1 1)], ⟨rfl, ⟨by decide, _, 3, rfl, fun h => (by cases h), by decide, (by rw [podF]; exact k1)⟩, rfl, ⟨by decide, _, 1, rfl, fun h => (by cases h), by decide, (by rw [hostF]; exact k2)⟩, trivial⟩, c3⟩, (one_new w _).trans (((one_new _ _).trans ((one_new _ _).mono (by simp))).mono (by simp))⟩

/-- A store of the program at s, one of the document at r. -/
def RefS (w : World) (Q : Nat → Prop) (r : Nat) (kv lv : Value) (last : Int) (KL : List Sc) : Prop := w.heap[r]? = some (.cells #[kv, lv, .int .i64 last] 77 (0, 0)) ∧ IsKinds w Q kv KL ∧ ¬ Q r
theorem StoB.imp {w : World} {Q Q' : Nat → Prop} {s b : Nat} {os : List Ob} {last : Int} {KL : List Sc} (h : StoB w Q s b os last KL) (hq : ∀ k, k < w.heap.size → Q k → Q' k) (hs : ¬ Q' s) (hb : ¬ Q' b) : StoB w Q' s b os last KL := by
  obtain ⟨kv, D, es, h1, h2, h3, h4, h5, h6, h7, _, _⟩ := h
  exact ⟨kv, D, es, h1, h2.imp hq, h3, h4, h5.imp hq, h6, h7, hs, hb⟩
end
section
open Go.RowKit Go.Maps

def bA8 : ByteArray := ⟨#[97]⟩
def bB8 : ByteArray := ⟨#[98]⟩
def ky8 : Ky := (bHost, bA8, bB8)
def cell8 : List V := [⟨1, false, 0, ⟨#[]⟩⟩]
theorem k8_ok : kOk ky8 := by unfold kOk; decide +kernel
theorem k8_ins : insR KL8 [] ky8 cell8 = 0 := by decide +kernel
theorem k8_up1 : updR KL8 [⟨ky8, 1, cell8⟩] ky8 1 cell8 = 0 := by decide +kernel
theorem k8_up2 : updR KL8 [⟨ky8, 2, cell8⟩] ky8 1 cell8 = 15 := by decide +kernel
theorem lit_row8 (w : World) (T : TypeId) (g : Nat) (hg : g = w.heap.size) : IsRow (w.alloc (.cells #[.int .i64 1, .bool false, .int .i64 0, .string ⟨#[]⟩] T)) (fun k => k = w.heap.size) (.slice (some ⟨g, 0, none⟩) 1 1) cell8 := by
  subst hg
  refine ⟨by decide, _, 1, rfl, (fun h => by cases h), fun i x hi => ?_⟩
  match i, hi with
  | 0, hi =>
    have e : x = ⟨1, false, 0, ⟨#[]⟩⟩ := by simpa [cell8] using hi.symm
    subst e
    have h := World.alloc_heap_new w (.cells #[.int .i64 1, .bool false, .int .i64 0, .string ⟨#[]⟩] T)
    exact ⟨_, rfl, rfl, cell_of_row _ w.heap.size 0 _ _ _ h, cell_of_row _ w.heap.size 1 _ _ _ h, cell_of_row _ w.heap.size 2 _ _ _ h, cell_of_row _ w.heap.size 3 _ _ _ h⟩
  | i + 1, hi => simp [cell8] at hi

end
end
end Go.Proofs.YtdhpoaecedpbdaaGreat
namespace Go.Proofs.YtdhpoaecedpbdaaGreat
section
section
open Go.RowKit Go.Maps

theorem pair_ordered {α β γ : Type} {c : α → α → Int} {d : β → β → Int} (hc : Ordered c) (hd : Ordered d) (f : γ → α) (g : γ → β) : Ordered fun a b : γ => if c (f a) (f b) = 0 then d (g a) (g b) else c (f a) (f b) where
  rng a b := by
    split
    · exact hd.rng _ _
    · exact hc.rng _ _
  anti a b := by
    have h := hc.anti (f a) (f b)
    by_cases h0 : c (f a) (f b) = 0
    · rw [if_pos h0, if_pos (by omega)]
      exact hd.anti _ _
    · rw [if_neg h0, if_neg (by omega)]
      exact h
  tr0 a b e h1 h2 := by
    by_cases h3 : c (f a) (f b) = 0
    · rw [if_pos h3] at h1
      by_cases h4 : c (f b) (f e) = 0
      · rw [if_pos h4] at h2
        rw [if_pos (hc.tr0 _ _ _ h3 h4)]
        exact hd.tr0 _ _ _ h1 h2
      · rw [if_neg h4] at h2
        exact absurd h2 h4
    · rw [if_neg h3] at h1
      exact absurd h1 h3
  trl a b e h1 h2 h := by
    have k1 : c (f a) (f b) ≤ 0 := by split at h1 <;> omega
    have k2 : c (f b) (f e) ≤ 0 := by split at h2 <;> omega
    by_cases h3 : c (f a) (f b) = 0
    · by_cases h4 : c (f b) (f e) = 0
      · rw [if_pos h3] at h1 h
        rw [if_pos h4] at h2 h
        rw [if_pos (hc.tr0 _ _ _ h3 h4)]
        exact hd.trl _ _ _ h1 h2 h
      · have := hc.trl _ _ _ k1 k2 (.inr (by omega))
        rw [if_neg (by omega)]
        exact this
    · have := hc.trl _ _ _ k1 k2 (.inl (by omega))
      rw [if_neg (by omega)]
      exact this
theorem cmpK_ordered : Ordered cmpK := pair_ordered cmpS_ordered (pair_ordered cmpS_ordered cmpS_ordered (fun k : ByteArray × ByteArray => k.1) (fun k => k.2)) (fun k : Ky => k.1) (fun k => k.2)
theorem cmpL_eqO : ∀ (x y : List UInt8), cmpL x y = 0 → x = y
  | [], [], _ => rfl
  | [], b :: y, h => by simp [cmpL] at h
  | a :: x, [], h => by simp [cmpL] at h
  | a :: x, b :: y, h => by
    unfold cmpL at h
    by_cases h1 : a < b
    · rw [if_pos h1] at h
      omega
    · by_cases h2 : b < a
      · rw [if_neg h1, if_pos h2] at h
        omega
      · rw [if_neg h1, if_neg h2] at h
        have e : a = b := by
          apply UInt8.toNat_inj.1
          rw [UInt8.lt_iff_toNat_lt] at h1 h2
          omega
        rw [e, cmpL_eqO x y h]
theorem cmpS_eqO (a b : ByteArray) (h : cmpS a b = 0) : a = b := by
  rw [cmpS_list] at h
  have := cmpL_eqO _ _ h
  obtain ⟨⟨l⟩⟩ := a
  obtain ⟨⟨l'⟩⟩ := b
  have e : l = l' := this
  rw [e]
theorem cmpK_eq {a b : Ky} (h : cmpK a b = 0) : a = b := by
  obtain ⟨a1, a2, a3⟩ := a
  obtain ⟨b1, b2, b3⟩ := b
  unfold cmpK at h
  simp only at h
  by_cases h1 : cmpS a1 b1 = 0
  · rw [if_pos h1] at h
    by_cases h2 : cmpS a2 b2 = 0
    · rw [if_pos h2] at h
      rw [cmpS_eqO _ _ h1, cmpS_eqO _ _ h2, cmpS_eqO _ _ h]
    · rw [if_neg h2] at h
      exact absurd h h2
  · rw [if_neg h1] at h
    exact absurd h h1
theorem cmpK_self (a : Ky) : cmpK a a = 0 := cmpK_ordered.self a
theorem cmpK_anti (a b : Ky) : cmpK b a = -cmpK a b := cmpK_ordered.anti a b
theorem cmpK_tr {a b c : Ky} (h1 : cmpK a b < 0) (h2 : cmpK b c < 0) : cmpK a c < 0 := cmpK_ordered.trl a b c (by omega) (by omega) (.inl h1)
theorem cmpK_ne {a b : Ky} (h : cmpK a b < 0) : a ≠ b := by
  intro e
  rw [e, cmpK_self] at h
  omega

/-- Objects in order. -/
def SrtO (os : List Ob) : Prop := os.Pairwise fun a b => cmpK a.key b.key < 0
theorem SrtO.nil : SrtO [] := List.Pairwise.nil
theorem SrtO.apart {os : List Ob} (h : SrtO os) : os.Pairwise fun a b => a.key ≠ b.key := List.Pairwise.imp (fun h => cmpK_ne h) h
theorem fndK_le (os : List Ob) (k : Ky) : fndK os k ≤ os.length := List.findIdx_le_length
theorem fndK_low {os : List Ob} {k : Ky} (j : Nat) (x : Ob) (hj : j < fndK os k) (hx : os[j]? = some x) : cmpK x.key k < 0 := by
  have hl := fndK_le os k
  have h := List.not_of_lt_findIdx hj
  have e := (List.getElem?_eq_some_iff.1 hx).2
  rw [e] at h
  simpa using h
theorem fndK_high {os : List Ob} {k : Ky} (hs : SrtO os) (j : Nat) (x : Ob) (hj : fndK os k ≤ j) (hx : os[j]? = some x) : 0 ≤ cmpK x.key k := by
  have hlt := (List.getElem?_eq_some_iff.1 hx).1
  have hfl : fndK os k < os.length := by omega
  have h0 : 0 ≤ cmpK os[fndK os k].key k := by
    have := List.findIdx_getElem (xs := os) (p := fun x : Ob => decide (0 ≤ cmpK x.key k)) (w := hfl)
    exact of_decide_eq_true this
  rcases Nat.lt_or_eq_of_le hj with h | h
  · have h1 := List.pairwise_iff_getElem.1 hs (fndK os k) j hfl hlt h
    rw [(List.getElem?_eq_some_iff.1 hx).2] at h1
    have h2 := cmpK_anti x.key k
    have h3 := cmpK_anti os[fndK os k].key x.key
    have h4 := cmpK_anti os[fndK os k].key k
    rcases Int.lt_or_le (cmpK x.key k) 0 with h5 | h5
    · have := cmpK_tr h1 h5
      omega
    · exact h5
  · subst h
    rw [(List.getElem?_eq_some_iff.1 hx).2] at h0
    exact h0
/-- It is there just if it stands where it would. -/
theorem isK_true {os : List Ob} {k : Ky} (h : isK os k = true) : ∃ x, os[fndK os k]? = some x ∧ x.key = k := by
  unfold isK at h
  cases hx : os[fndK os k]? with
  | none => rw [hx] at h; cases h
  | some x =>
    rw [hx] at h
    exact ⟨x, rfl, cmpK_eq (by simpa using h)⟩
theorem findB_of {os : List Ob} (hs : SrtO os) {k : Ky} {i : Nat} {x : Ob} (hx : os[i]? = some x) (hk : x.key = k) : findB os k = some x := by
  unfold findB
  rw [List.find?_eq_some_iff_getElem]
  have hlt := (List.getElem?_eq_some_iff.1 hx).1
  have he := (List.getElem?_eq_some_iff.1 hx).2
  refine ⟨by simpa using hk, i, hlt, he, fun j hj => ?_⟩
  have h1 := List.pairwise_iff_getElem.1 hs j i (by omega) hlt hj
  rw [he, hk] at h1
  simpa using cmpK_ne h1
theorem isK_find {os : List Ob} (hs : SrtO os) (k : Ky) : isK os k = (findB os k).isSome := by
  cases h : isK os k with
  | true =>
    obtain ⟨x, hx, hk⟩ := isK_true h
    rw [findB_of hs hx hk]
    rfl
  | false =>
    cases hf : findB os k with
    | none => rfl
    | some x =>
      exfalso
      have hm := List.mem_of_find?_eq_some hf
      have hk : x.key = k := by simpa using List.find?_some hf
      obtain ⟨i, hi, he⟩ := List.mem_iff_getElem.1 hm
      have hx : os[i]? = some x := by rw [List.getElem?_eq_getElem hi, he]
      have h1 : fndK os k = i := by
        rcases Nat.lt_trichotomy i (fndK os k) with h | h | h
        · have := fndK_low i x h hx
          rw [hk, cmpK_self] at this
          omega
        · exact h.symm
        · have hfl : fndK os k < os.length := by omega
          have h2 := List.pairwise_iff_getElem.1 hs (fndK os k) i hfl hi h
          rw [he, hk] at h2
          have h3 := fndK_high (k := k) hs (fndK os k) _ (Nat.le_refl _) (List.getElem?_eq_getElem hfl)
          omega
      unfold isK at h
      rw [h1, hx] at h
      have h0 : (cmpK x.key k == 0) = false := h
      rw [hk, cmpK_self] at h0
      cases h0
theorem fndK_goes {os : List Ob} (hs : SrtO os) (k : Ky) : (findB os k = none → GoesAt os k (fndK os k) (fndK os k)) ∧ (∀ x, findB os k = some x → os[fndK os k]? = some x ∧ x.key = k ∧ fndK os k ≤ os.length ∧ GoesAt os k (fndK os k) (fndK os k + 1)) := by
  refine ⟨fun h => ⟨fndK_le os k, .inl ⟨rfl, h⟩⟩, fun x hx => ?_⟩
  have hi : isK os k = true := by rw [isK_find hs, hx]; rfl
  obtain ⟨y, hy, hk⟩ := isK_true hi
  have := findB_of hs hy hk
  rw [hx] at this
  injection this with this
  subst this
  exact ⟨hy, hk, fndK_le os k, fndK_le os k, .inr ⟨rfl, x, hy, hk⟩⟩
theorem split_srt {os : List Ob} (hs : SrtO os) (o : Ob) (q : Nat) (hq : (q = fndK os o.key ∧ findB os o.key = none) ∨ (q = fndK os o.key + 1 ∧ ∃ y, os[fndK os o.key]? = some y ∧ y.key = o.key)) : SrtO (os.take (fndK os o.key) ++ o :: os.drop q) := by
  have hlow : ∀ a ∈ os.take (fndK os o.key), cmpK a.key o.key < 0 := by
    intro a ha
    obtain ⟨i, hi, he⟩ := List.mem_iff_getElem.1 ha
    rw [List.length_take] at hi
    rw [List.getElem_take] at he
    exact fndK_low (os := os) (k := o.key) i a (by omega) (by rw [List.getElem?_eq_getElem (by omega), he])
  have hhigh : ∀ b ∈ os.drop q, cmpK o.key b.key < 0 := by
    intro b hb
    obtain ⟨j, hj, he⟩ := List.mem_iff_getElem.1 hb
    rw [List.length_drop] at hj
    rw [List.getElem_drop] at he
    have hb1 : os[q + j]? = some b := by rw [List.getElem?_eq_getElem (by omega), he]
    have h0 := fndK_high (k := o.key) hs (q + j) b (by rcases hq with ⟨h, _⟩ | ⟨h, _⟩ <;> omega) hb1
    have h1 := cmpK_anti b.key o.key
    by_cases hz : cmpK b.key o.key = 0
    · exfalso
      have hk := cmpK_eq hz
      rcases hq with ⟨_, hn⟩ | ⟨hq, y, hy, hyk⟩
      · rw [findB_of hs hb1 hk] at hn
        cases hn
      · have hlt := (List.getElem?_eq_some_iff.1 hy).1
        have h2 := List.pairwise_iff_getElem.1 hs (fndK os o.key) (q + j) hlt (by omega) (by omega)
        rw [(List.getElem?_eq_some_iff.1 hy).2, (List.getElem?_eq_some_iff.1 hb1).2, hyk, hk, cmpK_self] at h2
        omega
    · omega
  refine List.pairwise_append.2 ⟨hs.sublist (List.take_sublist _ _), List.pairwise_cons.2 ⟨hhigh, hs.sublist (List.drop_sublist _ _)⟩, fun a ha b hb => ?_⟩
  rcases List.mem_cons.1 hb with rfl | hb
  · exact hlow a ha
  · exact cmpK_tr (hlow a ha) (hhigh b hb)
/-- What holds of the objects at all times. -/
structure GoodO (os : List Ob) : Prop where
  srt : SrtO os
  keys : ∀ x ∈ os, kOk x.key
  few : os.length ≤ 120
theorem GoodO.nil : GoodO [] := ⟨SrtO.nil, by simp, by simp⟩
/-- What Insert leaves. -/
def insO (KL : List Sc) (os : List Ob) (k : Ky) (c : List V) (last : Int) : List Ob := if insR KL os k c = 0 then os.take (fndK os k) ++ ⟨k, last + 1, c⟩ :: os.drop (fndK os k) else os
def updO (KL : List Sc) (os : List Ob) (k : Ky) (v : Int) (c : List V) (last : Int) : List Ob := if updR KL os k v c = 0 then os.take (fndK os k) ++ ⟨k, last + 1, c⟩ :: os.drop (fndK os k + 1) else os
def delO (KL : List Sc) (os : List Ob) (k : Ky) (v : Int) : List Ob := if delR KL os k v = 0 then os.take (fndK os k) ++ os.drop (fndK os k + 1) else os
theorem insO_good {KL : List Sc} {os : List Ob} (h : GoodO os) {k : Ky} (hk : kOk k) (c : List V) (last : Int) : GoodO (insO KL os k c last) := by
  unfold insO
  split
  · rename_i h0
    have h1 : findB os k = none ∧ os.length < 120 := by
      unfold insR at h0
      split at h0
      · rename_i h2; exact absurd h0 h2
      · split at h0
        · cases h0
        · rename_i h3
          split at h0
          · cases h0
          · exact ⟨by simpa using h3, by omega⟩
    refine ⟨split_srt h.srt ⟨k, last + 1, c⟩ _ (.inl ⟨rfl, h1.1⟩), fun x hx => ?_, ?_⟩
    · rcases List.mem_append.1 hx with hx | hx
      · exact h.keys x (List.mem_of_mem_take hx)
      · rcases List.mem_cons.1 hx with rfl | hx
        · exact hk
        · exact h.keys x (List.mem_of_mem_drop hx)
    · have := fndK_le os k
      rw [List.length_append, List.length_cons, List.length_take, List.length_drop]
      omega
  · exact h
theorem updR_find {KL : List Sc} {os : List Ob} {k : Ky} {v : Int} {c : List V} (h0 : updR KL os k v c = 0) : ∃ x, findB os k = some x := by
  unfold updR at h0
  split at h0
  · rename_i h2; exact absurd h0 h2
  · split at h0
    · cases h0
    · rename_i x hx; exact ⟨x, hx⟩
theorem updO_good {KL : List Sc} {os : List Ob} (h : GoodO os) {k : Ky} (hk : kOk k) (v : Int) (c : List V) (last : Int) : GoodO (updO KL os k v c last) := by
  unfold updO
  split
  · rename_i h0
    obtain ⟨x, hx⟩ := updR_find h0
    obtain ⟨g1, g2, g3, _⟩ := (fndK_goes h.srt k).2 x hx
    have hlt := (List.getElem?_eq_some_iff.1 g1).1
    refine ⟨split_srt h.srt ⟨k, last + 1, c⟩ _ (.inr ⟨rfl, x, g1, g2⟩), fun x hx => ?_, ?_⟩
    · rcases List.mem_append.1 hx with hx | hx
      · exact h.keys x (List.mem_of_mem_take hx)
      · rcases List.mem_cons.1 hx with rfl | hx
        · exact hk
        · exact h.keys x (List.mem_of_mem_drop hx)
    · have := h.few
      rw [List.length_append, List.length_cons, List.length_take, List.length_drop]
      omega
  · exact h
theorem delO_good {KL : List Sc} {os : List Ob} (h : GoodO os) (k : Ky) (v : Int) : GoodO (delO KL os k v) := by
  unfold delO
  split
  · have hsub : (os.take (fndK os k) ++ os.drop (fndK os k + 1)).Sublist os := by
      conv => rhs; rw [← List.take_append_drop (fndK os k) os]
      exact List.Sublist.append (List.Sublist.refl _) (List.drop_sublist_drop_left _ (Nat.le_succ _))
    exact ⟨h.srt.sublist hsub, fun x hx => h.keys x (hsub.mem hx), Nat.le_trans hsub.length_le h.few⟩
  · exact h
end
section
open Go.RowKit Go.Maps

theorem flatO_len : ∀ (zs : List OE), (flatO zs).length = zs.length * 5
  | [] => rfl
  | x :: zs => by
    have ih := flatO_len zs
    show ([Value.string x.key.1, .string x.key.2.1, .string x.key.2.2, .int .i64 x.v, x.u] ++ flatO zs).length = _
    rw [List.length_append, ih, List.length_cons]
    simp
    omega
theorem flatO_append (xs ys : List OE) : flatO (xs ++ ys) = flatO xs ++ flatO ys := by simp [flatO]
theorem flatO_take : ∀ (zs : List OE) (k : Nat), flatO (zs.take k) = (flatO zs).take (k * 5)
  | [], k => by simp [flatO]
  | x :: zs, 0 => by simp [flatO]
  | x :: zs, k + 1 => by
    have ih := flatO_take zs k
    rw [show (k + 1) * 5 = k * 5 + 1 + 1 + 1 + 1 + 1 from by omega]
    show Value.string x.key.1 :: Value.string x.key.2.1 :: Value.string x.key.2.2 :: Value.int .i64 x.v :: x.u :: flatO (zs.take k) = Value.string x.key.1 :: Value.string x.key.2.1 :: Value.string x.key.2.2 :: Value.int .i64 x.v :: x.u :: (flatO zs).take (k * 5)
    rw [ih]
theorem flatO_drop : ∀ (zs : List OE) (k : Nat), flatO (zs.drop k) = (flatO zs).drop (k * 5)
  | [], k => by simp [flatO]
  | x :: zs, 0 => by simp [flatO]
  | x :: zs, k + 1 => by
    have ih := flatO_drop zs k
    rw [show (k + 1) * 5 = k * 5 + 1 + 1 + 1 + 1 + 1 from by omega]
    show flatO (zs.drop k) = (flatO zs).drop (k * 5)
    rw [ih]
def OneU (zs : List OE) : Prop := ∀ e ∈ zs, e.u.oneCell' = true
theorem flatO_one {zs : List OE} (h : OneU zs) : ∀ u ∈ flatO zs, u.oneCell' = true := by
  intro u hu
  obtain ⟨x, hx, hu⟩ := List.mem_flatMap.1 hu
  simp only [List.mem_cons, List.not_mem_nil, or_false] at hu
  rcases hu with rfl | rfl | rfl | rfl | rfl
  · rfl
  · rfl
  · rfl
  · rfl
  · exact h x hx
theorem ObR.one {w : World} {Q : Nat → Prop} : ∀ {es : List OE} {os : List Ob}, ObR w Q es os → OneU es
  | [], [], _ => fun e he => by cases he
  | e :: es, o :: os, h => fun e' he => by
    rcases List.mem_cons.1 he with rfl | he
    · obtain ⟨_, A, c, hu, _⟩ := h.1.2.2
      rw [hu]
      rfl
    · exact h.2.one e' he
theorem OneU.take {zs : List OE} (h : OneU zs) (k : Nat) : OneU (zs.take k) := fun e he => h e (List.mem_of_mem_take he)
theorem OneU.drop {zs : List OE} (h : OneU zs) (k : Nat) : OneU (zs.drop k) := fun e he => h e (List.mem_of_mem_drop he)
/-- v is a list of objects of the call's own. -/
def OwnO (w : World) (base : Nat) (v : Value) (zs : List OE) : Prop := w.ownsRow base 25 5 v zs.length (flatO zs)
theorem OwnO.nil (w : World) (base : Nat) : OwnO w base (.slice none 0 0) [] := World.ownsRow_nil w base _ _
theorem OwnO.base_le {w : World} {base : Nat} {v : Value} {xs : List OE} (h : OwnO w base v xs) (k : Nat) (hk : v.ownBlock = some k) : base ≤ k := (World.ownsRow.lt h k hk).1
theorem OwnO.alloc {w : World} {base : Nat} {v : Value} {xs : List OE} (h : OwnO w base v xs) (o : Obj) : OwnO (w.alloc o) base v xs := World.ownsRow.alloc h o
theorem OwnO.below {w w' : World} {base : Nat} {v : Value} {xs : List OE} (h : OwnO w base v xs) (hb : Below w.heap.size w w') : OwnO w' base v xs := by
  refine ⟨h.1, ?_⟩
  rcases h.2 with hn | ⟨g, cap, cur, rfl, hg, hh, r⟩
  · exact Or.inl hn
  · exact Or.inr ⟨g, cap, cur, rfl, hg, (hb.block g (Array.getElem?_eq_some_iff.1 hh).1).trans hh, r⟩
theorem OwnO.form {w : World} {base : Nat} {v : Value} {ss : List OE} (h : OwnO w base v ss) : ∃ A c, v = .slice A ss.length c := by
  rcases h.2 with ⟨rfl, hn⟩ | ⟨g, cap, cur, rfl, _, _, _, _⟩
  · have hl : ss.length = 0 := by first | omega | simpa using hn
    exact ⟨none, 0, by rw [hl]⟩
  · exact ⟨_, cap, rfl⟩
/-- As cells, in blocks of one's own. -/
theorem OwnO.cells {w : World} {base : Nat} {v : Value} {zs : List OE} (h : OwnO w base v zs) : ∃ A c, v = .slice A zs.length c ∧ (A = none → c = 0) ∧ zs.length ≤ c ∧ CellsQ w (fun k => base ≤ k ∧ v.ownBlock = some k) A (flatO zs) := by
  rcases h.2 with ⟨rfl, hn⟩ | ⟨g, cap, cur, rfl, hg, hh, hc, _⟩
  · have hl : zs = [] := List.eq_nil_of_length_eq_zero (by first | omega | simpa using hn)
    subst hl
    exact ⟨none, 0, rfl, fun _ => rfl, Nat.le_refl _, fun j u hj => by simp [flatO] at hj⟩
  · refine ⟨_, cap, rfl, fun h => (by cases h), hc, fun j u hj => ⟨_, rfl, ⟨?_, ?_⟩, ?_⟩⟩
    · rw [show ((⟨g, 0, none⟩ : Addr).add j).block = g from by unfold Addr.add; split <;> rfl]
      exact hg
    · rw [show ((⟨g, 0, none⟩ : Addr).add j).block = g from by unfold Addr.add; split <;> rfl]
      rfl
    · exact World.ownsRow.cells h (g := g) rfl j u hj
theorem CellsQ.takeO {w : World} {Q : Nat → Prop} {A : Option Addr} {zs : List OE} (h : CellsQ w Q A (flatO zs)) (k : Nat) : CellsQ w Q A (flatO (zs.take k)) := by
  rw [flatO_take]
  exact h.take _
theorem add_addO (a : Addr) (k j : Nat) : (a.add k).add j = a.add (k + j) := by
  unfold Addr.add
  by_cases h1 : k = 0
  · subst h1; simp
  · by_cases h2 : j = 0
    · subst h2; simp
    · simp [h1, h2, Nat.add_assoc]
theorem CellsQ.dropO {w : World} {Q : Nat → Prop} {L : Option Addr} {zs : List OE} (h : CellsQ w Q L (flatO zs)) (c k : Nat) (hc : zs.length ≤ c) (A : Option Addr) (hA : ∀ a, L = some a → A = if c = k then some a else some (a.add (k * 5))) : CellsQ w Q A (flatO (zs.drop k)) := by
  by_cases hk : zs.length ≤ k
  · rw [List.drop_of_length_le hk]
    intro j u hj
    simp [flatO] at hj
  · intro j u hj
    rw [flatO_drop, List.getElem?_drop] at hj
    obtain ⟨a, ha, hq, hc2⟩ := h _ u hj
    refine ⟨a.add (k * 5), ?_, ?_, ?_⟩
    · rw [hA a ha, if_neg (by omega)]
    · rw [add_addO]; exact hq
    · rw [add_addO]; exact hc2
theorem info_O : (Tryz.prog.info? 25).map (fun i => (i.zero, i.size, i.bytes)) = some (some noO, 5, 80) := by kernel_rfl
set_option maxRecDepth 10000 in
theorem append_O (w : World) (ty : TypeId) (base : Nat) (v : Value) (xs ys : List OE) (hown : OwnO w base v xs) (Q : Nat → Prop) (A : Option Addr) (m c : Nat) (hm : m = ys.length) (hr : CellsQ w Q A (flatO ys)) (h1 : OneU ys)
    (hroom : xs.length + ys.length ≤ 1000000) (hbase : base ≤ w.heap.size) :
    ∃ v' w', (Builtin.append_ #[75, 75] ty #[v, .slice A m c]).run Tryz.prog w = .ok v' w' ∧ OwnO w' base v' (xs ++ ys) ∧ w.grownBy w' v.ownBlock ∧ (v'.ownBlock = v.ownBlock ∨ v'.ownBlock = some w.heap.size) := by
  obtain ⟨i, hi, hz, hsize, hby⟩ := info_parts info_O
  cases A with
  | none =>
    have hy : ys = [] := by
      cases ys with
      | nil => rfl
      | cons y ys =>
        obtain ⟨a, ha, _⟩ := hr 0 _ rfl
        cases ha
    subst hy
    subst hm
    refine ⟨v, w, ?_, by simpa using hown, World.grownBy.refl _ _, Or.inl rfl⟩
    rcases hown.2 with ⟨rfl, _⟩ | ⟨g, cap, cur, rfl, _, _, hnc, _⟩
    · simp [Builtin.append_, run_underlying Tryz.underlying75, sizeOf, typeInfo, hi, Builtin.lenOf, Builtin.firstCells]
    · simp [Builtin.append_, run_underlying Tryz.underlying75, sizeOf, typeInfo, hi, Builtin.lenOf, Builtin.firstCells, hnc, storeCells]
  | some ad =>
    obtain ⟨v', w', h2, h3, h4, _, h5⟩ := run_append_own_at (P := Tryz.prog) w base 75 ty 25 i _ 5 80 Tryz.underlying75 hi hz hsize hby rfl (by omega) v xs.length (flatO xs) hown ad m c (flatO ys)
      (by rw [flatO_len, hm]) (fun j u hj => by obtain ⟨a, ha, _, hc⟩ := hr j u hj; injection ha with ha; subst ha; exact hc) (flatO_one h1) (by unfold maxLen; omega) (by omega) hbase
    refine ⟨v', w', h2, ?_, h4, h5⟩
    unfold OwnO
    rw [flatO_append, List.length_append, ← hm]
    exact h3
theorem wp_append_O {ops : Array Oper} {rest : List Oper} {o : Oper} {a : Act} {Q : Exit → Act → World → Prop} (w : World) (hgd : o.guard = none) (s x : Operand)
    (ho : o.op = .call { callee := .builtin .append, args := #[s, x], argTypes := #[75, 75] })
    (base : Nat) (v : Value) (xs ys : List OE) (hs : a.eval s = v) (hown : OwnO w base v xs) (R : Nat → Prop) (A : Option Addr) (m c : Nat) (hx : a.eval x = .slice A m c) (hm : m = ys.length) (hr : CellsQ w R A (flatO ys)) (h1 : OneU ys)
    (hroom : xs.length + ys.length ≤ 1000000) (hbase : base ≤ w.heap.size)
    (h : ∀ v' w', OwnO w' base v' (xs ++ ys) → Below base w w' → w.grownBy w' v.ownBlock → (v'.ownBlock = v.ownBlock ∨ v'.ownBlock = some w.heap.size) → wpList Tryz.prog ops Q rest (a.put o.dst v') w') : wpList Tryz.prog ops Q (o :: rest) a w := by
  refine wpList_plain hgd fun K hK => ?_
  obtain ⟨v', w', hrun, h2, h3, h5⟩ := append_O w o.type base v xs ys hown R A m c hm hr h1 hroom hbase
  unfold Oper.wp execOp
  simp only [ho, resolve, invoke, builtin, Sem.run_bind, Sem.run_pure, Result.andThen_ok, List.map_toArray, List.map_cons, List.map_nil, hs, hx, hrun]
  exact hK _ _ (h v' w' h2 ((Below.refl _ _).grown h3 hbase (fun k hk => hown.base_le k hk)) h3 h5)
theorem step_append_O {ops : Array Oper} {o : Oper} {a : Act} {K : Act → World → Prop} {Q : Exit → Act → World → Prop} {E : Prop} (w : World) (hgd : o.guard = none) (s x : Operand)
    (ho : o.op = .call { callee := .builtin .append, args := #[s, x], argTypes := #[75, 75] })
    (base : Nat) (v : Value) (xs ys : List OE) (hs : a.eval s = v) (hown : OwnO w base v xs) (R : Nat → Prop) (A : Option Addr) (m c : Nat) (hx : a.eval x = .slice A m c) (hm : m = ys.length) (hr : CellsQ w R A (flatO ys)) (h1 : OneU ys)
    (hroom : xs.length + ys.length ≤ 1000000) (hbase : base ≤ w.heap.size)
    (h : ∀ v' w', OwnO w' base v' (xs ++ ys) → Below base w w' → w.grownBy w' v.ownBlock → (v'.ownBlock = v.ownBlock ∨ v'.ownBlock = some w.heap.size) → K (a.put o.dst v') w') : if Region.wanted o (yielded ops a.tmps) = true then Oper.wp Tryz.prog o a w K Q else E := by
  rw [if_pos (by unfold Region.wanted; rw [hgd])]
  obtain ⟨v', w', hrun, h2, h3, h5⟩ := append_O w o.type base v xs ys hown R A m c hm hr h1 hroom hbase
  unfold Oper.wp execOp
  simp only [ho, resolve, invoke, builtin, Sem.run_bind, Sem.run_pure, Result.andThen_ok, List.map_toArray, List.map_cons, List.map_nil, hs, hx, hrun]
  exact h v' w' h2 ((Below.refl _ _).grown h3 hbase (fun k hk => hown.base_le k hk)) h3 h5
/-- An object in a block of its own, as cells. -/
theorem lit_O (w : World) (e : OE) (ty : TypeId) : CellsQ (w.alloc (.cells #[.string e.key.1, .string e.key.2.1, .string e.key.2.2, .int .i64 e.v, e.u] ty)) (fun k => k = w.heap.size) (some ⟨w.heap.size, 0, none⟩) (flatO [e]) :=
  lit_cellsQ w #[.string e.key.1, .string e.key.2.1, .string e.key.2.2, .int .i64 e.v, e.u] ty (fun k => k = w.heap.size) rfl
end
end
end Go.Proofs.YtdhpoaecedpbdaaGreat
