/-
  The fixed calls that every statement of package row makes answer as they must, in every world; nothing that was there is changed.
  No condition.
-/
import Derived.Test.YtmiagdmfgebfdaaJoin
namespace Go.Proofs.Ytmiagdmfgebfdaa
open Go.RowKit

theorem row_lit (w : World) (cs : Array Value) (xs : List V) (h : cs.toList = flat xs) (hl : xs.length ≤ maxLen) : RowAt (w.alloc (.cells cs 51)) (w.heap.size + 1) (some ⟨w.heap.size, 0, none⟩) xs := by
  have hs : cs.size = xs.length * 4 := by
    rw [← flat_length, ← h]
    simp
  have ho : Own (w.alloc (.cells cs 51)) w.heap.size (.slice (some ⟨w.heap.size, 0, none⟩) xs.length xs.length) xs := by
    unfold Own
    rw [← h]
    exact World.ownsRow_lit w cs xs.length (Nat.le_refl _) hl hs
  obtain ⟨A, c, hv, _, hr⟩ := ho.row
  injection hv with hA _ _
  subst hA
  simpa using hr

theorem ints_lit (w : World) (cs : Array Value) (zs : List Int) (h : cs.toList = zs.map (Value.int .i64)) : IntsAt (w.alloc (.cells cs 3)) (w.heap.size + 1) (some ⟨w.heap.size, 0, none⟩) zs := by
  intro i z hi
  have hb : ((⟨w.heap.size, 0, none⟩ : Addr).add i).block = w.heap.size := by unfold Addr.add; split <;> rfl
  have ha : (⟨w.heap.size, 0, none⟩ : Addr).add i = ⟨w.heap.size, i, none⟩ := by unfold Addr.add; split <;> simp_all
  refine ⟨_, rfl, by rw [hb]; omega, ?_⟩
  rw [ha, cell_of_row _ w.heap.size i cs 3 (0, 0) (heap_alloc_new w _), ← Array.getElem?_toList, h, List.getElem?_map, hi]
  rfl

theorem row_lit' (w : World) (cs : Array Value) (xs : List V) (g : Nat) (hg : g = w.heap.size) (h : cs.toList = flat xs) (hl : xs.length ≤ 1000000) : RowAt (w.alloc (.cells cs 51)) (w.alloc (.cells cs 51)).heap.size (some ⟨g, 0, none⟩) xs := by
  subst hg
  exact (row_lit w cs xs h (by unfold maxLen; omega)).more (by simp)
theorem ints_lit' (w : World) (cs : Array Value) (zs : List Int) (g : Nat) (hg : g = w.heap.size) (h : cs.toList = zs.map (Value.int .i64)) : IntsAt (w.alloc (.cells cs 3)) (w.alloc (.cells cs 3)).heap.size (some ⟨g, 0, none⟩) zs := by
  subst hg
  have := ints_lit w cs zs h
  simpa using this
theorem rows_lit2 (w : World) (r s : Rw) (g : Nat) (hg : g = w.heap.size) (hr : RowAt w w.heap.size r.A r.xs) (hs : RowAt w w.heap.size s.A s.xs) (hr0 : r.A = none → r.c = 0) (hs0 : s.A = none → s.c = 0) :
    RowsAt (w.alloc (.cells #[.slice r.A r.xs.length r.c, .slice s.A s.xs.length s.c] 34)) (w.alloc (.cells #[.slice r.A r.xs.length r.c, .slice s.A s.xs.length s.c] 34)).heap.size (some ⟨g, 0, none⟩) [r, s] := by
  subst hg
  have hb := one_new w (.cells #[.slice r.A r.xs.length r.c, .slice s.A s.xs.length s.c] 34)
  intro i x hi
  match i, hi with
  | 0, hi =>
    have h : r = x := by simpa using hi
    subst h
    exact ⟨_, rfl, by simp [Addr.add], by simp [Addr.add, cell_of_row _ w.heap.size 0 _ 34 (0, 0) (heap_alloc_new w _)], hr.later hb, hr0⟩
  | 1, hi =>
    have h : s = x := by simpa using hi
    subst h
    exact ⟨_, rfl, by simp [Addr.add], by simp [Addr.add, cell_of_row _ w.heap.size 1 _ 34 (0, 0) (heap_alloc_new w _)], hs.later hb, hs0⟩
  | i + 2, hi => simp at hi

def kA : V := ⟨2, false, 5, ⟨#[]⟩⟩
def kB : V := ⟨1, true, 0, ⟨#[]⟩⟩
def kC : V := ⟨0, false, 0, ⟨#[]⟩⟩

theorem bnew {B : Nat} {a w : World} (h : Below B a w) (hB : B ≤ a.heap.size) (o : Obj) : Below B a (w.alloc o) := h.alloc (Nat.le_trans hB h.size) o
theorem bon {B : Nat} {a b c : World} (h : Below B a b) (hB : B ≤ a.heap.size) (k : Below b.heap.size b c) : Below B a c := h.trans (k.mono (Nat.le_trans hB h.size))

theorem Own.rowN {w : World} {base : Nat} {v : Value} {xs : List V} (h : Own w base v xs) (n : Nat) (hn : n = xs.length) : ∃ A c, v = .slice A n c ∧ (A = none → c = 0) ∧ RowAt w w.heap.size A xs := by
  subst hn
  exact h.row
/-- A row of one's own that is not empty: where it lies. -/
theorem Own.form {w : World} {base : Nat} {v : Value} {xs : List V} (h : Own w base v xs) (n : Nat) (hn : n = xs.length) (h0 : 0 < n) : ∃ g c, v = .slice (some ⟨g, 0, none⟩) n c ∧ n ≤ c ∧ base ≤ g ∧ g < w.heap.size ∧ RowAt w w.heap.size (some ⟨g, 0, none⟩) xs := by
  subst hn
  obtain ⟨A, c, hv, _, hr⟩ := h.row
  rcases h.2 with ⟨_, h9⟩ | ⟨g, cap, cur, hv', hb, hg, hc, _⟩
  · omega
  · rw [hv'] at hv
    injection hv with h1 h2 h3
    subst h1
    exact ⟨g, cap, hv', hc, hb, (Array.getElem?_eq_some_iff.1 hg).1, hr⟩
theorem RowAt.take {w : World} {B : Nat} {A : Option Addr} {xs : List V} (h : RowAt w B A xs) (k : Nat) : RowAt w B A (xs.take k) := by
  intro i v hi
  have h1 := (List.getElem?_eq_some_iff.1 hi).1
  rw [List.length_take] at h1
  rw [List.getElem?_take_of_lt (by omega)] at hi
  exact h i v hi
theorem RowAt.drop {w : World} {B g o k : Nat} {xs : List V} (h : RowAt w B (some ⟨g, o, none⟩) xs) : RowAt w B (some ⟨g, o + k * 4, none⟩) (xs.drop k) := by
  intro i v hi
  rw [List.getElem?_drop] at hi
  obtain ⟨a, ha, hb, hv⟩ := h _ _ hi
  injection ha with ha
  subst ha
  have he : (⟨g, o, none⟩ : Addr).add ((k + i) * 4) = (⟨g, o + k * 4, none⟩ : Addr).add (i * 4) := by
    unfold Addr.add
    by_cases h1 : i * 4 = 0
    · by_cases h2 : (k + i) * 4 = 0
      · simp only [if_pos h1, if_pos h2]
        congr 1
        omega
      · simp only [if_pos h1, if_neg h2]
        congr 1
        omega
    · simp only [if_neg h1, if_neg (show ¬ (k + i) * 4 = 0 from by omega)]
      congr 1
      omega
  rw [he] at hb hv
  exact ⟨_, rfl, hb, hv⟩

theorem pick1 : pickR [kA, kB, kC] [2, 0] = ([kC, kA], 0) := by simp [pickR, inR, getV]
theorem pick2 : pickR [kA, kB, kC] [3] = ([], 2) := by simp [pickR, inR]

theorem join_two (W w3 : World) (g c2 G : Nat) (hb : Below w3.heap.size w3 W) (hr : RowAt w3 w3.heap.size (some ⟨g, 0, none⟩) [kC, kA]) (hG : G = W.heap.size) :
    Calls Try.prog 30 #[.slice (some ⟨G, 0, none⟩) 2 2] (W.alloc (.cells #[.slice (some ⟨g, 0, none⟩) 1 c2, .slice (some ⟨g, 4, none⟩) 1 (c2 - 1)] 34)) (OwnsNew (W.alloc (.cells #[.slice (some ⟨g, 0, none⟩) 1 c2, .slice (some ⟨g, 4, none⟩) 1 (c2 - 1)] 34)) [kC, kA]) := by
  have h1 : RowAt W W.heap.size (some ⟨g, 0, none⟩) [kC] := (hr.later hb).take 1
  have h2 : RowAt W W.heap.size (some ⟨g, 4, none⟩) [kA] := by
    have h := (hr.later hb).drop (k := 1)
    exact h
  have h3 := rows_lit2 W ⟨some ⟨g, 0, none⟩, c2, [kC]⟩ ⟨some ⟨g, 4, none⟩, c2 - 1, [kA]⟩ G hG h1 h2 (by simp) (by simp)
  exact row_join _ [⟨some ⟨g, 0, none⟩, c2, [kC]⟩, ⟨some ⟨g, 4, none⟩, c2 - 1, [kA]⟩] 2 2 _ rfl (by decide) (by simp [sumL]) h3

set_option maxHeartbeats 1000000 in
theorem known (w : World) : Calls Try.prog 7 #[] w fun e w' => e = .returned (.bool true) ∧ Below w.heap.size w w' := by
  go_enter Try.func7, Try.ntmps7
  go_wp2_with (first
    | (go_at_call 24; refine (mk_int _ _).mono ?_; rintro e w' ⟨rfl, rfl⟩)
    | (go_at_call 25; refine (mk_bool _ _).mono ?_; rintro e w' ⟨rfl, rfl⟩)
    | (go_at_call 26; refine (mk_null _).mono ?_; rintro e w' ⟨rfl, rfl⟩)
    | (go_at_call 23; fail))
  refine (row_of _ [kA, kB, kC] 3 3 _ rfl (by simp) (by decide) (by exact row_lit' _ _ [kA, kB, kC] _ (by simp) rfl (by decide))).mono ?_
  rintro e w1 ⟨v1, rfl, ho1, hb1⟩
  obtain ⟨A, c, rfl, hA, hr1⟩ := ho1.rowN 3 rfl
  have HB1 : Hid (Below w.heap.size w w1) := Lib.hid (bon (bnew (bnew (bnew (bnew (Below.refl _ w) (Nat.le_refl _) _) (Nat.le_refl _) _) (Nat.le_refl _) _) (Nat.le_refl _) _) (Nat.le_refl _) hb1)
  have HR1 := Lib.hid hr1
  clear hb1 hr1 ho1 hA
  go_wp2_with (go_at_call 27; fail)
  refine (row_pick A _ [kA, kB, kC] [2, 0] 3 2 c 2 _ rfl rfl (by decide) (by exact HR1.out.later (one_new _ _)) (by exact ints_lit' _ _ [2, 0] _ (by simp) rfl)).mono ?_
  rintro e w2 ⟨v2, he, ho2, hb2⟩
  rw [pick1] at he ho2
  subst he
  obtain ⟨g, c2, rfl, hc2, hg, hg', hr2⟩ := ho2.form 2 rfl (by omega)
  have HB2 : Hid (Below w1.heap.size w1 w2) := Lib.hid ((one_new w1 _).trans (hb2.mono (by simp)))
  have HR2 := Lib.hid hr2
  clear hb2 hr2 ho2 hg
  go_wp2_with (go_at_call 27; fail)
  refine (row_pick A _ [kA, kB, kC] [3] 3 1 c 1 _ rfl rfl (by decide) (by exact (HR1.out.later HB2.out).later (one_new _ _)) (by exact ints_lit' _ _ [3] _ (by simp) rfl)).mono ?_
  rintro e w3 ⟨v3, he, ho3, hb3⟩
  rw [pick2] at he ho3
  subst he
  have HB3 : Hid (Below w2.heap.size w2 w3) := Lib.hid ((one_new w2 _).trans (hb3.mono (by simp)))
  have HR3 := Lib.hid (HR2.out.later HB3.out)
  clear hb3 ho3
  have hc3 : ¬ c2 = 1 := by omega
  have hc4 : (1 : Int) ≤ (c2 : Int) := by omega
  go_wp2_with fail
  go_region_held3 (fun w' => Below w3.heap.size w3 w') (((repeat (first | assumption | exact Below.refl _ _ | apply Below.drew | apply below_drewN' | (refine bnew ?_ (Nat.le_refl _) _) | (refine bon ?_ (Nat.le_refl _) (by assumption)))); done))
    (first
      | (go_at_call 28; refine (ref_equal _ _ [kC, kA] [kC, kA] 2 2 c2 2 _ rfl rfl (by decide) (by exact HR3.out.later (by assumption)) (by exact row_lit' _ _ [kC, kA] _ (by simp) rfl (by decide))).mono ?_; rintro e w' ⟨rfl, nd, rfl⟩; rw [eqR_self])
      | (go_at_call 30; refine (join_two _ w3 g c2 _ (by (repeat (first | assumption | exact Below.refl _ _ | apply Below.drew | apply below_drewN' | (refine bnew ?_ (Nat.le_refl _) _) | (refine bon ?_ (Nat.le_refl _) (by assumption))))) HR3.out (by simp)).mono ?_; rintro e w5 ⟨v5, rfl, ho5, hb5⟩; obtain ⟨A5, c5, rfl, _, hr5⟩ := ho5.rowN 2 rfl)
      | (go_at_call 29; refine (row_same A5 (some ⟨g, 0, none⟩) [kC, kA] [kC, kA] 2 2 c5 c2 _ rfl rfl (by decide) (by exact hr5) (by exact HR3.out.later (by (repeat (first | assumption | exact Below.refl _ _ | apply Below.drew | apply below_drewN' | (refine bnew ?_ (Nat.le_refl _) _) | (refine bon ?_ (Nat.le_refl _) (by assumption))))))).mono ?_; rintro e w6 ⟨rfl, hb6⟩; rw [show (cmpR [kC, kA] [kC, kA] == 0) = true from rfl]))
  go_wp2
  go_ret
  refine ⟨rfl, bon (bon (bon HB1.out (Nat.le_refl _) HB2.out) (Nat.le_refl _) HB3.out) (Nat.le_refl _) ?_⟩
  repeat (first | assumption | exact Below.refl _ _ | apply Below.drew | apply below_drewN' | (refine bnew ?_ (Nat.le_refl _) _) | (refine bon ?_ (Nat.le_refl _) (by assumption)))
end Go.Proofs.Ytmiagdmfgebfdaa
