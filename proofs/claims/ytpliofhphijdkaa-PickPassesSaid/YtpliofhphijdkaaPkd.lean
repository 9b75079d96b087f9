/-
  The fixed calls that every statement of package pick makes answer as they must, in every world; nothing that was there is changed.
  No condition.
-/
import Derived.Test.YtpliofhphijdkaaPkc
import Derived.Test.YtpliofhphijdkaaBknown
namespace Go.Proofs.Ytpliofhphijdkaa
open Go.RowKit

theorem add_none (a : Addr) : a.add (0 * 2) = a := by
  unfold Addr.add
  split <;> simp_all
theorem ko1 : onceL [] [([kva], 2)] = ([([kva], 2)], [([kva], 1)], 0) := by kernel_rfl
theorem ko2 : onceL [([kva], 2)] [([kva], -1)] = ([([kva], 1)], [], 0) := by kernel_rfl
theorem ko3 : onceL [([kva], 1)] [([kva], -1)] = ([], [([kva], -1)], 0) := by kernel_rfl
theorem one_ent (w : World) (Q : Nat → Prop) (v : Value) (x : List V) (m : Int) (hQ : ∀ k, w.heap.size ≤ k → Q k) (hr : IsRow w Q v x) : EntsQ (w.alloc (.cells #[v, .int .i64 m] 46)) Q (some ⟨w.heap.size, 0, none⟩) [(x, m)] :=
  ⟨[(v, m)], ⟨rfl, hr.keep (Below.keepQ (one_new w _) Q), trivial⟩, ent_lit1 w v m Q hQ⟩
theorem one_many (m : Int) (h : -100 ≤ m ∧ m ≤ 100) : ∀ (i : Nat) (e : En), [([kva], m)][i]? = some e → -9223372036854775808 ≤ e.2 ∧ e.2 ≤ 9223372036854775807 := by
  intro i e he
  cases i with
  | zero =>
    have : ([kva], m) = e := by simpa using he
    subst this
    exact ⟨by show _ ≤ m; omega, by show m ≤ _; omega⟩
  | succ i => simp at he

theorem o_apply_lit (g : Nat) (l : List En) (m : Int) (r : List En × List En × Int) (hr0 : onceL l [([kva], m)] = r) (hm : -100 ≤ m ∧ m ≤ 100) (v : Value) (Q : Nat → Prop) (w : World) (hQ : ∀ k, w.heap.size ≤ k → Q k) (hg : ¬ Q g) (hb : BagL w Q g l) (hll : l.length ≤ 1500) (hr : IsRow w Q v [kva]) (b : Nat) (hbw : b = w.heap.size) :
    Calls Try.prog 16 #[.pointer (some ⟨g, 0, none⟩), .slice (some ⟨b, 0, none⟩) 1 1] (w.alloc (.cells #[v, .int .i64 m] 46)) fun e w' => ∃ L c, e = .returned (.tuple #[.slice L r.2.1.length c, .int .i64 r.2.2]) ∧ EntsQ w' Q L r.2.1 ∧ BagL w' Q g r.1 ∧ Only g w w' := by
  subst hbw
  have hg2 := hb.lt
  have hE := one_ent w Q v [kva] m hQ hr
  have hM := one_many m hm
  generalize hes : [([kva], m)] = es at *
  have hlen : es.length = 1 := by rw [← hes]; rfl
  have hB := hb.below (one_new w (.cells #[v, .int .i64 m] 46))
  have hsz : (w.alloc (.cells #[v, .int .i64 m] 46)).heap.size = w.heap.size + 1 := by simp
  refine (o_apply Q Q g l (some ⟨w.heap.size, 0, none⟩) 1 1 es _ (fun k hk => hQ k (by omega)) hg hB hll hlen (by omega) hE hM).mono ?_
  rw [hr0]
  rintro e w' ⟨L, c, rfl, _, hE, hB, ho⟩
  exact ⟨L, c, rfl, hE.imp (fun k _ h => hQ k (by omega)), hB, (Only.of_below (one_new _ _) (by omega)).trans ho⟩

set_option maxRecDepth 100000 in
set_option maxHeartbeats 4000000 in
theorem known20 (w : World) : Calls Try.prog 7 #[] w fun e w' => e = .returned (.bool true) ∧ Below w.heap.size w w' := by
  have HQ := Lib.hid (show ∀ W : World, w.heap.size < W.heap.size → ∀ k, W.heap.size ≤ k → (fun k => k ≠ w.heap.size) k from fun W hW k hk => by show k ≠ w.heap.size; omega)
  have HG := Lib.hid (show ¬ (fun k => k ≠ w.heap.size) w.heap.size from by simp)
  have K := Lib.hid (And.intro ko1 (And.intro ko2 ko3))
  go_enter Try.func7, Try.ntmps7
  go_wp2_with fail
  refine (o_new20 _).mono ?_
  rintro e w1 ⟨rfl, rfl⟩
  have hb0 := once_new (fun k => k ≠ w.heap.size) w
  have hw1 := one_new w (.cells #[.pointer none] 69)
  have hs1 : (w.alloc (.cells #[.pointer none] 69)).heap.size = w.heap.size + 1 := by simp
  obtain ⟨w1, hw1e⟩ : ∃ W, W = w.alloc (.cells #[.pointer none] 69) := ⟨_, rfl⟩
  rw [← hw1e] at hb0 hw1 hs1 ⊢
  clear hw1e
  have ha : IsRow (w1.alloc (.cells #[.int .i64 2, .bool false, .int .i64 1, .string ⟨#[]⟩] 52)) (fun k => k ≠ w.heap.size) (.slice (some ⟨w1.heap.size, 0, none⟩) 1 1) [kva] := lit_row w1 (fun k => k ≠ w.heap.size) (fun k hk => by omega) kva
  have hb1 := hb0.below (one_new w1 (.cells #[.int .i64 2, .bool false, .int .i64 1, .string ⟨#[]⟩] 52))
  have hw2 := hw1.trans ((one_new w1 (.cells #[.int .i64 2, .bool false, .int .i64 1, .string ⟨#[]⟩] 52)).mono (by omega))
  have hs2 : (w1.alloc (.cells #[.int .i64 2, .bool false, .int .i64 1, .string ⟨#[]⟩] 52)).heap.size = w.heap.size + 2 := by simp; omega
  rw [hs1] at ha
  have HA := Lib.hid ha
  have HB1 := Lib.hid hb1
  have HW2 := Lib.hid hw2
  have HS2 := Lib.hid hs2
  clear ha hb0 hb1 hw1 hw2 hs2
  go_wp2_with fail
  generalize w1.alloc (.cells #[.int .i64 2, .bool false, .int .i64 1, .string ⟨#[]⟩] 52) = w2 at *
  have hs2 := HS2.out
  have hlt2 : w.heap.size < w2.heap.size := by omega
  refine (o_apply_lit w.heap.size [] 2 _ K.out.1 (by omega) _ _ w2 (HQ.out w2 hlt2) HG.out HB1.out (Nat.zero_le _) HA.out _ (by omega)).mono ?_
  rintro e w3 ⟨L3, c3, rfl, hE3, hB3, ho3⟩
  clear hs1 hs2
  have HE3 := Lib.hid hE3
  have HB3 := Lib.hid hB3
  have HA3 := Lib.hid (HA.out.keep (ho3.keepQ HG.out))
  have HW3 := Lib.hid (HW2.out.trans (ho3.1.mono (Nat.le_refl _)))
  have hlt3 := Nat.lt_of_lt_of_le hlt2 ho3.1.size
  clear hE3 hB3 ho3
  go_wp2_with fail
  refine (o_apply_lit w.heap.size [([kva], 2)] (-1) _ K.out.2.1 (by omega) _ _ w3 (HQ.out w3 hlt3) HG.out HB3.out (by simp) HA3.out _ rfl).mono ?_
  rintro e w4 ⟨L4, c4, rfl, hE4, hB4, ho4⟩
  have HE4 := Lib.hid (HE3.out.keep (ho4.keepQ HG.out))
  have HB4 := Lib.hid hB4
  have HA4 := Lib.hid (HA3.out.keep (ho4.keepQ HG.out))
  have HW4 := Lib.hid (HW3.out.trans (ho4.1.mono (Nat.le_refl _)))
  have hlt4 := Nat.lt_of_lt_of_le hlt3 ho4.1.size
  clear hE4 hB4 ho4
  go_wp2_with fail
  refine (o_apply_lit w.heap.size [([kva], 1)] (-1) _ K.out.2.2 (by omega) _ _ w4 (HQ.out w4 hlt4) HG.out HB4.out (by simp) HA4.out _ rfl).mono ?_
  rintro e w5 ⟨L5, c5, rfl, hE5, hB5, ho5⟩
  have hE35 := HE4.out.keep (ho5.keepQ HG.out)
  have HW5 := Lib.hid (HW4.out.trans (ho5.1.mono (Nat.le_refl _)))
  obtain ⟨a3, v3, rfl, _, _, x0, x1⟩ := hE35.get 0 ([kva], 1) rfl
  obtain ⟨a5, v5, rfl, _, _, y0, y1⟩ := hE5.get 0 ([kva], -1) rfl
  rw [add_none] at x1 y1
  clear hE35 hE5 hB5 ho5
  go_wp2
  go_ret
  exact ⟨rfl, HW5.out⟩
end Go.Proofs.Ytpliofhphijdkaa
