/-
  The fixed calls that every statement of package pack makes answer as they must; few tells whether a row is short; in every world, and nothing that was there is changed.
  No condition but that a row is no longer than it can be.
-/
import Derived.Test.YtdlimephkjihbaaPrback
import Derived.Test.YtdlimephkjihbaaPvref
namespace Go.Proofs.Ytdlimephkjihbaa
open Go.RowKit

/-- Two of the values that the fixed calls take. -/
def kT : V := ⟨1, true, 0, ⟨#[]⟩⟩
theorem k_row : rowB [noV, kT] = [1, 2, 1, 0] := by decide
theorem k_back : backR 5 [] [1, 2, 1, 0] = ([noV, kT], 0) := by rfl
theorem k_first : firstR [2, 1, 7] = (kT, 2, 0) := by rfl

theorem Own.rowN' {w : World} {base : Nat} {v : Value} {xs : List V} (h : Own w base v xs) (n : Nat) (hn : n = xs.length) : ∃ A c, v = .slice A n c ∧ (A = none → c = 0) ∧ RowAt w w.heap.size A xs := by
  subst hn
  exact h.row
theorem rowlit (w : World) (cs : Array Value) (xs : List V) (G : Nat) (hG : G = w.heap.size) (h : cs.toList = flat xs) (hl : xs.length ≤ 1000000) : RowAt (w.alloc (.cells cs 56)) (w.alloc (.cells cs 56)).heap.size (some ⟨G, 0, none⟩) xs := by
  subst hG
  have hs : cs.size = xs.length * 4 := by
    rw [← flat_length, ← h]
    simp
  have ho : Own (w.alloc (.cells cs 56)) w.heap.size (.slice (some ⟨w.heap.size, 0, none⟩) xs.length xs.length) xs := by
    unfold Own
    rw [← h]
    exact World.ownsRow_lit w cs xs.length (Nat.le_refl _) (by unfold maxLen; omega) hs
  obtain ⟨A, c, hv, _, hr⟩ := ho.row
  injection hv with hA _ _
  subst hA
  exact hr
theorem byteslit (w : World) (cs : Array Value) (bs : List UInt8) (G : Nat) (hG : G = w.heap.size) (h : cs.toList = bs.map bv) (hl : bs.length ≤ 1000000) : BytesAt (w.alloc (.cells cs 5)) (w.alloc (.cells cs 5)).heap.size (some ⟨G, 0, none⟩) bs := by
  subst hG
  obtain ⟨A, c, hv, _, _, hr⟩ := (lit_B w cs bs h hl).form
  injection hv with hA _ _
  subst hA
  exact hr

theorem eq_kT : eqV ⟨1, true, 0, ⟨#[]⟩⟩ ⟨1, true, 0, ⟨#[]⟩⟩ = true := (eqV_iff _ _).2 rfl

section
attribute [local go_sem high] equal_val

set_option maxRecDepth 100000 in
set_option maxHeartbeats 1000000 in
theorem known4 (w : World) : Calls Try.prog 32 #[] w fun e w' => e = .returned (.bool true) ∧ Below w.heap.size w w' := by
  have hw : WideR [noV, kT] := by
    intro v hv
    simp only [List.mem_cons, List.not_mem_nil, or_false] at hv
    rcases hv with rfl | rfl <;> exact ⟨by decide, by decide⟩
  have HW := Lib.hid hw
  have eqk := eq_kT
  clear hw
  go_enter Try.func32, Try.ntmps32
  go_wp2_with fail
  refine (pk_row _ [noV, kT] 2 2 _ rfl (by omega) HW.out (by exact rowlit _ _ [noV, kT] _ rfl rfl (by decide))).mono ?_
  rintro e w1 ⟨v1, rfl, ho1, hb1⟩
  rw [k_row] at ho1
  obtain ⟨A1, c1, rfl, _, hc1, hbt1⟩ := ho1.form
  obtain ⟨A1', c1', hv1, hcv⟩ := conv_form ho1
  have HO1 := Lib.hid ho1
  have HBT1 := Lib.hid hbt1
  have HB1 := Lib.hid (box_below hb1)
  clear ho1 hbt1 hb1 hv1 hcv
  have hc4 : 4 ≤ c1 := hc1
  clear hc1
  go_wp2_with fail
  refine (pk_back A1 [1, 2, 1, 0] 4 c1 _ rfl (by omega) hc4 (by exact HBT1.out)).mono ?_
  rintro e w2 ⟨v2, he, ho2, hb2⟩
  rw [k_back] at he ho2
  subst he
  obtain ⟨A2, c2, rfl, _, hr2⟩ := ho2.rowN' 2 rfl
  have HB2 := Lib.hid (HB1.out.trans (hb2.mono HB1.out.size))
  have HO2 := Lib.hid (HO1.out.below hb2 (Nat.le_refl _))
  clear hb2 ho2 hr2
  go_wp2_with fail
  refine (pk_first _ [2, 1, 7] 3 3 _ rfl (by unfold maxLen; omega) (by omega) (by exact byteslit _ _ [2, 1, 7] _ rfl rfl (by decide))).mono ?_
  rintro e w3 ⟨he, hb3⟩
  rw [k_first] at he
  have he' : e = .returned (.tuple #[.agg #[.int .i64 1, .bool true, .int .i64 0, .string ⟨#[]⟩], .int .i64 2, .int .i64 0]) := he
  subst he'
  clear he
  have HB3 := Lib.hid (HB2.out.trans ((box_below hb3).mono HB2.out.size))
  have hb3' := box_below hb3
  have HO3 := HO2.out.below hb3' (Nat.le_refl _)
  obtain ⟨A4, c4, hv4, hcv⟩ := conv_form (HO3.alloc (.cells #[.int .i64 1, .bool true, .int .i64 0, .string ⟨#[]⟩] 56))
  injection hv4 with h1 h2 h3
  subst h1 h3
  have hcv' : (convert 53 9 (.slice A1 4 c1)).run Try.prog (w3.alloc (.cells #[.int .i64 1, .bool true, .int .i64 0, .string ⟨#[]⟩] 56)) = .ok (.string ⟨#[1, 2, 1, 0]⟩) (w3.alloc (.cells #[.int .i64 1, .bool true, .int .i64 0, .string ⟨#[]⟩] 56)) := hcv
  clear hb3 hb3' HO3 hcv h2
  go_wp2
  go_ret
  exact ⟨rfl, HB3.out.trans (one_new_far _ _ HB3.out.size)⟩
end

/-- Is a row short? -/
def shortR (xs : List V) : Bool := decide (xs.length ≤ 100) && xs.all fun v => decide (v.t.size ≤ 500)
theorem short_no (xs : List V) (k : Nat) (v : V) (h : xs[k]? = some v) (hv : ¬ v.t.size ≤ 500) : shortR xs = false := by
  unfold shortR
  have : xs.all (fun v => decide (v.t.size ≤ 500)) = false := by
    rw [Bool.eq_false_iff]
    intro ha
    rw [List.all_eq_true] at ha
    have := ha v (List.mem_of_getElem? h)
    simp only [decide_eq_true_eq] at this
    exact hv this
  rw [this, Bool.and_false]

set_option maxHeartbeats 1000000 in
theorem few_all (A : Option Addr) (xs : List V) (n c : Nat) (w : World) (hn : n = xs.length) (hx : RowAt w w.heap.size A xs) :
    Calls Try.prog 31 #[.slice A n c] w fun e w' => e = .returned (.bool (shortR xs)) ∧ w' = w := by
  have HX := Lib.hid hx
  have HN := Lib.hid hn
  clear hx hn
  by_cases h0 : 100 < n
  · have HF : Hid (shortR xs = false) := Lib.hid (by
      unfold shortR
      rw [show decide (xs.length ≤ 100) = false from by rw [decide_eq_false_iff_not, ← HN.out]; omega]
      rfl)
    rw [HF.out]
    go_enter Try.func31, Try.ntmps31
    go_wp2
    go_ret
    exact ⟨rfl, rfl⟩
  · have h00 : ¬ 100 < (n : Int) := by omega
    obtain ⟨R, hR⟩ : ∃ R, shortR xs = R := ⟨_, rfl⟩
    rw [hR]
    have HR := Lib.hid hR
    clear hR
    go_enter Try.func31, Try.ntmps31
    go_wp2
    go_loop [3] (fun i => ∃ k : Nat, k ≤ n ∧ i = .int .i64 k ∧ (∀ j v, j < k → xs[j]? = some v → v.t.size ≤ 500)) (fun i => n - (intOf i).toNat)
    case atStart => exact ⟨0, Nat.zero_le _, rfl, fun j v hj => by omega⟩
    case round =>
      obtain ⟨k, hk, rfl, hall⟩ := hrel
      have HA := Lib.hid hall
      clear hall
      by_cases h1 : k < n
      · obtain ⟨v, hv⟩ : ∃ v, xs[k]? = some v := ⟨_, List.getElem?_eq_getElem (by rw [← HN.out]; exact h1)⟩
        obtain ⟨a, rfl, ha, a0, a1, a2, a3⟩ := HX.out k v hv
        have HV := Lib.hid hv
        clear hv
        by_cases h2 : v.t.size ≤ 500
        · have b2 : ¬ 500 < (v.t.size : Int) := by omega
          go_wp2
          go_round
          case rel =>
            refine ⟨k + 1, by omega, by go_num, fun j u hj hu => ?_⟩
            by_cases hjk : j < k
            · exact HA.out j u hjk hu
            · have : j = k := by omega
              subst this
              rw [HV.out] at hu
              injection hu with hu
              rw [← hu]
              exact h2
          case measure => simp [intOf]; omega
        · have b2 : 500 < (v.t.size : Int) := by omega
          have HF := Lib.hid (short_no xs k v HV.out h2)
          go_wp2
          go_ret
          exact ⟨ret_bool (by rw [← HR.out, HF.out]), rfl⟩
      · have HF : Hid (shortR xs = true) := Lib.hid (by
          unfold shortR
          rw [Bool.and_eq_true, List.all_eq_true]
          refine ⟨by rw [decide_eq_true_eq, ← HN.out]; omega, fun v hv => ?_⟩
          obtain ⟨j, hj⟩ := List.getElem?_of_mem hv
          have hjl := (List.getElem?_eq_some_iff.1 hj).1
          rw [decide_eq_true_eq]
          exact HA.out j v (by rw [← HN.out] at hjl; omega) hj)
        go_wp2
        go_ret
        exact ⟨ret_bool (by rw [← HR.out, HF.out]), rfl⟩
end Go.Proofs.Ytdlimephkjihbaa
