/-
  The document's own Pairs tells whether the named cells of two rows go together, as Pairs of package row does.
  No condition but that rows, lists and texts are no longer than they can be.
-/
import Derived.Test.YtlknhlemkbdgcaaPairs
namespace Go.Proofs.Ytlknhlemkbdgcaa
open Go.RowKit

set_option maxHeartbeats 2000000 in
theorem ref_pairs (A B L : Option Addr) (xs ys : List V) (ps : List (Int × Int)) (n m l c c' c'' : Nat) (w : World) (hn : n = xs.length) (hm : m = ys.length) (hll : l = ps.length) (hl : l ≤ maxLen) (hfit : Fit xs) (hx : RowAt w w.heap.size A xs) (hy : RowAt w w.heap.size B ys) (hp : PairsAt w w.heap.size L ps) :
    Calls Try.prog 22 #[.slice A n c, .slice B m c', .slice L l c''] w fun e w' => e = .returned (.bool (ps.all (pairOk xs ys))) ∧ Below w.heap.size w w' := by
  unfold maxLen at hl
  have HT := Lib.hid hfit
  have HX := Lib.hid hx
  have HY := Lib.hid hy
  have HP := Lib.hid hp
  have HN := Lib.hid hn
  have HM := Lib.hid hm
  have HL := Lib.hid hll
  clear hx hy hn hm hp hll hfit
  go_enter Try.func22, Try.ntmps22
  go_wp2
  go_loopw [7] (fun i wr => ∃ k : Nat, k ≤ l ∧ i = .int .i64 k ∧ ps.all (pairOk xs ys) = (ps.drop k).all (pairOk xs ys) ∧ Below w.heap.size w wr) (fun i _ => l - (intOf i).toNat)
  case atStart => exact ⟨0, Nat.zero_le _, rfl, rfl, Below.refl _ _⟩
  case round =>
    obtain ⟨k, hk, rfl, hc, hb⟩ := hrel
    have HC := Lib.hid hc
    have HB := Lib.hid hb
    have hsz : w.heap.size ≤ wr.heap.size := hb.size
    clear hc hb
    by_cases h1 : k < l
    · obtain ⟨p, hp⟩ : ∃ p, ps[k]? = some p := ⟨_, List.getElem?_eq_getElem (by rw [← HL.out]; exact h1)⟩
      obtain ⟨q, rfl, hq, q0, q1⟩ := (HP.out.below HB.out) k p hp
      have HQ := Lib.hid hp
      clear hp
      obtain ⟨i, j⟩ := p
      rcases Bool.eq_false_or_eq_true (inR n i) with hi | hi
      · have HI := Lib.hid hi
        clear hi
        rcases Bool.eq_false_or_eq_true (inR m j) with hj | hj
        · have HJ := Lib.hid hj
          clear hj
          have hi2 := HI.out
          have hj2 := HJ.out
          unfold inR at hi2 hj2
          rw [Bool.and_eq_true, decide_eq_true_eq, decide_eq_true_eq] at hi2 hj2
          obtain ⟨i0, i1⟩ := hi2
          obtain ⟨j0, j1⟩ := hj2
          obtain ⟨a, rfl, ha, a0, a1, a2, a3⟩ := (HX.out.below HB.out) i.toNat (getV xs i) (getV_at xs i (by rw [← HN.out]; exact HI.out))
          obtain ⟨b, rfl, hb, b0, b1, b2, b3⟩ := (HY.out.below HB.out) j.toNat (getV ys j) (getV_at ys j (by rw [← HM.out]; exact HJ.out))
          have ha' : (a.add (i.toNat * 4)).block < wr.heap.size := by omega
          have hb' : (b.add (j.toNat * 4)).block < wr.heap.size := by omega
          have ha2 : (a.add (i.toNat * 4)).block < wr.heap.size + 1 := by omega
          have hb2' : (b.add (j.toNat * 4)).block < wr.heap.size + 1 := by omega
          have d0 : decide (i < 0) = false := by simp; omega
          have d1 : decide ((n : Int) ≤ i) = false := by simp; omega
          have d2 : decide (j < 0) = false := by simp; omega
          have d3 : decide ((m : Int) ≤ j) = false := by simp; omega
          by_cases hz : cmpV (getV xs i) (getV ys j) = 0
          · have HZ := Lib.hid hz
            clear hz
            go_wp2
            go_region_held3 (fun w' => w'.cell? ⟨wr.heap.size, 0, none⟩ = some (.int .i64 i) ∧ w'.cell? ⟨wr.heap.size, 1, none⟩ = some (.int .i64 j) ∧ w'.cell? (a.add (i.toNat * 4)) = some (.int .i64 (getV xs i).k) ∧ w'.cell? { block := (a.add (i.toNat * 4)).block, off := (a.add (i.toNat * 4)).off + 1 } = some (.bool (getV xs i).f) ∧ w'.cell? { block := (a.add (i.toNat * 4)).block, off := (a.add (i.toNat * 4)).off + 2 } = some (.int .i64 (getV xs i).n) ∧ w'.cell? { block := (a.add (i.toNat * 4)).block, off := (a.add (i.toNat * 4)).off + 3 } = some (.string (getV xs i).t) ∧ w'.cell? (b.add (j.toNat * 4)) = some (.int .i64 (getV ys j).k) ∧ w'.cell? { block := (b.add (j.toNat * 4)).block, off := (b.add (j.toNat * 4)).off + 1 } = some (.bool (getV ys j).f) ∧ w'.cell? { block := (b.add (j.toNat * 4)).block, off := (b.add (j.toNat * 4)).off + 2 } = some (.int .i64 (getV ys j).n) ∧ w'.cell? { block := (b.add (j.toNat * 4)).block, off := (b.add (j.toNat * 4)).off + 3 } = some (.string (getV ys j).t)) (go_keep)
              (first
                | (go_at_call 32; refine (ref_cmp (getV xs i) (getV ys j) _ (HT.out _ _ (getV_at xs i (by rw [← HN.out]; exact HI.out)))).mono ?_; rintro e w' ⟨rfl, hb2⟩; have hcl := fun (p : Addr) (hp : p.block < wr.heap.size + 1) => hb2.cell (p := p) (by simpa using hp); rw [HZ.out]))
            go_wp2
            go_roundw
            case rel =>
              refine ⟨k + 1, by omega, by go_num, ?_, pon (by have hB' := HB.out; repeat (first | assumption | apply Below.drew | apply below_drewN' | (refine pnew ?_ (Nat.le_refl _) _))) (Nat.le_refl _) hb2⟩
              rw [HC.out, pairs_drop _ _ _ _ _ HQ.out]
              unfold pairOk
              rw [← HN.out, ← HM.out, HI.out, HJ.out, HZ.out]
              rfl
            case measure => simp [intOf]; omega
          · go_wp2
            go_region_held3 (fun w' => w'.cell? ⟨wr.heap.size, 0, none⟩ = some (.int .i64 i) ∧ w'.cell? ⟨wr.heap.size, 1, none⟩ = some (.int .i64 j) ∧ w'.cell? (a.add (i.toNat * 4)) = some (.int .i64 (getV xs i).k) ∧ w'.cell? { block := (a.add (i.toNat * 4)).block, off := (a.add (i.toNat * 4)).off + 1 } = some (.bool (getV xs i).f) ∧ w'.cell? { block := (a.add (i.toNat * 4)).block, off := (a.add (i.toNat * 4)).off + 2 } = some (.int .i64 (getV xs i).n) ∧ w'.cell? { block := (a.add (i.toNat * 4)).block, off := (a.add (i.toNat * 4)).off + 3 } = some (.string (getV xs i).t) ∧ w'.cell? (b.add (j.toNat * 4)) = some (.int .i64 (getV ys j).k) ∧ w'.cell? { block := (b.add (j.toNat * 4)).block, off := (b.add (j.toNat * 4)).off + 1 } = some (.bool (getV ys j).f) ∧ w'.cell? { block := (b.add (j.toNat * 4)).block, off := (b.add (j.toNat * 4)).off + 2 } = some (.int .i64 (getV ys j).n) ∧ w'.cell? { block := (b.add (j.toNat * 4)).block, off := (b.add (j.toNat * 4)).off + 3 } = some (.string (getV ys j).t)) (go_keep)
              (first
                | (go_at_call 32; refine (ref_cmp (getV xs i) (getV ys j) _ (HT.out _ _ (getV_at xs i (by rw [← HN.out]; exact HI.out)))).mono ?_; rintro e w' ⟨rfl, hb2⟩; have hcl := fun (p : Addr) (hp : p.block < wr.heap.size + 1) => hb2.cell (p := p) (by simpa using hp)))
            go_wp2
            go_ret
            refine ⟨ret_bool ?_, pon (by have hB' := HB.out; repeat (first | assumption | apply Below.drew | apply below_drewN' | (refine pnew ?_ (Nat.le_refl _) _))) (Nat.le_refl _) hb2⟩
            rw [HC.out, pairs_drop _ _ _ _ _ HQ.out]
            unfold pairOk
            rw [← HN.out, ← HM.out, HI.out, HJ.out, beq_eq_false_iff_ne.2 hz]
            rfl
        · have HJ := Lib.hid hj
          clear hj
          have hi2 := HI.out
          unfold inR at hi2
          rw [Bool.and_eq_true, decide_eq_true_eq, decide_eq_true_eq] at hi2
          obtain ⟨i0, i1⟩ := hi2
          have d0 : decide (i < 0) = false := by simp; omega
          have d1 : decide ((n : Int) ≤ i) = false := by simp; omega
          by_cases j0 : j < 0
          · have d2 : decide (j < 0) = true := by simp; omega
            go_wp2
            go_quiet (fail)
            go_wp2
            go_ret
            refine ⟨ret_bool ?_, far_drewN HB.out hsz _ _⟩
            rw [HC.out, pairs_drop _ _ _ _ _ HQ.out]
            unfold pairOk
            rw [← HN.out, ← HM.out, HI.out, HJ.out]
            rfl
          · have d2 : decide (j < 0) = false := by simp; omega
            have j1 : (m : Int) ≤ j := by
              have hj2 := HJ.out
              unfold inR at hj2
              simp at hj2
              omega
            have d3 : decide ((m : Int) ≤ j) = true := by simp; omega
            go_wp2
            go_quiet (fail)
            go_wp2
            go_ret
            refine ⟨ret_bool ?_, far_drewN HB.out hsz _ _⟩
            rw [HC.out, pairs_drop _ _ _ _ _ HQ.out]
            unfold pairOk
            rw [← HN.out, ← HM.out, HI.out, HJ.out]
            rfl
      · have HI := Lib.hid hi
        clear hi
        by_cases i0 : i < 0
        · have d0 : decide (i < 0) = true := by simp; omega
          go_wp2
          go_quiet (fail)
          go_wp2
          go_ret
          refine ⟨ret_bool ?_, far_drewN HB.out hsz _ _⟩
          rw [HC.out, pairs_drop _ _ _ _ _ HQ.out]
          unfold pairOk
          rw [← HN.out, ← HM.out, HI.out]
          rfl
        · have d0 : decide (i < 0) = false := by simp; omega
          have i1 : (n : Int) ≤ i := by
            have hi2 := HI.out
            unfold inR at hi2
            simp at hi2
            omega
          have d1 : decide ((n : Int) ≤ i) = true := by simp; omega
          go_wp2
          go_quiet (fail)
          go_wp2
          go_ret
          refine ⟨ret_bool ?_, far_drewN HB.out hsz _ _⟩
          rw [HC.out, pairs_drop _ _ _ _ _ HQ.out]
          unfold pairOk
          rw [← HN.out, ← HM.out, HI.out]
          rfl
    · go_wp2
      go_ret
      refine ⟨ret_bool ?_, HB.out⟩
      rw [HC.out, List.drop_of_length_le (by rw [← HL.out]; omega)]
      rfl
end Go.Proofs.Ytlknhlemkbdgcaa
