/-
  Pairs of package row, and the document's own Pairs, tell whether the named cells of two rows go together, at every two rows, every list of pairs of places, and in every world; nothing that was there is changed.
  No condition but that rows, lists and texts are no longer than they can be.
-/
import Derived.Test.YtlknhlemkbdgcaaOf
import Derived.Deep.RegionHeld3
namespace Go.Proofs.Ytlknhlemkbdgcaa
open Go.RowKit

/-- The list of pairs ps lies at L, below block B. -/
def PairsAt (w : World) (B : Nat) (L : Option Addr) (ps : List (Int × Int)) : Prop := ∀ (i : Nat) (p : Int × Int), ps[i]? = some p → ∃ a : Addr, L = some a ∧ (a.add (i * 2)).block < B ∧ w.cell? (a.add (i * 2)) = some (.int .i64 p.1) ∧ w.cell? { block := (a.add (i * 2)).block, off := (a.add (i * 2)).off + 1 } = some (.int .i64 p.2)
theorem PairsAt.below {w w' : World} {B : Nat} {L : Option Addr} {ps : List (Int × Int)} (h : PairsAt w B L ps) (hb : Below B w w') : PairsAt w' B L ps := by
  intro i p hi
  obtain ⟨a, ha, hlt, h0, h1⟩ := h i p hi
  exact ⟨a, ha, hlt, (hb.cell hlt).trans h0, (hb.cell (p := { block := (a.add (i * 2)).block, off := (a.add (i * 2)).off + 1 }) hlt).trans h1⟩

/-- Do the cells at a pair of places go together? -/
def pairOk (xs ys : List V) (p : Int × Int) : Bool := inR xs.length p.1 && inR ys.length p.2 && (cmpV (getV xs p.1) (getV ys p.2) == 0)

theorem pairs_drop (xs ys : List V) (ps : List (Int × Int)) (k : Nat) (p : Int × Int) (h : ps[k]? = some p) : (ps.drop k).all (pairOk xs ys) = (pairOk xs ys p && (ps.drop (k + 1)).all (pairOk xs ys)) := by
  obtain ⟨h1, h2⟩ := List.getElem?_eq_some_iff.1 h
  rw [List.drop_eq_getElem_cons h1, h2]
  rfl

theorem qleft {P : Program} {f : FuncId} {args : Array Value} {w : World} {n : Nat} {v : Value} (h : Calls P f args (w.drewN n) fun e w' => e = .returned v ∧ w.drewN n = w') :
    Calls P f args (w.drewN n) fun e w'' => e = .returned v ∧ ∃ m, w'' = w.drewN m := h.mono fun _ _ ⟨he, hm⟩ => ⟨he, n, hm.symm⟩
theorem within_is (A : Option Addr) (n c : Nat) (z : Int) (b : Bool) (w : World) (h : inR n z = b) : Calls Try.prog 38 #[.slice A n c, .int .i64 z] w fun e w' => e = .returned (.bool b) ∧ w = w' := by
  subst h
  exact within A n c z w
theorem far_drewN {B : Nat} {w wr : World} (h : Below B w wr) (hB : B ≤ wr.heap.size) (o : Obj) (n : Nat) : Below B w ((wr.alloc o).drewN n) := below_drewN' (h.trans (one_new_far _ _ hB)) n
theorem far_on {B : Nat} {w wr w' : World} (h : Below B w wr) (hB : B ≤ wr.heap.size) (o : Obj) (n : Nat) (hb : Below (wr.heap.size + 1) ((wr.alloc o).drewN n) w') : Below B w w' := (far_drewN h hB o n).trans (hb.mono (by omega))

theorem pnew {B : Nat} {a w : World} (h : Below B a w) (hB : B ≤ a.heap.size) (o : Obj) : Below B a (w.alloc o) := h.alloc (Nat.le_trans hB h.size) o
theorem pon {B : Nat} {a b c : World} (h : Below B a b) (hB : B ≤ a.heap.size) (k : Below b.heap.size b c) : Below B a c := h.trans (k.mono (Nat.le_trans hB h.size))

set_option maxHeartbeats 2000000 in
theorem row_pairs (A B L : Option Addr) (xs ys : List V) (ps : List (Int × Int)) (n m l c c' c'' : Nat) (w : World) (hn : n = xs.length) (hm : m = ys.length) (hll : l = ps.length) (hl : l ≤ maxLen) (hx : RowAt w w.heap.size A xs) (hy : RowAt w w.heap.size B ys) (hp : PairsAt w w.heap.size L ps) :
    Calls Try.prog 21 #[.slice A n c, .slice B m c', .slice L l c''] w fun e w' => e = .returned (.bool (ps.all (pairOk xs ys))) ∧ Below w.heap.size w w' := by
  unfold maxLen at hl
  have HX := Lib.hid hx
  have HY := Lib.hid hy
  have HP := Lib.hid hp
  have HN := Lib.hid hn
  have HM := Lib.hid hm
  have HL := Lib.hid hll
  clear hx hy hn hm hp hll
  go_enter Try.func21, Try.ntmps21
  go_wp2
  go_loopw [11] (fun i wr => ∃ k : Nat, k ≤ l ∧ i = .int .i64 k ∧ ps.all (pairOk xs ys) = (ps.drop k).all (pairOk xs ys) ∧ Below w.heap.size w wr) (fun i _ => l - (intOf i).toNat)
  case atStart => exact ⟨0, Nat.zero_le _, rfl, rfl, Below.refl _ _⟩
  case round =>
    obtain ⟨k, hk, rfl, hc, hb⟩ := hrel
    have HC := Lib.hid hc
    have HB := Lib.hid hb
    have hsz : w.heap.size ≤ wr.heap.size := hb.size
    clear hc hb
    by_cases h1 : k < l
    · obtain ⟨p, hp⟩ : ∃ p, ps[k]? = some p := ⟨_, List.getElem?_eq_getElem (by rw [← HL.out]; exact h1)⟩
      obtain ⟨q, rfl, hq, q0, q1⟩ := (HP.out.below HB.out) k p hp
      have HQ := Lib.hid hp
      clear hp
      obtain ⟨i, j⟩ := p
      rcases Bool.eq_false_or_eq_true (inR n i) with hi | hi
      · have HI := Lib.hid hi
        clear hi
        rcases Bool.eq_false_or_eq_true (inR m j) with hj | hj
        · have HJ := Lib.hid hj
          clear hj
          have hi2 := HI.out
          have hj2 := HJ.out
          unfold inR at hi2 hj2
          rw [Bool.and_eq_true, decide_eq_true_eq, decide_eq_true_eq] at hi2 hj2
          obtain ⟨i0, i1⟩ := hi2
          obtain ⟨j0, j1⟩ := hj2
          obtain ⟨a, rfl, ha, a0, a1, a2, a3⟩ := (HX.out.below HB.out) i.toNat (getV xs i) (getV_at xs i (by rw [← HN.out]; exact HI.out))
          obtain ⟨b, rfl, hb, b0, b1, b2, b3⟩ := (HY.out.below HB.out) j.toNat (getV ys j) (getV_at ys j (by rw [← HM.out]; exact HJ.out))
          have ha' : (a.add (i.toNat * 4)).block < wr.heap.size := by omega
          have hb' : (b.add (j.toNat * 4)).block < wr.heap.size := by omega
          have ha2 : (a.add (i.toNat * 4)).block < wr.heap.size + 1 := by omega
          have hb2' : (b.add (j.toNat * 4)).block < wr.heap.size + 1 := by omega
          have hi3 : inR n i = true := HI.out
          have hj3 : inR m j = true := HJ.out
          by_cases hz : cmpV (getV xs i) (getV ys j) = 0
          · have HZ := Lib.hid hz
            clear hz
            go_wp2
            go_region_held3 (fun w' => w'.cell? ⟨wr.heap.size, 0, none⟩ = some (.int .i64 i) ∧ w'.cell? ⟨wr.heap.size, 1, none⟩ = some (.int .i64 j) ∧ w'.cell? (a.add (i.toNat * 4)) = some (.int .i64 (getV xs i).k) ∧ w'.cell? { block := (a.add (i.toNat * 4)).block, off := (a.add (i.toNat * 4)).off + 1 } = some (.bool (getV xs i).f) ∧ w'.cell? { block := (a.add (i.toNat * 4)).block, off := (a.add (i.toNat * 4)).off + 2 } = some (.int .i64 (getV xs i).n) ∧ w'.cell? { block := (a.add (i.toNat * 4)).block, off := (a.add (i.toNat * 4)).off + 3 } = some (.string (getV xs i).t) ∧ w'.cell? (b.add (j.toNat * 4)) = some (.int .i64 (getV ys j).k) ∧ w'.cell? { block := (b.add (j.toNat * 4)).block, off := (b.add (j.toNat * 4)).off + 1 } = some (.bool (getV ys j).f) ∧ w'.cell? { block := (b.add (j.toNat * 4)).block, off := (b.add (j.toNat * 4)).off + 2 } = some (.int .i64 (getV ys j).n) ∧ w'.cell? { block := (b.add (j.toNat * 4)).block, off := (b.add (j.toNat * 4)).off + 3 } = some (.string (getV ys j).t)) (go_keep)
              (first
                | (go_at_call 38; refine (within _ _ _ _ _).mono ?_; rintro e w' ⟨rfl, rfl⟩)
                | (go_at_call 31; refine (cmp_val (getV xs i) (getV ys j) _).mono ?_; rintro e w' ⟨rfl, hb2⟩; have hcl := fun (p : Addr) (hp : p.block < wr.heap.size + 1) => hb2.cell (p := p) (by simpa using hp); rw [HZ.out]))
            go_wp2
            go_roundw
            case rel =>
              refine ⟨k + 1, by omega, by go_num, ?_, pon (by have hB' := HB.out; repeat (first | assumption | apply Below.drew | apply below_drewN' | (refine pnew ?_ (Nat.le_refl _) _))) (Nat.le_refl _) hb2⟩
              rw [HC.out, pairs_drop _ _ _ _ _ HQ.out]
              unfold pairOk
              rw [← HN.out, ← HM.out, HI.out, HJ.out, HZ.out]
              rfl
            case measure => simp [intOf]; omega
          · go_wp2
            go_region_held3 (fun w' => w'.cell? ⟨wr.heap.size, 0, none⟩ = some (.int .i64 i) ∧ w'.cell? ⟨wr.heap.size, 1, none⟩ = some (.int .i64 j) ∧ w'.cell? (a.add (i.toNat * 4)) = some (.int .i64 (getV xs i).k) ∧ w'.cell? { block := (a.add (i.toNat * 4)).block, off := (a.add (i.toNat * 4)).off + 1 } = some (.bool (getV xs i).f) ∧ w'.cell? { block := (a.add (i.toNat * 4)).block, off := (a.add (i.toNat * 4)).off + 2 } = some (.int .i64 (getV xs i).n) ∧ w'.cell? { block := (a.add (i.toNat * 4)).block, off := (a.add (i.toNat * 4)).off + 3 } = some (.string (getV xs i).t) ∧ w'.cell? (b.add (j.toNat * 4)) = some (.int .i64 (getV ys j).k) ∧ w'.cell? { block := (b.add (j.toNat * 4)).block, off := (b.add (j.toNat * 4)).off + 1 } = some (.bool (getV ys j).f) ∧ w'.cell? { block := (b.add (j.toNat * 4)).block, off := (b.add (j.toNat * 4)).off + 2 } = some (.int .i64 (getV ys j).n) ∧ w'.cell? { block := (b.add (j.toNat * 4)).block, off := (b.add (j.toNat * 4)).off + 3 } = some (.string (getV ys j).t)) (go_keep)
              (first
                | (go_at_call 38; refine (within _ _ _ _ _).mono ?_; rintro e w' ⟨rfl, rfl⟩)
                | (go_at_call 31; refine (cmp_val (getV xs i) (getV ys j) _).mono ?_; rintro e w' ⟨rfl, hb2⟩; have hcl := fun (p : Addr) (hp : p.block < wr.heap.size + 1) => hb2.cell (p := p) (by simpa using hp)))
            go_wp2
            go_ret
            refine ⟨ret_bool ?_, pon (by have hB' := HB.out; repeat (first | assumption | apply Below.drew | apply below_drewN' | (refine pnew ?_ (Nat.le_refl _) _))) (Nat.le_refl _) hb2⟩
            rw [HC.out, pairs_drop _ _ _ _ _ HQ.out]
            unfold pairOk
            rw [← HN.out, ← HM.out, HI.out, HJ.out, beq_eq_false_iff_ne.2 hz]
            rfl
        · have HJ := Lib.hid hj
          clear hj
          go_wp2
          have hi3 : inR n i = true := HI.out
          have hj3 : inR m j = false := HJ.out
          go_quiet ((go_at_call 38; exact qleft (within _ _ _ _ _)))
          go_wp2
          go_ret
          refine ⟨ret_bool ?_, far_drewN HB.out hsz _ _⟩
          rw [HC.out, pairs_drop _ _ _ _ _ HQ.out]
          unfold pairOk
          rw [← HN.out, ← HM.out, HI.out, HJ.out]
          rfl
      · have HI := Lib.hid hi
        clear hi
        go_wp2
        have hi3 : inR n i = false := HI.out
        go_quiet ((go_at_call 38; exact qleft (within _ _ _ _ _)))
        go_wp2
        go_ret
        refine ⟨ret_bool ?_, far_drewN HB.out hsz _ _⟩
        rw [HC.out, pairs_drop _ _ _ _ _ HQ.out]
        unfold pairOk
        rw [← HN.out, ← HM.out, HI.out]
        rfl
    · go_wp2
      go_ret
      refine ⟨ret_bool ?_, HB.out⟩
      rw [HC.out, List.drop_of_length_le (by rw [← HL.out]; omega)]
      rfl
end Go.Proofs.Ytlknhlemkbdgcaa
