/-
  Whether conditions hold of a row: the program's Holds and the document's, in every world; nothing that was there is changed.
  No condition but that a row and a list of conditions are no longer than a million, and texts no longer than they can be.
-/
import Derived.Test.YtpliofhphijdkaaTestr
import Derived.Test.YtpliofhphijdkaaRpick
import Derived.Test.YtpliofhphijdkaaTmem
import Derived.Deep.RegionHeld3
import Derived.BigQuiet
namespace Go.Proofs.Ytpliofhphijdkaa
open Go.RowKit

/-- A condition. -/
structure Cn where
  l : Int
  op : Int
  r : Int
  v : V
instance : Inhabited Cn := ⟨⟨0, 0, 0, ⟨0, false, 0, ⟨#[]⟩⟩⟩⟩
def Cn.cells (c : Cn) : List Value := [.int .i64 c.l, .int .i64 c.op, .int .i64 c.r, .int .i64 c.v.k, .bool c.v.f, .int .i64 c.v.n, .string c.v.t]
def CnAt (w : World) (q : Addr) (c : Cn) : Prop := w.cell? q = some (.int .i64 c.l) ∧ w.cell? { block := q.block, off := q.off + 1 } = some (.int .i64 c.op) ∧ w.cell? { block := q.block, off := q.off + 2 } = some (.int .i64 c.r) ∧ w.cell? { block := q.block, off := q.off + 3 } = some (.int .i64 c.v.k) ∧ w.cell? { block := q.block, off := q.off + 4 } = some (.bool c.v.f) ∧ w.cell? { block := q.block, off := q.off + 5 } = some (.int .i64 c.v.n) ∧ w.cell? { block := q.block, off := q.off + 6 } = some (.string c.v.t)
theorem CnAt.below {w w' : World} {q : Addr} {c : Cn} (h : CnAt w q c) (hb : Below w.heap.size w w') (hq : q.block < w.heap.size) : CnAt w' q c :=
  ⟨(hb.cell hq).trans h.1, (hb.cell (p := { block := q.block, off := q.off + 1 }) hq).trans h.2.1, (hb.cell (p := { block := q.block, off := q.off + 2 }) hq).trans h.2.2.1, (hb.cell (p := { block := q.block, off := q.off + 3 }) hq).trans h.2.2.2.1, (hb.cell (p := { block := q.block, off := q.off + 4 }) hq).trans h.2.2.2.2.1, (hb.cell (p := { block := q.block, off := q.off + 5 }) hq).trans h.2.2.2.2.2.1, (hb.cell (p := { block := q.block, off := q.off + 6 }) hq).trans h.2.2.2.2.2.2⟩
/-- Conditions lie at A. -/
def CnsAt (w : World) (A : Option Addr) (cs : List Cn) : Prop := ∀ (i : Nat) (c : Cn), cs[i]? = some c → ∃ a : Addr, A = some a ∧ (a.add (i * 7)).block < w.heap.size ∧ CnAt w (a.add (i * 7)) c ∧ c.v.t.size ≤ maxLen
theorem CnsAt.below {w w' : World} {A : Option Addr} {cs : List Cn} (h : CnsAt w A cs) (hb : Below w.heap.size w w') : CnsAt w' A cs := fun i c hi => by
  obtain ⟨a, h1, h2, h3, h4⟩ := h i c hi
  exact ⟨a, h1, Nat.lt_of_lt_of_le h2 hb.size, h3.below hb h2, h4⟩

/-- Does a condition hold of a row? -/
def holdsC (xs : List V) (c : Cn) : Bool :=
  inR xs.length c.l && if c.r < 0 then testI c.op (cmpV (getV xs c.l) c.v) else inR xs.length c.r && testI c.op (cmpV (getV xs c.l) (getV xs c.r))
def holdsL (xs : List V) (cs : List Cn) : Bool := cs.all (holdsC xs)

set_option maxHeartbeats 400000 in
theorem e_within (A : Option Addr) (n c : Nat) (z : Int) (w : World) : Calls Try.prog 57 #[.slice A n c, .int .i64 z] w fun e w' => e = .returned (.bool (inR n z)) ∧ w = w' := by
  by_cases h0 : 0 ≤ z
  · by_cases h1 : z < (n : Int)
    · go_enter Try.func57, Try.ntmps57
      go_wp2
      go_ret
      exact ⟨ret_bool (by simp [inR, h0, h1]), rfl⟩
    · go_enter Try.func57, Try.ntmps57
      go_wp2
      go_ret
      exact ⟨ret_bool (by simp [inR]; omega), rfl⟩
  · go_enter Try.func57, Try.ntmps57
    go_wp2
    go_ret
    exact ⟨ret_bool (by simp [inR]; omega), rfl⟩

theorem qleftp {P : Program} {f : FuncId} {args : Array Value} {w : World} {n : Nat} {v : Value} (h : Calls P f args (w.drewN n) fun e w' => e = .returned v ∧ w.drewN n = w') :
    Calls P f args (w.drewN n) fun e w'' => e = .returned v ∧ ∃ m, w'' = w.drewN m := h.mono fun _ _ ⟨he, hm⟩ => ⟨he, n, hm.symm⟩
theorem test_agg (op : Int) (a b : V) (W : World) : Calls Try.prog 58 #[.int .i64 op, .agg #[.int .i64 a.k, .bool a.f, .int .i64 a.n, .string a.t], .agg #[.int .i64 b.k, .bool b.f, .int .i64 b.n, .string b.t]] W fun e w' => e = .returned (.bool (testI op (cmpV a b))) ∧ Below W.heap.size W w' := test_val op a b W
theorem inR_iff (n : Nat) (z : Int) : inR n z = true ↔ 0 ≤ z ∧ z < (n : Int) := by
  unfold inR
  rw [Bool.and_eq_true, decide_eq_true_eq, decide_eq_true_eq]

set_option maxRecDepth 100000 in
set_option maxHeartbeats 4000000 in
theorem e_holds (A : Option Addr) (n c : Nat) (xs : List V) (cn : Cn) (w : World) (hn : n = xs.length) (hx : RowAt w w.heap.size A xs) :
    Calls Try.prog 43 #[.slice A n c, .agg #[.int .i64 cn.l, .int .i64 cn.op, .int .i64 cn.r, .int .i64 cn.v.k, .bool cn.v.f, .int .i64 cn.v.n, .string cn.v.t]] w fun e w' => e = .returned (.bool (holdsC xs cn)) ∧ Below w.heap.size w w' := by
  have hnew := one_new w (.cells #[.int .i64 cn.l, .int .i64 cn.op, .int .i64 cn.r, .int .i64 cn.v.k, .bool cn.v.f, .int .i64 cn.v.n, .string cn.v.t] 84)
  have HNEW := Lib.hid hnew
  rcases Bool.eq_false_or_eq_true (inR xs.length cn.l) with hin | hin
  rotate_left
  · have HP := Lib.hid (show holdsC xs cn = false by unfold holdsC; rw [hin]; rfl)
    rw [← hn] at hin
    have HI := Lib.hid hin
    clear hx hnew hin hn
    go_enter Try.func43, Try.ntmps43
    go_wp2_with fail
    refine (e_within _ _ _ _ _).mono ?_
    rintro e w1 ⟨rfl, rfl⟩
    rw [HI.out]
    go_wp2
    go_ret
    exact ⟨ret_bool HP.out.symm, HNEW.out⟩
  · obtain ⟨z0, z1⟩ := (inR_iff _ _).1 hin
    obtain ⟨a, rfl, ha, a0, a1, a2, a3⟩ := hx cn.l.toNat (getV xs cn.l) (getV_at xs cn.l hin)
    rw [← hn] at z1
    have z2 : cn.l.toNat < n := by omega
    have ca0 := (hnew.cell (p := a.add (cn.l.toNat * 4)) ha).trans a0
    have ca1 := (hnew.cell (p := { block := (a.add (cn.l.toNat * 4)).block, off := (a.add (cn.l.toNat * 4)).off + 1 }) ha).trans a1
    have ca2 := (hnew.cell (p := { block := (a.add (cn.l.toNat * 4)).block, off := (a.add (cn.l.toNat * 4)).off + 2 }) ha).trans a2
    have ca3 := (hnew.cell (p := { block := (a.add (cn.l.toNat * 4)).block, off := (a.add (cn.l.toNat * 4)).off + 3 }) ha).trans a3
    have HI := Lib.hid (show inR n cn.l = true by rw [hn]; exact hin)
    by_cases hr : cn.r < 0
    · have HP := Lib.hid (show holdsC xs cn = testI cn.op (cmpV (getV xs cn.l) cn.v) by unfold holdsC; rw [hin, if_pos hr]; rfl)
      have hd : decide (cn.r < 0) = true := decide_eq_true hr
      have HT := Lib.hid (fun W => test_agg cn.op (getV xs cn.l) cn.v W)
      have HA := Lib.hid ha
      clear hx hnew hin a0 a1 a2 a3 hn
      obtain ⟨w0, hw0⟩ : ∃ W, W = w.alloc (.cells #[.int .i64 cn.l, .int .i64 cn.op, .int .i64 cn.r, .int .i64 cn.v.k, .bool cn.v.f, .int .i64 cn.v.n, .string cn.v.t] 84) := ⟨_, rfl⟩
      have b0 : w0.cell? ⟨w.heap.size, 0, none⟩ = some (.int .i64 cn.l) := by rw [hw0]; exact alloc_new_cells _ _ _ _
      have b1 : w0.cell? ⟨w.heap.size, 1, none⟩ = some (.int .i64 cn.op) := by rw [hw0]; exact alloc_new_cells _ _ _ _
      have b3 : w0.cell? ⟨w.heap.size, 3, none⟩ = some (.int .i64 cn.v.k) := by rw [hw0]; exact alloc_new_cells _ _ _ _
      have b4 : w0.cell? ⟨w.heap.size, 4, none⟩ = some (.bool cn.v.f) := by rw [hw0]; exact alloc_new_cells _ _ _ _
      have b5 : w0.cell? ⟨w.heap.size, 5, none⟩ = some (.int .i64 cn.v.n) := by rw [hw0]; exact alloc_new_cells _ _ _ _
      have b6 : w0.cell? ⟨w.heap.size, 6, none⟩ = some (.string cn.v.t) := by rw [hw0]; exact alloc_new_cells _ _ _ _
      have hws : w0.heap.size = w.heap.size + 1 := by rw [hw0]; simp
      rw [← hw0] at HNEW ca0 ca1 ca2 ca3
      have HW0 := Lib.hid hw0
      clear hw0
      have hlt0 : w.heap.size < w0.heap.size := by omega
      have hlta : (a.add (cn.l.toNat * 4)).block < w0.heap.size := by have := HA.out; omega
      go_enter Try.func43, Try.ntmps43
      go_wp2_with fail
      refine (e_within _ _ _ _ _).mono ?_
      rintro e w1 ⟨rfl, rfl⟩
      rw [HI.out]
      go_wp2
      rw [← HW0.out]
      go_region_held3 (fun w' => (w'.cell? ⟨w.heap.size, 0, none⟩ = some (.int .i64 cn.l) ∧ w'.cell? ⟨w.heap.size, 1, none⟩ = some (.int .i64 cn.op) ∧ w'.cell? ⟨w.heap.size, 3, none⟩ = some (.int .i64 cn.v.k) ∧ w'.cell? ⟨w.heap.size, 4, none⟩ = some (.bool cn.v.f) ∧ w'.cell? ⟨w.heap.size, 5, none⟩ = some (.int .i64 cn.v.n) ∧ w'.cell? ⟨w.heap.size, 6, none⟩ = some (.string cn.v.t)) ∧ w'.cell? (a.add (cn.l.toNat * 4)) = some (.int .i64 (getV xs cn.l).k) ∧ w'.cell? { block := (a.add (cn.l.toNat * 4)).block, off := (a.add (cn.l.toNat * 4)).off + 1 } = some (.bool (getV xs cn.l).f) ∧ w'.cell? { block := (a.add (cn.l.toNat * 4)).block, off := (a.add (cn.l.toNat * 4)).off + 2 } = some (.int .i64 (getV xs cn.l).n) ∧ w'.cell? { block := (a.add (cn.l.toNat * 4)).block, off := (a.add (cn.l.toNat * 4)).off + 3 } = some (.string (getV xs cn.l).t)) (go_keep)
        (first
        | (go_at_call 58; refine (HT.out _).mono ?_; rintro x w3 ⟨rfl, hb3⟩; have k0 := (hb3.cell (p := ⟨w.heap.size, 0, none⟩) hlt0).trans b0; have k1 := (hb3.cell (p := ⟨w.heap.size, 1, none⟩) hlt0).trans b1; have k3 := (hb3.cell (p := ⟨w.heap.size, 3, none⟩) hlt0).trans b3; have k4 := (hb3.cell (p := ⟨w.heap.size, 4, none⟩) hlt0).trans b4; have k5 := (hb3.cell (p := ⟨w.heap.size, 5, none⟩) hlt0).trans b5; have k6 := (hb3.cell (p := ⟨w.heap.size, 6, none⟩) hlt0).trans b6; have m0 := (hb3.cell (p := a.add (cn.l.toNat * 4)) hlta).trans ca0; have m1 := (hb3.cell (p := { block := (a.add (cn.l.toNat * 4)).block, off := (a.add (cn.l.toNat * 4)).off + 1 }) hlta).trans ca1; have m2 := (hb3.cell (p := { block := (a.add (cn.l.toNat * 4)).block, off := (a.add (cn.l.toNat * 4)).off + 2 }) hlta).trans ca2; have m3 := (hb3.cell (p := { block := (a.add (cn.l.toNat * 4)).block, off := (a.add (cn.l.toNat * 4)).off + 3 }) hlta).trans ca3))
      have HBF := Lib.hid (HNEW.out.trans (((below_drew w0.heap.size w0).trans hb3).mono (by omega)))
      clear hb3
      go_wp2
      go_ret
      exact ⟨ret_bool HP.out.symm, HBF.out⟩
    · have hd : decide (cn.r < 0) = false := decide_eq_false hr
      obtain ⟨w0, hw0⟩ : ∃ W, W = w.alloc (.cells #[.int .i64 cn.l, .int .i64 cn.op, .int .i64 cn.r, .int .i64 cn.v.k, .bool cn.v.f, .int .i64 cn.v.n, .string cn.v.t] 84) := ⟨_, rfl⟩
      have b0 : w0.cell? ⟨w.heap.size, 0, none⟩ = some (.int .i64 cn.l) := by rw [hw0]; exact alloc_new_cells _ _ _ _
      have b1 : w0.cell? ⟨w.heap.size, 1, none⟩ = some (.int .i64 cn.op) := by rw [hw0]; exact alloc_new_cells _ _ _ _
      have b2 : w0.cell? ⟨w.heap.size, 2, none⟩ = some (.int .i64 cn.r) := by rw [hw0]; exact alloc_new_cells _ _ _ _
      have hws : w0.heap.size = w.heap.size + 1 := by rw [hw0]; simp
      have hlt0 : w.heap.size < w0.heap.size := by omega
      have hlta : (a.add (cn.l.toNat * 4)).block < w0.heap.size := by omega
      rcases Bool.eq_false_or_eq_true (inR xs.length cn.r) with hir | hir
      rotate_left
      · have HP := Lib.hid (show holdsC xs cn = false by unfold holdsC; rw [hin, if_neg hr, hir]; rfl)
        rw [← hn] at hir
        have HWI : Hid (∀ W, Calls Try.prog 57 #[.slice (some a) n c, .int .i64 cn.r] W fun e w' => e = .returned (.bool false) ∧ W = w') := Lib.hid (fun W => by have h := e_within (some a) n c cn.r W; rw [hir] at h; exact h)
        clear hx hnew hin hir hn a0 a1 a2 a3
        rw [← hw0] at HNEW ca0 ca1 ca2 ca3
        have HW0 := Lib.hid hw0
        clear hw0
        go_enter Try.func43, Try.ntmps43
        go_wp2_with fail
        refine (e_within _ _ _ _ _).mono ?_
        rintro e w1 ⟨rfl, rfl⟩
        rw [HI.out]
        go_wp2
        rw [← HW0.out]
        clear ca0 ca1 ca2 ca3 b0 b1 hlta z0 z1 z2 ha
        go_quiet ((go_at_call 57; exact qleftp (HWI.out _)))
        go_wp2
        go_ret
        exact ⟨ret_bool HP.out.symm, below_drewN' HNEW.out _⟩
      · have HP := Lib.hid (show holdsC xs cn = testI cn.op (cmpV (getV xs cn.l) (getV xs cn.r)) by unfold holdsC; rw [hin, if_neg hr, hir]; rfl)
        obtain ⟨y0, y1⟩ := (inR_iff _ _).1 hir
        obtain ⟨a5, ha5, hra, r0, r1, r2, r3⟩ := hx cn.r.toNat (getV xs cn.r) (getV_at xs cn.r hir)
        injection ha5 with ha5
        subst ha5
        rw [← hn] at y1
        have y2 : cn.r.toNat < n := by omega
        have cr0 := (hnew.cell (p := a.add (cn.r.toNat * 4)) hra).trans r0
        have cr1 := (hnew.cell (p := { block := (a.add (cn.r.toNat * 4)).block, off := (a.add (cn.r.toNat * 4)).off + 1 }) hra).trans r1
        have cr2 := (hnew.cell (p := { block := (a.add (cn.r.toNat * 4)).block, off := (a.add (cn.r.toNat * 4)).off + 2 }) hra).trans r2
        have cr3 := (hnew.cell (p := { block := (a.add (cn.r.toNat * 4)).block, off := (a.add (cn.r.toNat * 4)).off + 3 }) hra).trans r3
        have hltr : (a.add (cn.r.toNat * 4)).block < w0.heap.size := by omega
        rw [← hn] at hir
        have HWI : Hid (∀ W, Calls Try.prog 57 #[.slice (some a) n c, .int .i64 cn.r] W fun e w' => e = .returned (.bool true) ∧ W = w') := Lib.hid (fun W => by have h := e_within (some a) n c cn.r W; rw [hir] at h; exact h)
        have HT := Lib.hid (fun W => test_agg cn.op (getV xs cn.l) (getV xs cn.r) W)
        clear hx hnew hin hir hn a0 a1 a2 a3 r0 r1 r2 r3
        rw [← hw0] at HNEW ca0 ca1 ca2 ca3 cr0 cr1 cr2 cr3
        have HW0 := Lib.hid hw0
        clear hw0
        go_enter Try.func43, Try.ntmps43
        go_wp2_with fail
        refine (e_within _ _ _ _ _).mono ?_
        rintro e w1 ⟨rfl, rfl⟩
        rw [HI.out]
        go_wp2
        rw [← HW0.out]
        go_region_held3 (fun w' => (w'.cell? ⟨w.heap.size, 0, none⟩ = some (.int .i64 cn.l) ∧ w'.cell? ⟨w.heap.size, 1, none⟩ = some (.int .i64 cn.op) ∧ w'.cell? ⟨w.heap.size, 2, none⟩ = some (.int .i64 cn.r)) ∧ (w'.cell? (a.add (cn.l.toNat * 4)) = some (.int .i64 (getV xs cn.l).k) ∧ w'.cell? { block := (a.add (cn.l.toNat * 4)).block, off := (a.add (cn.l.toNat * 4)).off + 1 } = some (.bool (getV xs cn.l).f) ∧ w'.cell? { block := (a.add (cn.l.toNat * 4)).block, off := (a.add (cn.l.toNat * 4)).off + 2 } = some (.int .i64 (getV xs cn.l).n) ∧ w'.cell? { block := (a.add (cn.l.toNat * 4)).block, off := (a.add (cn.l.toNat * 4)).off + 3 } = some (.string (getV xs cn.l).t)) ∧ w'.cell? (a.add (cn.r.toNat * 4)) = some (.int .i64 (getV xs cn.r).k) ∧ w'.cell? { block := (a.add (cn.r.toNat * 4)).block, off := (a.add (cn.r.toNat * 4)).off + 1 } = some (.bool (getV xs cn.r).f) ∧ w'.cell? { block := (a.add (cn.r.toNat * 4)).block, off := (a.add (cn.r.toNat * 4)).off + 2 } = some (.int .i64 (getV xs cn.r).n) ∧ w'.cell? { block := (a.add (cn.r.toNat * 4)).block, off := (a.add (cn.r.toNat * 4)).off + 3 } = some (.string (getV xs cn.r).t)) (go_keep)
          (first
          | (go_at_call 57; refine (HWI.out _).mono ?_; rintro x w3 ⟨rfl, rfl⟩)
          | (go_at_call 58; refine (HT.out _).mono ?_; rintro x w3 ⟨rfl, hb3⟩; have k0 := (hb3.cell (p := ⟨w.heap.size, 0, none⟩) hlt0).trans b0; have k1 := (hb3.cell (p := ⟨w.heap.size, 1, none⟩) hlt0).trans b1; have k2 := (hb3.cell (p := ⟨w.heap.size, 2, none⟩) hlt0).trans b2; have m0 := (hb3.cell (p := a.add (cn.l.toNat * 4)) hlta).trans ca0; have m1 := (hb3.cell (p := { block := (a.add (cn.l.toNat * 4)).block, off := (a.add (cn.l.toNat * 4)).off + 1 }) hlta).trans ca1; have m2 := (hb3.cell (p := { block := (a.add (cn.l.toNat * 4)).block, off := (a.add (cn.l.toNat * 4)).off + 2 }) hlta).trans ca2; have m3 := (hb3.cell (p := { block := (a.add (cn.l.toNat * 4)).block, off := (a.add (cn.l.toNat * 4)).off + 3 }) hlta).trans ca3; have g0 := (hb3.cell (p := a.add (cn.r.toNat * 4)) hltr).trans cr0; have g1 := (hb3.cell (p := { block := (a.add (cn.r.toNat * 4)).block, off := (a.add (cn.r.toNat * 4)).off + 1 }) hltr).trans cr1; have g2 := (hb3.cell (p := { block := (a.add (cn.r.toNat * 4)).block, off := (a.add (cn.r.toNat * 4)).off + 2 }) hltr).trans cr2; have g3 := (hb3.cell (p := { block := (a.add (cn.r.toNat * 4)).block, off := (a.add (cn.r.toNat * 4)).off + 3 }) hltr).trans cr3))
        have HBF := Lib.hid (HNEW.out.trans (((below_drew w0.heap.size w0).trans hb3).mono (by omega)))
        clear hb3
        go_wp2
        go_ret
        exact ⟨ret_bool HP.out.symm, HBF.out⟩

/-! ### all conditions -/
def hitK (b : Bool) (z : Int) : Prop := (z < 0 ∧ b = false) ∨ (0 ≤ z ∧ b = true)

set_option maxHeartbeats 1000000 in
theorem e_cl (A : Option Addr) (n c p : Nat) (xs : List V) (cn : Cn) (w : World) (hn : n = xs.length) (hx : RowAt w w.heap.size A xs) (hp : p < w.heap.size) (hc : w.cell? ⟨p, 0, none⟩ = some (.slice A n c)) :
    Calls Try.prog 42 #[.agg #[.int .i64 cn.l, .int .i64 cn.op, .int .i64 cn.r, .int .i64 cn.v.k, .bool cn.v.f, .int .i64 cn.v.n, .string cn.v.t], .pointer (some ⟨p, 0, none⟩)] w fun e w' => e = .returned (.bool (!holdsC xs cn)) ∧ Below w.heap.size w w' := by
  have hnew := one_new w (.cells #[.int .i64 cn.l, .int .i64 cn.op, .int .i64 cn.r, .int .i64 cn.v.k, .bool cn.v.f, .int .i64 cn.v.n, .string cn.v.t] 84)
  have HH := Lib.hid (e_holds A n c xs cn (w.alloc (.cells #[.int .i64 cn.l, .int .i64 cn.op, .int .i64 cn.r, .int .i64 cn.v.k, .bool cn.v.f, .int .i64 cn.v.n, .string cn.v.t] 84)) hn ((RowQ.of hx (fun k hk => hk) |>.keep (Below.keepQ hnew (fun k => k < w.heap.size))).at))
  have HNEW := Lib.hid hnew
  generalize holdsC xs cn = b at *
  clear hx hnew hn
  go_enter Try.func42, Try.ntmps42
  go_wp2_with fail
  refine HH.out.mono ?_
  rintro e w1 ⟨rfl, hb1⟩
  have HB := Lib.hid (HNEW.out.trans (hb1.mono (by simp)))
  clear hb1
  go_wp2
  go_ret
  exact ⟨rfl, HB.out⟩

theorem any_drop_k (xs : List V) (cs : List Cn) (k : Nat) (d : Cn) (h : cs[k]? = some d) : (cs.drop k).any (fun d => !holdsC xs d) = ((!holdsC xs d) || (cs.drop (k + 1)).any (fun d => !holdsC xs d)) := by
  obtain ⟨h1, h2⟩ := List.getElem?_eq_some_iff.1 h
  rw [List.drop_eq_getElem_cons h1, h2]
  rfl

set_option maxRecDepth 100000 in
set_option maxHeartbeats 2000000 in
theorem e_index (A C : Option Addr) (n c m c' p : Nat) (xs : List V) (cs : List Cn) (w : World) (hn : n = xs.length) (hm : m = cs.length) (hl2 : m ≤ 1000000) (hx : RowAt w w.heap.size A xs) (hC : CnsAt w C cs) (hp : p < w.heap.size) (hc : w.cell? ⟨p, 0, none⟩ = some (.slice A n c)) :
    Calls Try.prog 56 #[.slice C m c', .func (.func 42) #[] #[.pointer (some ⟨p, 0, none⟩)]] w fun e w' => ∃ z : Int, e = .returned (.int .i64 z) ∧ hitK (cs.any fun d => !holdsC xs d) z ∧ Below w.heap.size w w' := by
  have HX := Lib.hid hx
  have HC := Lib.hid hC
  have HN := Lib.hid hn
  have HM := Lib.hid hm
  have HCP := Lib.hid hc
  have HP := Lib.hid (show ∀ (z : Int) (w' : World), hitK (cs.any fun d => !holdsC xs d) z → Below w.heap.size w w' → ∃ z' : Int, Ending.returned (.int .i64 z) = .returned (.int .i64 z') ∧ hitK (cs.any fun d => !holdsC xs d) z' ∧ Below w.heap.size w w' from fun z w' h1 h2 => ⟨z, rfl, h1, h2⟩)
  clear hx hC hn hm hc
  go_enter Try.func56, Try.ntmps56
  go_wp2
  go_loopw [8] (fun i wr => ∃ k : Nat, k ≤ m ∧ i = .int .i64 k ∧ Hid ((cs.any fun d => !holdsC xs d) = ((cs.drop k).any fun d => !holdsC xs d)) ∧ Below w.heap.size w wr) (fun i _ => m - (intOf i).toNat)
  case atStart => exact ⟨0, Nat.zero_le _, rfl, Lib.hid rfl, Below.refl _ _⟩
  case round =>
    obtain ⟨k, hk, rfl, HQ, hb⟩ := hrel
    have HB := Lib.hid hb
    have hsz : w.heap.size ≤ wr.heap.size := hb.size
    have hcw : wr.cell? ⟨p, 0, none⟩ = some (.slice A n c) := (hb.cell (p := ⟨p, 0, none⟩) hp).trans HCP.out
    by_cases h1 : k < m
    · obtain ⟨d, hd⟩ : ∃ d, cs[k]? = some d := ⟨_, List.getElem?_eq_getElem (by rw [← HM.out]; exact h1)⟩
      obtain ⟨a, rfl, ha, ⟨a0, a1, a2, a3, a4, a5, a6⟩, _⟩ := (HC.out.below hb) k d hd
      have HD := Lib.hid (any_drop_k xs cs k d hd)
      have HCL := Lib.hid (e_cl A n c p xs d wr HN.out ((RowQ.of HX.out (fun k hk => hk) |>.keep (Below.keepQ hb (fun k => k < w.heap.size))).at) (by omega) hcw)
      clear hd hb
      generalize holdsC xs d = b at *
      cases b with
      | false =>
        go_wp2_with fail
        refine HCL.out.mono ?_
        rintro e w' ⟨rfl, hb2⟩
        have HB2 := Lib.hid (HB.out.trans (hb2.mono hsz))
        clear hb2
        go_wp2
        go_ret
        exact HP.out _ _ (.inr ⟨by omega, by rw [HQ.out, HD.out]; rfl⟩) HB2.out
      | true =>
        go_wp2_with fail
        refine HCL.out.mono ?_
        rintro e w' ⟨rfl, hb2⟩
        have HB2 := Lib.hid (HB.out.trans (hb2.mono hsz))
        clear hb2
        go_wp2
        go_roundw
        case rel => exact ⟨k + 1, by omega, by go_num, Lib.hid (by rw [HQ.out, HD.out]; rfl), HB2.out⟩
        case measure => simp [intOf]; omega
    · go_wp2
      go_ret
      exact HP.out _ _ (.inl ⟨by omega, by rw [HQ.out, List.drop_of_length_le (by rw [← HM.out]; omega)]; rfl⟩) HB.out

theorem holds_any (xs : List V) (cs : List Cn) : (!cs.any fun d => !holdsC xs d) = holdsL xs cs := by
  unfold holdsL
  rw [List.not_any_eq_all_not]
  simp

set_option maxHeartbeats 1000000 in
theorem e_Holds (A C : Option Addr) (n c m c' : Nat) (xs : List V) (cs : List Cn) (w : World) (hn : n = xs.length) (hm : m = cs.length) (hl2 : m ≤ 1000000) (hx : RowAt w w.heap.size A xs) (hC : CnsAt w C cs) :
    Calls Try.prog 26 #[.slice A n c, .slice C m c'] w fun e w' => e = .returned (.bool (holdsL xs cs)) ∧ Below w.heap.size w w' := by
  have hnew := one_new w (.cells #[.slice A n c] 44)
  have hx2 := (RowQ.of hx (fun k hk => hk) |>.keep (Below.keepQ hnew (fun k => k < w.heap.size))).at
  have HF := Lib.hid (e_index A C n c m c' w.heap.size xs cs (w.alloc (.cells #[.slice A n c] 44)) hn hm hl2 hx2 (hC.below hnew) (by simp) (alloc_new_cells _ _ _ _))
  have HH := Lib.hid (holds_any xs cs)
  have HNEW := Lib.hid hnew
  clear hx hC hnew hx2 hn hm
  generalize (cs.any fun d => !holdsC xs d) = b at *
  have HFC : Hid (Calls Try.prog 41 #[.slice C m c', .func (.func 42) #[] #[.pointer (some ⟨w.heap.size, 0, none⟩)]] (w.alloc (.cells #[.slice A n c] 44)) fun e w' => e = .returned (.bool b) ∧ Below (w.alloc (.cells #[.slice A n c] 44)).heap.size (w.alloc (.cells #[.slice A n c] 44)) w') := Lib.hid (by
    clear HNEW HH
    generalize (w.alloc (.cells #[.slice A n c] 44)) = w0 at *
    generalize w.heap.size = p at *
    go_enter Try.func41, Try.ntmps41
    go_wp2_with fail
    refine HF.out.mono ?_
    rintro e w' ⟨z, rfl, hnw, hb⟩
    go_wp2
    go_ret
    refine ⟨ret_bool ?_, hb⟩
    rcases hnw with ⟨h, rfl⟩ | ⟨h, rfl⟩
    · simp; omega
    · simp; omega)
  go_enter Try.func26, Try.ntmps26
  go_wp2_with fail
  refine HFC.out.mono ?_
  rintro e w1 ⟨rfl, hb1⟩
  have HB := Lib.hid (HNEW.out.trans (hb1.mono (by simp)))
  clear hb1
  go_wp2
  go_ret
  exact ⟨ret_bool HH.out, HB.out⟩
end Go.Proofs.Ytpliofhphijdkaa
