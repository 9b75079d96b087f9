/-
  The document's own numbers in digits: at answers a digit, less tells which of two is nearer to 0; at all digits, in every world; nothing that was there is changed.
  No condition but that the digits are digits of base 2^16, and no more than twenty.
-/
import Derived.Test.YtdlimephkjihbaaVal
import Derived.Test.YtdlimephkjihbaaSbig
import Derived.Laws.Rows
import Derived.Deep.RegionHeld3
namespace Go.Proofs.Ytdlimephkjihbaa
open Go.RowKit

/-- A digit as the program holds it. -/
def dv (d : Nat) : Value := .int .u64 (d : Int)
/-- The digits ds lie at A, below block B. -/
def DigAt (w : World) (B : Nat) (A : Option Addr) (ds : List Nat) : Prop := ∀ (i : Nat) (d : Nat), ds[i]? = some d → ∃ a : Addr, A = some a ∧ (a.add i).block < B ∧ w.cell? (a.add i) = some (dv d)
theorem DigAt.below {w w' : World} {B : Nat} {A : Option Addr} {ds : List Nat} (h : DigAt w B A ds) (hb : Below B w w') : DigAt w' B A ds := by
  intro i c hi
  obtain ⟨a, ha, hlt, hc⟩ := h i c hi
  exact ⟨a, ha, hlt, (hb.cell hlt).trans hc⟩
theorem DigAt.more {w : World} {B B' : Nat} {A : Option Addr} {ds : List Nat} (h : DigAt w B A ds) (hB : B ≤ B') : DigAt w B' A ds := by
  intro i c hi
  obtain ⟨a, ha, hlt, hc⟩ := h i c hi
  exact ⟨a, ha, by omega, hc⟩
theorem DigAt.later {w w' : World} {A : Option Addr} {ds : List Nat} (h : DigAt w w.heap.size A ds) (hb : Below w.heap.size w w') : DigAt w' w'.heap.size A ds := (h.below hb).more hb.size

/-- The block g holds a number in digits. -/
def BBlk (w : World) (g : Nat) (ng : Bool) (v : Value) : Prop := w.heap[g]? = some (.cells #[.bool ng, v] 41 (0, 0))
theorem BBlk.cells {w : World} {g : Nat} {ng : Bool} {v : Value} (h : BBlk w g ng v) : w.cell? ⟨g, 0, none⟩ = some (.bool ng) ∧ w.cell? ⟨g, 1, none⟩ = some v :=
  ⟨by rw [cell_of_row w _ 0 _ _ _ h]; rfl, by rw [cell_of_row w _ 1 _ _ _ h]; rfl⟩
theorem BBlk.free {w : World} {g : Nat} {ng : Bool} {v : Value} (h : BBlk w g ng v) : w.frozen? ⟨g, 0, none⟩ = false ∧ w.frozen? ⟨g, 1, none⟩ = false := ⟨frozen_of_row w g 0 _ _ h, frozen_of_row w g 1 _ _ h⟩
theorem BBlk.lt {w : World} {g : Nat} {ng : Bool} {v : Value} (h : BBlk w g ng v) : g < w.heap.size := (Array.getElem?_eq_some_iff.1 h).1
theorem BBlk.below {w w' : World} {g B : Nat} {ng : Bool} {v : Value} (h : BBlk w g ng v) (hb : Below B w w') (hg : g < B) : BBlk w' g ng v := (hb.block g hg).trans h
theorem BBlk.new (w : World) (g : Nat) (ng : Bool) (v : Value) (hg : g = w.heap.size) : BBlk (w.alloc (.cells #[.bool ng, v] 41)) g ng v := by
  subst hg
  exact heap_alloc_new w _
theorem BBlk.alloc {w : World} {g : Nat} {ng : Bool} {v : Value} (h : BBlk w g ng v) (o : Obj) : BBlk (w.alloc o) g ng v := h.below (one_new w o) h.lt
theorem BBlk.set0 {w : World} {g : Nat} {ng : Bool} {v : Value} (h : BBlk w g ng v) (b : Bool) : BBlk (w.setCell ⟨g, 0, none⟩ (.bool b)) g b v := heap_setCell_same w g 0 _ _ _ h
theorem BBlk.set1 {w : World} {g : Nat} {ng : Bool} {v : Value} (h : BBlk w g ng v) (u : Value) : BBlk (w.setCell ⟨g, 1, none⟩ u) g ng u := heap_setCell_same w g 1 _ _ _ h
theorem BBlk.other {w : World} {g : Nat} {ng : Bool} {v : Value} (h : BBlk w g ng v) (a : Addr) (u : Value) (ha : g ≠ a.block) : BBlk (w.setCell a u) g ng v := by
  unfold BBlk
  rw [heap_setCell_other w a g u ha]
  exact h

set_option maxHeartbeats 1000000 in
theorem big_at (ng : Bool) (A : Option Addr) (ds : List Nat) (n c i : Nat) (w : World) (hn : n = ds.length) (hx : DigAt w w.heap.size A ds) :
    Calls Try.prog 61 #[.agg #[.bool ng, .slice A n c], .int .i64 (i : Int)] w fun e w' => e = .returned (.int .u64 (dg ds i : Nat)) ∧ Below w.heap.size w w' := by
  by_cases h1 : i < n
  · obtain ⟨d, hd⟩ : ∃ d, ds[i]? = some d := ⟨_, List.getElem?_eq_getElem (by omega)⟩
    have he : dg ds i = d := by
      unfold dg
      rw [List.getD_eq_getElem?_getD, hd]
      rfl
    rw [he]
    obtain ⟨a, rfl, ha, a0⟩ := hx i d hd
    have a1 : w.cell? (a.add i) = some (.int .u64 (d : Int)) := a0
    clear hd he hx a0 hn
    go_enter Try.func61, Try.ntmps61
    go_wp2
    go_ret
    exact ⟨rfl, one_new _ _⟩
  · have he : dg ds i = 0 := by
      unfold dg
      rw [List.getD_eq_getElem?_getD, List.getElem?_eq_none (by omega)]
      rfl
    rw [he]
    clear he hx hn
    go_enter Try.func61, Try.ntmps61
    go_wp2
    go_ret
    exact ⟨rfl, one_new _ _⟩

set_option maxRecDepth 100000 in
set_option maxHeartbeats 2000000 in
theorem big_less (na nb : Bool) (A B : Option Addr) (xs ys : List Nat) (n m c c' : Nat) (w : World) (hn : n = xs.length) (hm : m = ys.length) (ha : Dig xs) (hb : Dig ys) (hx : DigAt w w.heap.size A xs) (hy : DigAt w w.heap.size B ys) :
    Calls Try.prog 60 #[.agg #[.bool na, .slice A n c], .agg #[.bool nb, .slice B m c']] w fun e w' => e = .returned (.bool (decide (val xs < val ys))) ∧ Below w.heap.size w w' := by
  have HA := Lib.hid (fun k W (h : Below w.heap.size w W) => big_at na A xs n c k W hn (hx.later h))
  have HB := Lib.hid (fun k W (h : Below w.heap.size w W) => big_at nb B ys m c' k W hm (hy.later h))
  have DA := Lib.hid ha
  have DB := Lib.hid hb
  clear hn hm ha hb hx hy
  go_enter Try.func60, Try.ntmps60
  go_wp2
  go_loopw [5] (fun i wr => ∃ (z : Int) (k : Nat), i = .int .i64 z ∧ z = (k : Int) - 1 ∧ k ≤ 20 ∧ val (xs.drop k) = val (ys.drop k) ∧ BBlk wr w.heap.size na (.slice A n c) ∧ BBlk wr (w.heap.size + 1) nb (.slice B m c') ∧ Below w.heap.size w wr) (fun i _ => (intOf i + 1).toNat)
  case atStart => exact ⟨19, 20, rfl, by omega, by omega, by rw [val_end xs DA.out 20 (by omega), val_end ys DB.out 20 (by omega)], (BBlk.new w _ na _ rfl).alloc _, BBlk.new (w.alloc _) _ nb _ (by simp), two_new _ _ _⟩
  case round =>
    obtain ⟨z, k, rfl, hz, hk, hv, h1, h2, hbw⟩ := hrel
    have HV := Lib.hid hv
    have H1 := Lib.hid h1
    have H2 := Lib.hid h2
    have HBW := Lib.hid hbw
    obtain ⟨p0, p1⟩ := h1.cells
    obtain ⟨q0, q1⟩ := h2.cells
    have hsz : w.heap.size + 1 < wr.heap.size := h2.lt
    clear hv h1 h2 hbw
    by_cases hz0 : 0 ≤ z
    · obtain ⟨j, rfl⟩ : ∃ j, k = j + 1 := ⟨k - 1, by omega⟩
      obtain rfl : z = (j : Int) := by omega
      clear hz hz0
      have hx := HA.out j
      have hy := HB.out j
      obtain ⟨x, ex⟩ : ∃ x, dg xs j = x := ⟨_, rfl⟩
      obtain ⟨y, ey⟩ : ∃ y, dg ys j = y := ⟨_, rfl⟩
      rw [ex] at hx
      rw [ey] at hy
      have HXJ := Lib.hid hx
      have HYJ := Lib.hid hy
      have EX := Lib.hid ex
      have EY := Lib.hid ey
      clear hx hy ex ey
      by_cases hxy : x = y
      · subst hxy
        have HV2 := Lib.hid (val_same xs ys j HV.out (by rw [EX.out, EY.out]))
        go_wp2
        go_region_held3 (fun w' => w'.cell? ⟨w.heap.size, 0, none⟩ = some (.bool na) ∧ w'.cell? ⟨w.heap.size, 1, none⟩ = some (.slice A n c) ∧ w'.cell? ⟨w.heap.size + 1, 0, none⟩ = some (.bool nb) ∧ w'.cell? ⟨w.heap.size + 1, 1, none⟩ = some (.slice B m c')) (go_keep) (first
          | (go_at_call 61; ((with_reducible refine (HXJ.out _ ?_).mono ?_); exact HBW.out.drew; rintro e wa ⟨rfl, hba⟩; have HBa := Lib.hid (HBW.out.drew.trans (hba.mono (show w.heap.size ≤ wr.heap.size from by omega))); have HCa : Hid (Below wr.heap.size wr wa) := Lib.hid ((Below.refl _ wr).drew.trans hba); obtain ⟨p0, p1⟩ := (H1.out.below HCa.out (by omega)).cells; obtain ⟨q0, q1⟩ := (H2.out.below HCa.out hsz).cells; clear hba))
          | (go_at_call 61; refine (HYJ.out _ (by exact HBa.out)).mono ?_; rintro e wb ⟨rfl, hbb⟩; have HBb := Lib.hid (HBa.out.trans (hbb.mono HBa.out.size)); have HCb : Hid (Below wr.heap.size wr wb) := Lib.hid (HCa.out.trans (hbb.mono HCa.out.size)); obtain ⟨p0, p1⟩ := (H1.out.below HCb.out (by omega)).cells; obtain ⟨q0, q1⟩ := (H2.out.below HCb.out hsz).cells; clear hbb))
        all_goals
          go_wp2
          go_roundw
          case rel => exact ⟨(j : Int) - 1, j, rfl, rfl, by omega, HV2.out, H1.out.below HCb.out (by omega), H2.out.below HCb.out hsz, HBb.out⟩
          case measure => simp [intOf]
      · have hb1 : ((x : Int) != (y : Int)) = true := by
          simp only [bne_iff_ne, ne_eq]
          omega
        have hb2 : ((x : Int) == (y : Int)) = false := by
          rw [beq_eq_false_iff_ne]
          omega
        have hres : decide (val xs < val ys) = decide (x < y) := by
          rcases (show x < y ∨ y < x from by omega) with h | h
          · rw [decide_eq_true (val_less xs ys DA.out DB.out j (val_at xs ys j HV.out (by rw [EX.out, EY.out]; exact h))), decide_eq_true h]
          · have h2 := val_less ys xs DB.out DA.out j (val_at ys xs j HV.out.symm (by rw [EX.out, EY.out]; exact h))
            rw [decide_eq_false (by omega), decide_eq_false (by omega)]
        have HRes := Lib.hid hres
        clear hres hxy
        go_wp2
        go_region_held3 (fun w' => w'.cell? ⟨w.heap.size, 0, none⟩ = some (.bool na) ∧ w'.cell? ⟨w.heap.size, 1, none⟩ = some (.slice A n c) ∧ w'.cell? ⟨w.heap.size + 1, 0, none⟩ = some (.bool nb) ∧ w'.cell? ⟨w.heap.size + 1, 1, none⟩ = some (.slice B m c')) (go_keep) (first
          | (go_at_call 61; ((with_reducible refine (HXJ.out _ ?_).mono ?_); exact HBW.out.drew; rintro e wa ⟨rfl, hba⟩; have HBa := Lib.hid (HBW.out.drew.trans (hba.mono (show w.heap.size ≤ wr.heap.size from by omega))); have HCa : Hid (Below wr.heap.size wr wa) := Lib.hid ((Below.refl _ wr).drew.trans hba); obtain ⟨p0, p1⟩ := (H1.out.below HCa.out (by omega)).cells; obtain ⟨q0, q1⟩ := (H2.out.below HCa.out hsz).cells; clear hba))
          | (go_at_call 61; refine (HYJ.out _ (by exact HBa.out)).mono ?_; rintro e wb ⟨rfl, hbb⟩; have HBb := Lib.hid (HBa.out.trans (hbb.mono HBa.out.size)); have HCb : Hid (Below wr.heap.size wr wb) := Lib.hid (HCa.out.trans (hbb.mono HCa.out.size)); obtain ⟨p0, p1⟩ := (H1.out.below HCb.out (by omega)).cells; obtain ⟨q0, q1⟩ := (H2.out.below HCb.out hsz).cells; clear hbb))
        all_goals
          go_wp2
          go_region_held3 (fun w' => w'.cell? ⟨w.heap.size, 0, none⟩ = some (.bool na) ∧ w'.cell? ⟨w.heap.size, 1, none⟩ = some (.slice A n c) ∧ w'.cell? ⟨w.heap.size + 1, 0, none⟩ = some (.bool nb) ∧ w'.cell? ⟨w.heap.size + 1, 1, none⟩ = some (.slice B m c')) (go_keep) (first
            | (go_at_call 61; ((with_reducible refine (HXJ.out _ ?_).mono ?_); exact HBb.out.drew; rintro e wc ⟨rfl, hba⟩; have HBc := Lib.hid (HBb.out.drew.trans (hba.mono HBb.out.size)); have HCc : Hid (Below wr.heap.size wr wc) := Lib.hid (HCb.out.drew.trans (hba.mono HCb.out.size)); obtain ⟨p0, p1⟩ := (H1.out.below HCc.out (by omega)).cells; obtain ⟨q0, q1⟩ := (H2.out.below HCc.out hsz).cells; clear hba))
            | (go_at_call 61; refine (HYJ.out _ (by exact HBc.out)).mono ?_; rintro e wd ⟨rfl, hbb⟩; have HBd := Lib.hid (HBc.out.trans (hbb.mono HBc.out.size)); have HCd : Hid (Below wr.heap.size wr wd) := Lib.hid (HCc.out.trans (hbb.mono HCc.out.size)); obtain ⟨p0, p1⟩ := (H1.out.below HCd.out (by omega)).cells; obtain ⟨q0, q1⟩ := (H2.out.below HCd.out hsz).cells; clear hbb))
        all_goals
          go_wp2
          go_ret
          exact ⟨ret_bool (by rw [HRes.out]), HBd.out⟩
    · obtain rfl : k = 0 := by omega
      have hres : decide (val xs < val ys) = false := by
        have h := HV.out
        rw [List.drop_zero, List.drop_zero] at h
        rw [h]
        simp
      have HRes := Lib.hid hres
      clear hres
      go_wp2
      go_ret
      exact ⟨ret_bool HRes.out.symm, HBW.out⟩
end Go.Proofs.Ytdlimephkjihbaa
