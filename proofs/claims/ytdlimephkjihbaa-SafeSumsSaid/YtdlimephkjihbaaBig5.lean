/-
  The document's own product of two numbers of 64 bits, in digits, answers the product; in every world, nothing that was there is changed.
  No condition but that both numbers have 64 bits.
-/
import Derived.Test.YtdlimephkjihbaaBig3
import Derived.RegionTactic
import Derived.BigRegion
import Derived.Laws.MakeOwn
namespace Go.Proofs.Ytdlimephkjihbaa
open Go.RowKit

/-- The block g holds the digits ds. -/
def DBlk (w : World) (g : Nat) (ds : List Nat) : Prop := w.heap[g]? = some (.cells (ds.map dv).toArray 34 (0, 0))
theorem DBlk.lt {w : World} {g : Nat} {ds : List Nat} (h : DBlk w g ds) : g < w.heap.size := (Array.getElem?_eq_some_iff.1 h).1
theorem DBlk.below {w w' : World} {g B : Nat} {ds : List Nat} (h : DBlk w g ds) (hb : Below B w w') (hg : g < B) : DBlk w' g ds := (hb.block g hg).trans h
theorem DBlk.cell {w : World} {g : Nat} {ds : List Nat} (h : DBlk w g ds) (i : Nat) (hi : i < ds.length) : w.cell? { block := g, off := i } = some (.int .u64 ((dg ds i : Nat) : Int)) := by
  rw [cell_of_row w g i _ _ _ h]
  rw [← Array.getElem?_toList]
  show (ds.map dv)[i]? = _
  rw [List.getElem?_map, List.getElem?_eq_getElem hi]
  unfold dg
  rw [List.getD_eq_getElem?_getD, List.getElem?_eq_getElem hi]
  rfl
theorem DBlk.free {w : World} {g : Nat} {ds : List Nat} (h : DBlk w g ds) (i : Nat) : w.frozen? { block := g, off := i } = false := frozen_of_row w g i _ _ h
theorem DBlk.set {w : World} {g : Nat} {ds : List Nat} (h : DBlk w g ds) (i d : Nat) : DBlk (w.setCell { block := g, off := i } (.int .u64 (d : Int))) g (ds.set i d) := by
  have h1 := heap_setCell_same w g i _ _ (.int .u64 (d : Int)) h
  unfold DBlk
  rw [h1]
  congr 2
  rw [List.map_set]
  simp [dv]
theorem DBlk.at {w : World} {g : Nat} {ds : List Nat} (h : DBlk w g ds) : DigAt w w.heap.size (some ⟨g, 0, none⟩) ds := by
  intro i d hi
  have hl := (List.getElem?_eq_some_iff.1 hi).1
  have e : (⟨g, 0, none⟩ : Addr).add i = { block := g, off := i } := by unfold Addr.add; split <;> simp_all
  refine ⟨_, rfl, by rw [e]; exact h.lt, ?_⟩
  rw [e, h.cell i hl]
  unfold dg dv
  rw [List.getD_eq_getElem?_getD, hi]
  rfl
theorem BBlk.keep {w : World} {g : Nat} {ng : Bool} {v : Value} (h : BBlk w g ng v) (a : Addr) (u : Value) (ha : g ≠ a.block) : BBlk (w.setCell a u) g ng v := h.other a u ha

/-- Twenty digits 0. -/
def zs20 : List Nat := List.replicate 20 0
def zeros : Array Value := (zs20.map dv).toArray
theorem mk20 (W : World) : (Instr.makeSlice 39 (.int .i64 20) (.int .i64 20)).run Try.prog W = .ok (.slice (some ⟨W.heap.size, 0, none⟩) 20 20) (W.alloc (.cells zeros 34)) := by
  obtain ⟨i, hi, hz, hsize, hby⟩ := info_parts info_D
  have h := run_make (P := Try.prog) W 39 34 i (.int .u64 0) Try.underlying39 hi hz .i64 .i64 20 20 (by omega) (by omega) (by rw [hby]; omega) (by omega)
  rw [hsize] at h
  have e : madeCells (Value.int .u64 0).cells (Int.toNat 20 * 1) = zeros := by kernel_rfl
  rw [e] at h
  exact h
theorem DBlk.new (w : World) (g : Nat) (hg : g = w.heap.size) : DBlk (w.alloc (.cells zeros 34)) g zs20 := by
  subst hg
  exact heap_alloc_new w _
theorem zs20_val : val zs20 = 0 := by decide
theorem zs20_len : zs20.length = 20 := by decide
theorem zs20_dig : ∀ d ∈ zs20, d < 65536 := by decide

theorem low_four (ds : List Nat) (h : val ds < 65536 ^ 4) (j : Nat) (hj : 4 ≤ j) : low ds j = val ds := by
  have h1 := val_split ds j
  rcases Nat.eq_zero_or_pos (val (ds.drop j)) with h0 | h0
  · rw [h0] at h1
    omega
  · have h2 : 65536 ^ 4 ≤ 65536 ^ j := Nat.pow_le_pow_right (by omega) hj
    have h3 := Nat.mul_le_mul_left (65536 ^ j) h0
    omega

theorem DBlk.alloc {w : World} {g : Nat} {ds : List Nat} (h : DBlk w g ds) (o : Obj) : DBlk (w.alloc o) g ds := h.below (one_new w o) h.lt
theorem DBlk.drew {w : World} {g : Nat} {ds : List Nat} (h : DBlk w g ds) : DBlk w.drew g ds := h
theorem BBlk.drew {w : World} {g : Nat} {ng : Bool} {v : Value} (h : BBlk w g ng v) : BBlk w.drew g ng v := h
theorem DBlk.other {w : World} {g : Nat} {ds : List Nat} (h : DBlk w g ds) (a : Addr) (u : Value) (ha : g ≠ a.block) : DBlk (w.setCell a u) g ds := by
  unfold DBlk
  rw [heap_setCell_other w a g u ha]
  exact h
theorem three_new' (w : World) (o p q : Obj) : Below w.heap.size w (((w.alloc o).alloc p).alloc q) := three_new w o p q
theorem sg_mul (na nb : Bool) (x y : Nat) : sg na x * sg nb y = sg (!(na == nb)) (x * y) := by
  cases na <;> cases nb <;> simp [sg, Int.neg_mul, Int.mul_neg, Int.neg_neg, Int.natCast_mul]
theorem sg_lt {ng : Bool} {u : Nat} {z : Int} (h : z = sg ng u) (hz : N64 z) : u < 65536 ^ 4 := by
  obtain ⟨h0, h1⟩ := hz
  unfold sg at h
  split at h <;> omega

/-- The product, digit by digit: the numbers that the two loops keep. -/
def TOut (xs ys out : List Nat) (i : Nat) : Prop := val out = low xs i * val ys
def TIn (xs ys out : List Nat) (i j cy : Nat) : Prop := val out + 65536 ^ (i + j) * cy = low xs i * val ys + 65536 ^ i * (dg xs i * low ys j)

theorem fresh_lit {w0 : World} {g n c : Nat} {ng : Bool} (hg : w0.heap.size ≤ g) : FreshB w0 (.agg #[.bool ng, .slice (some ⟨g, 0, none⟩) n c]) := by
  intro ng' A' n' c' hv a ha
  simp only [Value.agg.injEq, Array.mk.injEq, List.cons.injEq, Value.slice.injEq, and_true] at hv
  obtain ⟨_, rfl, _, _⟩ := hv
  injection ha with ha
  rw [← ha]
  exact hg
theorem box_under {w w1 : World} {o : Obj} (hb : Below (w.alloc o).heap.size (w.alloc o) w1) : Below w.heap.size w w1 := (one_new w o).trans (hb.mono (by simp))

set_option maxRecDepth 100000 in
set_option maxHeartbeats 8000000 in
theorem big_times (a b : Int) (ha : N64 a) (hb : N64 b) (w : World) : Calls Try.prog 26 #[.int .i64 a, .int .i64 b] w (GivesBig w (a * b)) := by
  have HA := Lib.hid (fun W => big_big a ha W)
  have HB := Lib.hid (fun W => big_big b hb W)
  have HaN := Lib.hid ha
  have HbN := Lib.hid hb
  have hmk := mk20
  go_enter Try.func26, Try.ntmps26
  go_wp2_with fail
  refine (HA.out _).mono ?_
  rintro e w1 ⟨v1, rfl, ⟨na, A, n, c, xs, rfl, hn, hx, hdx, hzx⟩, hb1, _⟩
  have HN := Lib.hid hn
  have HX := Lib.hid hx
  have HDX := Lib.hid hdx
  have HZX := Lib.hid hzx
  have HB1 := Lib.hid (box_under hb1)
  have KR1 := Lib.hid ((BBlk.new w w.heap.size false (.slice none 0 0) rfl).below hb1 (by simp))
  clear hn hx hdx hzx hb1
  go_wp2_with fail
  refine (HB.out _).mono ?_
  rintro e w2 ⟨v2, rfl, ⟨nb, B, m, c', ys, rfl, hm, hy, hdy, hzy⟩, hb2, _⟩
  have K1 := Lib.hid ((BBlk.new w1 w1.heap.size na (.slice A n c) rfl).below hb2 (by simp))
  have HKR := Lib.hid ((KR1.out.alloc (.cells #[.bool na, .slice A n c] 41)).below hb2 (by have h9 := KR1.out.lt; rw [World.size_alloc]; omega))
  have HM := Lib.hid hm
  have HY := Lib.hid hy
  have HDY := Lib.hid hdy
  have HZY := Lib.hid hzy
  have HX2 := Lib.hid ((HX.out.later (one_new _ _)).later hb2)
  have HB2 := Lib.hid (HB1.out.trans ((box_under hb2).mono HB1.out.size))
  clear hm hy hdy hzy hb2 ha hb
  obtain ⟨p0, p1⟩ := (K1.out.alloc (.cells #[.bool nb, .slice B m c'] 41)).cells
  obtain ⟨q0, q1⟩ := (BBlk.new w2 w2.heap.size nb (.slice B m c') rfl).cells
  have h12 : w1.heap.size < w2.heap.size := K1.out.lt
  have h13 : w1.heap.size < w2.heap.size + 1 := by omega
  have h14 : w1.heap.size < w2.heap.size + 1 + 1 := by omega
  have h15 : w1.heap.size < w2.heap.size + 1 + 1 + 1 := by omega
  obtain ⟨o0, o1⟩ := K1.out.cells
  have hnt : ∃ nt, (!(na == nb)) = nt := ⟨_, rfl⟩
  obtain ⟨nt, hnt⟩ := hnt
  have HNT := Lib.hid hnt
  have HXA := Lib.hid (fun k W (h : Below w2.heap.size w2 W) => big_at na A xs n c k W HN.out (HX2.out.later h))
  have HYA := Lib.hid (fun k W (h : Below w2.heap.size w2 W) => big_at nb B ys m c' k W HM.out (HY.out.later h))
  have HK2w := Lib.hid (BBlk.new w2 w2.heap.size nb (.slice B m c') rfl)
  have HLX : Hid (val xs < 65536 ^ 4) := Lib.hid (sg_lt HZX.out HaN.out)
  have HLY : Hid (val ys < 65536 ^ 4) := Lib.hid (sg_lt HZY.out HbN.out)
  have HNTE := Lib.hid hnt
  clear hnt
  go_wp2
  go_region
  all_goals clear hmk h13 h14 h15 o0 o1 p0 p1 q0 q1
  all_goals rw [HNTE.out]
  all_goals go_wp2
  ·
    go_loopw [8] (fun i wr => ∃ (k : Nat) (out : List Nat), k ≤ 4 ∧ i = .int .i64 k ∧ out.length = 20 ∧ (∀ d ∈ out, d < 65536) ∧ Hid (TOut xs ys out k) ∧ DBlk wr (w2.heap.size + 1) out ∧ BBlk wr (w2.heap.size + 1 + 1) nt (.slice (some ⟨w2.heap.size + 1, 0, none⟩) 20 20) ∧ BBlk wr w2.heap.size nb (.slice B m c') ∧ Below w2.heap.size w2 wr) (fun i _ => 4 - (intOf i).toNat)
    case atStart => exact ⟨0, zs20, by omega, rfl, zs20_len, zs20_dig, Lib.hid (by unfold TOut; rw [zs20_val]; simp [low, val]), ((DBlk.new (w2.alloc (.cells #[.bool nb, .slice B m c'] 41)) _ (by simp)).alloc _).drew, (BBlk.new ((w2.alloc (.cells #[.bool nb, .slice B m c'] 41)).alloc (.cells zeros 34)) _ nt _ (by simp)).drew, ((HK2w.out.alloc _).alloc _).drew, (three_new' w2 _ _ _).drew⟩
    case round =>
      obtain ⟨k, out, hk, rfl, hol, hod, hto, hd, hs, h2, hbw⟩ := hrel
      have HS0 := Lib.hid hs
      have H20 := Lib.hid h2
      have HD0 := Lib.hid hd
      have HBW0 := Lib.hid hbw
      have HOL0 := Lib.hid hol
      have HOD0 := Lib.hid hod
      clear hd hs h2 hbw hol hod
      by_cases h1 : k < 4
      · have hkd : decide ((k : Int) < 4) = true := by
          rw [decide_eq_true_eq]
          omega
        go_wp2
        go_loopw [9, 10] (fun cv jv wr => ∃ (j cy : Nat) (out : List Nat), j ≤ 12 ∧ jv = .int .i64 j ∧ cv = .int .u64 (cy : Int) ∧ cy ≤ 65535 ∧ out.length = 20 ∧ (∀ d ∈ out, d < 65536) ∧ Hid (TIn xs ys out k j cy) ∧ DBlk wr (w2.heap.size + 1) out ∧ BBlk wr (w2.heap.size + 1 + 1) nt (.slice (some ⟨w2.heap.size + 1, 0, none⟩) 20 20) ∧ BBlk wr w2.heap.size nb (.slice B m c') ∧ Below w2.heap.size w2 wr) (fun _ jv _ => 12 - (intOf jv).toNat)
        case atStart => exact ⟨0, 0, out, by omega, rfl, rfl, by omega, HOL0.out, HOD0.out, Lib.hid (by have h := hto.out; unfold TOut at h; unfold TIn; rw [h]; simp [low, val]), HD0.out, HS0.out, H20.out, HBW0.out⟩
        case round =>
          obtain ⟨j, cy, out', hj, rfl, rfl, hcy, hol, hod, hti, hd, hs, h2, hbw⟩ := hrel
          have HS := Lib.hid hs
          have HK2 := Lib.hid h2
          have HDD := Lib.hid hd
          have HBW := Lib.hid hbw
          have HK1 := Lib.hid (K1.out.below hbw K1.out.lt)
          have HOL := Lib.hid hol
          have HOD := Lib.hid hod
          obtain ⟨_, s1⟩ := hs.cells
          obtain ⟨q0, q1⟩ := h2.cells
          obtain ⟨p0, p1⟩ := HK1.out.cells
          clear hs h2 hbw hod
          by_cases h2 : j < 12
          · have hkj : k + j < out'.length := by omega
            have hx := HXA.out k
            have hy := HYA.out j
            have hxl := dg_lt xs HDX.out k
            have hyl := dg_lt ys HDY.out j
            have hoj : dg out' (k + j) < 65536 := dg_lt out' ⟨by omega, HOD.out⟩ (k + j)
            have hstep := mul_step out' ys (dg xs k) k j cy (low xs k * val ys) hkj hti.out
            have hcell := hd.cell (k + j) hkj
            obtain ⟨x, ex⟩ : ∃ x, dg xs k = x := ⟨_, rfl⟩
            obtain ⟨y, ey⟩ : ∃ y, dg ys j = y := ⟨_, rfl⟩
            obtain ⟨o, eo⟩ : ∃ o, dg out' (k + j) = o := ⟨_, rfl⟩
            rw [ex] at hx hxl
            rw [ey] at hy hyl
            rw [eo] at hcell hoj
            rw [ex, ey, eo] at hstep
            have HDC : Hid (∀ W, Below wr.heap.size wr W → W.cell? { block := w2.heap.size + 1, off := k + j } = some (.int .u64 (o : Int))) := Lib.hid (fun W h => (h.cell (p := { block := w2.heap.size + 1, off := k + j }) hd.lt).trans hcell)
            have HXJ := Lib.hid hx
            have HYJ := Lib.hid hy
            have hxy : x * y ≤ 65535 * 65535 := Nat.mul_le_mul (by omega) (by omega)
            have hD1 : o + x * y + cy < 4294967296 := by omega
            obtain ⟨P, hP⟩ : ∃ P, x * y = P := ⟨_, rfl⟩
            have hPi : (x : Int) * (y : Int) = (P : Int) := by rw [← hP]; rfl
            rw [hP] at hxy hD1 hstep
            have hw1 : IntKind.u64.wrap ((x : Int) * (y : Int)) = (P : Int) := by rw [hPi]; exact wrap_small _ (by omega) (by omega)
            have hw2 : IntKind.u64.wrap ((o : Int) + (P : Int)) = (o : Int) + (P : Int) := wrap_small _ (by omega) (by omega)
            have hw3 : IntKind.u64.wrap ((o : Int) + (P : Int) + (cy : Int)) = (o : Int) + (P : Int) + (cy : Int) := wrap_small _ (by omega) (by omega)
            have hi1 : IntKind.i64.wrap ((k : Int) + (j : Int)) = (k : Int) + (j : Int) := IntWalk.i64_in _ (by omega)
            have hi2 : (0 : Int) ≤ (k : Int) + (j : Int) := by omega
            have hi3 : ((k : Int) + (j : Int)).toNat = k + j := by omega
            have hi4 : (k : Int) + (j : Int) < 20 := by omega
            have HSt : Hid (∀ D, o + P + cy = D → TIn xs ys (out'.set (k + j) (D % 65536)) k (j + 1) (D / 65536)) := Lib.hid (by
              intro D hD
              unfold TIn
              rw [ex, ← hD]
              exact hstep)
            have d0 := hcell
            clear hx hy ex ey eo hstep hd hP hcell
            go_wp2
            go_region_held3 (fun w' => w'.cell? ⟨w2.heap.size + 1 + 1, 1, none⟩ = some (.slice (some ⟨w2.heap.size + 1, 0, none⟩) 20 20) ∧ w'.cell? ⟨w1.heap.size, 0, none⟩ = some (.bool na) ∧ w'.cell? ⟨w1.heap.size, 1, none⟩ = some (.slice A n c) ∧ w'.cell? ⟨w2.heap.size, 0, none⟩ = some (.bool nb) ∧ w'.cell? ⟨w2.heap.size, 1, none⟩ = some (.slice B m c') ∧ w'.cell? { block := w2.heap.size + 1, off := k + j } = some (.int .u64 (o : Int))) (go_keep) (first
              | (go_at_call 61; ((with_reducible refine (HXJ.out _ ?_).mono ?_); exact HBW.out.drew; rintro e wa ⟨rfl, hba⟩; have HBa := Lib.hid (HBW.out.drew.trans (hba.mono HBW.out.size)); have HCa : Hid (Below wr.heap.size wr wa) := Lib.hid ((Below.refl _ wr).drew.trans hba); obtain ⟨_, s1⟩ := (HS.out.below HCa.out HS.out.lt).cells; obtain ⟨p0, p1⟩ := (HK1.out.below HCa.out HK1.out.lt).cells; obtain ⟨q0, q1⟩ := (HK2.out.below HCa.out HK2.out.lt).cells; have d0 := HDC.out _ HCa.out; clear hba))
              | (go_at_call 61; refine (HYJ.out _ (by exact HBa.out)).mono ?_; rintro e wb ⟨rfl, hbb⟩; have HBb := Lib.hid (HBa.out.trans (hbb.mono HBa.out.size)); have HCb : Hid (Below wr.heap.size wr wb) := Lib.hid (HCa.out.trans (hbb.mono HCa.out.size)); obtain ⟨_, s1⟩ := (HS.out.below HCb.out HS.out.lt).cells; obtain ⟨p0, p1⟩ := (HK1.out.below HCb.out HK1.out.lt).cells; obtain ⟨q0, q1⟩ := (HK2.out.below HCb.out HK2.out.lt).cells; have d0 := HDC.out _ HCb.out; clear hbb))
            obtain ⟨D, hD⟩ : ∃ D, o + P + cy = D := ⟨_, rfl⟩
            have hDa : (o : Int) + (P : Int) + (cy : Int) = (D : Int) := by omega
            have hP0 : IntKind.u64.wrap (P : Int) = (P : Int) := wrap_small _ (by omega) (by omega)
            have hDb : IntKind.u64.wrap (IntKind.u64.wrap ((o : Int) + IntKind.u64.wrap (P : Int)) + (cy : Int)) = (D : Int) := by rw [hP0, hw2, hw3, hDa]
            first | rw [hDb] | rw [hDa]
            rw [hD] at hD1
            have hDc : D / 65536 ≤ 65535 := by omega
            clear hw1 hw2 hw3 hDa hDb hP0 hPi
            have HD := Lib.hid hD
            have HDb := Lib.hid (HDD.out.below HCb.out HDD.out.lt)
            have dfr := HDb.out.free (k + j)
            clear hD
            go_wp2
            go_roundw
            case rel =>
              refine ⟨j + 1, D / 65536, out'.set (k + j) (D % 65536), by omega, by go_num, ?_, hDc, by rw [List.length_set]; exact HOL.out, dig_set HOD.out (by omega), Lib.hid (HSt.out D HD.out), ?_, ?_, ?_, ?_⟩
              · first | exact cell_div D | exact cell_divw D (by omega)
              · have h := HDb.out.set (k + j) (D % 65536)
                rw [Int.natCast_emod] at h
                exact h
              · exact (HS.out.below HCb.out HS.out.lt).other _ _ (by first | (simp; done) | (simp; omega))
              · exact (HK2.out.below HCb.out HK2.out.lt).other _ _ (by first | (simp; done) | (simp; omega))
              · exact HBb.out.setCell (by first | (simp; done) | (simp; omega)) _
            case measure => simp [intOf]; omega
          · obtain rfl : j = 12 := by omega
            have hto' : TOut xs ys out' (k + 1) := by
              unfold TOut
              exact mul_end out' ys (low xs k) (low xs (k + 1)) (dg xs k) k cy HLY.out (low_four ys HLY.out 12 (by omega)) (low_succ xs k) (low_lt xs HDX.out.2 (k + 1)) hti.out
            have HTO := Lib.hid hto'
            clear hto'
            go_wp2
            go_roundw
            case rel => exact ⟨k + 1, out', by omega, by go_num, HOL.out, HOD.out, HTO, HDD.out, HS.out, HK2.out, HBW.out⟩
            case measure => simp [intOf]; omega
      · obtain rfl : k = 4 := by omega
        have HR := Lib.hid (HKR.out.below HBW0.out HKR.out.lt)
        obtain ⟨s0, s1⟩ := HS0.out.cells
        obtain ⟨y0, y1⟩ := HR.out.cells
        obtain ⟨e0, e1⟩ := HR.out.free
        have hz : a * b = sg nt (val out) := by
          have h := hto.out
          unfold TOut at h
          rw [low_four xs HLX.out 4 (by omega)] at h
          rw [h, HZX.out, HZY.out, ← HNT.out]
          exact sg_mul na nb _ _
        have HZ := Lib.hid hz
        have hdd := HD0.out
        clear hz
        go_wp2
        obtain ⟨r0, r1⟩ := ((HR.out.set0 nt).set1 (.slice (some ⟨w2.heap.size + 1, 0, none⟩) 20 20)).cells
        refine bodyPost_ret (v := .agg #[.bool nt, (.slice (some ⟨w2.heap.size + 1, 0, none⟩) 20 20)]) (by simp [results, Try.results26, r0, r1, go_sem]) rfl ⟨_, rfl, ⟨nt, some ⟨w2.heap.size + 1, 0, none⟩, 20, 20, out, rfl, HOL0.out.symm, ?_, ⟨by rw [HOL0.out]; omega, HOD0.out⟩, HZ.out⟩, ?_, ?_⟩
        · have hlt := HKR.out.lt
          exact ((HD0.out.other ⟨w.heap.size, 0, none⟩ (.bool nt) (by simp; omega)).other ⟨w.heap.size, 1, none⟩ (.slice (some ⟨w2.heap.size + 1, 0, none⟩) 20 20) (by simp; omega)).at
        · exact ((HB2.out.trans (HBW0.out.mono HB2.out.size)).setCell (Nat.le_refl _) _).setCell (Nat.le_refl _) _
        · exact fresh_lit (by have := HB2.out.size; omega)
  ·
    go_loopw [8] (fun i wr => ∃ (k : Nat) (out : List Nat), k ≤ 4 ∧ i = .int .i64 k ∧ out.length = 20 ∧ (∀ d ∈ out, d < 65536) ∧ Hid (TOut xs ys out k) ∧ DBlk wr (w2.heap.size + 1 + 1) out ∧ BBlk wr (w2.heap.size + 1) nt (.slice (some ⟨w2.heap.size + 1 + 1, 0, none⟩) 20 20) ∧ BBlk wr w2.heap.size nb (.slice B m c') ∧ Below w2.heap.size w2 wr) (fun i _ => 4 - (intOf i).toNat)
    case atStart => exact ⟨0, zs20, by omega, rfl, zs20_len, zs20_dig, Lib.hid (by unfold TOut; rw [zs20_val]; simp [low, val]), (DBlk.new ((w2.alloc (.cells #[.bool nb, .slice B m c'] 41)).alloc (.cells #[.bool nt, .slice (some ⟨w2.heap.size + 1 + 1, 0, none⟩) 20 20] 41)) _ (by simp)).drew, ((BBlk.new (w2.alloc (.cells #[.bool nb, .slice B m c'] 41)) _ nt _ (by simp)).alloc _).drew, ((HK2w.out.alloc _).alloc _).drew, (three_new' w2 _ _ _).drew⟩
    case round =>
      obtain ⟨k, out, hk, rfl, hol, hod, hto, hd, hs, h2, hbw⟩ := hrel
      have HS0 := Lib.hid hs
      have H20 := Lib.hid h2
      have HD0 := Lib.hid hd
      have HBW0 := Lib.hid hbw
      have HOL0 := Lib.hid hol
      have HOD0 := Lib.hid hod
      clear hd hs h2 hbw hol hod
      by_cases h1 : k < 4
      · have hkd : decide ((k : Int) < 4) = true := by
          rw [decide_eq_true_eq]
          omega
        go_wp2
        go_loopw [9, 10] (fun cv jv wr => ∃ (j cy : Nat) (out : List Nat), j ≤ 12 ∧ jv = .int .i64 j ∧ cv = .int .u64 (cy : Int) ∧ cy ≤ 65535 ∧ out.length = 20 ∧ (∀ d ∈ out, d < 65536) ∧ Hid (TIn xs ys out k j cy) ∧ DBlk wr (w2.heap.size + 1 + 1) out ∧ BBlk wr (w2.heap.size + 1) nt (.slice (some ⟨w2.heap.size + 1 + 1, 0, none⟩) 20 20) ∧ BBlk wr w2.heap.size nb (.slice B m c') ∧ Below w2.heap.size w2 wr) (fun _ jv _ => 12 - (intOf jv).toNat)
        case atStart => exact ⟨0, 0, out, by omega, rfl, rfl, by omega, HOL0.out, HOD0.out, Lib.hid (by have h := hto.out; unfold TOut at h; unfold TIn; rw [h]; simp [low, val]), HD0.out, HS0.out, H20.out, HBW0.out⟩
        case round =>
          obtain ⟨j, cy, out', hj, rfl, rfl, hcy, hol, hod, hti, hd, hs, h2, hbw⟩ := hrel
          have HS := Lib.hid hs
          have HK2 := Lib.hid h2
          have HDD := Lib.hid hd
          have HBW := Lib.hid hbw
          have HK1 := Lib.hid (K1.out.below hbw K1.out.lt)
          have HOL := Lib.hid hol
          have HOD := Lib.hid hod
          obtain ⟨_, s1⟩ := hs.cells
          obtain ⟨q0, q1⟩ := h2.cells
          obtain ⟨p0, p1⟩ := HK1.out.cells
          clear hs h2 hbw hod
          by_cases h2 : j < 12
          · have hkj : k + j < out'.length := by omega
            have hx := HXA.out k
            have hy := HYA.out j
            have hxl := dg_lt xs HDX.out k
            have hyl := dg_lt ys HDY.out j
            have hoj : dg out' (k + j) < 65536 := dg_lt out' ⟨by omega, HOD.out⟩ (k + j)
            have hstep := mul_step out' ys (dg xs k) k j cy (low xs k * val ys) hkj hti.out
            have hcell := hd.cell (k + j) hkj
            obtain ⟨x, ex⟩ : ∃ x, dg xs k = x := ⟨_, rfl⟩
            obtain ⟨y, ey⟩ : ∃ y, dg ys j = y := ⟨_, rfl⟩
            obtain ⟨o, eo⟩ : ∃ o, dg out' (k + j) = o := ⟨_, rfl⟩
            rw [ex] at hx hxl
            rw [ey] at hy hyl
            rw [eo] at hcell hoj
            rw [ex, ey, eo] at hstep
            have HDC : Hid (∀ W, Below wr.heap.size wr W → W.cell? { block := w2.heap.size + 1 + 1, off := k + j } = some (.int .u64 (o : Int))) := Lib.hid (fun W h => (h.cell (p := { block := w2.heap.size + 1 + 1, off := k + j }) hd.lt).trans hcell)
            have HXJ := Lib.hid hx
            have HYJ := Lib.hid hy
            have hxy : x * y ≤ 65535 * 65535 := Nat.mul_le_mul (by omega) (by omega)
            have hD1 : o + x * y + cy < 4294967296 := by omega
            obtain ⟨P, hP⟩ : ∃ P, x * y = P := ⟨_, rfl⟩
            have hPi : (x : Int) * (y : Int) = (P : Int) := by rw [← hP]; rfl
            rw [hP] at hxy hD1 hstep
            have hw1 : IntKind.u64.wrap ((x : Int) * (y : Int)) = (P : Int) := by rw [hPi]; exact wrap_small _ (by omega) (by omega)
            have hw2 : IntKind.u64.wrap ((o : Int) + (P : Int)) = (o : Int) + (P : Int) := wrap_small _ (by omega) (by omega)
            have hw3 : IntKind.u64.wrap ((o : Int) + (P : Int) + (cy : Int)) = (o : Int) + (P : Int) + (cy : Int) := wrap_small _ (by omega) (by omega)
            have hi1 : IntKind.i64.wrap ((k : Int) + (j : Int)) = (k : Int) + (j : Int) := IntWalk.i64_in _ (by omega)
            have hi2 : (0 : Int) ≤ (k : Int) + (j : Int) := by omega
            have hi3 : ((k : Int) + (j : Int)).toNat = k + j := by omega
            have hi4 : (k : Int) + (j : Int) < 20 := by omega
            have HSt : Hid (∀ D, o + P + cy = D → TIn xs ys (out'.set (k + j) (D % 65536)) k (j + 1) (D / 65536)) := Lib.hid (by
              intro D hD
              unfold TIn
              rw [ex, ← hD]
              exact hstep)
            have d0 := hcell
            clear hx hy ex ey eo hstep hd hP hcell
            go_wp2
            go_region_held3 (fun w' => w'.cell? ⟨w2.heap.size + 1, 1, none⟩ = some (.slice (some ⟨w2.heap.size + 1 + 1, 0, none⟩) 20 20) ∧ w'.cell? ⟨w1.heap.size, 0, none⟩ = some (.bool na) ∧ w'.cell? ⟨w1.heap.size, 1, none⟩ = some (.slice A n c) ∧ w'.cell? ⟨w2.heap.size, 0, none⟩ = some (.bool nb) ∧ w'.cell? ⟨w2.heap.size, 1, none⟩ = some (.slice B m c') ∧ w'.cell? { block := w2.heap.size + 1 + 1, off := k + j } = some (.int .u64 (o : Int))) (go_keep) (first
              | (go_at_call 61; ((with_reducible refine (HXJ.out _ ?_).mono ?_); exact HBW.out.drew; rintro e wa ⟨rfl, hba⟩; have HBa := Lib.hid (HBW.out.drew.trans (hba.mono HBW.out.size)); have HCa : Hid (Below wr.heap.size wr wa) := Lib.hid ((Below.refl _ wr).drew.trans hba); obtain ⟨_, s1⟩ := (HS.out.below HCa.out HS.out.lt).cells; obtain ⟨p0, p1⟩ := (HK1.out.below HCa.out HK1.out.lt).cells; obtain ⟨q0, q1⟩ := (HK2.out.below HCa.out HK2.out.lt).cells; have d0 := HDC.out _ HCa.out; clear hba))
              | (go_at_call 61; refine (HYJ.out _ (by exact HBa.out)).mono ?_; rintro e wb ⟨rfl, hbb⟩; have HBb := Lib.hid (HBa.out.trans (hbb.mono HBa.out.size)); have HCb : Hid (Below wr.heap.size wr wb) := Lib.hid (HCa.out.trans (hbb.mono HCa.out.size)); obtain ⟨_, s1⟩ := (HS.out.below HCb.out HS.out.lt).cells; obtain ⟨p0, p1⟩ := (HK1.out.below HCb.out HK1.out.lt).cells; obtain ⟨q0, q1⟩ := (HK2.out.below HCb.out HK2.out.lt).cells; have d0 := HDC.out _ HCb.out; clear hbb))
            obtain ⟨D, hD⟩ : ∃ D, o + P + cy = D := ⟨_, rfl⟩
            have hDa : (o : Int) + (P : Int) + (cy : Int) = (D : Int) := by omega
            have hP0 : IntKind.u64.wrap (P : Int) = (P : Int) := wrap_small _ (by omega) (by omega)
            have hDb : IntKind.u64.wrap (IntKind.u64.wrap ((o : Int) + IntKind.u64.wrap (P : Int)) + (cy : Int)) = (D : Int) := by rw [hP0, hw2, hw3, hDa]
            first | rw [hDb] | rw [hDa]
            rw [hD] at hD1
            have hDc : D / 65536 ≤ 65535 := by omega
            clear hw1 hw2 hw3 hDa hDb hP0 hPi
            have HD := Lib.hid hD
            have HDb := Lib.hid (HDD.out.below HCb.out HDD.out.lt)
            have dfr := HDb.out.free (k + j)
            clear hD
            go_wp2
            go_roundw
            case rel =>
              refine ⟨j + 1, D / 65536, out'.set (k + j) (D % 65536), by omega, by go_num, ?_, hDc, by rw [List.length_set]; exact HOL.out, dig_set HOD.out (by omega), Lib.hid (HSt.out D HD.out), ?_, ?_, ?_, ?_⟩
              · first | exact cell_div D | exact cell_divw D (by omega)
              · have h := HDb.out.set (k + j) (D % 65536)
                rw [Int.natCast_emod] at h
                exact h
              · exact (HS.out.below HCb.out HS.out.lt).other _ _ (by first | (simp; done) | (simp; omega))
              · exact (HK2.out.below HCb.out HK2.out.lt).other _ _ (by first | (simp; done) | (simp; omega))
              · exact HBb.out.setCell (by first | (simp; done) | (simp; omega)) _
            case measure => simp [intOf]; omega
          · obtain rfl : j = 12 := by omega
            have hto' : TOut xs ys out' (k + 1) := by
              unfold TOut
              exact mul_end out' ys (low xs k) (low xs (k + 1)) (dg xs k) k cy HLY.out (low_four ys HLY.out 12 (by omega)) (low_succ xs k) (low_lt xs HDX.out.2 (k + 1)) hti.out
            have HTO := Lib.hid hto'
            clear hto'
            go_wp2
            go_roundw
            case rel => exact ⟨k + 1, out', by omega, by go_num, HOL.out, HOD.out, HTO, HDD.out, HS.out, HK2.out, HBW.out⟩
            case measure => simp [intOf]; omega
      · obtain rfl : k = 4 := by omega
        have HR := Lib.hid (HKR.out.below HBW0.out HKR.out.lt)
        obtain ⟨s0, s1⟩ := HS0.out.cells
        obtain ⟨y0, y1⟩ := HR.out.cells
        obtain ⟨e0, e1⟩ := HR.out.free
        have hz : a * b = sg nt (val out) := by
          have h := hto.out
          unfold TOut at h
          rw [low_four xs HLX.out 4 (by omega)] at h
          rw [h, HZX.out, HZY.out, ← HNT.out]
          exact sg_mul na nb _ _
        have HZ := Lib.hid hz
        have hdd := HD0.out
        clear hz
        go_wp2
        obtain ⟨r0, r1⟩ := ((HR.out.set0 nt).set1 (.slice (some ⟨w2.heap.size + 1 + 1, 0, none⟩) 20 20)).cells
        refine bodyPost_ret (v := .agg #[.bool nt, (.slice (some ⟨w2.heap.size + 1 + 1, 0, none⟩) 20 20)]) (by simp [results, Try.results26, r0, r1, go_sem]) rfl ⟨_, rfl, ⟨nt, some ⟨w2.heap.size + 1 + 1, 0, none⟩, 20, 20, out, rfl, HOL0.out.symm, ?_, ⟨by rw [HOL0.out]; omega, HOD0.out⟩, HZ.out⟩, ?_, ?_⟩
        · have hlt := HKR.out.lt
          exact ((HD0.out.other ⟨w.heap.size, 0, none⟩ (.bool nt) (by simp; omega)).other ⟨w.heap.size, 1, none⟩ (.slice (some ⟨w2.heap.size + 1 + 1, 0, none⟩) 20 20) (by simp; omega)).at
        · exact ((HB2.out.trans (HBW0.out.mono HB2.out.size)).setCell (Nat.le_refl _) _).setCell (Nat.le_refl _) _
        · exact fresh_lit (by have := HB2.out.size; omega)
end Go.Proofs.Ytdlimephkjihbaa
