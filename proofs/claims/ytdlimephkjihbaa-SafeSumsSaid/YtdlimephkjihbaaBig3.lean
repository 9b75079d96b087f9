/-
  The document's own sum of two numbers in digits answers the sum, at every two numbers whose digits together do not run over twenty; in every world, nothing that was there is changed.
  No condition besides.
-/
import Derived.Test.YtdlimephkjihbaaBig2
namespace Go.Proofs.Ytdlimephkjihbaa
open Go.RowKit

/-- The first number that twenty digits do not hold. -/
def lim : Nat := 65536 ^ 20

theorem wrap_small (z : Int) (h0 : 0 ≤ z) (h1 : z < 4294967296) : IntKind.u64.wrap z = z := by
  rw [wrap_u64]
  omega
theorem borrow_cell (D : Nat) (h : D < 131072) : (1 : Int) - (D : Int) / 65536 = ((1 - D / 65536 : Nat) : Int) := by omega

theorem own_res {w : World} {base g : Nat} {ng : Bool} {A : Option Addr} {n c : Nat} {ds : List Nat} (h : OwnD w base (.slice A n c) ds) (hg : g < base) : DigAt ((w.setCell ⟨g, 0, none⟩ (.bool ng)).setCell ⟨g, 1, none⟩ (.slice A n c)) ((w.setCell ⟨g, 0, none⟩ (.bool ng)).setCell ⟨g, 1, none⟩ (.slice A n c)).heap.size A ds :=
  own_dig ((h.setCell ⟨g, 0, none⟩ (.bool ng) hg).setCell ⟨g, 1, none⟩ (.slice A n c) hg)

theorem four_new (w : World) (o p q r : Obj) : Below w.heap.size w ((((w.alloc o).alloc p).alloc q).alloc r) := (three_new w o p q).alloc (by simp; omega) _

set_option maxRecDepth 100000 in
set_option maxHeartbeats 4000000 in
theorem plus_same_true (A B : Option Addr) (xs ys : List Nat) (n m c c' : Nat) (w : World) (hn : n = xs.length) (hm : m = ys.length) (ha : Dig xs) (hb : Dig ys) (hlim : Hid (val xs + val ys < lim)) (hx : DigAt w w.heap.size A xs) (hy : DigAt w w.heap.size B ys) :
    Calls Try.prog 25 #[.agg #[.bool true, .slice A n c], .agg #[.bool true, .slice B m c']] w (GivesBig w (sg true (val xs + val ys))) := by
  have HXA := Lib.hid (fun k W (h : Below w.heap.size w W) => big_at true A xs n c k W hn (hx.later h))
  have HYA := Lib.hid (fun k W (h : Below w.heap.size w W) => big_at true B ys m c' k W hm (hy.later h))
  have DA := Lib.hid ha
  have DB := Lib.hid hb
  clear hn hm ha hb hx hy
  go_enter Try.func25, Try.ntmps25
  go_wp2
  go_loopw [10, 11] (fun cv i wr => ∃ (k cy : Nat) (out : List Nat) (v : Value), k ≤ 20 ∧ i = .int .i64 k ∧ cv = .int .u64 (cy : Int) ∧ cy ≤ 1 ∧ out.length = k ∧ (∀ d ∈ out, d < 65536) ∧ Hid (val out + 65536 ^ k * (cy + val (xs.drop k) + val (ys.drop k)) = val xs + val ys) ∧ OwnD wr (w.heap.size + 1 + 1 + 1 + 1) v out ∧ BBlk wr (w.heap.size + 1 + 1 + 1) true v ∧ BBlk wr w.heap.size true (.slice A n c) ∧ BBlk wr (w.heap.size + 1) true (.slice B m c') ∧ BBlk wr (w.heap.size + 1 + 1) false (.slice none 0 0) ∧ Below w.heap.size w wr) (fun _ i _ => 20 - (intOf i).toNat)
  case atStart => exact ⟨0, 0, [], .slice none 0 0, by omega, rfl, rfl, by omega, rfl, fun d hd => by simp at hd, Lib.hid (by simp [val]; try omega), OwnD.nil _ _, (BBlk.new (((w.alloc _).alloc _).alloc _) _ true _ (by simp)), (((BBlk.new w _ true _ rfl).alloc _).alloc _).alloc _, ((BBlk.new (w.alloc _) _ true _ (by simp)).alloc _).alloc _, (BBlk.new ((w.alloc _).alloc _) _ false _ (by simp)).alloc _, four_new w _ _ _ _⟩
  case round =>
    obtain ⟨k, cy, out, v, hk, rfl, rfl, hcy, hol, hod, HI, hown, h0, h1, h2, h3, hb⟩ := hrel
    have HO := Lib.hid hown
    have H0 := Lib.hid h0
    have H1 := Lib.hid h1
    have H2 := Lib.hid h2
    have H3 := Lib.hid h3
    have HB := Lib.hid hb
    have HOD := Lib.hid hod
    have hsz : w.heap.size + 1 + 1 + 1 + 1 ≤ wr.heap.size := h0.lt
    obtain ⟨p0, p1⟩ := h1.cells
    obtain ⟨q0, q1⟩ := h2.cells
    clear hown h0 h1 h2 h3 hb hod
    by_cases h1 : k < 20
    · have hx := HXA.out k
      have hy := HYA.out k
      have hxl := dg_lt xs DA.out k
      have hyl := dg_lt ys DB.out k
      have hstep := add_step xs ys out k cy hol HI.out
      obtain ⟨x, ex⟩ : ∃ x, dg xs k = x := ⟨_, rfl⟩
      obtain ⟨y, ey⟩ : ∃ y, dg ys k = y := ⟨_, rfl⟩
      rw [ex] at hx hxl
      rw [ey] at hy hyl
      rw [ex, ey] at hstep
      have HXJ := Lib.hid hx
      have HYJ := Lib.hid hy
      have hcy' : x + y + cy < 131072 := by omega
      have hcn : (x + y + cy) / 65536 ≤ 1 := by omega
      have hw1 : IntKind.u64.wrap ((x : Int) + (y : Int)) = (x : Int) + (y : Int) := wrap_small _ (by omega) (by omega)
      have hw2 : IntKind.u64.wrap ((x : Int) + (y : Int) + (cy : Int)) = (x : Int) + (y : Int) + (cy : Int) := wrap_small _ (by omega) (by omega)
      have HSt := Lib.hid hstep
      have HOL := Lib.hid hol
      clear hx hy ex ey hstep hol
      go_wp2
      go_region_held3 (fun w' => w'.cell? ⟨w.heap.size, 0, none⟩ = some (.bool true) ∧ w'.cell? ⟨w.heap.size, 1, none⟩ = some (.slice A n c) ∧ w'.cell? ⟨w.heap.size + 1, 0, none⟩ = some (.bool true) ∧ w'.cell? ⟨w.heap.size + 1, 1, none⟩ = some (.slice B m c')) (go_keep) (first
        | (go_at_call 61; ((with_reducible refine (HXJ.out _ ?_).mono ?_); exact HB.out.drew; rintro e wa ⟨rfl, hba⟩; have HBa := Lib.hid (HB.out.drew.trans (hba.mono (show w.heap.size ≤ wr.heap.size from by omega))); have HCa : Hid (Below wr.heap.size wr wa) := Lib.hid ((Below.refl _ wr).drew.trans hba); obtain ⟨p0, p1⟩ := (H1.out.below HCa.out H1.out.lt).cells; obtain ⟨q0, q1⟩ := (H2.out.below HCa.out H2.out.lt).cells; clear hba))
        | (go_at_call 61; refine (HYJ.out _ (by exact HBa.out)).mono ?_; rintro e wb ⟨rfl, hbb⟩; have HBb := Lib.hid (HBa.out.trans (hbb.mono HBa.out.size)); have HCb : Hid (Below wr.heap.size wr wb) := Lib.hid (HCa.out.trans (hbb.mono HCa.out.size)); obtain ⟨p0, p1⟩ := (H1.out.below HCb.out H1.out.lt).cells; obtain ⟨q0, q1⟩ := (H2.out.below HCb.out H2.out.lt).cells; clear hbb))
      obtain ⟨D, hD⟩ : ∃ D, x + y + cy = D := ⟨_, rfl⟩
      have hDi : ((x : Int) + (y : Int) + (cy : Int)) = (D : Int) := by omega
      rw [hDi]
      rw [hD] at HSt hcy' hcn
      clear hw1 hw2 hDi
      have HD := Lib.hid hD
      clear hD
      have HK0 := Lib.hid (H0.out.below HCb.out H0.out.lt)
      have HK1 := Lib.hid (H1.out.below HCb.out H1.out.lt)
      have HK2 := Lib.hid (H2.out.below HCb.out H2.out.lt)
      have HK3 := Lib.hid (H3.out.below HCb.out H3.out.lt)
      have HOB := Lib.hid (HO.out.below HCb.out (Nat.le_refl _))
      have hsb : w.heap.size + 1 + 1 + 1 + 1 ≤ wb.heap.size := Nat.le_trans hsz HCb.out.size
      have HLN : Hid ((out ++ [D % 65536]).length = k + 1) := Lib.hid (by rw [List.length_append, HOL.out]; rfl)
      obtain ⟨z0, z1⟩ := HK0.out.cells
      clear p0 p1 q0 q1
      go_wp2_with (at_builtin; refine wp_append_D _ rfl (.tmp 69) (.tmp 72) rfl (w.heap.size + 1 + 1 + 1 + 1) _ out [D % 65536] rfl (by exact HOB.out) _ (by exact cell_mod _) _ _ _ rfl rfl rfl (by rw [HOL.out]; simp only [List.length_cons, List.length_nil]; omega) (by exact hsb) ?_; intro v1 w2 ho1 hb1; obtain ⟨Ad, cd, rfl⟩ := own_len ho1 (k + 1) HLN.out; have HO1 := Lib.hid ho1; have HL0 := Lib.hid (HK0.out.below hb1 (by omega)); have HL1 := Lib.hid (HK1.out.below hb1 (by omega)); have HL2 := Lib.hid (HK2.out.below hb1 (by omega)); have HL3 := Lib.hid (HK3.out.below hb1 (by omega)); have HB2 := Lib.hid (HBb.out.trans (hb1.mono (by omega))); clear ho1 hb1 z0 z1; obtain ⟨z0, z1⟩ := HL0.out.cells; obtain ⟨g0, g1⟩ := HL0.out.free)
      go_roundw
      case rel =>
        refine ⟨k + 1, D / 65536, out ++ [D % 65536], .slice Ad (k + 1) cd, by omega, by go_num, ?_, by omega, HLN.out, dig_snoc HOD.out (by omega), Lib.hid HSt.out, ?_, ?_, ?_, ?_, ?_, ?_⟩
        · first | exact cell_div D | exact cell_divw D (by omega)
        · exact HO1.out.setCell _ _ (by first | (simp; done) | (simp; omega))
        · exact HL0.out.set1 _
        · exact HL1.out.other _ _ (by first | (simp; done) | (simp; omega))
        · exact HL2.out.other _ _ (by first | (simp; done) | (simp; omega))
        · exact HL3.out.other _ _ (by first | (simp; done) | (simp; omega))
        · exact HB2.out.setCell (by simp; omega) _
      case measure => simp [intOf]; omega
    · obtain rfl : k = 20 := by omega
      obtain ⟨z0, z1⟩ := H0.out.cells
      obtain ⟨y0, y1⟩ := H3.out.cells
      obtain ⟨e0, e1⟩ := H3.out.free
      obtain ⟨Ar, cr, rfl⟩ := own_len HO.out 20 hol
      have hval := add_end xs ys out cy hlim.out HI.out
      have hdg : Dig out := ⟨by omega, HOD.out⟩
      have HV := Lib.hid hval
      have HDG := Lib.hid hdg
      have HOL := Lib.hid hol
      clear hval hdg hol p0 p1 q0 q1
      go_wp2
      obtain ⟨r0, r1⟩ := ((H3.out.set0 true).set1 (.slice Ar 20 cr)).cells
      refine bodyPost_ret (v := .agg #[.bool true, .slice Ar 20 cr]) (by simp [results, Try.results25, r0, r1, go_sem]) rfl ⟨_, rfl, ⟨true, Ar, 20, cr, out, rfl, HOL.out.symm, own_res HO.out (by omega), HDG.out, by rw [HV.out]⟩, ?_, own_fresh HO.out (by omega)⟩
      exact (HB.out.setCell (by simp; omega) _).setCell (by simp; omega) _

set_option maxRecDepth 100000 in
set_option maxHeartbeats 4000000 in
theorem plus_same_false (A B : Option Addr) (xs ys : List Nat) (n m c c' : Nat) (w : World) (hn : n = xs.length) (hm : m = ys.length) (ha : Dig xs) (hb : Dig ys) (hlim : Hid (val xs + val ys < lim)) (hx : DigAt w w.heap.size A xs) (hy : DigAt w w.heap.size B ys) :
    Calls Try.prog 25 #[.agg #[.bool false, .slice A n c], .agg #[.bool false, .slice B m c']] w (GivesBig w (sg false (val xs + val ys))) := by
  have HXA := Lib.hid (fun k W (h : Below w.heap.size w W) => big_at false A xs n c k W hn (hx.later h))
  have HYA := Lib.hid (fun k W (h : Below w.heap.size w W) => big_at false B ys m c' k W hm (hy.later h))
  have DA := Lib.hid ha
  have DB := Lib.hid hb
  clear hn hm ha hb hx hy
  go_enter Try.func25, Try.ntmps25
  go_wp2
  go_loopw [10, 11] (fun cv i wr => ∃ (k cy : Nat) (out : List Nat) (v : Value), k ≤ 20 ∧ i = .int .i64 k ∧ cv = .int .u64 (cy : Int) ∧ cy ≤ 1 ∧ out.length = k ∧ (∀ d ∈ out, d < 65536) ∧ Hid (val out + 65536 ^ k * (cy + val (xs.drop k) + val (ys.drop k)) = val xs + val ys) ∧ OwnD wr (w.heap.size + 1 + 1 + 1 + 1) v out ∧ BBlk wr (w.heap.size + 1 + 1 + 1) false v ∧ BBlk wr w.heap.size false (.slice A n c) ∧ BBlk wr (w.heap.size + 1) false (.slice B m c') ∧ BBlk wr (w.heap.size + 1 + 1) false (.slice none 0 0) ∧ Below w.heap.size w wr) (fun _ i _ => 20 - (intOf i).toNat)
  case atStart => exact ⟨0, 0, [], .slice none 0 0, by omega, rfl, rfl, by omega, rfl, fun d hd => by simp at hd, Lib.hid (by simp [val]; try omega), OwnD.nil _ _, (BBlk.new (((w.alloc _).alloc _).alloc _) _ false _ (by simp)), (((BBlk.new w _ false _ rfl).alloc _).alloc _).alloc _, ((BBlk.new (w.alloc _) _ false _ (by simp)).alloc _).alloc _, (BBlk.new ((w.alloc _).alloc _) _ false _ (by simp)).alloc _, four_new w _ _ _ _⟩
  case round =>
    obtain ⟨k, cy, out, v, hk, rfl, rfl, hcy, hol, hod, HI, hown, h0, h1, h2, h3, hb⟩ := hrel
    have HO := Lib.hid hown
    have H0 := Lib.hid h0
    have H1 := Lib.hid h1
    have H2 := Lib.hid h2
    have H3 := Lib.hid h3
    have HB := Lib.hid hb
    have HOD := Lib.hid hod
    have hsz : w.heap.size + 1 + 1 + 1 + 1 ≤ wr.heap.size := h0.lt
    obtain ⟨p0, p1⟩ := h1.cells
    obtain ⟨q0, q1⟩ := h2.cells
    clear hown h0 h1 h2 h3 hb hod
    by_cases h1 : k < 20
    · have hx := HXA.out k
      have hy := HYA.out k
      have hxl := dg_lt xs DA.out k
      have hyl := dg_lt ys DB.out k
      have hstep := add_step xs ys out k cy hol HI.out
      obtain ⟨x, ex⟩ : ∃ x, dg xs k = x := ⟨_, rfl⟩
      obtain ⟨y, ey⟩ : ∃ y, dg ys k = y := ⟨_, rfl⟩
      rw [ex] at hx hxl
      rw [ey] at hy hyl
      rw [ex, ey] at hstep
      have HXJ := Lib.hid hx
      have HYJ := Lib.hid hy
      have hcy' : x + y + cy < 131072 := by omega
      have hcn : (x + y + cy) / 65536 ≤ 1 := by omega
      have hw1 : IntKind.u64.wrap ((x : Int) + (y : Int)) = (x : Int) + (y : Int) := wrap_small _ (by omega) (by omega)
      have hw2 : IntKind.u64.wrap ((x : Int) + (y : Int) + (cy : Int)) = (x : Int) + (y : Int) + (cy : Int) := wrap_small _ (by omega) (by omega)
      have HSt := Lib.hid hstep
      have HOL := Lib.hid hol
      clear hx hy ex ey hstep hol
      go_wp2
      go_region_held3 (fun w' => w'.cell? ⟨w.heap.size, 0, none⟩ = some (.bool false) ∧ w'.cell? ⟨w.heap.size, 1, none⟩ = some (.slice A n c) ∧ w'.cell? ⟨w.heap.size + 1, 0, none⟩ = some (.bool false) ∧ w'.cell? ⟨w.heap.size + 1, 1, none⟩ = some (.slice B m c')) (go_keep) (first
        | (go_at_call 61; ((with_reducible refine (HXJ.out _ ?_).mono ?_); exact HB.out.drew; rintro e wa ⟨rfl, hba⟩; have HBa := Lib.hid (HB.out.drew.trans (hba.mono (show w.heap.size ≤ wr.heap.size from by omega))); have HCa : Hid (Below wr.heap.size wr wa) := Lib.hid ((Below.refl _ wr).drew.trans hba); obtain ⟨p0, p1⟩ := (H1.out.below HCa.out H1.out.lt).cells; obtain ⟨q0, q1⟩ := (H2.out.below HCa.out H2.out.lt).cells; clear hba))
        | (go_at_call 61; refine (HYJ.out _ (by exact HBa.out)).mono ?_; rintro e wb ⟨rfl, hbb⟩; have HBb := Lib.hid (HBa.out.trans (hbb.mono HBa.out.size)); have HCb : Hid (Below wr.heap.size wr wb) := Lib.hid (HCa.out.trans (hbb.mono HCa.out.size)); obtain ⟨p0, p1⟩ := (H1.out.below HCb.out H1.out.lt).cells; obtain ⟨q0, q1⟩ := (H2.out.below HCb.out H2.out.lt).cells; clear hbb))
      obtain ⟨D, hD⟩ : ∃ D, x + y + cy = D := ⟨_, rfl⟩
      have hDi : ((x : Int) + (y : Int) + (cy : Int)) = (D : Int) := by omega
      rw [hDi]
      rw [hD] at HSt hcy' hcn
      clear hw1 hw2 hDi
      have HD := Lib.hid hD
      clear hD
      have HK0 := Lib.hid (H0.out.below HCb.out H0.out.lt)
      have HK1 := Lib.hid (H1.out.below HCb.out H1.out.lt)
      have HK2 := Lib.hid (H2.out.below HCb.out H2.out.lt)
      have HK3 := Lib.hid (H3.out.below HCb.out H3.out.lt)
      have HOB := Lib.hid (HO.out.below HCb.out (Nat.le_refl _))
      have hsb : w.heap.size + 1 + 1 + 1 + 1 ≤ wb.heap.size := Nat.le_trans hsz HCb.out.size
      have HLN : Hid ((out ++ [D % 65536]).length = k + 1) := Lib.hid (by rw [List.length_append, HOL.out]; rfl)
      obtain ⟨z0, z1⟩ := HK0.out.cells
      clear p0 p1 q0 q1
      go_wp2_with (at_builtin; refine wp_append_D _ rfl (.tmp 69) (.tmp 72) rfl (w.heap.size + 1 + 1 + 1 + 1) _ out [D % 65536] rfl (by exact HOB.out) _ (by exact cell_mod _) _ _ _ rfl rfl rfl (by rw [HOL.out]; simp only [List.length_cons, List.length_nil]; omega) (by exact hsb) ?_; intro v1 w2 ho1 hb1; obtain ⟨Ad, cd, rfl⟩ := own_len ho1 (k + 1) HLN.out; have HO1 := Lib.hid ho1; have HL0 := Lib.hid (HK0.out.below hb1 (by omega)); have HL1 := Lib.hid (HK1.out.below hb1 (by omega)); have HL2 := Lib.hid (HK2.out.below hb1 (by omega)); have HL3 := Lib.hid (HK3.out.below hb1 (by omega)); have HB2 := Lib.hid (HBb.out.trans (hb1.mono (by omega))); clear ho1 hb1 z0 z1; obtain ⟨z0, z1⟩ := HL0.out.cells; obtain ⟨g0, g1⟩ := HL0.out.free)
      go_roundw
      case rel =>
        refine ⟨k + 1, D / 65536, out ++ [D % 65536], .slice Ad (k + 1) cd, by omega, by go_num, ?_, by omega, HLN.out, dig_snoc HOD.out (by omega), Lib.hid HSt.out, ?_, ?_, ?_, ?_, ?_, ?_⟩
        · first | exact cell_div D | exact cell_divw D (by omega)
        · exact HO1.out.setCell _ _ (by first | (simp; done) | (simp; omega))
        · exact HL0.out.set1 _
        · exact HL1.out.other _ _ (by first | (simp; done) | (simp; omega))
        · exact HL2.out.other _ _ (by first | (simp; done) | (simp; omega))
        · exact HL3.out.other _ _ (by first | (simp; done) | (simp; omega))
        · exact HB2.out.setCell (by simp; omega) _
      case measure => simp [intOf]; omega
    · obtain rfl : k = 20 := by omega
      obtain ⟨z0, z1⟩ := H0.out.cells
      obtain ⟨y0, y1⟩ := H3.out.cells
      obtain ⟨e0, e1⟩ := H3.out.free
      obtain ⟨Ar, cr, rfl⟩ := own_len HO.out 20 hol
      have hval := add_end xs ys out cy hlim.out HI.out
      have hdg : Dig out := ⟨by omega, HOD.out⟩
      have HV := Lib.hid hval
      have HDG := Lib.hid hdg
      have HOL := Lib.hid hol
      clear hval hdg hol p0 p1 q0 q1
      go_wp2
      obtain ⟨r0, r1⟩ := ((H3.out.set0 false).set1 (.slice Ar 20 cr)).cells
      refine bodyPost_ret (v := .agg #[.bool false, .slice Ar 20 cr]) (by simp [results, Try.results25, r0, r1, go_sem]) rfl ⟨_, rfl, ⟨false, Ar, 20, cr, out, rfl, HOL.out.symm, own_res HO.out (by omega), HDG.out, by rw [HV.out]⟩, ?_, own_fresh HO.out (by omega)⟩
      exact (HB.out.setCell (by simp; omega) _).setCell (by simp; omega) _

set_option maxRecDepth 100000 in
set_option maxHeartbeats 4000000 in
theorem plus_ge_true_false (A B : Option Addr) (xs ys : List Nat) (n m c c' : Nat) (w : World) (hn : n = xs.length) (hm : m = ys.length) (ha : Dig xs) (hb : Dig ys) (hge : val ys ≤ val xs) (hx : DigAt w w.heap.size A xs) (hy : DigAt w w.heap.size B ys) :
    Calls Try.prog 25 #[.agg #[.bool true, .slice A n c], .agg #[.bool false, .slice B m c']] w (GivesBig w (sg true (val xs - val ys))) := by
  have HXA := Lib.hid (fun k W (h : Below w.heap.size w W) => big_at true A xs n c k W hn (hx.later h))
  have HYA := Lib.hid (fun k W (h : Below w.heap.size w W) => big_at false B ys m c' k W hm (hy.later h))
  have HLS := Lib.hid (fun W (h : Below w.heap.size w W) => big_less true false A B xs ys n m c c' W hn hm ha hb (hx.later h) (hy.later h))
  have HDec : Hid (decide (val xs < val ys) = false) := Lib.hid (by rw [decide_eq_false_iff_not]; omega)
  have HGE := Lib.hid hge
  have DA := Lib.hid ha
  have DB := Lib.hid hb
  clear hn hm ha hb hx hy hge
  go_enter Try.func25, Try.ntmps25
  go_wp2_with fail
  refine (HLS.out _ (by exact three_new _ _ _ _)).mono ?_
  rintro e w1 ⟨rfl, hb1⟩
  rw [HDec.out]
  have hz1 : w.heap.size + 1 + 1 + 1 ≤ w1.heap.size := by
    have h := hb1.size
    simp only [World.size_alloc] at h
    exact h
  have K1 := Lib.hid ((((BBlk.new w _ true (.slice A n c) rfl).alloc (.cells #[.bool false, .slice B m c'] 41)).alloc (.cells #[.bool false, .slice none 0 0] 41)).below hb1 (by simp; omega))
  have K2 := Lib.hid (((BBlk.new (w.alloc (.cells #[.bool true, .slice A n c] 41)) (w.heap.size + 1) false (.slice B m c') (by simp)).alloc (.cells #[.bool false, .slice none 0 0] 41)).below hb1 (by simp))
  have K3 := Lib.hid ((BBlk.new ((w.alloc (.cells #[.bool true, .slice A n c] 41)).alloc (.cells #[.bool false, .slice B m c'] 41)) (w.heap.size + 1 + 1) false (.slice none 0 0) (by simp)).below hb1 (by simp))
  have KB := Lib.hid ((three_new w (.cells #[.bool true, .slice A n c] 41) (.cells #[.bool false, .slice B m c'] 41) (.cells #[.bool false, .slice none 0 0] 41)).trans (hb1.mono (by simp; omega)))
  clear hb1
  obtain ⟨i0, i1⟩ := K1.out.cells
  obtain ⟨j0, j1⟩ := K2.out.cells
  go_wp2
  go_loopw [6, 7] (fun cv i wr => ∃ (k cy : Nat) (out : List Nat) (v : Value), k ≤ 20 ∧ i = .int .i64 k ∧ cv = .int .u64 (cy : Int) ∧ cy ≤ 1 ∧ out.length = k ∧ (∀ d ∈ out, d < 65536) ∧ Hid (val out + val ys + 65536 ^ k * val (xs.drop k) = val xs + 65536 ^ k * (val (ys.drop k) + cy)) ∧ OwnD wr (w1.heap.size + 1) v out ∧ BBlk wr (w1.heap.size) true v ∧ BBlk wr w.heap.size true (.slice A n c) ∧ BBlk wr (w.heap.size + 1) false (.slice B m c') ∧ BBlk wr (w.heap.size + 1 + 1) false (.slice none 0 0) ∧ Below w.heap.size w wr) (fun _ i _ => 20 - (intOf i).toNat)
  case atStart => exact ⟨0, 0, [], .slice none 0 0, by omega, rfl, rfl, by omega, rfl, fun d hd => by simp at hd, Lib.hid (by simp [val]; try omega), OwnD.nil _ _, (BBlk.new w1 _ true _ rfl), K1.out.alloc _, K2.out.alloc _, K3.out.alloc _, KB.out.alloc (by omega) _⟩
  case round =>
    obtain ⟨k, cy, out, v, hk, rfl, rfl, hcy, hol, hod, HI, hown, h0, h1, h2, h3, hb⟩ := hrel
    have HO := Lib.hid hown
    have H0 := Lib.hid h0
    have H1 := Lib.hid h1
    have H2 := Lib.hid h2
    have H3 := Lib.hid h3
    have HB := Lib.hid hb
    have HOD := Lib.hid hod
    have hsz : w1.heap.size + 1 ≤ wr.heap.size := h0.lt
    obtain ⟨p0, p1⟩ := h1.cells
    obtain ⟨q0, q1⟩ := h2.cells
    clear hown h0 h1 h2 h3 hb hod
    by_cases h1 : k < 20
    · have hx := HXA.out k
      have hy := HYA.out k
      have hxl := dg_lt xs DA.out k
      have hyl := dg_lt ys DB.out k
      have hstep := (sub_step xs ys out k cy hol hcy DB.out DA.out HI.out).1
      obtain ⟨x, ex⟩ : ∃ x, dg xs k = x := ⟨_, rfl⟩
      obtain ⟨y, ey⟩ : ∃ y, dg ys k = y := ⟨_, rfl⟩
      rw [ex] at hx hxl
      rw [ey] at hy hyl
      rw [ex, ey] at hstep
      have HXJ := Lib.hid hx
      have HYJ := Lib.hid hy
      have hcy' : x + 65536 - y - cy < 131072 := by omega
      have hcn : (x + 65536 - y - cy) / 65536 ≤ 1 := by omega
      have hw1 : IntKind.u64.wrap ((x : Int) + 65536) = (x : Int) + 65536 := wrap_small _ (by omega) (by omega)
      have hw2 : IntKind.u64.wrap ((x : Int) + 65536 - (y : Int)) = (x : Int) + 65536 - (y : Int) := wrap_small _ (by omega) (by omega)
      have hw3 : IntKind.u64.wrap ((x : Int) + 65536 - (y : Int) - (cy : Int)) = (x : Int) + 65536 - (y : Int) - (cy : Int) := wrap_small _ (by omega) (by omega)
      have HSt := Lib.hid hstep
      have HOL := Lib.hid hol
      clear hx hy ex ey hstep hol
      go_wp2
      go_region_held3 (fun w' => w'.cell? ⟨w.heap.size, 0, none⟩ = some (.bool true) ∧ w'.cell? ⟨w.heap.size, 1, none⟩ = some (.slice A n c) ∧ w'.cell? ⟨w.heap.size + 1, 0, none⟩ = some (.bool false) ∧ w'.cell? ⟨w.heap.size + 1, 1, none⟩ = some (.slice B m c')) (go_keep) (first
        | (go_at_call 61; ((with_reducible refine (HXJ.out _ ?_).mono ?_); exact HB.out.drew; rintro e wa ⟨rfl, hba⟩; have HBa := Lib.hid (HB.out.drew.trans (hba.mono (show w.heap.size ≤ wr.heap.size from by omega))); have HCa : Hid (Below wr.heap.size wr wa) := Lib.hid ((Below.refl _ wr).drew.trans hba); obtain ⟨p0, p1⟩ := (H1.out.below HCa.out H1.out.lt).cells; obtain ⟨q0, q1⟩ := (H2.out.below HCa.out H2.out.lt).cells; clear hba))
        | (go_at_call 61; refine (HYJ.out _ (by exact HBa.out)).mono ?_; rintro e wb ⟨rfl, hbb⟩; have HBb := Lib.hid (HBa.out.trans (hbb.mono HBa.out.size)); have HCb : Hid (Below wr.heap.size wr wb) := Lib.hid (HCa.out.trans (hbb.mono HCa.out.size)); obtain ⟨p0, p1⟩ := (H1.out.below HCb.out H1.out.lt).cells; obtain ⟨q0, q1⟩ := (H2.out.below HCb.out H2.out.lt).cells; clear hbb))
      obtain ⟨D, hD⟩ : ∃ D, x + 65536 - y - cy = D := ⟨_, rfl⟩
      have hDi : ((x : Int) + 65536 - (y : Int) - (cy : Int)) = (D : Int) := by omega
      rw [hDi]
      rw [hD] at HSt hcy' hcn
      clear hw1 hw2 hw3 hDi
      have HD := Lib.hid hD
      clear hD
      have HK0 := Lib.hid (H0.out.below HCb.out H0.out.lt)
      have HK1 := Lib.hid (H1.out.below HCb.out H1.out.lt)
      have HK2 := Lib.hid (H2.out.below HCb.out H2.out.lt)
      have HK3 := Lib.hid (H3.out.below HCb.out H3.out.lt)
      have HOB := Lib.hid (HO.out.below HCb.out (Nat.le_refl _))
      have hsb : w1.heap.size + 1 ≤ wb.heap.size := Nat.le_trans hsz HCb.out.size
      have HLN : Hid ((out ++ [D % 65536]).length = k + 1) := Lib.hid (by rw [List.length_append, HOL.out]; rfl)
      obtain ⟨z0, z1⟩ := HK0.out.cells
      clear p0 p1 q0 q1
      go_wp2_with (at_builtin; refine wp_append_D _ rfl (.tmp 42) (.tmp 45) rfl (w1.heap.size + 1) _ out [D % 65536] rfl (by exact HOB.out) _ (by exact cell_mod _) _ _ _ rfl rfl rfl (by rw [HOL.out]; simp only [List.length_cons, List.length_nil]; omega) (by exact hsb) ?_; intro v1 w2 ho1 hb1; obtain ⟨Ad, cd, rfl⟩ := own_len ho1 (k + 1) HLN.out; have HO1 := Lib.hid ho1; have HL0 := Lib.hid (HK0.out.below hb1 (by omega)); have HL1 := Lib.hid (HK1.out.below hb1 (by omega)); have HL2 := Lib.hid (HK2.out.below hb1 (by omega)); have HL3 := Lib.hid (HK3.out.below hb1 (by omega)); have HB2 := Lib.hid (HBb.out.trans (hb1.mono (by omega))); clear ho1 hb1 z0 z1; obtain ⟨z0, z1⟩ := HL0.out.cells; obtain ⟨g0, g1⟩ := HL0.out.free)
      go_roundw
      case rel =>
        refine ⟨k + 1, 1 - D / 65536, out ++ [D % 65536], .slice Ad (k + 1) cd, by omega, by go_num, ?_, by omega, HLN.out, dig_snoc HOD.out (by omega), Lib.hid HSt.out, ?_, ?_, ?_, ?_, ?_, ?_⟩
        · first | (rw [← borrow_cell D (by omega)]; done) | (rw [← borrow_cell D (by omega), wrap_small _ (by omega) (by omega)]; done) | (rw [← borrow_cell D (by omega), wrap_small ((D : Int) / 65536) (by omega) (by omega)]; done) | (rw [← borrow_cell D (by omega), wrap_small ((D : Int) / 65536) (by omega) (by omega), wrap_small _ (by omega) (by omega)]; done)
        · exact HO1.out.setCell _ _ (by first | (simp; done) | (simp; omega))
        · exact HL0.out.set1 _
        · exact HL1.out.other _ _ (by first | (simp; done) | (simp; omega))
        · exact HL2.out.other _ _ (by first | (simp; done) | (simp; omega))
        · exact HL3.out.other _ _ (by first | (simp; done) | (simp; omega))
        · exact HB2.out.setCell (by simp; omega) _
      case measure => simp [intOf]; omega
    · obtain rfl : k = 20 := by omega
      obtain ⟨z0, z1⟩ := H0.out.cells
      obtain ⟨y0, y1⟩ := H3.out.cells
      obtain ⟨e0, e1⟩ := H3.out.free
      obtain ⟨Ar, cr, rfl⟩ := own_len HO.out 20 hol
      have hval := sub_end xs ys out cy hol HOD.out DA.out DB.out HGE.out hcy HI.out
      have hdg : Dig out := ⟨by omega, HOD.out⟩
      have HV := Lib.hid hval
      have HDG := Lib.hid hdg
      have HOL := Lib.hid hol
      clear hval hdg hol p0 p1 q0 q1
      go_wp2
      obtain ⟨r0, r1⟩ := ((H3.out.set0 true).set1 (.slice Ar 20 cr)).cells
      refine bodyPost_ret (v := .agg #[.bool true, .slice Ar 20 cr]) (by simp [results, Try.results25, r0, r1, go_sem]) rfl ⟨_, rfl, ⟨true, Ar, 20, cr, out, rfl, HOL.out.symm, own_res HO.out (by omega), HDG.out, by rw [HV.out]⟩, ?_, own_fresh HO.out (by omega)⟩
      exact (HB.out.setCell (by simp; omega) _).setCell (by simp; omega) _

set_option maxRecDepth 100000 in
set_option maxHeartbeats 4000000 in
theorem plus_ge_false_true (A B : Option Addr) (xs ys : List Nat) (n m c c' : Nat) (w : World) (hn : n = xs.length) (hm : m = ys.length) (ha : Dig xs) (hb : Dig ys) (hge : val ys ≤ val xs) (hx : DigAt w w.heap.size A xs) (hy : DigAt w w.heap.size B ys) :
    Calls Try.prog 25 #[.agg #[.bool false, .slice A n c], .agg #[.bool true, .slice B m c']] w (GivesBig w (sg false (val xs - val ys))) := by
  have HXA := Lib.hid (fun k W (h : Below w.heap.size w W) => big_at false A xs n c k W hn (hx.later h))
  have HYA := Lib.hid (fun k W (h : Below w.heap.size w W) => big_at true B ys m c' k W hm (hy.later h))
  have HLS := Lib.hid (fun W (h : Below w.heap.size w W) => big_less false true A B xs ys n m c c' W hn hm ha hb (hx.later h) (hy.later h))
  have HDec : Hid (decide (val xs < val ys) = false) := Lib.hid (by rw [decide_eq_false_iff_not]; omega)
  have HGE := Lib.hid hge
  have DA := Lib.hid ha
  have DB := Lib.hid hb
  clear hn hm ha hb hx hy hge
  go_enter Try.func25, Try.ntmps25
  go_wp2_with fail
  refine (HLS.out _ (by exact three_new _ _ _ _)).mono ?_
  rintro e w1 ⟨rfl, hb1⟩
  rw [HDec.out]
  have hz1 : w.heap.size + 1 + 1 + 1 ≤ w1.heap.size := by
    have h := hb1.size
    simp only [World.size_alloc] at h
    exact h
  have K1 := Lib.hid ((((BBlk.new w _ false (.slice A n c) rfl).alloc (.cells #[.bool true, .slice B m c'] 41)).alloc (.cells #[.bool false, .slice none 0 0] 41)).below hb1 (by simp; omega))
  have K2 := Lib.hid (((BBlk.new (w.alloc (.cells #[.bool false, .slice A n c] 41)) (w.heap.size + 1) true (.slice B m c') (by simp)).alloc (.cells #[.bool false, .slice none 0 0] 41)).below hb1 (by simp))
  have K3 := Lib.hid ((BBlk.new ((w.alloc (.cells #[.bool false, .slice A n c] 41)).alloc (.cells #[.bool true, .slice B m c'] 41)) (w.heap.size + 1 + 1) false (.slice none 0 0) (by simp)).below hb1 (by simp))
  have KB := Lib.hid ((three_new w (.cells #[.bool false, .slice A n c] 41) (.cells #[.bool true, .slice B m c'] 41) (.cells #[.bool false, .slice none 0 0] 41)).trans (hb1.mono (by simp; omega)))
  clear hb1
  obtain ⟨i0, i1⟩ := K1.out.cells
  obtain ⟨j0, j1⟩ := K2.out.cells
  go_wp2
  go_loopw [6, 7] (fun cv i wr => ∃ (k cy : Nat) (out : List Nat) (v : Value), k ≤ 20 ∧ i = .int .i64 k ∧ cv = .int .u64 (cy : Int) ∧ cy ≤ 1 ∧ out.length = k ∧ (∀ d ∈ out, d < 65536) ∧ Hid (val out + val ys + 65536 ^ k * val (xs.drop k) = val xs + 65536 ^ k * (val (ys.drop k) + cy)) ∧ OwnD wr (w1.heap.size + 1) v out ∧ BBlk wr (w1.heap.size) false v ∧ BBlk wr w.heap.size false (.slice A n c) ∧ BBlk wr (w.heap.size + 1) true (.slice B m c') ∧ BBlk wr (w.heap.size + 1 + 1) false (.slice none 0 0) ∧ Below w.heap.size w wr) (fun _ i _ => 20 - (intOf i).toNat)
  case atStart => exact ⟨0, 0, [], .slice none 0 0, by omega, rfl, rfl, by omega, rfl, fun d hd => by simp at hd, Lib.hid (by simp [val]; try omega), OwnD.nil _ _, (BBlk.new w1 _ false _ rfl), K1.out.alloc _, K2.out.alloc _, K3.out.alloc _, KB.out.alloc (by omega) _⟩
  case round =>
    obtain ⟨k, cy, out, v, hk, rfl, rfl, hcy, hol, hod, HI, hown, h0, h1, h2, h3, hb⟩ := hrel
    have HO := Lib.hid hown
    have H0 := Lib.hid h0
    have H1 := Lib.hid h1
    have H2 := Lib.hid h2
    have H3 := Lib.hid h3
    have HB := Lib.hid hb
    have HOD := Lib.hid hod
    have hsz : w1.heap.size + 1 ≤ wr.heap.size := h0.lt
    obtain ⟨p0, p1⟩ := h1.cells
    obtain ⟨q0, q1⟩ := h2.cells
    clear hown h0 h1 h2 h3 hb hod
    by_cases h1 : k < 20
    · have hx := HXA.out k
      have hy := HYA.out k
      have hxl := dg_lt xs DA.out k
      have hyl := dg_lt ys DB.out k
      have hstep := (sub_step xs ys out k cy hol hcy DB.out DA.out HI.out).1
      obtain ⟨x, ex⟩ : ∃ x, dg xs k = x := ⟨_, rfl⟩
      obtain ⟨y, ey⟩ : ∃ y, dg ys k = y := ⟨_, rfl⟩
      rw [ex] at hx hxl
      rw [ey] at hy hyl
      rw [ex, ey] at hstep
      have HXJ := Lib.hid hx
      have HYJ := Lib.hid hy
      have hcy' : x + 65536 - y - cy < 131072 := by omega
      have hcn : (x + 65536 - y - cy) / 65536 ≤ 1 := by omega
      have hw1 : IntKind.u64.wrap ((x : Int) + 65536) = (x : Int) + 65536 := wrap_small _ (by omega) (by omega)
      have hw2 : IntKind.u64.wrap ((x : Int) + 65536 - (y : Int)) = (x : Int) + 65536 - (y : Int) := wrap_small _ (by omega) (by omega)
      have hw3 : IntKind.u64.wrap ((x : Int) + 65536 - (y : Int) - (cy : Int)) = (x : Int) + 65536 - (y : Int) - (cy : Int) := wrap_small _ (by omega) (by omega)
      have HSt := Lib.hid hstep
      have HOL := Lib.hid hol
      clear hx hy ex ey hstep hol
      go_wp2
      go_region_held3 (fun w' => w'.cell? ⟨w.heap.size, 0, none⟩ = some (.bool false) ∧ w'.cell? ⟨w.heap.size, 1, none⟩ = some (.slice A n c) ∧ w'.cell? ⟨w.heap.size + 1, 0, none⟩ = some (.bool true) ∧ w'.cell? ⟨w.heap.size + 1, 1, none⟩ = some (.slice B m c')) (go_keep) (first
        | (go_at_call 61; ((with_reducible refine (HXJ.out _ ?_).mono ?_); exact HB.out.drew; rintro e wa ⟨rfl, hba⟩; have HBa := Lib.hid (HB.out.drew.trans (hba.mono (show w.heap.size ≤ wr.heap.size from by omega))); have HCa : Hid (Below wr.heap.size wr wa) := Lib.hid ((Below.refl _ wr).drew.trans hba); obtain ⟨p0, p1⟩ := (H1.out.below HCa.out H1.out.lt).cells; obtain ⟨q0, q1⟩ := (H2.out.below HCa.out H2.out.lt).cells; clear hba))
        | (go_at_call 61; refine (HYJ.out _ (by exact HBa.out)).mono ?_; rintro e wb ⟨rfl, hbb⟩; have HBb := Lib.hid (HBa.out.trans (hbb.mono HBa.out.size)); have HCb : Hid (Below wr.heap.size wr wb) := Lib.hid (HCa.out.trans (hbb.mono HCa.out.size)); obtain ⟨p0, p1⟩ := (H1.out.below HCb.out H1.out.lt).cells; obtain ⟨q0, q1⟩ := (H2.out.below HCb.out H2.out.lt).cells; clear hbb))
      obtain ⟨D, hD⟩ : ∃ D, x + 65536 - y - cy = D := ⟨_, rfl⟩
      have hDi : ((x : Int) + 65536 - (y : Int) - (cy : Int)) = (D : Int) := by omega
      rw [hDi]
      rw [hD] at HSt hcy' hcn
      clear hw1 hw2 hw3 hDi
      have HD := Lib.hid hD
      clear hD
      have HK0 := Lib.hid (H0.out.below HCb.out H0.out.lt)
      have HK1 := Lib.hid (H1.out.below HCb.out H1.out.lt)
      have HK2 := Lib.hid (H2.out.below HCb.out H2.out.lt)
      have HK3 := Lib.hid (H3.out.below HCb.out H3.out.lt)
      have HOB := Lib.hid (HO.out.below HCb.out (Nat.le_refl _))
      have hsb : w1.heap.size + 1 ≤ wb.heap.size := Nat.le_trans hsz HCb.out.size
      have HLN : Hid ((out ++ [D % 65536]).length = k + 1) := Lib.hid (by rw [List.length_append, HOL.out]; rfl)
      obtain ⟨z0, z1⟩ := HK0.out.cells
      clear p0 p1 q0 q1
      go_wp2_with (at_builtin; refine wp_append_D _ rfl (.tmp 42) (.tmp 45) rfl (w1.heap.size + 1) _ out [D % 65536] rfl (by exact HOB.out) _ (by exact cell_mod _) _ _ _ rfl rfl rfl (by rw [HOL.out]; simp only [List.length_cons, List.length_nil]; omega) (by exact hsb) ?_; intro v1 w2 ho1 hb1; obtain ⟨Ad, cd, rfl⟩ := own_len ho1 (k + 1) HLN.out; have HO1 := Lib.hid ho1; have HL0 := Lib.hid (HK0.out.below hb1 (by omega)); have HL1 := Lib.hid (HK1.out.below hb1 (by omega)); have HL2 := Lib.hid (HK2.out.below hb1 (by omega)); have HL3 := Lib.hid (HK3.out.below hb1 (by omega)); have HB2 := Lib.hid (HBb.out.trans (hb1.mono (by omega))); clear ho1 hb1 z0 z1; obtain ⟨z0, z1⟩ := HL0.out.cells; obtain ⟨g0, g1⟩ := HL0.out.free)
      go_roundw
      case rel =>
        refine ⟨k + 1, 1 - D / 65536, out ++ [D % 65536], .slice Ad (k + 1) cd, by omega, by go_num, ?_, by omega, HLN.out, dig_snoc HOD.out (by omega), Lib.hid HSt.out, ?_, ?_, ?_, ?_, ?_, ?_⟩
        · first | (rw [← borrow_cell D (by omega)]; done) | (rw [← borrow_cell D (by omega), wrap_small _ (by omega) (by omega)]; done) | (rw [← borrow_cell D (by omega), wrap_small ((D : Int) / 65536) (by omega) (by omega)]; done) | (rw [← borrow_cell D (by omega), wrap_small ((D : Int) / 65536) (by omega) (by omega), wrap_small _ (by omega) (by omega)]; done)
        · exact HO1.out.setCell _ _ (by first | (simp; done) | (simp; omega))
        · exact HL0.out.set1 _
        · exact HL1.out.other _ _ (by first | (simp; done) | (simp; omega))
        · exact HL2.out.other _ _ (by first | (simp; done) | (simp; omega))
        · exact HL3.out.other _ _ (by first | (simp; done) | (simp; omega))
        · exact HB2.out.setCell (by simp; omega) _
      case measure => simp [intOf]; omega
    · obtain rfl : k = 20 := by omega
      obtain ⟨z0, z1⟩ := H0.out.cells
      obtain ⟨y0, y1⟩ := H3.out.cells
      obtain ⟨e0, e1⟩ := H3.out.free
      obtain ⟨Ar, cr, rfl⟩ := own_len HO.out 20 hol
      have hval := sub_end xs ys out cy hol HOD.out DA.out DB.out HGE.out hcy HI.out
      have hdg : Dig out := ⟨by omega, HOD.out⟩
      have HV := Lib.hid hval
      have HDG := Lib.hid hdg
      have HOL := Lib.hid hol
      clear hval hdg hol p0 p1 q0 q1
      go_wp2
      obtain ⟨r0, r1⟩ := ((H3.out.set0 false).set1 (.slice Ar 20 cr)).cells
      refine bodyPost_ret (v := .agg #[.bool false, .slice Ar 20 cr]) (by simp [results, Try.results25, r0, r1, go_sem]) rfl ⟨_, rfl, ⟨false, Ar, 20, cr, out, rfl, HOL.out.symm, own_res HO.out (by omega), HDG.out, by rw [HV.out]⟩, ?_, own_fresh HO.out (by omega)⟩
      exact (HB.out.setCell (by simp; omega) _).setCell (by simp; omega) _

end Go.Proofs.Ytdlimephkjihbaa
