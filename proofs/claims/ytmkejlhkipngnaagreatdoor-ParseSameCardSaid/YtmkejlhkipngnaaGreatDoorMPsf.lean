/-
  ParseSame's walk: at any two texts.
  Condition: the package-level errors of strconv stand.
-/
import Derived.Deep.RegionHeld3
import Derived.Test.YtmkejlhkipngnaaGreatDoorMPpu
import Derived.Test.YtmkejlhkipngnaaGreatDoorMPse
namespace Go.Proofs.YtmkejlhkipngnaaGreatDoor
open Go.RowKit

set_option maxRecDepth 100000 in
set_option maxHeartbeats 40000000 in
theorem parseSame_all (s t : ByteArray) (w : World) (hv : Vars w) : Calls Tryz.prog 4 #[.string s, .string t] w fun e w' => e = .returned (.bool true) ∧ Below w.heap.size w w' := by
  have HV := Lib.hid hv
  have H1 : Hid (∀ W, Calls Tryz.prog 8 #[.string s] W fun e w' => RuRes W w' e (ruleR s.data.toList)) := Lib.hid fun W => rf_rule s W
  have H2 : Hid (∀ W, Calls Tryz.prog 8 #[.string t] W fun e w' => RuRes W w' e (ruleR t.data.toList)) := Lib.hid fun W => rf_rule t W
  have HF1 := Lib.hid (ruleR_few s.data.toList)
  have HF2 := Lib.hid (ruleR_few t.data.toList)
  clear hv
  obtain ⟨⟨R1, z1, y1⟩, hR1⟩ : ∃ x, ruleR s.data.toList = x := ⟨_, rfl⟩
  obtain ⟨⟨R2, z2, y2⟩, hR2⟩ : ∃ x, ruleR t.data.toList = x := ⟨_, rfl⟩
  rw [hR1] at H1 HF1
  rw [hR2] at H2 HF2
  clear hR1 hR2
  go_enter Tryz.func4, Tryz.ntmps4
  go_wp2_with (fail)
  refine (H1.out _).mono ?_
  intro e w1 hres
  obtain ⟨G1, rfl, hp1, hok1, hb1⟩ := hres.rule
  obtain ⟨k1, nm1, hA1, hc1, head1, ag1, ofv1, lim1, bA1, bc1, body1⟩ := G1
  have hx1 := heap_alloc_new w1 (.cells #[.int .i64 k1, .string nm1, .slice hA1 head1.length hc1, .int .i64 ag1, .string ofv1, .int .i64 lim1, .slice bA1 body1.length bc1] 25)
  have HX1 := Lib.hid hx1
  have HO1 := Lib.hid (hok1.below (one_new w1 (.cells #[.int .i64 k1, .string nm1, .slice hA1 head1.length hc1, .int .i64 ag1, .string ofv1, .int .i64 lim1, .slice bA1 body1.length bc1] 25)))
  have hq1 := hb1.alloc hb1.size (.cells #[.int .i64 k1, .string nm1, .slice hA1 head1.length hc1, .int .i64 ag1, .string ofv1, .int .i64 lim1, .slice bA1 body1.length bc1] 25)
  have HB1 := Lib.hid hq1
  have HP1 : Hid (RuP.Few (RuG.pl (⟨k1, nm1, hA1, hc1, head1, ag1, ofv1, lim1, bA1, bc1, body1⟩ : RuG))) := Lib.hid (by rw [hp1]; exact HF1.out)
  have hz1 : (w1.alloc (.cells #[.int .i64 k1, .string nm1, .slice hA1 head1.length hc1, .int .i64 ag1, .string ofv1, .int .i64 lim1, .slice bA1 body1.length bc1] 25)).heap.size = w1.heap.size + 1 := World.size_alloc _ _
  have HZ1 := Lib.hid hz1
  clear hb1 hres H1 hok1 hx1 hq1 hp1 hz1
  simp only [RuG.cells]
  go_wp2_with (fail)
  refine (H2.out _).mono ?_
  intro e w2 hres
  obtain ⟨G2, rfl, hp2, hok2, hb2⟩ := hres.rule
  obtain ⟨k2, nm2, hA2, hc2, head2, ag2, ofv2, lim2, bA2, bc2, body2⟩ := G2
  have hq2 := hb2.alloc hb2.size (.cells #[.int .i64 k2, .string nm2, .slice hA2 head2.length hc2, .int .i64 ag2, .string ofv2, .int .i64 lim2, .slice bA2 body2.length bc2] 25)
  obtain ⟨b, hb⟩ : ∃ b : Bool, b = true ↔ RuG.pl (⟨k1, nm1, hA1, hc1, head1, ag1, ofv1, lim1, bA1, bc1, body1⟩ : RuG) = RuG.pl (⟨k2, nm2, hA2, hc2, head2, ag2, ofv2, lim2, bA2, bc2, body2⟩ : RuG) := by
    by_cases h : RuG.pl (⟨k1, nm1, hA1, hc1, head1, ag1, ofv1, lim1, bA1, bc1, body1⟩ : RuG) = RuG.pl (⟨k2, nm2, hA2, hc2, head2, ag2, ofv2, lim2, bA2, bc2, body2⟩ : RuG)
    · exact ⟨true, fun _ => h, fun _ => rfl⟩
    · exact ⟨false, fun e => (by cases e), fun e => (h e).elim⟩
  have HK1 : Hid (RuG.Ok (w2.alloc (.cells #[.int .i64 k2, .string nm2, .slice hA2 head2.length hc2, .int .i64 ag2, .string ofv2, .int .i64 lim2, .slice bA2 body2.length bc2] 25)) (⟨k1, nm1, hA1, hc1, head1, ag1, ofv1, lim1, bA1, bc1, body1⟩ : RuG)) := Lib.hid (HO1.out.below hq2)
  have HK2 : Hid (RuG.Ok (w2.alloc (.cells #[.int .i64 k2, .string nm2, .slice hA2 head2.length hc2, .int .i64 ag2, .string ofv2, .int .i64 lim2, .slice bA2 body2.length bc2] 25)) (⟨k2, nm2, hA2, hc2, head2, ag2, ofv2, lim2, bA2, bc2, body2⟩ : RuG)) := Lib.hid (hok2.below (one_new w2 (.cells #[.int .i64 k2, .string nm2, .slice hA2 head2.length hc2, .int .i64 ag2, .string ofv2, .int .i64 lim2, .slice bA2 body2.length bc2] 25)))
  have HPP : Hid (∀ W, Below (w2.alloc (.cells #[.int .i64 k2, .string nm2, .slice hA2 head2.length hc2, .int .i64 ag2, .string ofv2, .int .i64 lim2, .slice bA2 body2.length bc2] 25)).heap.size (w2.alloc (.cells #[.int .i64 k2, .string nm2, .slice hA2 head2.length hc2, .int .i64 ag2, .string ofv2, .int .i64 lim2, .slice bA2 body2.length bc2] 25)) W → Calls Tryz.prog 10 #[.agg #[.int .i64 k1, .string nm1, .slice hA1 head1.length hc1, .int .i64 ag1, .string ofv1, .int .i64 lim1, .slice bA1 body1.length bc1], .agg #[.int .i64 k2, .string nm2, .slice hA2 head2.length hc2, .int .i64 ag2, .string ofv2, .int .i64 lim2, .slice bA2 body2.length bc2]] W fun e w' => e = .returned (.bool b) ∧ Below W.heap.size W w') := Lib.hid fun W hW => p_same b (⟨k1, nm1, hA1, hc1, head1, ag1, ofv1, lim1, bA1, bc1, body1⟩ : RuG) (⟨k2, nm2, hA2, hc2, head2, ag2, ofv2, lim2, bA2, bc2, body2⟩ : RuG) hb W (HK1.out.below hW) (HK2.out.below hW) HP1.out
  have HRR : Hid (∀ W, Below (w2.alloc (.cells #[.int .i64 k2, .string nm2, .slice hA2 head2.length hc2, .int .i64 ag2, .string ofv2, .int .i64 lim2, .slice bA2 body2.length bc2] 25)).heap.size (w2.alloc (.cells #[.int .i64 k2, .string nm2, .slice hA2 head2.length hc2, .int .i64 ag2, .string ofv2, .int .i64 lim2, .slice bA2 body2.length bc2] 25)) W → Calls Tryz.prog 9 #[.agg #[.int .i64 k1, .string nm1, .slice hA1 head1.length hc1, .int .i64 ag1, .string ofv1, .int .i64 lim1, .slice bA1 body1.length bc1], .agg #[.int .i64 k2, .string nm2, .slice hA2 head2.length hc2, .int .i64 ag2, .string ofv2, .int .i64 lim2, .slice bA2 body2.length bc2]] W fun e w' => e = .returned (.bool b) ∧ Below W.heap.size W w') := Lib.hid fun W hW => r_sameB b (⟨k1, nm1, hA1, hc1, head1, ag1, ofv1, lim1, bA1, bc1, body1⟩ : RuG) (⟨k2, nm2, hA2, hc2, head2, ag2, ofv2, lim2, bA2, bc2, body2⟩ : RuG) hb W (HK1.out.below hW) (HK2.out.below hW) HP1.out
  have HXX : Hid (∀ W, Below (w2.alloc (.cells #[.int .i64 k2, .string nm2, .slice hA2 head2.length hc2, .int .i64 ag2, .string ofv2, .int .i64 lim2, .slice bA2 body2.length bc2] 25)).heap.size (w2.alloc (.cells #[.int .i64 k2, .string nm2, .slice hA2 head2.length hc2, .int .i64 ag2, .string ofv2, .int .i64 lim2, .slice bA2 body2.length bc2] 25)) W → Calls Tryz.prog 10 #[.agg #[.int .i64 k1, .string nm1, .slice hA1 head1.length hc1, .int .i64 ag1, .string ofv1, .int .i64 lim1, .slice bA1 body1.length bc1], .agg #[.int .i64 k1, .string nm1, .slice hA1 head1.length hc1, .int .i64 ag1, .string ofv1, .int .i64 lim1, .slice bA1 body1.length bc1]] W fun e w' => e = .returned (.bool true) ∧ Below W.heap.size W w') := Lib.hid fun W hW => p_same true (⟨k1, nm1, hA1, hc1, head1, ag1, ofv1, lim1, bA1, bc1, body1⟩ : RuG) (⟨k1, nm1, hA1, hc1, head1, ag1, ofv1, lim1, bA1, bc1, body1⟩ : RuG) ⟨fun _ => rfl, fun _ => rfl⟩ W (HK1.out.below hW) (HK1.out.below hW) HP1.out
  have HKN : Hid (∀ W, Below (w2.alloc (.cells #[.int .i64 k2, .string nm2, .slice hA2 head2.length hc2, .int .i64 ag2, .string ofv2, .int .i64 lim2, .slice bA2 body2.length bc2] 25)).heap.size (w2.alloc (.cells #[.int .i64 k2, .string nm2, .slice hA2 head2.length hc2, .int .i64 ag2, .string ofv2, .int .i64 lim2, .slice bA2 body2.length bc2] 25)) W → Calls Tryz.prog 7 #[] W fun e w' => e = .returned (.bool true) ∧ Below W.heap.size W w') := Lib.hid fun W hW => known12 W (HV.out.later ((HB1.out.trans (hq2.mono HB1.out.size)).trans (hW.mono (HB1.out.trans (hq2.mono HB1.out.size)).size)))
  have HS : Hid (∀ W, Below (w2.alloc (.cells #[.int .i64 k2, .string nm2, .slice hA2 head2.length hc2, .int .i64 ag2, .string ofv2, .int .i64 lim2, .slice bA2 body2.length bc2] 25)).heap.size (w2.alloc (.cells #[.int .i64 k2, .string nm2, .slice hA2 head2.length hc2, .int .i64 ag2, .string ofv2, .int .i64 lim2, .slice bA2 body2.length bc2] 25)) W → W.heap[w1.heap.size]? = some (.cells #[.int .i64 k1, .string nm1, .slice hA1 head1.length hc1, .int .i64 ag1, .string ofv1, .int .i64 lim1, .slice bA1 body1.length bc1] 25 (0, 0)) ∧ W.heap[w2.heap.size]? = some (.cells #[.int .i64 k2, .string nm2, .slice hA2 head2.length hc2, .int .i64 ag2, .string ofv2, .int .i64 lim2, .slice bA2 body2.length bc2] 25 (0, 0))) := Lib.hid fun W hW => ⟨((hq2.trans (hW.mono hq2.size)).block w1.heap.size (by rw [HZ1.out]; omega)).trans HX1.out, (hW.block w2.heap.size (by rw [World.size_alloc]; omega)).trans (heap_alloc_new w2 (.cells #[.int .i64 k2, .string nm2, .slice hA2 head2.length hc2, .int .i64 ag2, .string ofv2, .int .i64 lim2, .slice bA2 body2.length bc2] 25))⟩
  have HB2 := Lib.hid (HB1.out.trans (hq2.mono HB1.out.size))
  have ebb : (b == b) = true := by simp
  clear hb2 hq2 hres H2 hok2 hp2 HO1 HX1 HZ1 HP1 HB1 HK1 HK2 hb HF1 HF2
  obtain ⟨g1, g2⟩ := HS.out _ (Below.refl _ _)
  obtain ⟨n0, n1, n2, n3, n4, n5, n6⟩ := box7p_of g1
  obtain ⟨n7, n8, n9, n10, n11, n12, n13⟩ := box7p_of g2
  clear g1 g2
  simp only [RuG.cells]
  go_wp2
  go_region_held3 (fun w' : World => w'.cell? ⟨w1.heap.size, 0, none⟩ = some (Value.int .i64 k1) ∧ w'.cell? ⟨w1.heap.size, 1, none⟩ = some (Value.string nm1) ∧ w'.cell? ⟨w1.heap.size, 2, none⟩ = some (Value.slice hA1 head1.length hc1) ∧ w'.cell? ⟨w1.heap.size, 3, none⟩ = some (Value.int .i64 ag1) ∧ w'.cell? ⟨w1.heap.size, 4, none⟩ = some (Value.string ofv1) ∧ w'.cell? ⟨w1.heap.size, 5, none⟩ = some (Value.int .i64 lim1) ∧ w'.cell? ⟨w1.heap.size, 6, none⟩ = some (Value.slice bA1 body1.length bc1) ∧ w'.cell? ⟨w2.heap.size, 0, none⟩ = some (Value.int .i64 k2) ∧ w'.cell? ⟨w2.heap.size, 1, none⟩ = some (Value.string nm2) ∧ w'.cell? ⟨w2.heap.size, 2, none⟩ = some (Value.slice hA2 head2.length hc2) ∧ w'.cell? ⟨w2.heap.size, 3, none⟩ = some (Value.int .i64 ag2) ∧ w'.cell? ⟨w2.heap.size, 4, none⟩ = some (Value.string ofv2) ∧ w'.cell? ⟨w2.heap.size, 5, none⟩ = some (Value.int .i64 lim2) ∧ w'.cell? ⟨w2.heap.size, 6, none⟩ = some (Value.slice bA2 body2.length bc2)) (go_keep)
    (first
      | (go_at_call 10; refine (HPP.out _ ((Below.refl _ _).drew)).mono ?_; rintro e w6 ⟨rfl, hb6⟩; have HB6 := Lib.hid ((Below.refl _ _).drew.trans hb6); obtain ⟨g1, g2⟩ := HS.out _ HB6.out; obtain ⟨x0, x1, x2, x3, x4, x5, x6⟩ := box7p_of g1; obtain ⟨x7, x8, x9, x10, x11, x12, x13⟩ := box7p_of g2; clear g1 g2; clear hb6 HPP)
      | (go_at_call 9; refine (HRR.out _ HB6.out).mono ?_; rintro e w7 ⟨rfl, hb7⟩; have HB7 := Lib.hid (HB6.out.trans (hb7.mono HB6.out.size)); obtain ⟨g1, g2⟩ := HS.out _ HB7.out; obtain ⟨y0, y1, y2, y3, y4, y5, y6⟩ := box7p_of g1; obtain ⟨y7, y8, y9, y10, y11, y12, y13⟩ := box7p_of g2; clear g1 g2; clear hb7 HRR)
      | (go_at_call 10; refine (HXX.out _ HB7.out).mono ?_; rintro e w8 ⟨rfl, hb8⟩; have HB8 := Lib.hid (HB7.out.trans (hb8.mono HB7.out.size)); obtain ⟨g1, g2⟩ := HS.out _ HB8.out; obtain ⟨z0, z1, z2, z3, z4, z5, z6⟩ := box7p_of g1; obtain ⟨z7, z8, z9, z10, z11, z12, z13⟩ := box7p_of g2; clear g1 g2; clear hb8 HXX)
      | (go_at_call 7; refine (HKN.out w8 HB8.out).mono ?_; rintro e w9 ⟨rfl, hb9⟩; have HB9 := Lib.hid (HB8.out.trans (hb9.mono HB8.out.size)); obtain ⟨g1, g2⟩ := HS.out _ HB9.out; obtain ⟨u0, u1, u2, u3, u4, u5, u6⟩ := box7p_of g1; obtain ⟨u7, u8, u9, u10, u11, u12, u13⟩ := box7p_of g2; clear g1 g2; clear hb9))
  all_goals
    have HBE := Lib.hid (HB2.out.trans (HB9.out.mono HB2.out.size))
    go_wp2
    go_ret
    exact ⟨rfl, HBE.out⟩
end Go.Proofs.YtmkejlhkipngnaaGreatDoor
