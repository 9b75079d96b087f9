/-
  What the statements of layer 14 ask of fixed calls comes.
  No condition.
-/
import Derived.KernelRfl
import Derived.Test.YthdjkagodccdbaaM42
import Derived.Test.YthdjkagodccdbaaMPrm
import Derived.Test.YthdjkagodccdbaaMSrsam
namespace Go.Proofs.Ythdjkagodccdbaa
open Go.RowKit Go.Maps

def bPod : ByteArray := ⟨#[112, 111, 100]⟩
def bHost : ByteArray := ⟨#[104, 111, 115, 116]⟩
def bImage : ByteArray := ⟨#[105, 109, 97, 103, 101]⟩
def bCpu : ByteArray := ⟨#[99, 112, 117]⟩
def bNode : ByteArray := ⟨#[110, 111, 100, 101]⟩
def bUp : ByteArray := ⟨#[117, 112]⟩
def KL8 : List Sc := [⟨bPod, [⟨bImage, 3, false⟩, ⟨bCpu, 2, false⟩, ⟨bNode, 3, true⟩]⟩, ⟨bHost, [⟨bUp, 1, false⟩]⟩]
theorem KL8_fault : faultR KL8 = 0 := by decide +kernel
theorem lit_cellsQ (w : World) (cs : Array Value) (t : TypeId) (Q : Nat → Prop) (hq : Q w.heap.size) : CellsQ (w.alloc (.cells cs t)) Q (some ⟨w.heap.size, 0, none⟩) cs.toList := by
  intro j u hj
  have ha : (⟨w.heap.size, 0, none⟩ : Addr).add j = ⟨w.heap.size, j, none⟩ := by unfold Addr.add; split <;> simp_all
  refine ⟨_, rfl, by rw [ha]; exact hq, ?_⟩
  rw [ha]
  exact (alloc_new_cells w cs t j).trans (by rw [← Array.getElem?_toList]; exact hj)
theorem podF : flatC [⟨bImage, 3, false⟩, ⟨bCpu, 2, false⟩, ⟨bNode, 3, true⟩] = [.string bImage, .int .i64 3, .bool false, .string bCpu, .int .i64 2, .bool false, .string bNode, .int .i64 3, .bool true] := rfl
theorem hostF : flatC [⟨bUp, 1, false⟩] = [.string bUp, .int .i64 1, .bool false] := rfl
set_option maxRecDepth 100000 in
set_option maxHeartbeats 1000000 in
theorem l_kinds (w : World) : Calls Try.prog 15 #[] w fun r w' => ∃ v, r = .returned v ∧ IsKinds w' (Behind w) v KL8 ∧ Below w.heap.size w w' := by
  go_enter Try.func15, Try.ntmps15
  go_wp2
  go_ret
  have c1 := lit_cellsQ w #[.string bImage, .int .i64 3, .bool false, .string bCpu, .int .i64 2, .bool false, .string bNode, .int .i64 3, .bool true] 49 (Behind w) (Nat.le_refl _)
  have c2 := lit_cellsQ (w.alloc (.cells #[.string bImage, .int .i64 3, .bool false, .string bCpu, .int .i64 2, .bool false, .string bNode, .int .i64 3, .bool true] 49)) #[.string bUp, .int .i64 1, .bool false] 49 (Behind w) (by simp [Behind])
  have c3 := lit_cellsQ ((w.alloc (.cells #[.string bImage, .int .i64 3, .bool false, .string bCpu, .int .i64 2, .bool false, .string bNode, .int .i64 3, .bool true] 49)).alloc (.cells #[.string bUp, .int .i64 1, .bool false] 49)) #[.string bPod, .slice (some ⟨w.heap.size, 0, none⟩) 3 3, .string bHost, .slice (some ⟨w.heap.size + 1, 0, none⟩) 1 1] 71 (Behind w) (by simp [Behind]; omega)
  rw [World.size_alloc] at c2
  rw [World.size_alloc, World.size_alloc] at c3
  have k1 := (c1.keep (Below.keepQ (one_new _ (.cells #[.string bUp, .int .i64 1, .bool false] 49)) _)).keep (Below.keepQ (one_new _ (.cells #[.string bPod, .slice (some ⟨w.heap.size, 0, none⟩) 3 3, .string bHost, .slice (some ⟨w.heap.size + 1, 0, none⟩) 1 1] 71)) _)
  have k2 := c2.keep (Below.keepQ (one_new _ (.cells #[.string bPod, .slice (some ⟨w.heap.size, 0, none⟩) 3 3, .string bHost, .slice (some ⟨w.heap.size + 1, 0, none⟩) 1 1] 71)) _)
  refine ⟨.slice (some ⟨w.heap.size + 1 + 1, 0, none⟩) 2 2, rfl, ⟨by decide, _, 2, rfl, fun h => (by cases h), by decide, [(bPod, .slice (some ⟨w.heap.size, 0, none⟩) 3 3), (bHost, .slice (some ⟨w.heap.size + 1, 0, none⟩) 1 1)], ⟨rfl, ⟨by decide, _, 3, rfl, fun h => (by cases h), by decide, (by rw [podF]; exact k1)⟩, rfl, ⟨by decide, _, 1, rfl, fun h => (by cases h), by decide, (by rw [hostF]; exact k2)⟩, trivial⟩, c3⟩, (one_new w _).trans (((one_new _ _).trans ((one_new _ _).mono (by simp))).mono (by simp))⟩


theorem KL8_few : ∀ x ∈ KL8, x.cols.length ≤ 900000 := by
  intro x hx
  unfold KL8 at hx
  simp only [List.mem_cons, List.not_mem_nil, or_false] at hx
  rcases hx with rfl | rfl <;> simp
def smlTX (x : RuP) : Bool := decide (x.head.length ≤ 1000) && (x.head.all (fun s => decide (s.size ≤ maxLen)) && (decide (x.ofv.size ≤ maxLen) && (decide (x.body.length ≤ 41) && x.body.all (fun y => decide (y.args.length ≤ 5000) && (decide (y.s.size ≤ maxLen) && y.args.all fun t => decide (t.s.size ≤ maxLen))))))
theorem SmlT.of {r : RuG} {x : RuP} (h : r.pl = x) (hx : smlTX x = true) : SmlT r := by
  subst h
  unfold smlTX at hx
  simp only [Bool.and_eq_true, decide_eq_true_eq, List.all_eq_true] at hx
  obtain ⟨h1, h2, h3, h4, h5⟩ := hx
  rw [List.length_map] at h4
  exact ⟨h1, h2, h3, h4, fun y hy => h5 y.li (List.mem_map.2 ⟨y, hy, rfl⟩)⟩
/-- 'view v(s, sum c) if pod(s, n, _, c, o), o == null' -/
def kX1 : ByteArray := ⟨#[118, 105, 101, 119, 32, 118, 40, 115, 44, 32, 115, 117, 109, 32, 99, 41, 32, 105, 102, 32, 112, 111, 100, 40, 115, 44, 32, 110, 44, 32, 95, 44, 32, 99, 44, 32, 111, 41, 44, 32, 111, 32, 61, 61, 32, 110, 117, 108, 108]⟩
/-- 'deny d(c) if pod(s, n, _, c, _), c == "x"' -/
def kX2 : ByteArray := ⟨#[100, 101, 110, 121, 32, 100, 40, 99, 41, 32, 105, 102, 32, 112, 111, 100, 40, 115, 44, 32, 110, 44, 32, 95, 44, 32, 99, 44, 32, 95, 41, 44, 32, 99, 32, 61, 61, 32, 34, 120, 34]⟩
set_option maxRecDepth 1000000
theorem kX1_why : (ruleR kX1.data.toList).2.2 = 0 := by kernel_rfl
theorem kX1_sml : smlTX (ruleR kX1.data.toList).1 = true := by kernel_rfl
theorem kX1_is : headT KL8 [] (ruleR kX1.data.toList).1 = ([⟨⟨#[115]⟩, 3, false⟩, ⟨⟨#[99]⟩, 2, false⟩], 0, 0) := by kernel_rfl
theorem kX2_why : (ruleR kX2.data.toList).2.2 = 0 := by kernel_rfl
theorem kX2_sml : smlTX (ruleR kX2.data.toList).1 = true := by kernel_rfl
theorem kX2_is : varsZ KL8 [] (ruleR kX2.data.toList).1 = ([], 1, 11) := by kernel_rfl
theorem kX1_call (w : World) : Calls Try.prog 7 #[.string ⟨#[118, 105, 101, 119, 32, 118, 40, 115, 44, 32, 115, 117, 109, 32, 99, 41, 32, 105, 102, 32, 112, 111, 100, 40, 115, 44, 32, 110, 44, 32, 95, 44, 32, 99, 44, 32, 111, 41, 44, 32, 111, 32, 61, 61, 32, 110, 117, 108, 108]⟩] w fun e w' => ∃ (k1 : Int) (nm1 : ByteArray) (hA1 : Option Addr) (hn1 hc1 : Nat) (ag1 : Int) (ofv1 : ByteArray) (lim1 : Int) (bA1 : Option Addr) (bn1 bc1 : Nat) (z1 : Int),
    e = .returned (.tuple #[.agg #[.int .i64 k1, .string nm1, .slice hA1 hn1 hc1, .int .i64 ag1, .string ofv1, .int .i64 lim1, .slice bA1 bn1 bc1], .int .i64 z1, .int .i64 0]) ∧ Below w.heap.size w w' ∧ Hid (∀ (W : World) (Q : Nat → Prop) (g : Nat), Below w'.heap.size w' W → SetIs W Q g KL8 → Calls Try.prog 10 #[.agg #[.int .i64 k1, .string nm1, .slice hA1 hn1 hc1, .int .i64 ag1, .string ofv1, .int .i64 lim1, .slice bA1 bn1 bc1], .pointer (some ⟨g, 0, none⟩), .slice none 0 0] W (TypIs W ([⟨⟨#[115]⟩, 3, false⟩, ⟨⟨#[99]⟩, 2, false⟩], 0, 0))) := by
  refine (rf_rule kX1 w).mono ?_
  intro e w' h
  obtain ⟨⟨k, nm, hA, hc, head, ag, ofv, lim, bA, bc, body⟩, rfl, hp, hok, hb⟩ := h.rule
  have hs := SmlT.of hp kX1_sml
  rw [kX1_why]
  refine ⟨k, nm, hA, head.length, hc, ag, ofv, lim, bA, body.length, bc, _, rfl, hb, Lib.hid fun W Q g hW hS => ?_⟩
  have h1 := p_Head ⟨k, nm, hA, hc, head, ag, ofv, lim, bA, bc, body⟩ g Q KL8 [] none [] 0 W (hok.below hW) hs hS KL8_few trivial (fun j u hj => by simp [flatS] at hj) (by simp) (fun _ h => absurd h List.not_mem_nil)
  rw [hp, kX1_is] at h1
  exact h1

theorem kX2_call (w : World) : Calls Try.prog 7 #[.string ⟨#[100, 101, 110, 121, 32, 100, 40, 99, 41, 32, 105, 102, 32, 112, 111, 100, 40, 115, 44, 32, 110, 44, 32, 95, 44, 32, 99, 44, 32, 95, 41, 44, 32, 99, 32, 61, 61, 32, 34, 120, 34]⟩] w fun e w' => ∃ (k1 : Int) (nm1 : ByteArray) (hA1 : Option Addr) (hn1 hc1 : Nat) (ag1 : Int) (ofv1 : ByteArray) (lim1 : Int) (bA1 : Option Addr) (bn1 bc1 : Nat) (z1 : Int),
    e = .returned (.tuple #[.agg #[.int .i64 k1, .string nm1, .slice hA1 hn1 hc1, .int .i64 ag1, .string ofv1, .int .i64 lim1, .slice bA1 bn1 bc1], .int .i64 z1, .int .i64 0]) ∧ Below w.heap.size w w' ∧ Hid (∀ (W : World) (Q : Nat → Prop) (g : Nat), Below w'.heap.size w' W → SetIs W Q g KL8 → Calls Try.prog 16 #[.agg #[.int .i64 k1, .string nm1, .slice hA1 hn1 hc1, .int .i64 ag1, .string ofv1, .int .i64 lim1, .slice bA1 bn1 bc1], .pointer (some ⟨g, 0, none⟩), .slice none 0 0] W (TypIs W ([], 1, 11))) := by
  refine (rf_rule kX2 w).mono ?_
  intro e w' h
  obtain ⟨⟨k, nm, hA, hc, head, ag, ofv, lim, bA, bc, body⟩, rfl, hp, hok, hb⟩ := h.rule
  have hs := SmlT.of hp kX2_sml
  rw [kX2_why]
  refine ⟨k, nm, hA, head.length, hc, ag, ofv, lim, bA, body.length, bc, _, rfl, hb, Lib.hid fun W Q g hW hS => ?_⟩
  have h1 := p_Vars ⟨k, nm, hA, hc, head, ag, ofv, lim, bA, bc, body⟩ g Q KL8 [] none [] 0 W (hok.below hW) hs hS KL8_few trivial (fun j u hj => by simp [flatS] at hj) (by simp) (fun _ h => absurd h List.not_mem_nil)
  rw [hp, kX2_is] at h1
  exact h1

theorem r_same14 (v1 v2 : Value) (cs : List Co) (Q1 Q2 : Nat → Prop) (w : World) (h1 : IsCols w Q1 v1 cs) (h2 : IsCols w Q2 v2 cs) :
    Calls Try.prog 12 #[v1, v2] w fun e w' => e = .returned (.bool true) ∧ Below w.heap.size w w' := by
  have HS := Lib.hid (ref_same7 ⟨#[]⟩ v1 v2 cs Q1 Q2 w h1 h2)
  obtain ⟨_, A, c, rfl, _⟩ := h1
  obtain ⟨_, B, d, rfl, _⟩ := h2
  go_enter Try.func12, Try.ntmps12
  go_wp2_with fail
  refine HS.out.mono ?_
  rintro e w1 ⟨rfl, hb1⟩
  go_wp2
  go_ret
  exact ⟨rfl, hb1⟩
set_option maxRecDepth 100000 in
set_option maxHeartbeats 4000000 in
theorem lw_known14 (w : World) : Calls Try.prog 6 #[] w fun e w' => e = .returned (.bool true) ∧ Below w.heap.size w w' := by
  go_enter Try.func6, Try.ntmps6
  go_wp2_with fail
  refine (l_kinds w).mono ?_
  rintro e w1 ⟨v1, rfl, hk1, hb1⟩
  have HB1 := Lib.hid hb1
  have HNW := Lib.hid (s_new (Behind w) v1 KL8 w1 hk1)
  clear hk1 hb1
  go_wp2_with fail
  refine HNW.out.mono ?_
  rintro e w2 ⟨hb2, ⟨_, g, rfl, hs2⟩ | ⟨hno, _⟩⟩
  case inr => exact absurd KL8_fault hno
  have HB2 := Lib.hid (HB1.out.trans (hb2.mono HB1.out.size))
  have HS2 := Lib.hid hs2
  clear hs2 hb2
  go_wp2_with fail
  refine (kX1_call _).mono ?_
  rintro e w3 ⟨k1, nm1, hA1, hn1, hc1, ag1, ofv1, lim1, bA1, bn1, bc1, z1, rfl, hb3, HF1⟩
  have hx3 := heap_alloc_new w3 (.cells #[.int .i64 k1, .string nm1, .slice hA1 hn1 hc1, .int .i64 ag1, .string ofv1, .int .i64 lim1, .slice bA1 bn1 bc1] 27)
  have HX3 := Lib.hid hx3
  have HON3 := Lib.hid (one_new w3 (.cells #[.int .i64 k1, .string nm1, .slice hA1 hn1 hc1, .int .i64 ag1, .string ofv1, .int .i64 lim1, .slice bA1 bn1 bc1] 27))
  have HB3 := Lib.hid (HB2.out.trans (hb3.mono HB2.out.size))
  have HS3 := Lib.hid (HS2.out.below hb3)
  clear hx3 hb3
  go_wp2_with fail
  refine (kX2_call _).mono ?_
  rintro e w4 ⟨k2, nm2, hA2, hn2, hc2, ag2, ofv2, lim2, bA2, bn2, bc2, z2, rfl, hb4, HF2⟩
  have HB34 := Lib.hid (HON3.out.trans (hb4.mono HON3.out.size))
  have HX4 := Lib.hid ((hb4.block w3.heap.size (by simp)).trans HX3.out)
  have hl3 : w3.heap.size < w4.heap.size := (Array.getElem?_eq_some_iff.1 HX4.out).1
  have hx5 := heap_alloc_new w4 (.cells #[.int .i64 k2, .string nm2, .slice hA2 hn2 hc2, .int .i64 ag2, .string ofv2, .int .i64 lim2, .slice bA2 bn2 bc2] 27)
  have hon5 := one_new w4 (.cells #[.int .i64 k2, .string nm2, .slice hA2 hn2 hc2, .int .i64 ag2, .string ofv2, .int .i64 lim2, .slice bA2 bn2 bc2] 27)
  have HX5 := Lib.hid hx5
  have HON5 := Lib.hid hon5
  have HB35 := Lib.hid (HB34.out.trans (hon5.mono HB34.out.size))
  have hz5 : (w4.alloc (.cells #[.int .i64 k2, .string nm2, .slice hA2 hn2 hc2, .int .i64 ag2, .string ofv2, .int .i64 lim2, .slice bA2 bn2 bc2] 27)).heap.size = w4.heap.size + 1 := World.size_alloc _ _
  have HZ5 := Lib.hid hz5
  obtain ⟨m0, m1, m2, m3, m4, m5, m6⟩ := box7g_of ((hon5.block w3.heap.size hl3).trans HX4.out)
  have HHD := Lib.hid (HF1.out _ _ g HB35.out (HS3.out.below HB35.out))
  clear hb4 hx5 hon5 hz5
  go_wp2_with fail
  refine HHD.out.mono ?_
  rintro e w6 ⟨v6, rfl, hv6, hb6⟩
  have HB6 := Lib.hid (HON5.out.trans (hb6.mono HON5.out.size))
  have HB36 := Lib.hid (HB35.out.trans (hb6.mono HB35.out.size))
  have HV6 := Lib.hid hv6
  obtain ⟨_, A6, c6, rfl, _⟩ := hv6
  obtain ⟨q0, q1, q2, q3, q4, q5, q6⟩ := box7g_of ((hb6.block w4.heap.size (by rw [HZ5.out]; omega)).trans HX5.out)
  have HVR := Lib.hid (HF2.out w6 _ g HB6.out (HS3.out.below HB36.out))
  clear hb6 m0 m1 m2 m3 m4 m5 m6
  go_wp2_with fail
  refine HVR.out.mono ?_
  rintro e w7 ⟨v7, rfl, hv7, hb7⟩
  have HB7 := Lib.hid (HB3.out.trans ((HB36.out.trans (hb7.mono HB36.out.size)).mono HB3.out.size))
  have HV67 := Lib.hid (HV6.out.below hb7)
  obtain ⟨_, A7, c7, rfl, _⟩ := hv7
  clear hb7 q0 q1 q2 q3 q4 q5 q6
  have hlit : IsCols (w7.alloc (.cells #[.string ⟨#[115]⟩, .int .i64 3, .bool false, .string ⟨#[99]⟩, .int .i64 2, .bool false] 49)) (fun _ => True) (.slice (some ⟨w7.heap.size, 0, none⟩) 2 2) [⟨⟨#[115]⟩, 3, false⟩, ⟨⟨#[99]⟩, 2, false⟩] :=
    ⟨by decide, some ⟨w7.heap.size, 0, none⟩, 2, rfl, (fun h => by cases h), by decide, lit_cellsQ w7 #[.string ⟨#[115]⟩, .int .i64 3, .bool false, .string ⟨#[99]⟩, .int .i64 2, .bool false] 49 (fun _ => True) trivial⟩
  have hon8 := one_new w7 (.cells #[.string ⟨#[115]⟩, .int .i64 3, .bool false, .string ⟨#[99]⟩, .int .i64 2, .bool false] 49)
  have HSM := Lib.hid (r_same14 _ _ _ _ _ _ (HV67.out.below hon8) hlit)
  have HB8 := Lib.hid (HB7.out.trans (hon8.mono HB7.out.size))
  clear hlit hon8
  go_wp2_with fail
  refine HSM.out.mono ?_
  rintro e w9 ⟨rfl, hb9⟩
  have HB9 := Lib.hid (HB8.out.trans (hb9.mono HB8.out.size))
  clear hb9
  go_wp2
  go_ret
  exact ⟨rfl, HB9.out⟩
end Go.Proofs.Ythdjkagodccdbaa
