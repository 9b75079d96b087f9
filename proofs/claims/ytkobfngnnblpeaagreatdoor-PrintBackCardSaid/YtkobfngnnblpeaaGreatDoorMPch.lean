/-
  The program's Rule of package print: the text of a rule; too long; or none, as it is not read back.
  Condition: the package-level errors of strconv stand; values' numbers are of 64 bits; words are short.
  The fixed calls of package print's statements; PrintBack's walk.
  Condition: the package-level errors of strconv stand.
  PrintBack's walk: at any text.
  Condition: the package-level errors of strconv stand.
-/
import Derived.Test.YtkobfngnnblpeaaGreatDoorMPce
import Derived.Test.YtkobfngnnblpeaaGreatDoorMPk0
import Derived.Test.YtkobfngnnblpeaaGreatDoorMPrm
namespace Go.Proofs.YtkobfngnnblpeaaGreatDoor
section
open Go.RowKit

/-- A rule that was read can be printed. -/
theorem RuRes.pr {w w' : World} {e : Ending} {l : List UInt8} {X : RuP} {z : Int} (h : RuRes w w' e (X, z, 0)) (hl : ruleR l = (X, z, 0)) :
    ∃ G : RuG, e = .returned (.tuple #[.agg G.cells, .int .i64 z, .int .i64 0]) ∧ G.pl = X ∧ G.Pr w' ∧ Below w.heap.size w w' := by
  obtain ⟨hv, bv, rfl, h1, h2, h3⟩ := h
  obtain ⟨A, c, rfl, he⟩ := OwnF.els h1
  have hst := OwnF.strs h1
  obtain ⟨B, d, body, rfl, hm, hlg⟩ := h2.lgs
  have hbk := ruT_back l X z hl
  have hfew := ruleR_few l
  rw [hl] at hfew
  obtain ⟨k, nm, head, ag, ofv, lim, bd⟩ := X
  simp only at he hm hlg h3 hst
  subst hm
  exact ⟨⟨k, nm, A, c, head, ag, ofv, lim, B, d, body⟩, rfl, rfl, ⟨⟨he, hlg⟩, hst, hfew, hbk.2.2.1, hbk.2.2.2.1, hbk.2.2.2.2, hbk.2.1⟩, h3⟩

set_option maxRecDepth 100000 in
set_option maxHeartbeats 4000000 in
theorem p_printRule (k : Int) (nm : ByteArray) (hA : Option Addr) (hc : Nat) (head : List ByteArray) (ag : Int) (ofv : ByteArray) (lim : Int) (bA : Option Addr) (bc : Nat) (body : List LmG) (w : World) (hv : Vars w) (hG : (⟨k, nm, hA, hc, head, ag, ofv, lim, bA, bc, body⟩ : RuG).Pr w) (T r : List UInt8) (y : Int)
    (hT : ruT (RuG.pl (⟨k, nm, hA, hc, head, ag, ofv, lim, bA, bc, body⟩ : RuG)) = T)
    (hr : (300 < T.length ∧ r = [] ∧ y = 9) ∨ (T.length ≤ 300 ∧ (ruleR T).2.2 ≠ 0 ∧ r = [] ∧ y = 7) ∨ (T.length ≤ 300 ∧ (ruleR T).2.2 = 0 ∧ (ruleR T).1 = RuG.pl (⟨k, nm, hA, hc, head, ag, ofv, lim, bA, bc, body⟩ : RuG) ∧ r = T ∧ y = 0)) :
    Calls Tryz.prog 11 #[.agg #[.int .i64 k, .string nm, .slice hA head.length hc, .int .i64 ag, .string ofv, .int .i64 lim, .slice bA body.length bc]] w fun e w' => e = .returned (.tuple #[.string ⟨r.toArray⟩, .int .i64 y]) ∧ Below w.heap.size w w' := by
  have HT : Hid (∀ W, Below w.heap.size w W → Calls Tryz.prog 26 #[.agg #[.int .i64 k, .string nm, .slice hA head.length hc, .int .i64 ag, .string ofv, .int .i64 lim, .slice bA body.length bc]] W fun e w' => e = .returned (.string ⟨T.toArray⟩) ∧ Below W.heap.size W w') := Lib.hid fun W hW => by
    have h := p_text k nm hA hc head ag ofv lim bA bc body W (hv.later hW) (hG.below hW)
    rw [hT] at h
    exact h
  have HR : Hid (∀ W, Below w.heap.size w W → Calls Tryz.prog 7 #[.string ⟨T.toArray⟩] W fun e w' => RuRes W w' e (ruleR T)) := Lib.hid fun W hW => p_rule ⟨T.toArray⟩ W (hv.later hW)
  have HG := Lib.hid hG
  have hb1 := one_new w (.cells #[.int .i64 k, .string nm, .slice hA head.length hc, .int .i64 ag, .string ofv, .int .i64 lim, .slice bA body.length bc] 35)
  have hx1 := heap_alloc_new w (.cells #[.int .i64 k, .string nm, .slice hA head.length hc, .int .i64 ag, .string ofv, .int .i64 lim, .slice bA body.length bc] 35)
  have hz1 : (w.alloc (.cells #[.int .i64 k, .string nm, .slice hA head.length hc, .int .i64 ag, .string ofv, .int .i64 lim, .slice bA body.length bc] 35)).heap.size = w.heap.size + 1 := World.size_alloc _ _
  have HB1 := Lib.hid hb1
  have HX1 := Lib.hid hx1
  have HZ1 := Lib.hid hz1
  have hsz : (⟨T.toArray⟩ : ByteArray).size = T.length := size_mk T
  clear hb1 hx1 hz1 hv hG hT
  rcases hr with ⟨h1, rfl, rfl⟩ | ⟨h1, h2, rfl, rfl⟩ | ⟨h1, h2, h3, rfl, rfl⟩
  · have d4 : decide ((300 : Int) < (((⟨T.toArray⟩ : ByteArray).size : Nat) : Int)) = true := decide_eq_true (by rw [hsz]; omega)
    have d5 : decide ((300 : Int) < (T.length : Int)) = true := decide_eq_true (by omega)
    clear hsz
    go_enter Tryz.func11, Tryz.ntmps11
    go_wp2_with (go_at_call 26; refine (HT.out _ HB1.out).mono ?_; rintro e w2 ⟨rfl, hb2⟩; have HB2 := Lib.hid (HB1.out.trans (hb2.mono HB1.out.size)); clear hb2)
    refine bodyPost_ret (v := .tuple #[.string ⟨#[]⟩, .int .i64 9]) (by simp [results, Tryz.results11, go_sem]) rfl ⟨rfl, HB2.out⟩
  · have d4 : decide ((300 : Int) < (((⟨T.toArray⟩ : ByteArray).size : Nat) : Int)) = false := decide_eq_false (by rw [hsz]; omega)
    have d5 : decide ((300 : Int) < (T.length : Int)) = false := decide_eq_false (by omega)
    clear hsz
    obtain ⟨⟨X2, z2, y2⟩, hR⟩ : ∃ x, ruleR T = x := ⟨_, rfl⟩
    rw [hR] at HR h2
    have bw : (y2 != 0) = true := by simpa using h2
    have bw2 : (y2 == 0) = false := by simpa using h2
    clear hR h2
    go_enter Tryz.func11, Tryz.ntmps11
    go_wp2_with fail
    refine (HT.out _ HB1.out).mono ?_
    rintro e w2 ⟨rfl, hb2⟩
    have HB2 := Lib.hid (HB1.out.trans (hb2.mono HB1.out.size))
    clear hb2 HT
    go_wp2_with fail
    refine (HR.out _ HB2.out).mono ?_
    intro e w3 hres
    obtain ⟨G2, rfl, hp2, hok2, hb3⟩ := hres.rule
    obtain ⟨k2, nm2, hA2, hc2, head2, ag2, ofv2, lim2, bA2, bc2, body2⟩ := G2
    have HB3 := Lib.hid ((HB2.out.trans (hb3.mono HB2.out.size)).alloc (HB2.out.trans (hb3.mono HB2.out.size)).size (.cells #[.int .i64 k2, .string nm2, .slice hA2 head2.length hc2, .int .i64 ag2, .string ofv2, .int .i64 lim2, .slice bA2 body2.length bc2] 35))
    clear hb3 hres HR hok2 hp2
    simp only [RuG.cells]
    go_wp2
    refine bodyPost_ret (v := .tuple #[.string ⟨#[]⟩, .int .i64 7]) (by simp [results, Tryz.results11, go_sem]) rfl ⟨rfl, HB3.out⟩
  · have d4 : decide ((300 : Int) < (((⟨r.toArray⟩ : ByteArray).size : Nat) : Int)) = false := decide_eq_false (by rw [hsz]; omega)
    have d5 : decide ((300 : Int) < (r.length : Int)) = false := decide_eq_false (by omega)
    clear hsz
    obtain ⟨⟨X2, z2, y2⟩, hR⟩ : ∃ x, ruleR r = x := ⟨_, rfl⟩
    rw [hR] at HR h2 h3
    have h2' : y2 = 0 := h2
    subst h2'
    have h3' : X2 = RuG.pl (⟨k, nm, hA, hc, head, ag, ofv, lim, bA, bc, body⟩ : RuG) := h3
    have H3 := Lib.hid h3'
    clear hR h2 h3 h3'
    go_enter Tryz.func11, Tryz.ntmps11
    go_wp2_with fail
    refine (HT.out _ HB1.out).mono ?_
    rintro e w2 ⟨rfl, hb2⟩
    have HB2 := Lib.hid (HB1.out.trans (hb2.mono HB1.out.size))
    have HX2 := Lib.hid ((hb2.block w.heap.size (by rw [HZ1.out]; omega)).trans HX1.out)
    have hlt2 : w.heap.size < w2.heap.size := by have h := hb2.size; rw [HZ1.out] at h; omega
    clear hb2 HT
    go_wp2_with fail
    refine (HR.out _ HB2.out).mono ?_
    intro e w3 hres
    obtain ⟨G2, rfl, hp2, hok2, hb3⟩ := hres.rule
    obtain ⟨k2, nm2, hA2, hc2, head2, ag2, ofv2, lim2, bA2, bc2, body2⟩ := G2
    have hq3 := hb3.alloc hb3.size (.cells #[.int .i64 k2, .string nm2, .slice hA2 head2.length hc2, .int .i64 ag2, .string ofv2, .int .i64 lim2, .slice bA2 body2.length bc2] 35)
    have HB3 := Lib.hid (HB2.out.trans (hq3.mono HB2.out.size))
    have g1 := (hq3.block w.heap.size hlt2).trans HX2.out
    have g2 := heap_alloc_new w3 (.cells #[.int .i64 k2, .string nm2, .slice hA2 head2.length hc2, .int .i64 ag2, .string ofv2, .int .i64 lim2, .slice bA2 body2.length bc2] 35)
    obtain ⟨n0, n1, n2, n3, n4, n5, n6⟩ := box7p_of g1
    obtain ⟨n7, n8, n9, n10, n11, n12, n13⟩ := box7p_of g2
    have HS : Hid (Calls Tryz.prog 27 #[.agg #[.int .i64 k2, .string nm2, .slice hA2 head2.length hc2, .int .i64 ag2, .string ofv2, .int .i64 lim2, .slice bA2 body2.length bc2], .agg #[.int .i64 k, .string nm, .slice hA head.length hc, .int .i64 ag, .string ofv, .int .i64 lim, .slice bA body.length bc]] (w3.alloc (.cells #[.int .i64 k2, .string nm2, .slice hA2 head2.length hc2, .int .i64 ag2, .string ofv2, .int .i64 lim2, .slice bA2 body2.length bc2] 35)) fun e w' => e = .returned (.bool true) ∧ Below (w3.alloc (.cells #[.int .i64 k2, .string nm2, .slice hA2 head2.length hc2, .int .i64 ag2, .string ofv2, .int .i64 lim2, .slice bA2 body2.length bc2] 35)).heap.size (w3.alloc (.cells #[.int .i64 k2, .string nm2, .slice hA2 head2.length hc2, .int .i64 ag2, .string ofv2, .int .i64 lim2, .slice bA2 body2.length bc2] 35)) w') := by
      have hpl : RuG.pl (⟨k2, nm2, hA2, hc2, head2, ag2, ofv2, lim2, bA2, bc2, body2⟩ : RuG) = RuG.pl (⟨k, nm, hA, hc, head, ag, ofv, lim, bA, bc, body⟩ : RuG) := hp2.trans H3.out
      exact Lib.hid (p_same true (⟨k2, nm2, hA2, hc2, head2, ag2, ofv2, lim2, bA2, bc2, body2⟩ : RuG) (⟨k, nm, hA, hc, head, ag, ofv, lim, bA, bc, body⟩ : RuG) ⟨fun _ => hpl, fun _ => rfl⟩ _ (hok2.below (one_new _ _)) (HG.out.below HB3.out).ok (by rw [hpl]; exact HG.out.few))
    clear hb3 hres HR hok2 hp2 hq3 g1 g2 HX1 HX2 HZ1 hlt2
    simp only [RuG.cells]
    go_wp2_with (go_at_call 27; refine HS.out.mono ?_; rintro e w4 ⟨rfl, hb4⟩; have HB4 := Lib.hid (HB3.out.trans (hb4.mono HB3.out.size)); clear hb4)
    refine bodyPost_ret (v := .tuple #[.string ⟨r.toArray⟩, .int .i64 0]) (by simp [results, Tryz.results11, go_sem]) rfl ⟨rfl, HB4.out⟩
end
end Go.Proofs.YtkobfngnnblpeaaGreatDoor
namespace Go.Proofs.YtkobfngnnblpeaaGreatDoor
section
open Go.RowKit

def nB1 : List UInt8 := [100, 101, 110, 121, 32, 100, 40, 32, 97, 32, 41, 105, 102, 32, 104, 40, 32, 97, 32, 41, 44, 97, 60, 51]
def nB2 : List UInt8 := [100, 101, 110, 121, 32, 100, 40, 97, 41, 32, 105, 102, 32, 104, 40, 97, 41, 44, 32, 97, 32, 60, 32, 51]
def nB3 : List UInt8 := [32, 40, 41, 32, 105, 102, 32]
def nR1 : RuP := ⟨1, ⟨#[100]⟩, [⟨#[97]⟩], 0, ⟨#[]⟩, 0, [⟨false, ⟨#[104]⟩, [vT [97]], 0⟩, ⟨false, ⟨#[]⟩, [vT [97], ⟨⟨#[]⟩, false, ⟨2, false, 3, ⟨#[]⟩⟩⟩], 3⟩]⟩
theorem n13_1 : ruleR nB1 = (nR1, 0, 0) := by kernel_rfl
theorem n13_2 : ruT nR1 = nB2 := by kernel_rfl
theorem n13_3 : ruleR nB2 = (nR1, 0, 0) := by kernel_rfl
theorem n13_4 : ruT noRu = nB3 := by kernel_rfl
theorem n13_5 : (ruleR nB3).2.2 = 7 := by kernel_rfl
theorem n13_6 : ruW noRu = [[], [], [40], [41], [105, 102]] := by kernel_rfl
theorem nB1_is : (⟨#[100, 101, 110, 121, 32, 100, 40, 32, 97, 32, 41, 105, 102, 32, 104, 40, 32, 97, 32, 41, 44, 97, 60, 51]⟩ : ByteArray).data.toList = nB1 := rfl
/-- A rule that has nothing can be printed. -/
theorem noRu_pr (w : World) : (⟨0, ⟨#[]⟩, none, 0, [], 0, ⟨#[]⟩, 0, none, 0, []⟩ : RuG).Pr w := by
  refine ⟨⟨fun i x hi => by simp at hi, fun i x hi => by simp at hi, fun x hx => absurd hx List.not_mem_nil⟩, .inl ⟨rfl, rfl⟩, ⟨Nat.zero_le _, Nat.zero_le _, fun x hx => absurd hx List.not_mem_nil⟩, fun y hy => absurd hy List.not_mem_nil, by decide, by decide, ?_⟩
  show ∀ t ∈ ruW noRu, t.length ≤ 300
  rw [n13_6]
  intro t ht
  simp only [List.mem_cons, List.not_mem_nil, or_false] at ht
  rcases ht with rfl | rfl | rfl | rfl | rfl <;> simp

set_option maxRecDepth 100000 in
set_option maxHeartbeats 4000000 in
theorem known13 (w : World) (hv : Vars w) : Calls Tryz.prog 10 #[] w fun e w' => e = .returned (.bool true) ∧ Below w.heap.size w w' := by
  have H1 := rf_rule ⟨#[100, 101, 110, 121, 32, 100, 40, 32, 97, 32, 41, 105, 102, 32, 104, 40, 32, 97, 32, 41, 44, 97, 60, 51]⟩ w
  rw [nB1_is, n13_1] at H1
  have H1 := Lib.hid H1
  have HV := Lib.hid hv
  clear hv
  have H3 : Hid (∀ W, Below w.heap.size w W → Calls Tryz.prog 11 #[.agg #[.int .i64 0, .string ⟨#[]⟩, .slice none 0 0, .int .i64 0, .string ⟨#[]⟩, .int .i64 0, .slice none 0 0]] W fun e w' => e = .returned (.tuple #[.string ⟨#[]⟩, .int .i64 7]) ∧ Below W.heap.size W w') := Lib.hid fun W hW => p_printRule 0 ⟨#[]⟩ none 0 [] 0 ⟨#[]⟩ 0 none 0 [] W (HV.out.later hW) (noRu_pr W) nB3 [] 7 n13_4 (.inr (.inl ⟨by decide, by rw [n13_5]; decide, rfl, rfl⟩))
  have H4 : Hid (∀ W, Below w.heap.size w W → Calls Tryz.prog 25 #[.agg #[.string ⟨#[]⟩, .bool true, .int .i64 0, .bool false, .int .i64 0, .string ⟨#[]⟩]] W fun e w' => e = .returned (.string ⟨#[95]⟩) ∧ Below W.heap.size W w') := Lib.hid fun W hW => p_term anyT W (HV.out.later hW) noV_wide
  go_enter Tryz.func10, Tryz.ntmps10
  go_wp2_with fail
  refine H1.out.mono ?_
  intro e w1 hres
  obtain ⟨G, rfl, hp, hpr, hb1⟩ := hres.pr n13_1
  obtain ⟨k, nm, hA, hc, head, ag, ofv, lim, bA, bc, body⟩ := G
  have hq1 := hb1.alloc hb1.size (.cells #[.int .i64 k, .string nm, .slice hA head.length hc, .int .i64 ag, .string ofv, .int .i64 lim, .slice bA body.length bc] 35)
  have HB1 := Lib.hid hq1
  have HP : Hid (Calls Tryz.prog 11 #[.agg #[.int .i64 k, .string nm, .slice hA head.length hc, .int .i64 ag, .string ofv, .int .i64 lim, .slice bA body.length bc]] (w1.alloc (.cells #[.int .i64 k, .string nm, .slice hA head.length hc, .int .i64 ag, .string ofv, .int .i64 lim, .slice bA body.length bc] 35)) fun e w' => e = .returned (.tuple #[.string ⟨#[100, 101, 110, 121, 32, 100, 40, 97, 41, 32, 105, 102, 32, 104, 40, 97, 41, 44, 32, 97, 32, 60, 32, 51]⟩, .int .i64 0]) ∧ Below (w1.alloc (.cells #[.int .i64 k, .string nm, .slice hA head.length hc, .int .i64 ag, .string ofv, .int .i64 lim, .slice bA body.length bc] 35)).heap.size (w1.alloc (.cells #[.int .i64 k, .string nm, .slice hA head.length hc, .int .i64 ag, .string ofv, .int .i64 lim, .slice bA body.length bc] 35)) w') := Lib.hid (p_printRule k nm hA hc head ag ofv lim bA bc body _ (HV.out.later hq1) (hpr.below (one_new w1 _)) nB2 nB2 0 (by rw [hp]; exact n13_2) (.inr (.inr ⟨by decide, by rw [n13_3], by rw [n13_3, hp], rfl, rfl⟩)))
  clear hb1 hq1 hres H1 hp hpr
  simp only [RuG.cells]
  go_wp2_with fail
  refine HP.out.mono ?_
  rintro e w2 ⟨rfl, hb2⟩
  have HB2 := Lib.hid (HB1.out.trans (hb2.mono HB1.out.size))
  clear hb2 HP
  go_wp2_with fail
  refine (H3.out _ HB2.out).mono ?_
  rintro e w3 ⟨rfl, hb3⟩
  have HB3 := Lib.hid (HB2.out.trans (hb3.mono HB2.out.size))
  clear hb3 H3
  go_wp2_with fail
  refine (H4.out _ HB3.out).mono ?_
  rintro e w4 ⟨rfl, hb4⟩
  have HB4 := Lib.hid (HB3.out.trans (hb4.mono HB3.out.size))
  clear hb4 H4
  go_wp2
  go_ret
  exact ⟨rfl, HB4.out⟩
end
end Go.Proofs.YtkobfngnnblpeaaGreatDoor
namespace Go.Proofs.YtkobfngnnblpeaaGreatDoor
section
open Go.RowKit

set_option maxRecDepth 100000 in
set_option maxHeartbeats 4000000 in
theorem printBack_all (s : ByteArray) (w : World) (hv : Vars w) : Calls Tryz.prog 4 #[.string s] w fun e w' => e = .returned (.bool true) ∧ Below w.heap.size w w' := by
  have HV := Lib.hid hv
  have H1 : Hid (Calls Tryz.prog 9 #[.string s] w fun e w' => RuRes w w' e (ruleR s.data.toList)) := Lib.hid (rf_rule s w)
  clear hv
  obtain ⟨⟨X, z1, y1⟩, hR1⟩ : ∃ x, ruleR s.data.toList = x := ⟨_, rfl⟩
  rw [hR1] at H1
  have HR1 := Lib.hid hR1
  clear hR1
  by_cases h0 : y1 = 0
  case neg =>
    have b1 : (y1 != 0) = true := by simpa using h0
    have b2 : (y1 == 0) = false := by simpa using h0
    clear h0
    go_enter Tryz.func4, Tryz.ntmps4
    go_wp2_with fail
    refine H1.out.mono ?_
    intro e w1 hres
    obtain ⟨G1, rfl, hp1, hok1, hb1⟩ := hres.rule
    obtain ⟨k1, nm1, hA1, hc1, head1, ag1, ofv1, lim1, bA1, bc1, body1⟩ := G1
    have HB1 := Lib.hid (hb1.alloc hb1.size (.cells #[.int .i64 k1, .string nm1, .slice hA1 head1.length hc1, .int .i64 ag1, .string ofv1, .int .i64 lim1, .slice bA1 body1.length bc1] 35))
    clear hb1 hres H1 hok1 hp1
    simp only [RuG.cells]
    go_wp2_with (go_at_call 10; refine (known13 _ (by exact HV.out.later HB1.out)).mono ?_; rintro e w3 ⟨rfl, hb3⟩; have HB3 := Lib.hid (HB1.out.trans (hb3.mono HB1.out.size)); clear hb3)
    go_ret
    exact ⟨rfl, HB3.out⟩
  case pos =>
  subst h0
  have HBK := Lib.hid (ruT_back s.data.toList X z1 HR1.out).1
  obtain ⟨T, hT⟩ : ∃ T, ruT X = T := ⟨_, rfl⟩
  rw [hT] at HBK
  have HT := Lib.hid hT
  clear hT
  go_enter Tryz.func4, Tryz.ntmps4
  go_wp2_with fail
  refine H1.out.mono ?_
  intro e w1 hres
  obtain ⟨G1, rfl, hp1, hpr1, hb1⟩ := hres.pr HR1.out
  obtain ⟨k1, nm1, hA1, hc1, head1, ag1, ofv1, lim1, bA1, bc1, body1⟩ := G1
  have hq1 := hb1.alloc hb1.size (.cells #[.int .i64 k1, .string nm1, .slice hA1 head1.length hc1, .int .i64 ag1, .string ofv1, .int .i64 lim1, .slice bA1 body1.length bc1] 35)
  have HB1 := Lib.hid hq1
  have HX1 := Lib.hid (heap_alloc_new w1 (.cells #[.int .i64 k1, .string nm1, .slice hA1 head1.length hc1, .int .i64 ag1, .string ofv1, .int .i64 lim1, .slice bA1 body1.length bc1] 35))
  have HP1 : Hid (RuG.pl (⟨k1, nm1, hA1, hc1, head1, ag1, ofv1, lim1, bA1, bc1, body1⟩ : RuG) = X) := Lib.hid hp1
  have HPR1 := Lib.hid (hpr1.below (one_new w1 (.cells #[.int .i64 k1, .string nm1, .slice hA1 head1.length hc1, .int .i64 ag1, .string ofv1, .int .i64 lim1, .slice bA1 body1.length bc1] 35)))
  have HZ1 : Hid ((w1.alloc (.cells #[.int .i64 k1, .string nm1, .slice hA1 head1.length hc1, .int .i64 ag1, .string ofv1, .int .i64 lim1, .slice bA1 body1.length bc1] 35)).heap.size = w1.heap.size + 1) := Lib.hid (World.size_alloc _ _)
  clear hb1 hres H1 hpr1 hp1 hq1
  simp only [RuG.cells]
  by_cases hbig : 300 < T.length
  · have HPR : Hid (Calls Tryz.prog 11 #[.agg #[.int .i64 k1, .string nm1, .slice hA1 head1.length hc1, .int .i64 ag1, .string ofv1, .int .i64 lim1, .slice bA1 body1.length bc1]] (w1.alloc (.cells #[.int .i64 k1, .string nm1, .slice hA1 head1.length hc1, .int .i64 ag1, .string ofv1, .int .i64 lim1, .slice bA1 body1.length bc1] 35)) fun e w' => e = .returned (.tuple #[.string ⟨#[]⟩, .int .i64 9]) ∧ Below (w1.alloc (.cells #[.int .i64 k1, .string nm1, .slice hA1 head1.length hc1, .int .i64 ag1, .string ofv1, .int .i64 lim1, .slice bA1 body1.length bc1] 35)).heap.size (w1.alloc (.cells #[.int .i64 k1, .string nm1, .slice hA1 head1.length hc1, .int .i64 ag1, .string ofv1, .int .i64 lim1, .slice bA1 body1.length bc1] 35)) w') := Lib.hid (p_printRule k1 nm1 hA1 hc1 head1 ag1 ofv1 lim1 bA1 bc1 body1 _ (HV.out.later HB1.out) HPR1.out T [] 9 (by rw [HP1.out]; exact HT.out) (.inl ⟨hbig, rfl, rfl⟩))
    clear hbig
    go_wp2_with fail
    refine HPR.out.mono ?_
    rintro e w2 ⟨rfl, hb2⟩
    have HB2 := Lib.hid (HB1.out.trans (hb2.mono HB1.out.size))
    clear hb2 HPR
    go_wp2_with (go_at_call 10; refine (known13 _ (by exact HV.out.later HB2.out)).mono ?_; rintro e w3 ⟨rfl, hb3⟩; have HB3 := Lib.hid (HB2.out.trans (hb3.mono HB2.out.size)); clear hb3)
    go_ret
    exact ⟨rfl, HB3.out⟩
  · have hle : T.length ≤ 300 := by omega
    have hbk := HBK.out hle
    have HPR : Hid (Calls Tryz.prog 11 #[.agg #[.int .i64 k1, .string nm1, .slice hA1 head1.length hc1, .int .i64 ag1, .string ofv1, .int .i64 lim1, .slice bA1 body1.length bc1]] (w1.alloc (.cells #[.int .i64 k1, .string nm1, .slice hA1 head1.length hc1, .int .i64 ag1, .string ofv1, .int .i64 lim1, .slice bA1 body1.length bc1] 35)) fun e w' => e = .returned (.tuple #[.string ⟨T.toArray⟩, .int .i64 0]) ∧ Below (w1.alloc (.cells #[.int .i64 k1, .string nm1, .slice hA1 head1.length hc1, .int .i64 ag1, .string ofv1, .int .i64 lim1, .slice bA1 body1.length bc1] 35)).heap.size (w1.alloc (.cells #[.int .i64 k1, .string nm1, .slice hA1 head1.length hc1, .int .i64 ag1, .string ofv1, .int .i64 lim1, .slice bA1 body1.length bc1] 35)) w') := Lib.hid (p_printRule k1 nm1 hA1 hc1 head1 ag1 ofv1 lim1 bA1 bc1 body1 _ (HV.out.later HB1.out) HPR1.out T T 0 (by rw [HP1.out]; exact HT.out) (.inr (.inr ⟨hle, hbk.2, by rw [hbk.1, HP1.out], rfl, rfl⟩)))
    obtain ⟨⟨X2, z2, y2⟩, hR2⟩ : ∃ x, ruleR T = x := ⟨_, rfl⟩
    have hk1 : X2 = X := by have h := hbk.1; rw [hR2] at h; exact h
    have hk2 : y2 = 0 := by have h := hbk.2; rw [hR2] at h; exact h
    subst hk1 hk2
    have HR2 := Lib.hid hR2
    have HBK2 := Lib.hid hbk
    have HLE := Lib.hid hle
    have H2 : Hid (∀ W, Calls Tryz.prog 9 #[.string ⟨T.toArray⟩] W fun e w' => RuRes W w' e (X2, z2, 0)) := Lib.hid fun W => by
      have h := rf_rule ⟨T.toArray⟩ W
      rw [show ruleR (⟨T.toArray⟩ : ByteArray).data.toList = (X2, z2, 0) from hR2] at h
      exact h
    clear hbig hle hbk hR2
    go_wp2_with fail
    refine HPR.out.mono ?_
    rintro e w2 ⟨rfl, hb2⟩
    have HB2 := Lib.hid (HB1.out.trans (hb2.mono HB1.out.size))
    have HX2 := Lib.hid ((hb2.block w1.heap.size (by rw [HZ1.out]; omega)).trans HX1.out)
    have HPR2 := Lib.hid (HPR1.out.below hb2)
    have hlt2 : w1.heap.size < w2.heap.size := by have h := hb2.size; rw [HZ1.out] at h; omega
    clear hb2 HPR
    go_wp2_with fail
    refine (H2.out _).mono ?_
    intro e w3 hres
    obtain ⟨G2, rfl, hp2, hpr2, hb3⟩ := hres.pr HR2.out
    obtain ⟨k2, nm2, hA2, hc2, head2, ag2, ofv2, lim2, bA2, bc2, body2⟩ := G2
    have hq3 := hb3.alloc hb3.size (.cells #[.int .i64 k2, .string nm2, .slice hA2 head2.length hc2, .int .i64 ag2, .string ofv2, .int .i64 lim2, .slice bA2 body2.length bc2] 35)
    have HB3 := Lib.hid (HB2.out.trans (hq3.mono HB2.out.size))
    have HX3 := Lib.hid ((hq3.block w1.heap.size hlt2).trans HX2.out)
    have HX3b := Lib.hid (heap_alloc_new w3 (.cells #[.int .i64 k2, .string nm2, .slice hA2 head2.length hc2, .int .i64 ag2, .string ofv2, .int .i64 lim2, .slice bA2 body2.length bc2] 35))
    have HPR3 := Lib.hid (HPR2.out.below hq3)
    have HPR3b := Lib.hid (hpr2.below (one_new w3 (.cells #[.int .i64 k2, .string nm2, .slice hA2 head2.length hc2, .int .i64 ag2, .string ofv2, .int .i64 lim2, .slice bA2 body2.length bc2] 35)))
    have HP2 : Hid (RuG.pl (⟨k2, nm2, hA2, hc2, head2, ag2, ofv2, lim2, bA2, bc2, body2⟩ : RuG) = X2) := Lib.hid hp2
    have HZ3 : Hid ((w3.alloc (.cells #[.int .i64 k2, .string nm2, .slice hA2 head2.length hc2, .int .i64 ag2, .string ofv2, .int .i64 lim2, .slice bA2 body2.length bc2] 35)).heap.size = w3.heap.size + 1) := Lib.hid (World.size_alloc _ _)
    have hlt3 : w1.heap.size < (w3.alloc (.cells #[.int .i64 k2, .string nm2, .slice hA2 head2.length hc2, .int .i64 ag2, .string ofv2, .int .i64 lim2, .slice bA2 body2.length bc2] 35)).heap.size := by have h := hq3.size; omega
    have HLT3 := Lib.hid hlt3
    have HPQ : Hid (Calls Tryz.prog 11 #[.agg #[.int .i64 k2, .string nm2, .slice hA2 head2.length hc2, .int .i64 ag2, .string ofv2, .int .i64 lim2, .slice bA2 body2.length bc2]] (w3.alloc (.cells #[.int .i64 k2, .string nm2, .slice hA2 head2.length hc2, .int .i64 ag2, .string ofv2, .int .i64 lim2, .slice bA2 body2.length bc2] 35)) fun e w' => e = .returned (.tuple #[.string ⟨T.toArray⟩, .int .i64 0]) ∧ Below (w3.alloc (.cells #[.int .i64 k2, .string nm2, .slice hA2 head2.length hc2, .int .i64 ag2, .string ofv2, .int .i64 lim2, .slice bA2 body2.length bc2] 35)).heap.size (w3.alloc (.cells #[.int .i64 k2, .string nm2, .slice hA2 head2.length hc2, .int .i64 ag2, .string ofv2, .int .i64 lim2, .slice bA2 body2.length bc2] 35)) w') := Lib.hid (p_printRule k2 nm2 hA2 hc2 head2 ag2 ofv2 lim2 bA2 bc2 body2 _ (HV.out.later HB3.out) HPR3b.out T T 0 (by rw [HP2.out]; exact HT.out) (.inr (.inr ⟨HLE.out, HBK2.out.2, by rw [HBK2.out.1, HP2.out], rfl, rfl⟩)))
    clear hb3 hq3 hres H2 hpr2 hp2 HX1 HX2 HPR1 HPR2 HZ1 hlt2 hlt3
    simp only [RuG.cells]
    go_wp2_with fail
    refine HPQ.out.mono ?_
    rintro e w4 ⟨rfl, hb4⟩
    have HB4 := Lib.hid (HB3.out.trans (hb4.mono HB3.out.size))
    have g1 := (hb4.block w1.heap.size HLT3.out).trans HX3.out
    have g2 := (hb4.block w3.heap.size (by rw [HZ3.out]; omega)).trans HX3b.out
    obtain ⟨n0, n1, n2, n3, n4, n5, n6⟩ := box7p_of g1
    obtain ⟨n7, n8, n9, n10, n11, n12, n13⟩ := box7p_of g2
    have HS : Hid (Calls Tryz.prog 8 #[.agg #[.int .i64 k1, .string nm1, .slice hA1 head1.length hc1, .int .i64 ag1, .string ofv1, .int .i64 lim1, .slice bA1 body1.length bc1], .agg #[.int .i64 k2, .string nm2, .slice hA2 head2.length hc2, .int .i64 ag2, .string ofv2, .int .i64 lim2, .slice bA2 body2.length bc2]] w4 fun e w' => e = .returned (.bool true) ∧ Below w4.heap.size w4 w') := Lib.hid (r_same (⟨k1, nm1, hA1, hc1, head1, ag1, ofv1, lim1, bA1, bc1, body1⟩ : RuG) (⟨k2, nm2, hA2, hc2, head2, ag2, ofv2, lim2, bA2, bc2, body2⟩ : RuG) w4 (HPR3.out.below hb4).ok (HPR3b.out.below hb4).ok (by rw [HP1.out, HP2.out]) (HPR3.out.few))
    have ebb : ((⟨T.toArray⟩ : ByteArray).toList == (⟨T.toArray⟩ : ByteArray).toList) = true := by simp
    clear hb4 HPQ g1 g2 HX3 HX3b HPR3 HPR3b HZ3 HLT3
    go_wp2_with (first
      | (go_at_call 8; refine HS.out.mono ?_; rintro e w5 ⟨rfl, hb5⟩; have HB5 := Lib.hid (HB4.out.trans (hb5.mono HB4.out.size)); clear hb5)
      | (go_at_call 10; refine (known13 _ (by exact HV.out.later HB5.out)).mono ?_; rintro e w6 ⟨rfl, hb6⟩; have HB6 := Lib.hid (HB5.out.trans (hb6.mono HB5.out.size)); clear hb6))
    go_ret
    exact ⟨rfl, HB6.out⟩
end
end Go.Proofs.YtkobfngnnblpeaaGreatDoor
