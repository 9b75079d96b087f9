/-
  GuardTells' walk at any rule in memory.
  Condition: what lies in memory as a rule of any length.
-/
import Derived.Deep.RegionHeld3
import Derived.Test.YtmkejlhkipngnaaM36
namespace Go.Proofs.Ytmkejlhkipngnaa
open Go.RowKit Go.Maps

set_option maxRecDepth 100000 in
set_option maxHeartbeats 8000000 in
theorem guardTells_all (kn : ∀ W : World, Calls Try.prog 6 #[] W fun e w' => e = .returned (.bool true) ∧ Below W.heap.size W w') (r : RuG) (w : World) (hr : r.Ok w) (hlg : r.Lng) :
    Calls Try.prog 3 #[.agg r.cells] w fun e w' => e = .returned (.bool true) ∧ Below w.heap.size w w' := by
  have KN := Lib.hid kn
  clear kn
  obtain ⟨k0, nm, hA, hc, head, ag, ofv, lim, bA, bc, body⟩ := r
  have hon := one_new w (.cells #[.int .i64 k0, .string nm, .slice hA head.length hc, .int .i64 ag, .string ofv, .int .i64 lim, .slice bA body.length bc] 25)
  have hok0 := hr.below hon
  have hz0 : (w.alloc (.cells #[.int .i64 k0, .string nm, .slice hA head.length hc, .int .i64 ag, .string ofv, .int .i64 lim, .slice bA body.length bc] 25)).heap.size = w.heap.size + 1 := World.size_alloc _ _
  have hh0 := heap_alloc_new w (.cells #[.int .i64 k0, .string nm, .slice hA head.length hc, .int .i64 ag, .string ofv, .int .i64 lim, .slice bA body.length bc] 25)
  obtain ⟨n0, n1, n2, n3, n4, n5, n6⟩ := box7g_of hh0
  have HFW : Hid (Calls Try.prog 5 #[.agg #[.int .i64 k0, .string nm, .slice hA head.length hc, .int .i64 ag, .string ofv, .int .i64 lim, .slice bA body.length bc]] (w.alloc (.cells #[.int .i64 k0, .string nm, .slice hA head.length hc, .int .i64 ag, .string ofv, .int .i64 lim, .slice bA body.length bc] 25)) fun e w' => FewG (RuG.few (⟨k0, nm, hA, hc, head, ag, ofv, lim, bA, bc, body⟩ : RuG)) (w.alloc (.cells #[.int .i64 k0, .string nm, .slice hA head.length hc, .int .i64 ag, .string ofv, .int .i64 lim, .slice bA body.length bc] 25)) e w') := Lib.hid (r_fewG (⟨k0, nm, hA, hc, head, ag, ofv, lim, bA, bc, body⟩ : RuG) (w.alloc (.cells #[.int .i64 k0, .string nm, .slice hA head.length hc, .int .i64 ag, .string ofv, .int .i64 lim, .slice bA body.length bc] 25)) hok0 hlg)
  have HSM : Hid (RuG.few (⟨k0, nm, hA, hc, head, ag, ofv, lim, bA, bc, body⟩ : RuG) → RuG.Sml (⟨k0, nm, hA, hc, head, ag, ofv, lim, bA, bc, body⟩ : RuG)) := Lib.hid fun h => h.sml hlg
  have HON := Lib.hid hon
  have HOK := Lib.hid hok0
  have HBX := Lib.hid hh0
  have HZ0 := Lib.hid hz0
  show Calls Try.prog 3 #[.agg #[.int .i64 k0, .string nm, .slice hA head.length hc, .int .i64 ag, .string ofv, .int .i64 lim, .slice bA body.length bc]] w fun e w' => e = .returned (.bool true) ∧ Below w.heap.size w w'
  clear hr hlg hon hok0 hz0 hh0
  go_enter Try.func3, Try.ntmps3
  go_wp2_with fail
  refine HFW.out.mono ?_
  rintro e w1 ⟨q, rfl, hq, hb1⟩
  have HQ := Lib.hid hq
  have HS : Hid (∀ W : World, Below w1.heap.size w1 W → W.cell? ⟨w.heap.size, 0, none⟩ = some (Value.int .i64 k0) ∧ W.cell? ⟨w.heap.size, 1, none⟩ = some (Value.string nm) ∧ W.cell? ⟨w.heap.size, 2, none⟩ = some (Value.slice hA head.length hc) ∧ W.cell? ⟨w.heap.size, 3, none⟩ = some (Value.int .i64 ag) ∧ W.cell? ⟨w.heap.size, 4, none⟩ = some (Value.string ofv) ∧ W.cell? ⟨w.heap.size, 5, none⟩ = some (Value.int .i64 lim) ∧ W.cell? ⟨w.heap.size, 6, none⟩ = some (Value.slice bA body.length bc)) := Lib.hid fun W hW => box7g_of ((((hb1.trans (hW.mono hb1.size)).block w.heap.size (by rw [HZ0.out]; omega))).trans HBX.out)
  have HO1 := Lib.hid (HON.out.trans (hb1.mono (by rw [HZ0.out]; omega)))
  have HOK1 := Lib.hid (HOK.out.below hb1)
  clear hq hb1 HFW n0 n1 n2 n3 n4 n5 n6
  cases q with
  | false =>
    go_wp2_with fail
    refine (KN.out _).mono ?_
    rintro e w2 ⟨rfl, hb2⟩
    have HB2 := Lib.hid (HO1.out.trans (hb2.mono HO1.out.size))
    clear hb2
    go_wp2
    go_ret
    exact ⟨rfl, HB2.out⟩
  | true =>
    have hs := HSM.out (HQ.out rfl)
    have hbl : body.length ≤ 41 := hs.2.1
    have hbn : (bndL (body.map LmG.li)).length ≤ 205000 := body_small hs.2.1 (fun x hx => (hs.2.2.2.2 x hx).1)
    obtain ⟨F, hF⟩ : ∃ F, freeX (RuG.pl (⟨k0, nm, hA, hc, head, ag, ofv, lim, bA, bc, body⟩ : RuG)) = F := ⟨_, rfl⟩
    obtain ⟨C, hC⟩ : ∃ C, checkX (RuG.pl (⟨k0, nm, hA, hc, head, ag, ofv, lim, bA, bc, body⟩ : RuG)) = C := ⟨_, rfl⟩
    obtain ⟨bl, hB⟩ : ∃ bl, bndL (body.map LmG.li) = bl := ⟨_, rfl⟩
    rw [hB] at hbn
    have HPF : Hid (∀ W, Below w1.heap.size w1 W → Calls Try.prog 7 #[.agg #[.int .i64 k0, .string nm, .slice hA head.length hc, .int .i64 ag, .string ofv, .int .i64 lim, .slice bA body.length bc]] W fun e w' => e = .returned (.tuple #[.string F.1, .int .i64 F.2.1, .bool F.2.2]) ∧ Below W.heap.size W w') := Lib.hid (fun W hW => by rw [← hF]; exact p_Free (⟨k0, nm, hA, hc, head, ag, ofv, lim, bA, bc, body⟩ : RuG) W (HOK1.out.below hW) hs)
    have HRF : Hid (∀ W, Below w1.heap.size w1 W → Calls Try.prog 8 #[.agg #[.int .i64 k0, .string nm, .slice hA head.length hc, .int .i64 ag, .string ofv, .int .i64 lim, .slice bA body.length bc]] W fun e w' => e = .returned (.tuple #[.string F.1, .int .i64 F.2.1, .bool F.2.2]) ∧ Below W.heap.size W w') := Lib.hid (fun W hW => by rw [← hF]; exact r_Free (⟨k0, nm, hA, hc, head, ag, ofv, lim, bA, bc, body⟩ : RuG) W (HOK1.out.below hW) hs)
    have HPC : Hid (∀ W, Below w1.heap.size w1 W → Calls Try.prog 9 #[.agg #[.int .i64 k0, .string nm, .slice hA head.length hc, .int .i64 ag, .string ofv, .int .i64 lim, .slice bA body.length bc]] W fun e w' => e = .returned (.tuple #[.int .i64 C.1, .int .i64 C.2]) ∧ Below W.heap.size W w') := Lib.hid (fun W hW => by rw [← hC]; exact p_Check (⟨k0, nm, hA, hc, head, ag, ofv, lim, bA, bc, body⟩ : RuG) W (HOK1.out.below hW) hs)
    have HRC : Hid (∀ W, Below w1.heap.size w1 W → Calls Try.prog 10 #[.agg #[.int .i64 k0, .string nm, .slice hA head.length hc, .int .i64 ag, .string ofv, .int .i64 lim, .slice bA body.length bc]] W fun e w' => e = .returned (.tuple #[.int .i64 C.1, .int .i64 C.2]) ∧ Below W.heap.size W w') := Lib.hid (fun W hW => by rw [← hC]; exact r_Check (⟨k0, nm, hA, hc, head, ag, ofv, lim, bA, bc, body⟩ : RuG) W (HOK1.out.below hW) hs)
    have HPB : Hid (∀ W, Below w1.heap.size w1 W → Calls Try.prog 12 #[.agg #[.int .i64 k0, .string nm, .slice hA head.length hc, .int .i64 ag, .string ofv, .int .i64 lim, .slice bA body.length bc]] W fun e w' => ∃ v, e = .returned v ∧ OwnSt w' W.heap.size v bl ∧ Below W.heap.size W w') := Lib.hid (fun W hW => by rw [← hB]; exact p_Bound (⟨k0, nm, hA, hc, head, ag, ofv, lim, bA, bc, body⟩ : RuG) W (HOK1.out.below hW) hs)
    have HRB : Hid (∀ W, Below w1.heap.size w1 W → Calls Try.prog 13 #[.agg #[.int .i64 k0, .string nm, .slice hA head.length hc, .int .i64 ag, .string ofv, .int .i64 lim, .slice bA body.length bc]] W fun e w' => ∃ v, e = .returned v ∧ OwnSt w' W.heap.size v bl ∧ Below W.heap.size W w') := Lib.hid (fun W hW => by rw [← hB]; exact r_Bound (⟨k0, nm, hA, hc, head, ag, ofv, lim, bA, bc, body⟩ : RuG) W (HOK1.out.below hW) hs)
    obtain ⟨F1, F2, F3⟩ := F
    obtain ⟨C1, C2⟩ := C
    have eS : (F1.toList == F1.toList) = true := by simp
    have eI : (F2 == F2) = true := by simp
    have eB : (F3 == F3) = true := by simp
    have eC : (C1 == C1) = true := by simp
    have eD : (C2 == C2) = true := by simp
    clear hF hC hB hs HSM HQ HOK HOK1 HON HBX HZ0
    obtain ⟨n0, n1, n2, n3, n4, n5, n6⟩ := HS.out w1 (Below.refl _ _)
    go_wp2_with fail
    refine (HPF.out _ (Below.refl _ _)).mono ?_
    rintro e w2 ⟨rfl, hb2⟩
    have HB2 := Lib.hid hb2
    clear hb2 n0 n1 n2 n3 n4 n5 n6
    obtain ⟨n0, n1, n2, n3, n4, n5, n6⟩ := HS.out w2 HB2.out
    go_wp2_with fail
    refine (HRF.out _ HB2.out).mono ?_
    rintro e w3 ⟨rfl, hb3⟩
    have HB3 := Lib.hid (HB2.out.trans (hb3.mono HB2.out.size))
    clear hb3 n0 n1 n2 n3 n4 n5 n6
    obtain ⟨n0, n1, n2, n3, n4, n5, n6⟩ := HS.out w3 HB3.out
    go_wp2_with fail
    refine (HPC.out _ HB3.out).mono ?_
    rintro e w4 ⟨rfl, hb4⟩
    have HB4 := Lib.hid (HB3.out.trans (hb4.mono HB3.out.size))
    clear hb4 n0 n1 n2 n3 n4 n5 n6
    obtain ⟨n0, n1, n2, n3, n4, n5, n6⟩ := HS.out w4 HB4.out
    go_wp2_with fail
    refine (HRC.out _ HB4.out).mono ?_
    rintro e w5 ⟨rfl, hb5⟩
    have HB5 := Lib.hid (HB4.out.trans (hb5.mono HB4.out.size))
    clear hb5 n0 n1 n2 n3 n4 n5 n6 HPF HRF HPC HRC
    obtain ⟨n0, n1, n2, n3, n4, n5, n6⟩ := HS.out w5 HB5.out
    go_wp2
    go_region_held3 (fun w' : World => w'.cell? ⟨w.heap.size, 0, none⟩ = some (Value.int .i64 k0) ∧ w'.cell? ⟨w.heap.size, 1, none⟩ = some (Value.string nm) ∧ w'.cell? ⟨w.heap.size, 2, none⟩ = some (Value.slice hA head.length hc) ∧ w'.cell? ⟨w.heap.size, 3, none⟩ = some (Value.int .i64 ag) ∧ w'.cell? ⟨w.heap.size, 4, none⟩ = some (Value.string ofv) ∧ w'.cell? ⟨w.heap.size, 5, none⟩ = some (Value.int .i64 lim) ∧ w'.cell? ⟨w.heap.size, 6, none⟩ = some (Value.slice bA body.length bc)) (go_keep)
      (first
        | (go_at_call 12; refine (HPB.out _ (HB5.out.drew)).mono ?_; rintro e w6 ⟨v6, rfl, ho6, hb6⟩; obtain ⟨A6, c6, hv6, he6⟩ := OwnF.els ho6; subst hv6; have HB6 := Lib.hid (HB5.out.drew.trans (hb6.mono HB5.out.drew.size)); have HE6 := Lib.hid he6; obtain ⟨x0, x1, x2, x3, x4, x5, x6⟩ := HS.out w6 HB6.out; clear ho6 hb6 he6)
        | (go_at_call 13; refine (HRB.out _ HB6.out).mono ?_; rintro e w7 ⟨v7, rfl, ho7, hb7⟩; obtain ⟨A7, c7, hv7, he7⟩ := OwnF.els ho7; subst hv7; have HB7 := Lib.hid (HB6.out.trans (hb7.mono HB6.out.size)); have HE7 := Lib.hid he7; have HE67 := Lib.hid (HE6.out.below hb7); obtain ⟨y0, y1, y2, y3, y4, y5, y6⟩ := HS.out w7 HB7.out; clear ho7 hb7 he7)
        | (go_at_call 11; refine (r_textsG bl A6 A7 c6 c7 w7 (by omega) HE67.out HE7.out).mono ?_; rintro e w8 ⟨rfl, hb8⟩; have HB8 := Lib.hid (HB7.out.trans (hb8.mono HB7.out.size)); obtain ⟨z0, z1, z2, z3, z4, z5, z6⟩ := HS.out w8 HB8.out; clear hb8)
        | (go_at_call 6; refine (KN.out w8).mono ?_; rintro e w9 ⟨rfl, hb9⟩; have HB9 := Lib.hid (HB8.out.trans (hb9.mono HB8.out.size)); obtain ⟨u0, u1, u2, u3, u4, u5, u6⟩ := HS.out w9 HB9.out; clear hb9))
    all_goals
      have HBE := Lib.hid (HO1.out.trans (HB9.out.mono HO1.out.size))
      go_wp2
      go_ret
      exact ⟨rfl, HBE.out⟩
end Go.Proofs.Ytmkejlhkipngnaa
