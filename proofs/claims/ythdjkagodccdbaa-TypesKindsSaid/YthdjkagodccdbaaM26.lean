/-
  The document's literal: an atom, negated or not, or a comparison.
  Condition: no more than four hundred tokens, and a place among them.
-/
import Derived.Test.YthdjkagodccdbaaM25
namespace Go.Proofs.Ythdjkagodccdbaa
open Go.RowKit

set_option maxRecDepth 100000 in
set_option maxHeartbeats 8000000 in
theorem rp_lit {w : World} {g t c : Nat} {ls : List Tok} {s : Rst} (h : RdP w g t c ls s) (m : Nat) (hm : m ≤ 1000) :
    Calls Try.prog 42 #[.pointer (some ⟨g, 0, none⟩), .int .i64 m] w fun e w' => ∃ v, e = .returned (.agg #[.bool (liR ls m s).1.n, .string (liR ls m s).1.s, v, .int .i64 (liR ls m s).1.o]) ∧ ArgsAt w' w.heap.size v (liR ls m s).1.args ∧ RdP w' g t c ls (liR ls m s).2 ∧ OnlyR g w w' := by
  have hg := h.lt
  have ht := h.tlt
  obtain ⟨LO, hLO⟩ : ∃ LO : Obj, LO = .cells #[.bool false, .string ⟨#[]⟩, .slice none 0 0, .int .i64 0] 46 := ⟨_, rfl⟩
  have hon := one_new w LO
  have h0 := h.below hon
  have hz0 : BoxL (w.alloc LO) w.heap.size false ⟨#[]⟩ (.slice none 0 0) 0 := by rw [hLO]; exact heap_alloc_new w _
  obtain ⟨n, hn⟩ : ∃ n, n = isR ls s wNot := ⟨_, rfl⟩
  obtain ⟨s1, hs1⟩ : ∃ s1, s1 = takeR ls s wNot := ⟨_, rfl⟩
  have HTK := Lib.hid (rp_take h0 ⟨#[110, 111, 116]⟩)
  change Hid (Calls Try.prog 18 #[.pointer (some ⟨g, 0, none⟩), .string ⟨#[110, 111, 116]⟩] (w.alloc LO) fun e w' => e = .returned (.bool (isR ls s wNot)) ∧ RdP w' g t c ls (takeR ls s wNot) ∧ OnlyR g (w.alloc LO) w') at HTK
  have hli : liR ls m s = if (namedR ls s1 && (n || brB ls s1)) = true then atR ls n m s1 else cmR ls n s1 := by rw [hn, hs1]; rfl
  rw [← hn, ← hs1] at HTK
  have HLI := Lib.hid hli
  have HON := Lib.hid hon
  have HZ0 := Lib.hid hz0
  rw [hLO] at HTK HON HZ0
  generalize liR ls m s = L at *
  clear hn hs1 hli hon hz0 h0 h hLO
  go_enter Try.func42, Try.ntmps42
  go_wp2_with fail
  refine HTK.out.mono ?_
  rintro e w1 ⟨rfl, hr1, ho1⟩
  have hsz1 := ho1.size
  rw [World.size_alloc] at hsz1
  have L1 : LSt w (w1.alloc (.cells #[.bool n, .string ⟨#[]⟩, .slice none 0 0, .int .i64 0] 46)) g t c ls s1 w1.heap.size n ⟨#[]⟩ (.slice none 0 0) 0 := by
    have hb := one_new w1 (.cells #[.bool n, .string ⟨#[]⟩, .slice none 0 0, .int .i64 0] 46)
    have hk : BoxL w1 w.heap.size false ⟨#[]⟩ (.slice none 0 0) 0 := (ho1.2 _ (by rw [World.size_alloc]; omega) (by omega)).trans HZ0.out
    exact ⟨hr1.below hb, (OnlyR.of (g := g) HON.out).trans (ho1.trans (OnlyR.of hb)), (hb.block _ (by omega)).trans hk, heap_alloc_new w1 _, by omega, hg, ht⟩
  have HL1 := Lib.hid L1
  obtain ⟨⟨tk, tb, ⟨vk, vf, vn, vt⟩, ta⟩, hX⟩ : ∃ x, nowR ls s1 = x := ⟨_, rfl⟩
  have HX := Lib.hid hX
  have HN := Lib.hid (rp_now' L1.rd hX)
  have q3 := field_at3 tk tb vk vf vn vt ta
  clear hr1 ho1 HTK L1 hX HZ0 HON
  go_wp2_with fail
  refine HN.out.mono ?_
  rintro e w2 ⟨rfl, hb2⟩
  have HL2 := Lib.hid (HL1.out.below hb2)
  have hsz2 := hb2.size
  rw [World.size_alloc] at hsz2
  clear hb2 HL1 HN
  go_upto_region 3 with fail
  generalize w1.heap.size = b at *
  obtain ⟨Z, hZ⟩ : ∃ Z, (namedR ls s1 && (n || brB ls s1)) = Z := ⟨_, rfl⟩
  rw [hZ] at HLI
  have HZ := Lib.hid hZ
  clear hZ
  go_cut [62] from 14 (fun u wx => u = .bool Z ∧ Below w2.heap.size w2 wx)
  case first =>
    have hcl := ext_classL w2.heap.size w2 (Nat.le_refl _)
    obtain ⟨E, xf, _, hX1, hX0, hX2⟩ := hcl
    have hin := hX0 w2.drew (Below.refl _ _).drew
    have HX1 := Lib.hid hX1
    have HX2 := Lib.hid hX2
    have hr := HL2.out.rd
    obtain ⟨hn0, _, _, _, _⟩ := HL2.out.cells
    have c0 := fun e => (((hX1 e).cell (p := ⟨g, 0, none⟩) hr.lt).trans hr.cell.1 : (xf e).cell? ⟨g, 0, none⟩ = _)
    have c1 := fun e => (((hX1 e).cell (p := ⟨g, 1, none⟩) hr.lt).trans hr.cell.2.1 : (xf e).cell? ⟨g, 1, none⟩ = _)
    have d0 := fun e => (((hX1 e).cell (p := ⟨b, 0, none⟩) HL2.out.b1.lt).trans hn0 : (xf e).cell? ⟨b, 0, none⟩ = _)
    have hlt := hr.2.2.2.1
    have hl4 := hr.2.2.2.2
    obtain ⟨nb, hnb⟩ : ∃ nb, nb = namedR ls s1 := ⟨_, rfl⟩
    have HND : Hid (∀ W, Below w2.heap.size w2 W → Calls Try.prog 39 #[.pointer (some ⟨g, 0, none⟩)] W fun e w' => e = .returned (.bool nb) ∧ Below W.heap.size W w') := Lib.hid fun W hW => by rw [hnb]; exact rp_named (hr.below hW)
    rw [← hnb] at HZ
    clear hX1 hX0 hX2 hn0 hnb
    cases nb with
    | false =>
      obtain rfl : false = Z := HZ.out
      go_wp2_with fail
      refine wp_region_quiet (C := fun W => ∃ e, W = xf e) (by kernel_rfl) (by kernel_rfl) hin ?_
      clear hin
      dsimp only
      repeat (go_big_quiet_step (first | (go_at_call 39; refine (HND.out _ (HX1.out _)).mono ?_; rintro e w5 ⟨rfl, hb5⟩; exact ⟨rfl, HX2.out _ _ hb5⟩)))
      refine wpQuiet_nil ?_
      rintro w5 ⟨ee, rfl⟩
      go_wp2_with fail
      go_meet
      case rel => exact ⟨by first | rfl | rw [b2], HX1.out ee⟩
    | true =>
      cases n with
      | true =>
        obtain rfl : true = Z := HZ.out
        go_wp2_with fail
        refine wp_region_quiet (C := fun W => ∃ e, W = xf e) (by kernel_rfl) (by kernel_rfl) hin ?_
        clear hin
        dsimp only
        repeat (go_big_quiet_step (first | (go_at_call 39; refine (HND.out _ (HX1.out _)).mono ?_; rintro e w5 ⟨rfl, hb5⟩; exact ⟨rfl, HX2.out _ _ hb5⟩)))
        refine wpQuiet_nil ?_
        rintro w5 ⟨ee, rfl⟩
        go_wp2_with fail
        go_meet
        case rel => exact ⟨by first | rfl | rw [b2], HX1.out ee⟩
      | false =>
        have hzb : brB ls s1 = Z := HZ.out
        by_cases hl1 : s1.i + 1 < ls.length
        · have b1 : decide (((s1.i : Int) + 1) < (ls.length : Int)) = true := by rw [decide_eq_true_eq]; omega
          obtain ⟨⟨yk, yb, ⟨zk, zf, zn, zt⟩, ya⟩, hy⟩ : ∃ y, ls[s1.i + 1]? = some y := ⟨_, List.getElem?_eq_getElem hl1⟩
          have hgd : ls.getD (s1.i + 1) noT = ⟨yk, yb, ⟨zk, zf, zn, zt⟩, ya⟩ := by rw [List.getD_eq_getElem?_getD, hy]; rfl
          have hzz : (decide (yk = 3) && decide (yb.data.toList = wOpen)) = Z := by rw [← hzb]; unfold brB; rw [hgd, decide_eq_true hl1]; rfl
          have htk := hr.tok hy
          have k0 := fun e => (((HX1.out e).cell (p := ⟨t, (s1.i + 1) * 7, none⟩) hr.tlt).trans htk.1 : (xf e).cell? ⟨t, (s1.i + 1) * 7, none⟩ = _)
          have k1 := fun e => (((HX1.out e).cell (p := ⟨t, (s1.i + 1) * 7 + 1, none⟩) hr.tlt).trans htk.2.1 : (xf e).cell? ⟨t, (s1.i + 1) * 7 + 1, none⟩ = _)
          have hbb : yb.toList = yb.data.toList := ByteArray.toList_eq yb
          by_cases hk3 : yk = 3
          · by_cases hop : yb.data.toList = wOpen
            · obtain rfl : true = Z := by rw [← hzz, hk3, hop]; rfl
              have b2 : (yb.toList == [40]) = true := by rw [hbb, hop]; rfl
              subst hk3
              clear hzb hy hgd hzz htk hbb hr
              go_wp2_with fail
              refine wp_region_quiet (C := fun W => ∃ e, W = xf e) (by kernel_rfl) (by kernel_rfl) hin ?_
              clear hin
              dsimp only
              repeat (go_big_quiet_step (first | (go_at_call 39; refine (HND.out _ (HX1.out _)).mono ?_; rintro e w5 ⟨rfl, hb5⟩; exact ⟨rfl, HX2.out _ _ hb5⟩)))
              refine wpQuiet_nil ?_
              rintro w5 ⟨ee, rfl⟩
              go_wp2_with fail
              go_meet
              case rel => exact ⟨by first | rfl | rw [b2], HX1.out ee⟩
            · obtain rfl : false = Z := by rw [← hzz, decide_eq_false hop, Bool.and_false]
              have b2 : (yb.toList == [40]) = false := by rw [hbb, beq_eq_false_iff_ne]; exact hop
              subst hk3
              clear hzb hy hgd hzz htk hbb hr
              go_wp2_with fail
              refine wp_region_quiet (C := fun W => ∃ e, W = xf e) (by kernel_rfl) (by kernel_rfl) hin ?_
              clear hin
              dsimp only
              repeat (go_big_quiet_step (first | (go_at_call 39; refine (HND.out _ (HX1.out _)).mono ?_; rintro e w5 ⟨rfl, hb5⟩; exact ⟨rfl, HX2.out _ _ hb5⟩)))
              refine wpQuiet_nil ?_
              rintro w5 ⟨ee, rfl⟩
              go_wp2_with fail
              go_meet
              case rel => exact ⟨by first | rfl | rw [b2], HX1.out ee⟩
          · obtain rfl : false = Z := by rw [← hzz, decide_eq_false hk3, Bool.false_and]
            have b3 : (yk == 3) = false := by simpa using hk3
            clear hzb hy hgd hzz htk hbb hr
            go_wp2_with fail
            refine wp_region_quiet (C := fun W => ∃ e, W = xf e) (by kernel_rfl) (by kernel_rfl) hin ?_
            clear hin
            dsimp only
            repeat (go_big_quiet_step (first | (go_at_call 39; refine (HND.out _ (HX1.out _)).mono ?_; rintro e w5 ⟨rfl, hb5⟩; exact ⟨rfl, HX2.out _ _ hb5⟩)))
            refine wpQuiet_nil ?_
            rintro w5 ⟨ee, rfl⟩
            go_wp2_with fail
            go_meet
            case rel => exact ⟨by first | rfl | rw [b2], HX1.out ee⟩
        · obtain rfl : false = Z := by rw [← hzb]; unfold brB; rw [decide_eq_false hl1]; rfl
          have b1 : decide (((s1.i : Int) + 1) < (ls.length : Int)) = false := by rw [decide_eq_false_iff_not]; omega
          clear hzb hr
          go_wp2_with fail
          refine wp_region_quiet (C := fun W => ∃ e, W = xf e) (by kernel_rfl) (by kernel_rfl) hin ?_
          clear hin
          dsimp only
          repeat (go_big_quiet_step (first | (go_at_call 39; refine (HND.out _ (HX1.out _)).mono ?_; rintro e w5 ⟨rfl, hb5⟩; exact ⟨rfl, HX2.out _ _ hb5⟩)))
          refine wpQuiet_nil ?_
          rintro w5 ⟨ee, rfl⟩
          go_wp2_with fail
          go_meet
          case rel => exact ⟨by first | rfl | rw [b2], HX1.out ee⟩
  case rest =>
    obtain ⟨rfl, hbc⟩ := hcut
    have HL3 := Lib.hid (HL2.out.below hbc)
    clear hbc HL2
    cases Z with
    | true =>
      rw [if_pos rfl] at HLI
      have HNM := Lib.hid (rp_name HL3.out.rd)
      go_wp2_with fail
      refine HNM.out.mono ?_
      rintro e w4 ⟨rfl, hr4, ho4⟩
      have l4 := HL3.out.call hr4 ho4
      have L5 := Lib.hid (l4.set1 (nmV ls s1))
      obtain ⟨c0, c1, c2, c3, f0, f1, f2, f3⟩ := l4.cells
      have HMU := Lib.hid (rp_must L5.out.rd ⟨#[40]⟩)
      change Hid (Calls Try.prog 22 #[.pointer (some ⟨g, 0, none⟩), .string ⟨#[40]⟩] (w4.setCell ⟨b, 1, none⟩ (.string (nmV ls s1))) fun e w' => e = .returned (.tuple #[]) ∧ RdP w' g t c ls (mustR ls (nmS ls s1) wOpen) ∧ OnlyR g (w4.setCell ⟨b, 1, none⟩ (.string (nmV ls s1))) w') at HMU
      clear hr4 ho4 HNM l4
      go_wp2_with fail
      refine HMU.out.mono ?_
      rintro e w6 ⟨rfl, hr6, ho6⟩
      have l6 := L5.out.call hr6 ho6
      have L6 := Lib.hid l6
      obtain ⟨c0, c1, c2, c3, f0, f1, f2, f3⟩ := l6.cells
      clear hr6 ho6 HMU l6 L5
      obtain ⟨s3, hs3⟩ : ∃ s3, s3 = if n = false ∧ 6 ≤ m then failR (mustR ls (nmS ls s1) wOpen) 9 (nowR ls s1).a else mustR ls (nmS ls s1) wOpen := ⟨_, rfl⟩
      have hlt2 : atR ls n m s1 = (⟨n, nmV ls s1, (asR ls s3).1, 0⟩, (asR ls s3).2) := by rw [hs3]; rfl
      have HLT := Lib.hid hlt2
      rw [HX.out] at hs3
      clear hlt2
      cases n with
      | true =>
        rw [if_neg (by simp)] at hs3
        have L7 := L6
        rw [← hs3] at L7
        obtain ⟨w7, hw7⟩ : ∃ w7, w7 = w6 := ⟨_, rfl⟩
        subst hw7
        clear hs3 L6
        have HAR := Lib.hid (rp_args L7.out.rd)
        have hle7 : w.heap.size ≤ w7.heap.size := L7.out.on.size
        go_wp2_with fail
        refine HAR.out.mono ?_
        rintro e w8 ⟨v8, rfl, hown8, hr8, ho8⟩
        obtain ⟨A8, c8, hv8⟩ := hown8.shape
        have HAA := Lib.hid (ArgsAt.of hown8)
        subst hv8
        have l8 := L7.out.call hr8 ho8
        have L9 := Lib.hid (l8.set2 (.slice A8 (asR ls s3).1.length c8))
        have HAB : Hid (ArgsAt (w8.setCell ⟨b, 2, none⟩ (.slice A8 (asR ls s3).1.length c8)) w.heap.size (.slice A8 (asR ls s3).1.length c8) (asR ls s3).1) := Lib.hid (by
          have h1 : ArgsAt w8 w.heap.size (.slice A8 (asR ls s3).1.length c8) (asR ls s3).1 := by
            rcases HAA.out with h | ⟨b', c', cur, h1, h2, h3⟩
            · exact .inl h
            · exact .inr ⟨b', c', cur, h1, by omega, h3⟩
          refine h1.byBlock fun b' cur h2 h3 => Below.heap_setCell w8 ⟨b, 2, none⟩ _ b' ?_
          intro e
          have e' : b' = b := e
          rw [e', l8.b1] at h3
          injection h3 with h3
          injection h3 with _ h4
          exact absurd h4 (by decide))
        obtain ⟨c0, c1, c2, c3, f0, f1, f2, f3⟩ := l8.cells
        obtain ⟨z0, z1, z2, z3, g0, g1, g2, g3⟩ := L9.out.zero
        obtain ⟨a0, a1, a2, a3, _, _, _, _⟩ := L9.out.cells
        have hbz := l8.lt
        have HE := Lib.hid (L9.out.end4 HAB.out (.bool true) (.string (nmV ls s1)) (.slice A8 (asR ls s3).1.length c8) (.int .i64 0))
        clear hown8 hr8 ho8 HAR HAA l8 hle7
        go_wp2
        exact bodyPost_ret (v := .agg #[.bool true, .string (nmV ls s1), .slice A8 (asR ls s3).1.length c8, .int .i64 0]) (by simp [results, Try.results42, go_sem, z0, z1, z2, z3]) rfl
          ⟨_, by rw [HLI.out, HLT.out], by rw [HLI.out, HLT.out]; exact HE.out.1, by rw [HLI.out, HLT.out]; exact HE.out.2.1, HE.out.2.2⟩
      | false =>
        by_cases h6 : 6 ≤ m
        · rw [if_pos ⟨rfl, h6⟩] at hs3
          have hfl := rp_fail L6.out.rd 9 ta
          have hf := Lib.hid hfl
          have hd6 : decide ((6 : Int) ≤ (m : Int)) = true := by rw [decide_eq_true_eq]; omega
          clear hfl
          go_wp2_with fail
          refine hf.out.mono ?_
          rintro e w7 ⟨rfl, hr7, ho7⟩
          have l7 := L6.out.call hr7 ho7
          rw [← hs3] at l7
          have L7 := Lib.hid l7
          clear hr7 ho7 l7 hf hs3 L6
          have HAR := Lib.hid (rp_args L7.out.rd)
          have hle7 : w.heap.size ≤ w7.heap.size := L7.out.on.size
          go_wp2_with fail
          refine HAR.out.mono ?_
          rintro e w8 ⟨v8, rfl, hown8, hr8, ho8⟩
          obtain ⟨A8, c8, hv8⟩ := hown8.shape
          have HAA := Lib.hid (ArgsAt.of hown8)
          subst hv8
          have l8 := L7.out.call hr8 ho8
          have L9 := Lib.hid (l8.set2 (.slice A8 (asR ls s3).1.length c8))
          have HAB : Hid (ArgsAt (w8.setCell ⟨b, 2, none⟩ (.slice A8 (asR ls s3).1.length c8)) w.heap.size (.slice A8 (asR ls s3).1.length c8) (asR ls s3).1) := Lib.hid (by
            have h1 : ArgsAt w8 w.heap.size (.slice A8 (asR ls s3).1.length c8) (asR ls s3).1 := by
              rcases HAA.out with h | ⟨b', c', cur, h1, h2, h3⟩
              · exact .inl h
              · exact .inr ⟨b', c', cur, h1, by omega, h3⟩
            refine h1.byBlock fun b' cur h2 h3 => Below.heap_setCell w8 ⟨b, 2, none⟩ _ b' ?_
            intro e
            have e' : b' = b := e
            rw [e', l8.b1] at h3
            injection h3 with h3
            injection h3 with _ h4
            exact absurd h4 (by decide))
          obtain ⟨c0, c1, c2, c3, f0, f1, f2, f3⟩ := l8.cells
          obtain ⟨z0, z1, z2, z3, g0, g1, g2, g3⟩ := L9.out.zero
          obtain ⟨a0, a1, a2, a3, _, _, _, _⟩ := L9.out.cells
          have hbz := l8.lt
          have HE := Lib.hid (L9.out.end4 HAB.out (.bool false) (.string (nmV ls s1)) (.slice A8 (asR ls s3).1.length c8) (.int .i64 0))
          clear hown8 hr8 ho8 HAR HAA l8 hle7
          go_wp2
          exact bodyPost_ret (v := .agg #[.bool false, .string (nmV ls s1), .slice A8 (asR ls s3).1.length c8, .int .i64 0]) (by simp [results, Try.results42, go_sem, z0, z1, z2, z3]) rfl
            ⟨_, by rw [HLI.out, HLT.out], by rw [HLI.out, HLT.out]; exact HE.out.1, by rw [HLI.out, HLT.out]; exact HE.out.2.1, HE.out.2.2⟩
        · rw [if_neg (fun h => h6 h.2)] at hs3
          have hd6 : decide ((6 : Int) ≤ (m : Int)) = false := by rw [decide_eq_false_iff_not]; omega
          have L7 := L6
          rw [← hs3] at L7
          obtain ⟨w7, hw7⟩ : ∃ w7, w7 = w6 := ⟨_, rfl⟩
          subst hw7
          clear hs3 L6
          have HAR := Lib.hid (rp_args L7.out.rd)
          have hle7 : w.heap.size ≤ w7.heap.size := L7.out.on.size
          go_wp2_with fail
          refine HAR.out.mono ?_
          rintro e w8 ⟨v8, rfl, hown8, hr8, ho8⟩
          obtain ⟨A8, c8, hv8⟩ := hown8.shape
          have HAA := Lib.hid (ArgsAt.of hown8)
          subst hv8
          have l8 := L7.out.call hr8 ho8
          have L9 := Lib.hid (l8.set2 (.slice A8 (asR ls s3).1.length c8))
          have HAB : Hid (ArgsAt (w8.setCell ⟨b, 2, none⟩ (.slice A8 (asR ls s3).1.length c8)) w.heap.size (.slice A8 (asR ls s3).1.length c8) (asR ls s3).1) := Lib.hid (by
            have h1 : ArgsAt w8 w.heap.size (.slice A8 (asR ls s3).1.length c8) (asR ls s3).1 := by
              rcases HAA.out with h | ⟨b', c', cur, h1, h2, h3⟩
              · exact .inl h
              · exact .inr ⟨b', c', cur, h1, by omega, h3⟩
            refine h1.byBlock fun b' cur h2 h3 => Below.heap_setCell w8 ⟨b, 2, none⟩ _ b' ?_
            intro e
            have e' : b' = b := e
            rw [e', l8.b1] at h3
            injection h3 with h3
            injection h3 with _ h4
            exact absurd h4 (by decide))
          obtain ⟨c0, c1, c2, c3, f0, f1, f2, f3⟩ := l8.cells
          obtain ⟨z0, z1, z2, z3, g0, g1, g2, g3⟩ := L9.out.zero
          obtain ⟨a0, a1, a2, a3, _, _, _, _⟩ := L9.out.cells
          have hbz := l8.lt
          have HE := Lib.hid (L9.out.end4 HAB.out (.bool false) (.string (nmV ls s1)) (.slice A8 (asR ls s3).1.length c8) (.int .i64 0))
          clear hown8 hr8 ho8 HAR HAA l8 hle7
          go_wp2
          exact bodyPost_ret (v := .agg #[.bool false, .string (nmV ls s1), .slice A8 (asR ls s3).1.length c8, .int .i64 0]) (by simp [results, Try.results42, go_sem, z0, z1, z2, z3]) rfl
            ⟨_, by rw [HLI.out, HLT.out], by rw [HLI.out, HLT.out]; exact HE.out.1, by rw [HLI.out, HLT.out]; exact HE.out.2.1, HE.out.2.2⟩
    | false =>
      rw [if_neg Bool.false_ne_true] at HLI
      obtain ⟨c0, c1, c2, c3, f0, f1, f2, f3⟩ := HL3.out.cells
      obtain ⟨s2, hs2⟩ : ∃ s2, s2 = if n = true then failR s1 7 (nowR ls s1).a else s1 := ⟨_, rfl⟩
      have HS2 := Lib.hid hs2
      rw [HX.out] at hs2
      cases n with
      | true =>
        rw [if_pos rfl] at hs2
        have hf := Lib.hid (rp_fail HL3.out.rd 7 ta)
        go_wp2_with fail
        refine hf.out.mono ?_
        rintro e w4 ⟨rfl, hr4, ho4⟩
        have l4 := HL3.out.call hr4 ho4
        rw [← hs2] at l4
        have L4 := Lib.hid l4
        clear hr4 ho4 hf l4 hs2 c0 c1 c2 c3 f0 f1 f2 f3
        have hcm : cmR ls true s1 = (⟨true, ⟨#[]⟩, [tmV ls s2, tmV ls (stepR ls (if (nowR ls (tmS ls s2)).k ≠ 3 ∨ opT (nowR ls (tmS ls s2)) = 0 then failR (tmS ls s2) 7 (nowR ls (tmS ls s2)).a else tmS ls s2))], opT (nowR ls (tmS ls s2))⟩, tmS ls (stepR ls (if (nowR ls (tmS ls s2)).k ≠ 3 ∨ opT (nowR ls (tmS ls s2)) = 0 then failR (tmS ls s2) 7 (nowR ls (tmS ls s2)).a else tmS ls s2))) := by rw [HS2.out]; rfl
        have HCM := Lib.hid hcm
        have HTM := Lib.hid (rp_term L4.out.rd)
        obtain ⟨x, hx⟩ : ∃ x, tmV ls s2 = x := ⟨_, rfl⟩
        obtain ⟨s3, hs3⟩ : ∃ s3, tmS ls s2 = s3 := ⟨_, rfl⟩
        rw [hx, hs3] at HTM HCM
        clear hcm hx hs3
        go_wp2_with fail
        refine HTM.out.mono ?_
        rintro e w5 ⟨rfl, hr5, ho5⟩
        have l5 := L4.out.call hr5 ho5
        have l6 := l5.below (one_new w5 (.cells #[.string x.s, .bool x.a, .int .i64 x.v.k, .bool x.v.f, .int .i64 x.v.n, .string x.v.t] 84))
        have hbt5 := l5.b1.lt
        have k6 : (w5.alloc (.cells #[.string x.s, .bool x.a, .int .i64 x.v.k, .bool x.v.f, .int .i64 x.v.n, .string x.v.t] 84)).heap[w5.heap.size]? = _ := heap_alloc_new w5 _
        obtain ⟨bt, hbt⟩ : ∃ bt, bt = w5.heap.size := ⟨_, rfl⟩
        have HBT := Lib.hid hbt
        rw [← hbt] at k6 hbt5
        have L6 := Lib.hid l6
        have K6 := Lib.hid k6
        obtain ⟨⟨yk, yb, ⟨zk, zf, zn, zt⟩, ya⟩, hY⟩ : ∃ y, nowR ls s3 = y := ⟨_, rfl⟩
        have HY := Lib.hid hY
        have r0 := field_at0 yk yb zk zf zn zt ya
        have r1 := field_at1 yk yb zk zf zn zt ya
        have r3 := field_at3 yk yb zk zf zn zt ya
        have HNW := Lib.hid (rp_now' l6.rd hY)
        rw [hY] at HCM
        clear hr5 ho5 HTM l5 l6 k6 hbt hY
        go_wp2_with fail
        rw [← HBT.out]
        refine HNW.out.mono ?_
        rintro e w6 ⟨rfl, hb6⟩
        have L6b := Lib.hid (L6.out.below hb6)
        have k6b := (hb6.block bt (by rw [World.size_alloc]; have := HBT.out; omega)).trans K6.out
        have HOP := Lib.hid (ref_op yb w6)
        have hot : opT ⟨yk, yb, ⟨zk, zf, zn, zt⟩, ya⟩ = opF yb.data.toList := rfl
        rw [hot] at HCM
        generalize opF yb.data.toList = op at *
        have K6b := Lib.hid k6b
        clear hb6 HNW L6 K6 k6b hot
        go_wp2_with fail
        refine HOP.out.mono ?_
        rintro e w7 ⟨rfl, hb7⟩
        have l7 := L6b.out.below hb7
        obtain ⟨c0, c1, c2, c3, f0, f1, f2, f3⟩ := l7.cells
        have k7 := (hb7.block bt (Array.getElem?_eq_some_iff.1 K6b.out).1).trans K6b.out
        have l8 := l7.set3 op
        have k8 : (w7.setCell ⟨b, 3, none⟩ (.int .i64 op)).heap[bt]? = _ := (Below.heap_setCell w7 ⟨b, 3, none⟩ _ bt (by show bt ≠ b; omega)).trans k7
        have L8 := Lib.hid l8
        have K8 := Lib.hid k8
        have HNW := Lib.hid (rp_now' l8.rd HY.out)
        clear hb7 HOP l7 l8 k7 k8 L6b K6b
        go_wp2_with fail
        refine HNW.out.mono ?_
        rintro e w9 ⟨rfl, hb9⟩
        have l9 := L8.out.below hb9
        have k9 := (hb9.block bt (Array.getElem?_eq_some_iff.1 K8.out).1).trans K8.out
        have L9 := Lib.hid l9
        have K9 := Lib.hid k9
        obtain ⟨c0, c1, c2, c3, f0, f1, f2, f3⟩ := l9.cells
        clear hb9 HNW L8 K8 l9 k9
        obtain ⟨s4, hs4⟩ : ∃ s4, (if yk ≠ 3 ∨ op = 0 then failR s3 7 ya else s3) = s4 := ⟨_, rfl⟩
        rw [hs4] at HCM
        by_cases hk3 : yk = 3
        · have b3 : (yk != 3) = false := by simpa using hk3
          by_cases hop : op = 0
          · have b4 : (op == 0) = true := by simpa using hop
            rw [if_pos (.inr hop)] at hs4
            clear hk3 hop
            have HNW := Lib.hid (rp_now' L9.out.rd HY.out)
            go_wp2_with fail
            refine HNW.out.mono ?_
            rintro e w10 ⟨rfl, hb10⟩
            have l10 := L9.out.below hb10
            have k10 := (hb10.block bt (Array.getElem?_eq_some_iff.1 K9.out).1).trans K9.out
            have hf := Lib.hid (rp_fail l10.rd 7 ya)
            have L10 := Lib.hid l10
            have K10 := Lib.hid k10
            clear hb10 HNW L9 K9 l10 k10
            go_wp2_with fail
            refine hf.out.mono ?_
            rintro e w11 ⟨rfl, hr11, ho11⟩
            have l11 := L10.out.call hr11 ho11
            rw [hs4] at l11
            have L11 := Lib.hid l11
            have K11 := Lib.hid ((ho11.2 bt (Array.getElem?_eq_some_iff.1 K10.out).1 (by have := hg; have := L10.out.lt; omega)).trans K10.out)
            clear hr11 ho11 hf l11 L10 K10 hs4
            have HSP := Lib.hid (rp_step L11.out.rd)
            have hgb : g ≠ bt := by have := L11.out.lt; omega
            have hbb : b ≠ bt := by omega
            have hrb : w.heap.size ≤ bt := by have := L11.out.lt; omega
            go_wp2_with fail
            refine HSP.out.mono ?_
            rintro e w12 ⟨rfl, hr12, ho12⟩
            have l12 := L11.out.call hr12 ho12
            have L12 := Lib.hid l12
            have k12 := (ho12.2 bt (Array.getElem?_eq_some_iff.1 K11.out).1 (Ne.symm hgb)).trans K11.out
            have HK12 := Lib.hid k12
            obtain ⟨xs, xa, ⟨xk, xf, xn, xt⟩⟩ := x
            obtain ⟨p0, p1, p2, p3, p4, p5, _⟩ := box6_of k12
            have HTM2 := Lib.hid (fun W (hW : Below w12.heap.size w12 W) => rp_term (l12.rd.below hW))
            obtain ⟨⟨ys, y2, ⟨y3, y4, y5, y6⟩⟩, hy⟩ : ∃ y, tmV ls (stepR ls s4) = y := ⟨_, rfl⟩
            rw [hy] at HTM2 HCM
            obtain ⟨c0, c1, c2, c3, f0, f1, f2, f3⟩ := l12.cells
            clear hr12 ho12 l12 HSP L11 K11 k12 hy
            go_wp2_with fail
            go_region_held3 (fun w' => w'.cell? ⟨bt, 0, none⟩ = some (.string xs) ∧ w'.cell? ⟨bt, 1, none⟩ = some (.bool xa) ∧ w'.cell? ⟨bt, 2, none⟩ = some (.int .i64 xk) ∧ w'.cell? ⟨bt, 3, none⟩ = some (.bool xf) ∧ w'.cell? ⟨bt, 4, none⟩ = some (.int .i64 xn) ∧ w'.cell? ⟨bt, 5, none⟩ = some (.string xt)) (go_keep)
              (first
                | (go_at_call 61; refine (HTM2.out _ (Below.refl _ _).drew).mono ?_; rintro e w13 ⟨rfl, hr13, ho13⟩; have L13 := Lib.hid ((L12.out.below (Below.refl _ _).drew).call hr13 ho13); have k13 := (ho13.2 bt (Array.getElem?_eq_some_iff.1 HK12.out).1 (Ne.symm hgb)).trans HK12.out; obtain ⟨p0, p1, p2, p3, p4, p5, _⟩ := box6_of k13; have l14 := L13.out.below (one_new w13 (.cells #[.string xs, .bool xa, .int .i64 xk, .bool xf, .int .i64 xn, .string xt, .string ys, .bool y2, .int .i64 y3, .bool y4, .int .i64 y5, .string y6] 84)); obtain ⟨c0, c1, c2, c3, f0, f1, f2, f3⟩ := l14.cells; clear hr13 ho13 k13 l14))
            all_goals
              have l14 := L13.out.below (one_new w13 (.cells #[.string xs, .bool xa, .int .i64 xk, .bool xf, .int .i64 xn, .string xt, .string ys, .bool y2, .int .i64 y3, .bool y4, .int .i64 y5, .string y6] 84))
              have k14 := heap_alloc_new w13 (.cells #[.string xs, .bool xa, .int .i64 xk, .bool xf, .int .i64 xn, .string xt, .string ys, .bool y2, .int .i64 y3, .bool y4, .int .i64 y5, .string y6] 84)
              have hb13 := L13.out.b1.lt
              have hs13 := L13.out.on.size
              have L15 := Lib.hid (l14.set2 (.slice (some ⟨w13.heap.size, 0, none⟩) 2 2))
              have k15 := (Below.heap_setCell (w13.alloc (.cells #[.string xs, .bool xa, .int .i64 xk, .bool xf, .int .i64 xn, .string xt, .string ys, .bool y2, .int .i64 y3, .bool y4, .int .i64 y5, .string y6] 84)) ⟨b, 2, none⟩ (.slice (some ⟨w13.heap.size, 0, none⟩) 2 2) w13.heap.size (by show w13.heap.size ≠ b; omega)).trans k14
              have HAB : Hid (ArgsAt _ w.heap.size (.slice (some ⟨w13.heap.size, 0, none⟩) 2 2) [⟨xs, xa, ⟨xk, xf, xn, xt⟩⟩, ⟨ys, y2, ⟨y3, y4, y5, y6⟩⟩]) := Lib.hid (.inr ⟨w13.heap.size, 2, _, rfl, hs13, k15, els_two k15⟩)
              obtain ⟨z0, z1, z2, z3, g0, g1, g2, g3⟩ := L15.out.zero
              obtain ⟨a0, a1, a2, a3, _, _, _, _⟩ := L15.out.cells
              have HE := Lib.hid (L15.out.end4 HAB.out (.bool true) (.string ⟨#[]⟩) (.slice (some ⟨w13.heap.size, 0, none⟩) 2 2) (.int .i64 op))
              clear l14 k14 k15 hb13 hs13 p0 p1 p2 p3 p4 p5 c0 c1 c2 c3 f0 f1 f2 f3
              go_wp2
              exact bodyPost_ret (v := .agg #[.bool true, .string ⟨#[]⟩, .slice (some ⟨w13.heap.size, 0, none⟩) 2 2, .int .i64 op]) (by simp [results, Try.results42, go_sem, z0, z1, z2, z3]) rfl
                ⟨_, by rw [HLI.out, HCM.out], by rw [HLI.out, HCM.out]; exact HE.out.1, by rw [HLI.out, HCM.out]; exact HE.out.2.1, HE.out.2.2⟩
          · have b4 : (op == 0) = false := by simpa using hop
            rw [if_neg (by rintro (h | h); exact h hk3; exact hop h)] at hs4
            have L11 := L9
            rw [hs4] at L11
            obtain ⟨w11, hw11⟩ : ∃ w11, w11 = w9 := ⟨_, rfl⟩
            subst hw11
            have K11 := K9
            clear hk3 hop hs4 K9 L9
            have HSP := Lib.hid (rp_step L11.out.rd)
            have hgb : g ≠ bt := by have := L11.out.lt; omega
            have hbb : b ≠ bt := by omega
            have hrb : w.heap.size ≤ bt := by have := L11.out.lt; omega
            go_wp2_with fail
            refine HSP.out.mono ?_
            rintro e w12 ⟨rfl, hr12, ho12⟩
            have l12 := L11.out.call hr12 ho12
            have L12 := Lib.hid l12
            have k12 := (ho12.2 bt (Array.getElem?_eq_some_iff.1 K11.out).1 (Ne.symm hgb)).trans K11.out
            have HK12 := Lib.hid k12
            obtain ⟨xs, xa, ⟨xk, xf, xn, xt⟩⟩ := x
            obtain ⟨p0, p1, p2, p3, p4, p5, _⟩ := box6_of k12
            have HTM2 := Lib.hid (fun W (hW : Below w12.heap.size w12 W) => rp_term (l12.rd.below hW))
            obtain ⟨⟨ys, y2, ⟨y3, y4, y5, y6⟩⟩, hy⟩ : ∃ y, tmV ls (stepR ls s4) = y := ⟨_, rfl⟩
            rw [hy] at HTM2 HCM
            obtain ⟨c0, c1, c2, c3, f0, f1, f2, f3⟩ := l12.cells
            clear hr12 ho12 l12 HSP L11 K11 k12 hy
            go_wp2_with fail
            go_region_held3 (fun w' => w'.cell? ⟨bt, 0, none⟩ = some (.string xs) ∧ w'.cell? ⟨bt, 1, none⟩ = some (.bool xa) ∧ w'.cell? ⟨bt, 2, none⟩ = some (.int .i64 xk) ∧ w'.cell? ⟨bt, 3, none⟩ = some (.bool xf) ∧ w'.cell? ⟨bt, 4, none⟩ = some (.int .i64 xn) ∧ w'.cell? ⟨bt, 5, none⟩ = some (.string xt)) (go_keep)
              (first
                | (go_at_call 61; refine (HTM2.out _ (Below.refl _ _).drew).mono ?_; rintro e w13 ⟨rfl, hr13, ho13⟩; have L13 := Lib.hid ((L12.out.below (Below.refl _ _).drew).call hr13 ho13); have k13 := (ho13.2 bt (Array.getElem?_eq_some_iff.1 HK12.out).1 (Ne.symm hgb)).trans HK12.out; obtain ⟨p0, p1, p2, p3, p4, p5, _⟩ := box6_of k13; have l14 := L13.out.below (one_new w13 (.cells #[.string xs, .bool xa, .int .i64 xk, .bool xf, .int .i64 xn, .string xt, .string ys, .bool y2, .int .i64 y3, .bool y4, .int .i64 y5, .string y6] 84)); obtain ⟨c0, c1, c2, c3, f0, f1, f2, f3⟩ := l14.cells; clear hr13 ho13 k13 l14))
            all_goals
              have l14 := L13.out.below (one_new w13 (.cells #[.string xs, .bool xa, .int .i64 xk, .bool xf, .int .i64 xn, .string xt, .string ys, .bool y2, .int .i64 y3, .bool y4, .int .i64 y5, .string y6] 84))
              have k14 := heap_alloc_new w13 (.cells #[.string xs, .bool xa, .int .i64 xk, .bool xf, .int .i64 xn, .string xt, .string ys, .bool y2, .int .i64 y3, .bool y4, .int .i64 y5, .string y6] 84)
              have hb13 := L13.out.b1.lt
              have hs13 := L13.out.on.size
              have L15 := Lib.hid (l14.set2 (.slice (some ⟨w13.heap.size, 0, none⟩) 2 2))
              have k15 := (Below.heap_setCell (w13.alloc (.cells #[.string xs, .bool xa, .int .i64 xk, .bool xf, .int .i64 xn, .string xt, .string ys, .bool y2, .int .i64 y3, .bool y4, .int .i64 y5, .string y6] 84)) ⟨b, 2, none⟩ (.slice (some ⟨w13.heap.size, 0, none⟩) 2 2) w13.heap.size (by show w13.heap.size ≠ b; omega)).trans k14
              have HAB : Hid (ArgsAt _ w.heap.size (.slice (some ⟨w13.heap.size, 0, none⟩) 2 2) [⟨xs, xa, ⟨xk, xf, xn, xt⟩⟩, ⟨ys, y2, ⟨y3, y4, y5, y6⟩⟩]) := Lib.hid (.inr ⟨w13.heap.size, 2, _, rfl, hs13, k15, els_two k15⟩)
              obtain ⟨z0, z1, z2, z3, g0, g1, g2, g3⟩ := L15.out.zero
              obtain ⟨a0, a1, a2, a3, _, _, _, _⟩ := L15.out.cells
              have HE := Lib.hid (L15.out.end4 HAB.out (.bool true) (.string ⟨#[]⟩) (.slice (some ⟨w13.heap.size, 0, none⟩) 2 2) (.int .i64 op))
              clear l14 k14 k15 hb13 hs13 p0 p1 p2 p3 p4 p5 c0 c1 c2 c3 f0 f1 f2 f3
              go_wp2
              exact bodyPost_ret (v := .agg #[.bool true, .string ⟨#[]⟩, .slice (some ⟨w13.heap.size, 0, none⟩) 2 2, .int .i64 op]) (by simp [results, Try.results42, go_sem, z0, z1, z2, z3]) rfl
                ⟨_, by rw [HLI.out, HCM.out], by rw [HLI.out, HCM.out]; exact HE.out.1, by rw [HLI.out, HCM.out]; exact HE.out.2.1, HE.out.2.2⟩
        · have b3 : (yk != 3) = true := by simpa using hk3
          rw [if_pos (.inl hk3)] at hs4
          clear hk3
          have HNW := Lib.hid (rp_now' L9.out.rd HY.out)
          go_wp2_with fail
          refine HNW.out.mono ?_
          rintro e w10 ⟨rfl, hb10⟩
          have l10 := L9.out.below hb10
          have k10 := (hb10.block bt (Array.getElem?_eq_some_iff.1 K9.out).1).trans K9.out
          have hf := Lib.hid (rp_fail l10.rd 7 ya)
          have L10 := Lib.hid l10
          have K10 := Lib.hid k10
          clear hb10 HNW L9 K9 l10 k10
          go_wp2_with fail
          refine hf.out.mono ?_
          rintro e w11 ⟨rfl, hr11, ho11⟩
          have l11 := L10.out.call hr11 ho11
          rw [hs4] at l11
          have L11 := Lib.hid l11
          have K11 := Lib.hid ((ho11.2 bt (Array.getElem?_eq_some_iff.1 K10.out).1 (by have := hg; have := L10.out.lt; omega)).trans K10.out)
          clear hr11 ho11 hf l11 L10 K10 hs4
          have HSP := Lib.hid (rp_step L11.out.rd)
          have hgb : g ≠ bt := by have := L11.out.lt; omega
          have hbb : b ≠ bt := by omega
          have hrb : w.heap.size ≤ bt := by have := L11.out.lt; omega
          go_wp2_with fail
          refine HSP.out.mono ?_
          rintro e w12 ⟨rfl, hr12, ho12⟩
          have l12 := L11.out.call hr12 ho12
          have L12 := Lib.hid l12
          have k12 := (ho12.2 bt (Array.getElem?_eq_some_iff.1 K11.out).1 (Ne.symm hgb)).trans K11.out
          have HK12 := Lib.hid k12
          obtain ⟨xs, xa, ⟨xk, xf, xn, xt⟩⟩ := x
          obtain ⟨p0, p1, p2, p3, p4, p5, _⟩ := box6_of k12
          have HTM2 := Lib.hid (fun W (hW : Below w12.heap.size w12 W) => rp_term (l12.rd.below hW))
          obtain ⟨⟨ys, y2, ⟨y3, y4, y5, y6⟩⟩, hy⟩ : ∃ y, tmV ls (stepR ls s4) = y := ⟨_, rfl⟩
          rw [hy] at HTM2 HCM
          obtain ⟨c0, c1, c2, c3, f0, f1, f2, f3⟩ := l12.cells
          clear hr12 ho12 l12 HSP L11 K11 k12 hy
          go_wp2_with fail
          go_region_held3 (fun w' => w'.cell? ⟨bt, 0, none⟩ = some (.string xs) ∧ w'.cell? ⟨bt, 1, none⟩ = some (.bool xa) ∧ w'.cell? ⟨bt, 2, none⟩ = some (.int .i64 xk) ∧ w'.cell? ⟨bt, 3, none⟩ = some (.bool xf) ∧ w'.cell? ⟨bt, 4, none⟩ = some (.int .i64 xn) ∧ w'.cell? ⟨bt, 5, none⟩ = some (.string xt)) (go_keep)
            (first
              | (go_at_call 61; refine (HTM2.out _ (Below.refl _ _).drew).mono ?_; rintro e w13 ⟨rfl, hr13, ho13⟩; have L13 := Lib.hid ((L12.out.below (Below.refl _ _).drew).call hr13 ho13); have k13 := (ho13.2 bt (Array.getElem?_eq_some_iff.1 HK12.out).1 (Ne.symm hgb)).trans HK12.out; obtain ⟨p0, p1, p2, p3, p4, p5, _⟩ := box6_of k13; have l14 := L13.out.below (one_new w13 (.cells #[.string xs, .bool xa, .int .i64 xk, .bool xf, .int .i64 xn, .string xt, .string ys, .bool y2, .int .i64 y3, .bool y4, .int .i64 y5, .string y6] 84)); obtain ⟨c0, c1, c2, c3, f0, f1, f2, f3⟩ := l14.cells; clear hr13 ho13 k13 l14))
          all_goals
            have l14 := L13.out.below (one_new w13 (.cells #[.string xs, .bool xa, .int .i64 xk, .bool xf, .int .i64 xn, .string xt, .string ys, .bool y2, .int .i64 y3, .bool y4, .int .i64 y5, .string y6] 84))
            have k14 := heap_alloc_new w13 (.cells #[.string xs, .bool xa, .int .i64 xk, .bool xf, .int .i64 xn, .string xt, .string ys, .bool y2, .int .i64 y3, .bool y4, .int .i64 y5, .string y6] 84)
            have hb13 := L13.out.b1.lt
            have hs13 := L13.out.on.size
            have L15 := Lib.hid (l14.set2 (.slice (some ⟨w13.heap.size, 0, none⟩) 2 2))
            have k15 := (Below.heap_setCell (w13.alloc (.cells #[.string xs, .bool xa, .int .i64 xk, .bool xf, .int .i64 xn, .string xt, .string ys, .bool y2, .int .i64 y3, .bool y4, .int .i64 y5, .string y6] 84)) ⟨b, 2, none⟩ (.slice (some ⟨w13.heap.size, 0, none⟩) 2 2) w13.heap.size (by show w13.heap.size ≠ b; omega)).trans k14
            have HAB : Hid (ArgsAt _ w.heap.size (.slice (some ⟨w13.heap.size, 0, none⟩) 2 2) [⟨xs, xa, ⟨xk, xf, xn, xt⟩⟩, ⟨ys, y2, ⟨y3, y4, y5, y6⟩⟩]) := Lib.hid (.inr ⟨w13.heap.size, 2, _, rfl, hs13, k15, els_two k15⟩)
            obtain ⟨z0, z1, z2, z3, g0, g1, g2, g3⟩ := L15.out.zero
            obtain ⟨a0, a1, a2, a3, _, _, _, _⟩ := L15.out.cells
            have HE := Lib.hid (L15.out.end4 HAB.out (.bool true) (.string ⟨#[]⟩) (.slice (some ⟨w13.heap.size, 0, none⟩) 2 2) (.int .i64 op))
            clear l14 k14 k15 hb13 hs13 p0 p1 p2 p3 p4 p5 c0 c1 c2 c3 f0 f1 f2 f3
            go_wp2
            exact bodyPost_ret (v := .agg #[.bool true, .string ⟨#[]⟩, .slice (some ⟨w13.heap.size, 0, none⟩) 2 2, .int .i64 op]) (by simp [results, Try.results42, go_sem, z0, z1, z2, z3]) rfl
              ⟨_, by rw [HLI.out, HCM.out], by rw [HLI.out, HCM.out]; exact HE.out.1, by rw [HLI.out, HCM.out]; exact HE.out.2.1, HE.out.2.2⟩
      | false =>
        rw [if_neg Bool.false_ne_true] at hs2
        have L4 := HL3
        rw [← hs2] at L4
        clear hs2 HL3
        have hcm : cmR ls false s1 = (⟨false, ⟨#[]⟩, [tmV ls s2, tmV ls (stepR ls (if (nowR ls (tmS ls s2)).k ≠ 3 ∨ opT (nowR ls (tmS ls s2)) = 0 then failR (tmS ls s2) 7 (nowR ls (tmS ls s2)).a else tmS ls s2))], opT (nowR ls (tmS ls s2))⟩, tmS ls (stepR ls (if (nowR ls (tmS ls s2)).k ≠ 3 ∨ opT (nowR ls (tmS ls s2)) = 0 then failR (tmS ls s2) 7 (nowR ls (tmS ls s2)).a else tmS ls s2))) := by rw [HS2.out]; rfl
        have HCM := Lib.hid hcm
        have HTM := Lib.hid (rp_term L4.out.rd)
        obtain ⟨x, hx⟩ : ∃ x, tmV ls s2 = x := ⟨_, rfl⟩
        obtain ⟨s3, hs3⟩ : ∃ s3, tmS ls s2 = s3 := ⟨_, rfl⟩
        rw [hx, hs3] at HTM HCM
        clear hcm hx hs3
        go_wp2_with fail
        refine HTM.out.mono ?_
        rintro e w5 ⟨rfl, hr5, ho5⟩
        have l5 := L4.out.call hr5 ho5
        have l6 := l5.below (one_new w5 (.cells #[.string x.s, .bool x.a, .int .i64 x.v.k, .bool x.v.f, .int .i64 x.v.n, .string x.v.t] 84))
        have hbt5 := l5.b1.lt
        have k6 : (w5.alloc (.cells #[.string x.s, .bool x.a, .int .i64 x.v.k, .bool x.v.f, .int .i64 x.v.n, .string x.v.t] 84)).heap[w5.heap.size]? = _ := heap_alloc_new w5 _
        obtain ⟨bt, hbt⟩ : ∃ bt, bt = w5.heap.size := ⟨_, rfl⟩
        have HBT := Lib.hid hbt
        rw [← hbt] at k6 hbt5
        have L6 := Lib.hid l6
        have K6 := Lib.hid k6
        obtain ⟨⟨yk, yb, ⟨zk, zf, zn, zt⟩, ya⟩, hY⟩ : ∃ y, nowR ls s3 = y := ⟨_, rfl⟩
        have HY := Lib.hid hY
        have r0 := field_at0 yk yb zk zf zn zt ya
        have r1 := field_at1 yk yb zk zf zn zt ya
        have r3 := field_at3 yk yb zk zf zn zt ya
        have HNW := Lib.hid (rp_now' l6.rd hY)
        rw [hY] at HCM
        clear hr5 ho5 HTM l5 l6 k6 hbt hY
        go_wp2_with fail
        rw [← HBT.out]
        refine HNW.out.mono ?_
        rintro e w6 ⟨rfl, hb6⟩
        have L6b := Lib.hid (L6.out.below hb6)
        have k6b := (hb6.block bt (by rw [World.size_alloc]; have := HBT.out; omega)).trans K6.out
        have HOP := Lib.hid (ref_op yb w6)
        have hot : opT ⟨yk, yb, ⟨zk, zf, zn, zt⟩, ya⟩ = opF yb.data.toList := rfl
        rw [hot] at HCM
        generalize opF yb.data.toList = op at *
        have K6b := Lib.hid k6b
        clear hb6 HNW L6 K6 k6b hot
        go_wp2_with fail
        refine HOP.out.mono ?_
        rintro e w7 ⟨rfl, hb7⟩
        have l7 := L6b.out.below hb7
        obtain ⟨c0, c1, c2, c3, f0, f1, f2, f3⟩ := l7.cells
        have k7 := (hb7.block bt (Array.getElem?_eq_some_iff.1 K6b.out).1).trans K6b.out
        have l8 := l7.set3 op
        have k8 : (w7.setCell ⟨b, 3, none⟩ (.int .i64 op)).heap[bt]? = _ := (Below.heap_setCell w7 ⟨b, 3, none⟩ _ bt (by show bt ≠ b; omega)).trans k7
        have L8 := Lib.hid l8
        have K8 := Lib.hid k8
        have HNW := Lib.hid (rp_now' l8.rd HY.out)
        clear hb7 HOP l7 l8 k7 k8 L6b K6b
        go_wp2_with fail
        refine HNW.out.mono ?_
        rintro e w9 ⟨rfl, hb9⟩
        have l9 := L8.out.below hb9
        have k9 := (hb9.block bt (Array.getElem?_eq_some_iff.1 K8.out).1).trans K8.out
        have L9 := Lib.hid l9
        have K9 := Lib.hid k9
        obtain ⟨c0, c1, c2, c3, f0, f1, f2, f3⟩ := l9.cells
        clear hb9 HNW L8 K8 l9 k9
        obtain ⟨s4, hs4⟩ : ∃ s4, (if yk ≠ 3 ∨ op = 0 then failR s3 7 ya else s3) = s4 := ⟨_, rfl⟩
        rw [hs4] at HCM
        by_cases hk3 : yk = 3
        · have b3 : (yk != 3) = false := by simpa using hk3
          by_cases hop : op = 0
          · have b4 : (op == 0) = true := by simpa using hop
            rw [if_pos (.inr hop)] at hs4
            clear hk3 hop
            have HNW := Lib.hid (rp_now' L9.out.rd HY.out)
            go_wp2_with fail
            refine HNW.out.mono ?_
            rintro e w10 ⟨rfl, hb10⟩
            have l10 := L9.out.below hb10
            have k10 := (hb10.block bt (Array.getElem?_eq_some_iff.1 K9.out).1).trans K9.out
            have hf := Lib.hid (rp_fail l10.rd 7 ya)
            have L10 := Lib.hid l10
            have K10 := Lib.hid k10
            clear hb10 HNW L9 K9 l10 k10
            go_wp2_with fail
            refine hf.out.mono ?_
            rintro e w11 ⟨rfl, hr11, ho11⟩
            have l11 := L10.out.call hr11 ho11
            rw [hs4] at l11
            have L11 := Lib.hid l11
            have K11 := Lib.hid ((ho11.2 bt (Array.getElem?_eq_some_iff.1 K10.out).1 (by have := hg; have := L10.out.lt; omega)).trans K10.out)
            clear hr11 ho11 hf l11 L10 K10 hs4
            have HSP := Lib.hid (rp_step L11.out.rd)
            have hgb : g ≠ bt := by have := L11.out.lt; omega
            have hbb : b ≠ bt := by omega
            have hrb : w.heap.size ≤ bt := by have := L11.out.lt; omega
            go_wp2_with fail
            refine HSP.out.mono ?_
            rintro e w12 ⟨rfl, hr12, ho12⟩
            have l12 := L11.out.call hr12 ho12
            have L12 := Lib.hid l12
            have k12 := (ho12.2 bt (Array.getElem?_eq_some_iff.1 K11.out).1 (Ne.symm hgb)).trans K11.out
            have HK12 := Lib.hid k12
            obtain ⟨xs, xa, ⟨xk, xf, xn, xt⟩⟩ := x
            obtain ⟨p0, p1, p2, p3, p4, p5, _⟩ := box6_of k12
            have HTM2 := Lib.hid (fun W (hW : Below w12.heap.size w12 W) => rp_term (l12.rd.below hW))
            obtain ⟨⟨ys, y2, ⟨y3, y4, y5, y6⟩⟩, hy⟩ : ∃ y, tmV ls (stepR ls s4) = y := ⟨_, rfl⟩
            rw [hy] at HTM2 HCM
            obtain ⟨c0, c1, c2, c3, f0, f1, f2, f3⟩ := l12.cells
            clear hr12 ho12 l12 HSP L11 K11 k12 hy
            go_wp2_with fail
            go_region_held3 (fun w' => w'.cell? ⟨bt, 0, none⟩ = some (.string xs) ∧ w'.cell? ⟨bt, 1, none⟩ = some (.bool xa) ∧ w'.cell? ⟨bt, 2, none⟩ = some (.int .i64 xk) ∧ w'.cell? ⟨bt, 3, none⟩ = some (.bool xf) ∧ w'.cell? ⟨bt, 4, none⟩ = some (.int .i64 xn) ∧ w'.cell? ⟨bt, 5, none⟩ = some (.string xt)) (go_keep)
              (first
                | (go_at_call 61; refine (HTM2.out _ (Below.refl _ _).drew).mono ?_; rintro e w13 ⟨rfl, hr13, ho13⟩; have L13 := Lib.hid ((L12.out.below (Below.refl _ _).drew).call hr13 ho13); have k13 := (ho13.2 bt (Array.getElem?_eq_some_iff.1 HK12.out).1 (Ne.symm hgb)).trans HK12.out; obtain ⟨p0, p1, p2, p3, p4, p5, _⟩ := box6_of k13; have l14 := L13.out.below (one_new w13 (.cells #[.string xs, .bool xa, .int .i64 xk, .bool xf, .int .i64 xn, .string xt, .string ys, .bool y2, .int .i64 y3, .bool y4, .int .i64 y5, .string y6] 84)); obtain ⟨c0, c1, c2, c3, f0, f1, f2, f3⟩ := l14.cells; clear hr13 ho13 k13 l14))
            all_goals
              have l14 := L13.out.below (one_new w13 (.cells #[.string xs, .bool xa, .int .i64 xk, .bool xf, .int .i64 xn, .string xt, .string ys, .bool y2, .int .i64 y3, .bool y4, .int .i64 y5, .string y6] 84))
              have k14 := heap_alloc_new w13 (.cells #[.string xs, .bool xa, .int .i64 xk, .bool xf, .int .i64 xn, .string xt, .string ys, .bool y2, .int .i64 y3, .bool y4, .int .i64 y5, .string y6] 84)
              have hb13 := L13.out.b1.lt
              have hs13 := L13.out.on.size
              have L15 := Lib.hid (l14.set2 (.slice (some ⟨w13.heap.size, 0, none⟩) 2 2))
              have k15 := (Below.heap_setCell (w13.alloc (.cells #[.string xs, .bool xa, .int .i64 xk, .bool xf, .int .i64 xn, .string xt, .string ys, .bool y2, .int .i64 y3, .bool y4, .int .i64 y5, .string y6] 84)) ⟨b, 2, none⟩ (.slice (some ⟨w13.heap.size, 0, none⟩) 2 2) w13.heap.size (by show w13.heap.size ≠ b; omega)).trans k14
              have HAB : Hid (ArgsAt _ w.heap.size (.slice (some ⟨w13.heap.size, 0, none⟩) 2 2) [⟨xs, xa, ⟨xk, xf, xn, xt⟩⟩, ⟨ys, y2, ⟨y3, y4, y5, y6⟩⟩]) := Lib.hid (.inr ⟨w13.heap.size, 2, _, rfl, hs13, k15, els_two k15⟩)
              obtain ⟨z0, z1, z2, z3, g0, g1, g2, g3⟩ := L15.out.zero
              obtain ⟨a0, a1, a2, a3, _, _, _, _⟩ := L15.out.cells
              have HE := Lib.hid (L15.out.end4 HAB.out (.bool false) (.string ⟨#[]⟩) (.slice (some ⟨w13.heap.size, 0, none⟩) 2 2) (.int .i64 op))
              clear l14 k14 k15 hb13 hs13 p0 p1 p2 p3 p4 p5 c0 c1 c2 c3 f0 f1 f2 f3
              go_wp2
              exact bodyPost_ret (v := .agg #[.bool false, .string ⟨#[]⟩, .slice (some ⟨w13.heap.size, 0, none⟩) 2 2, .int .i64 op]) (by simp [results, Try.results42, go_sem, z0, z1, z2, z3]) rfl
                ⟨_, by rw [HLI.out, HCM.out], by rw [HLI.out, HCM.out]; exact HE.out.1, by rw [HLI.out, HCM.out]; exact HE.out.2.1, HE.out.2.2⟩
          · have b4 : (op == 0) = false := by simpa using hop
            rw [if_neg (by rintro (h | h); exact h hk3; exact hop h)] at hs4
            have L11 := L9
            rw [hs4] at L11
            obtain ⟨w11, hw11⟩ : ∃ w11, w11 = w9 := ⟨_, rfl⟩
            subst hw11
            have K11 := K9
            clear hk3 hop hs4 K9 L9
            have HSP := Lib.hid (rp_step L11.out.rd)
            have hgb : g ≠ bt := by have := L11.out.lt; omega
            have hbb : b ≠ bt := by omega
            have hrb : w.heap.size ≤ bt := by have := L11.out.lt; omega
            go_wp2_with fail
            refine HSP.out.mono ?_
            rintro e w12 ⟨rfl, hr12, ho12⟩
            have l12 := L11.out.call hr12 ho12
            have L12 := Lib.hid l12
            have k12 := (ho12.2 bt (Array.getElem?_eq_some_iff.1 K11.out).1 (Ne.symm hgb)).trans K11.out
            have HK12 := Lib.hid k12
            obtain ⟨xs, xa, ⟨xk, xf, xn, xt⟩⟩ := x
            obtain ⟨p0, p1, p2, p3, p4, p5, _⟩ := box6_of k12
            have HTM2 := Lib.hid (fun W (hW : Below w12.heap.size w12 W) => rp_term (l12.rd.below hW))
            obtain ⟨⟨ys, y2, ⟨y3, y4, y5, y6⟩⟩, hy⟩ : ∃ y, tmV ls (stepR ls s4) = y := ⟨_, rfl⟩
            rw [hy] at HTM2 HCM
            obtain ⟨c0, c1, c2, c3, f0, f1, f2, f3⟩ := l12.cells
            clear hr12 ho12 l12 HSP L11 K11 k12 hy
            go_wp2_with fail
            go_region_held3 (fun w' => w'.cell? ⟨bt, 0, none⟩ = some (.string xs) ∧ w'.cell? ⟨bt, 1, none⟩ = some (.bool xa) ∧ w'.cell? ⟨bt, 2, none⟩ = some (.int .i64 xk) ∧ w'.cell? ⟨bt, 3, none⟩ = some (.bool xf) ∧ w'.cell? ⟨bt, 4, none⟩ = some (.int .i64 xn) ∧ w'.cell? ⟨bt, 5, none⟩ = some (.string xt)) (go_keep)
              (first
                | (go_at_call 61; refine (HTM2.out _ (Below.refl _ _).drew).mono ?_; rintro e w13 ⟨rfl, hr13, ho13⟩; have L13 := Lib.hid ((L12.out.below (Below.refl _ _).drew).call hr13 ho13); have k13 := (ho13.2 bt (Array.getElem?_eq_some_iff.1 HK12.out).1 (Ne.symm hgb)).trans HK12.out; obtain ⟨p0, p1, p2, p3, p4, p5, _⟩ := box6_of k13; have l14 := L13.out.below (one_new w13 (.cells #[.string xs, .bool xa, .int .i64 xk, .bool xf, .int .i64 xn, .string xt, .string ys, .bool y2, .int .i64 y3, .bool y4, .int .i64 y5, .string y6] 84)); obtain ⟨c0, c1, c2, c3, f0, f1, f2, f3⟩ := l14.cells; clear hr13 ho13 k13 l14))
            all_goals
              have l14 := L13.out.below (one_new w13 (.cells #[.string xs, .bool xa, .int .i64 xk, .bool xf, .int .i64 xn, .string xt, .string ys, .bool y2, .int .i64 y3, .bool y4, .int .i64 y5, .string y6] 84))
              have k14 := heap_alloc_new w13 (.cells #[.string xs, .bool xa, .int .i64 xk, .bool xf, .int .i64 xn, .string xt, .string ys, .bool y2, .int .i64 y3, .bool y4, .int .i64 y5, .string y6] 84)
              have hb13 := L13.out.b1.lt
              have hs13 := L13.out.on.size
              have L15 := Lib.hid (l14.set2 (.slice (some ⟨w13.heap.size, 0, none⟩) 2 2))
              have k15 := (Below.heap_setCell (w13.alloc (.cells #[.string xs, .bool xa, .int .i64 xk, .bool xf, .int .i64 xn, .string xt, .string ys, .bool y2, .int .i64 y3, .bool y4, .int .i64 y5, .string y6] 84)) ⟨b, 2, none⟩ (.slice (some ⟨w13.heap.size, 0, none⟩) 2 2) w13.heap.size (by show w13.heap.size ≠ b; omega)).trans k14
              have HAB : Hid (ArgsAt _ w.heap.size (.slice (some ⟨w13.heap.size, 0, none⟩) 2 2) [⟨xs, xa, ⟨xk, xf, xn, xt⟩⟩, ⟨ys, y2, ⟨y3, y4, y5, y6⟩⟩]) := Lib.hid (.inr ⟨w13.heap.size, 2, _, rfl, hs13, k15, els_two k15⟩)
              obtain ⟨z0, z1, z2, z3, g0, g1, g2, g3⟩ := L15.out.zero
              obtain ⟨a0, a1, a2, a3, _, _, _, _⟩ := L15.out.cells
              have HE := Lib.hid (L15.out.end4 HAB.out (.bool false) (.string ⟨#[]⟩) (.slice (some ⟨w13.heap.size, 0, none⟩) 2 2) (.int .i64 op))
              clear l14 k14 k15 hb13 hs13 p0 p1 p2 p3 p4 p5 c0 c1 c2 c3 f0 f1 f2 f3
              go_wp2
              exact bodyPost_ret (v := .agg #[.bool false, .string ⟨#[]⟩, .slice (some ⟨w13.heap.size, 0, none⟩) 2 2, .int .i64 op]) (by simp [results, Try.results42, go_sem, z0, z1, z2, z3]) rfl
                ⟨_, by rw [HLI.out, HCM.out], by rw [HLI.out, HCM.out]; exact HE.out.1, by rw [HLI.out, HCM.out]; exact HE.out.2.1, HE.out.2.2⟩
        · have b3 : (yk != 3) = true := by simpa using hk3
          rw [if_pos (.inl hk3)] at hs4
          clear hk3
          have HNW := Lib.hid (rp_now' L9.out.rd HY.out)
          go_wp2_with fail
          refine HNW.out.mono ?_
          rintro e w10 ⟨rfl, hb10⟩
          have l10 := L9.out.below hb10
          have k10 := (hb10.block bt (Array.getElem?_eq_some_iff.1 K9.out).1).trans K9.out
          have hf := Lib.hid (rp_fail l10.rd 7 ya)
          have L10 := Lib.hid l10
          have K10 := Lib.hid k10
          clear hb10 HNW L9 K9 l10 k10
          go_wp2_with fail
          refine hf.out.mono ?_
          rintro e w11 ⟨rfl, hr11, ho11⟩
          have l11 := L10.out.call hr11 ho11
          rw [hs4] at l11
          have L11 := Lib.hid l11
          have K11 := Lib.hid ((ho11.2 bt (Array.getElem?_eq_some_iff.1 K10.out).1 (by have := hg; have := L10.out.lt; omega)).trans K10.out)
          clear hr11 ho11 hf l11 L10 K10 hs4
          have HSP := Lib.hid (rp_step L11.out.rd)
          have hgb : g ≠ bt := by have := L11.out.lt; omega
          have hbb : b ≠ bt := by omega
          have hrb : w.heap.size ≤ bt := by have := L11.out.lt; omega
          go_wp2_with fail
          refine HSP.out.mono ?_
          rintro e w12 ⟨rfl, hr12, ho12⟩
          have l12 := L11.out.call hr12 ho12
          have L12 := Lib.hid l12
          have k12 := (ho12.2 bt (Array.getElem?_eq_some_iff.1 K11.out).1 (Ne.symm hgb)).trans K11.out
          have HK12 := Lib.hid k12
          obtain ⟨xs, xa, ⟨xk, xf, xn, xt⟩⟩ := x
          obtain ⟨p0, p1, p2, p3, p4, p5, _⟩ := box6_of k12
          have HTM2 := Lib.hid (fun W (hW : Below w12.heap.size w12 W) => rp_term (l12.rd.below hW))
          obtain ⟨⟨ys, y2, ⟨y3, y4, y5, y6⟩⟩, hy⟩ : ∃ y, tmV ls (stepR ls s4) = y := ⟨_, rfl⟩
          rw [hy] at HTM2 HCM
          obtain ⟨c0, c1, c2, c3, f0, f1, f2, f3⟩ := l12.cells
          clear hr12 ho12 l12 HSP L11 K11 k12 hy
          go_wp2_with fail
          go_region_held3 (fun w' => w'.cell? ⟨bt, 0, none⟩ = some (.string xs) ∧ w'.cell? ⟨bt, 1, none⟩ = some (.bool xa) ∧ w'.cell? ⟨bt, 2, none⟩ = some (.int .i64 xk) ∧ w'.cell? ⟨bt, 3, none⟩ = some (.bool xf) ∧ w'.cell? ⟨bt, 4, none⟩ = some (.int .i64 xn) ∧ w'.cell? ⟨bt, 5, none⟩ = some (.string xt)) (go_keep)
            (first
              | (go_at_call 61; refine (HTM2.out _ (Below.refl _ _).drew).mono ?_; rintro e w13 ⟨rfl, hr13, ho13⟩; have L13 := Lib.hid ((L12.out.below (Below.refl _ _).drew).call hr13 ho13); have k13 := (ho13.2 bt (Array.getElem?_eq_some_iff.1 HK12.out).1 (Ne.symm hgb)).trans HK12.out; obtain ⟨p0, p1, p2, p3, p4, p5, _⟩ := box6_of k13; have l14 := L13.out.below (one_new w13 (.cells #[.string xs, .bool xa, .int .i64 xk, .bool xf, .int .i64 xn, .string xt, .string ys, .bool y2, .int .i64 y3, .bool y4, .int .i64 y5, .string y6] 84)); obtain ⟨c0, c1, c2, c3, f0, f1, f2, f3⟩ := l14.cells; clear hr13 ho13 k13 l14))
          all_goals
            have l14 := L13.out.below (one_new w13 (.cells #[.string xs, .bool xa, .int .i64 xk, .bool xf, .int .i64 xn, .string xt, .string ys, .bool y2, .int .i64 y3, .bool y4, .int .i64 y5, .string y6] 84))
            have k14 := heap_alloc_new w13 (.cells #[.string xs, .bool xa, .int .i64 xk, .bool xf, .int .i64 xn, .string xt, .string ys, .bool y2, .int .i64 y3, .bool y4, .int .i64 y5, .string y6] 84)
            have hb13 := L13.out.b1.lt
            have hs13 := L13.out.on.size
            have L15 := Lib.hid (l14.set2 (.slice (some ⟨w13.heap.size, 0, none⟩) 2 2))
            have k15 := (Below.heap_setCell (w13.alloc (.cells #[.string xs, .bool xa, .int .i64 xk, .bool xf, .int .i64 xn, .string xt, .string ys, .bool y2, .int .i64 y3, .bool y4, .int .i64 y5, .string y6] 84)) ⟨b, 2, none⟩ (.slice (some ⟨w13.heap.size, 0, none⟩) 2 2) w13.heap.size (by show w13.heap.size ≠ b; omega)).trans k14
            have HAB : Hid (ArgsAt _ w.heap.size (.slice (some ⟨w13.heap.size, 0, none⟩) 2 2) [⟨xs, xa, ⟨xk, xf, xn, xt⟩⟩, ⟨ys, y2, ⟨y3, y4, y5, y6⟩⟩]) := Lib.hid (.inr ⟨w13.heap.size, 2, _, rfl, hs13, k15, els_two k15⟩)
            obtain ⟨z0, z1, z2, z3, g0, g1, g2, g3⟩ := L15.out.zero
            obtain ⟨a0, a1, a2, a3, _, _, _, _⟩ := L15.out.cells
            have HE := Lib.hid (L15.out.end4 HAB.out (.bool false) (.string ⟨#[]⟩) (.slice (some ⟨w13.heap.size, 0, none⟩) 2 2) (.int .i64 op))
            clear l14 k14 k15 hb13 hs13 p0 p1 p2 p3 p4 p5 c0 c1 c2 c3 f0 f1 f2 f3
            go_wp2
            exact bodyPost_ret (v := .agg #[.bool false, .string ⟨#[]⟩, .slice (some ⟨w13.heap.size, 0, none⟩) 2 2, .int .i64 op]) (by simp [results, Try.results42, go_sem, z0, z1, z2, z3]) rfl
              ⟨_, by rw [HLI.out, HCM.out], by rw [HLI.out, HCM.out]; exact HE.out.1, by rw [HLI.out, HCM.out]; exact HE.out.2.1, HE.out.2.2⟩
end Go.Proofs.Ythdjkagodccdbaa
