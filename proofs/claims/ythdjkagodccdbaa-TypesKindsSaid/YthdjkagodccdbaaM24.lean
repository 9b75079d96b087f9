/-
  The document's args: what stands in an atom's brackets.
  Condition: no more than four hundred tokens, and a place among them.
  The document's lone, agg: one literal too many; an aggregate, if one stands there.
  Condition: no more than four hundred tokens, and a place among them.
-/
import Derived.Deep.RegionLaw
import Derived.Test.YthdjkagodccdbaaM23
namespace Go.Proofs.Ythdjkagodccdbaa
section
open Go.RowKit

theorem OnlyR.grown {g base : Nat} {w w1 w2 : World} {v : Value} (h : OnlyR g w w1) (hb : base = w.heap.size) (hg : w1.grownBy w2 v.ownBlock) (hv : ∀ k, v.ownBlock = some k → base ≤ k) : OnlyR g w w2 := by
  refine ⟨h.1.trans (((Below.refl 0 w1).grown hg (Nat.zero_le _) (fun k _ => Nat.zero_le _))), fun k hk hkg => ?_⟩
  rw [hg.block k (Nat.lt_of_lt_of_le hk h.1.size) (fun e => by have := hv k e.symm; omega)]
  exact h.2 k hk hkg
theorem RdP.grown {w w2 : World} {g t c base : Nat} {ls : List Tok} {s : Rst} {v : Value} (h : RdP w g t c ls s) (hg : w.grownBy w2 v.ownBlock) (hv : ∀ k, v.ownBlock = some k → base ≤ k) (h1 : g < base) (h2 : t < base) : RdP w2 g t c ls s :=
  ⟨(hg.block g h.lt (fun e => by have := hv g e.symm; omega)).trans h.1, h.2.1.block (fun hk => hg.block t hk (fun e => by have := hv t e.symm; omega)), h.2.2⟩

/-- args, from where it is on. -/
theorem asF_stop (ls : List Tok) (f : Nat) (l : List TmP) (s : Rst) (h : ¬ s.why = 0) : asF ls f l s = (l, s) := by
  cases f with
  | zero => rfl
  | succ f => unfold asF; rw [if_neg h]

theorem asF_go (ls : List Tok) (f : Nat) (l : List TmP) (s s1 s2 : Rst) (x : TmP) (h : s.why = 0) (hx : arV ls s = x) (hs : arS ls s = s1) (h2 : s2 = if 40 ≤ l.length then failR s1 9 (nowR ls s).a else s1) :
    asF ls (f + 1) l s = if isR ls s2 wComma = true then asF ls f (l ++ [x]) (stepR ls s2) else (l ++ [x], mustR ls s2 wShut) := by
  subst hx hs h2
  rw [asF, if_pos h]

set_option maxRecDepth 100000 in
set_option maxHeartbeats 4000000 in
theorem rp_args {w : World} {g t c : Nat} {ls : List Tok} {s : Rst} (h : RdP w g t c ls s) :
    Calls Try.prog 60 #[.pointer (some ⟨g, 0, none⟩)] w fun e w' => ∃ v, e = .returned v ∧ OwnTm w' w.heap.size v (asR ls s).1 ∧ RdP w' g t c ls (asR ls s).2 ∧ OnlyR g w w' := by
  have HT := Lib.hid (rp_take h ⟨#[41]⟩)
  have hg := h.lt
  have ht := h.tlt
  have HR : Hid (asR ls s = if isR ls s wShut = true then ([], stepR ls s) else asF ls 400 [] s) := Lib.hid rfl
  have HK : Hid (takeR ls s wShut = if isR ls s wShut = true then stepR ls s else s) := Lib.hid rfl
  change Hid (Calls Try.prog 18 #[.pointer (some ⟨g, 0, none⟩), .string ⟨#[41]⟩] w fun e w' => e = .returned (.bool (isR ls s wShut)) ∧ RdP w' g t c ls (takeR ls s wShut) ∧ OnlyR g w w') at HT
  generalize asR ls s = R at *
  generalize takeR ls s wShut = s1 at *
  generalize isR ls s wShut = q at *
  clear h
  go_enter Try.func60, Try.ntmps60
  go_wp2_with fail
  refine HT.out.mono ?_
  rintro e w1 ⟨rfl, hr1, ho1⟩
  have H1 := Lib.hid hr1
  have HO1 := Lib.hid ho1
  clear hr1 ho1 HT
  cases q with
  | true =>
    rw [if_pos rfl] at HR HK
    go_wp2
    go_ret
    exact ⟨_, rfl, by rw [HR.out]; exact OwnF.nil _ _, by rw [HR.out, ← HK.out]; exact H1.out, HO1.out⟩
  | false =>
    rw [if_neg Bool.false_ne_true] at HR HK
    go_wp2
    go_loopw [3, 4] (fun v i wr => ∃ (k : Nat) (l : List TmP) (s2 : Rst), i = .int .i64 k ∧ k ≤ 400 ∧ l.length ≤ k ∧ OwnTm wr w.heap.size v l ∧ RdP wr g t c ls s2 ∧ Hid (R = asF ls (400 - k) l s2) ∧ OnlyR g w wr) (fun _ i _ => 400 - (intOf i).toNat)
    case atStart => exact ⟨0, [], s, rfl, by omega, Nat.le_refl _, OwnF.nil _ _, by rw [← HK.out]; exact H1.out, Lib.hid HR.out, HO1.out⟩
    case round =>
      obtain ⟨k, l, s2, rfl, hk, hlk, hown, hr, HA, ho⟩ := hrel
      have HO := Lib.hid ho
      have HW := Lib.hid hown
      have HRD := Lib.hid hr
      obtain ⟨_, _, c2, _⟩ := hr.cell
      have hsz := ho.size
      obtain ⟨A, cc, hvv⟩ := hown.shape
      subst hvv
      clear ho hown hr
      by_cases hk4 : k < 400
      · by_cases hy : s2.why = 0
        · obtain ⟨⟨tk, tb, ⟨vk, vf, vn, vt⟩, ta⟩, hX⟩ : ∃ x, nowR ls s2 = x := ⟨_, rfl⟩
          have HX := Lib.hid hX
          have HN := Lib.hid (rp_now' HRD.out hX)
          have HY := Lib.hid hy
          have q3 := field_at3 tk tb vk vf vn vt ta
          have harV : arV ls s2 = if isR ls s2 wAny = true then anyT else tmV ls s2 := rfl
          have harS : arS ls s2 = if isR ls s2 wAny = true then stepR ls s2 else tmS ls s2 := rfl
          have HV := Lib.hid harV
          have HS := Lib.hid harS
          obtain ⟨x, hx⟩ : ∃ x, arV ls s2 = x := ⟨_, rfl⟩
          obtain ⟨s3, hs3⟩ : ∃ x, arS ls s2 = x := ⟨_, rfl⟩
          obtain ⟨s4, hs4⟩ : ∃ s4, s4 = if 40 ≤ l.length then failR s3 9 (nowR ls s2).a else s3 := ⟨_, rfl⟩
          have hgo := asF_go ls (400 - (k + 1)) l s2 s3 s4 x hy hx hs3 hs4
          rw [show 400 - (k + 1) + 1 = 400 - k by omega] at hgo
          rw [hX] at hs4
          rw [hgo] at HA
          rw [hx] at HV
          rw [hs3] at HS
          have HS4 := Lib.hid hs4
          rw [hy] at c2
          clear hX hy harV harS hx hs3 hs4 hgo
          go_wp2_with fail
          refine HN.out.mono ?_
          rintro e w2 ⟨rfl, hb2⟩
          have HB2 := Lib.hid hb2
          have R2 := Lib.hid (HRD.out.below hb2)
          have HI := Lib.hid (rp_is R2.out ⟨#[95]⟩)
          change Hid (Calls Try.prog 38 #[.pointer (some ⟨g, 0, none⟩), .string ⟨#[95]⟩] w2 fun e w' => e = .returned (.bool (isR ls s2 wAny)) ∧ Below w2.heap.size w2 w') at HI
          obtain ⟨p, hp⟩ : ∃ p, isR ls s2 wAny = p := ⟨_, rfl⟩
          rw [hp] at HI HV HS
          have hsz2 := hb2.size
          clear hb2 HN c2 hp
          go_wp2_with fail
          refine HI.out.mono ?_
          rintro e w3 ⟨rfl, hb3⟩
          have hsz3 := hb3.size
          have HB3 := Lib.hid (HB2.out.trans (hb3.mono hsz2))
          have R3 := Lib.hid (R2.out.below hb3)
          clear hb3 HI
          cases p with
          | true =>
            rw [if_pos rfl] at HV HS
            have HQ := Lib.hid (rp_step R3.out)
            go_wp2_with fail
            refine HQ.out.mono ?_
            rintro e w4 ⟨rfl, hr4, ho4⟩
            rw [← HS.out] at hr4
            have R4 := Lib.hid hr4
            have HO4 := Lib.hid ((HO.out.trans (OnlyR.of HB3.out)).trans ho4)
            have hsz4 := ho4.size
            have ho5 := (OnlyR.of (g := g) HB3.out).trans ho4
            have HW4 := Lib.hid (HW.out.byBlock fun b hb => ho5.2 b (HW.out.lt b hb).2 (by have := (HW.out.lt b hb).1; omega))
            clear hr4 ho4 HQ ho5
            by_cases hm : 40 ≤ l.length
            · have hmi : (40 : Int) < (l.length : Int) + 1 := by omega
              go_wp2_with (at_builtin; refine wp_append_F el_Tm _ rfl (.tmp 27) (.tmp 29) rfl w.heap.size _ l anyT rfl (by exact HW4.out.alloc _) ⟨w4.heap.size, 0, none⟩ 1 rfl (lit_F TmP.cells w4 anyT _ _ rfl) (by omega) (by simp; omega) ?_; intro v' w6 hown' hb6 hgrow hor; have R6 := Lib.hid (RdP.grown (R4.out.below (one_new w4 _)) hgrow (fun b hb => (HW4.out.lt b hb).1) hg ht); have HO6 := Lib.hid (OnlyR.grown (HO4.out.trans (OnlyR.of (one_new w4 _))) rfl hgrow (fun b hb => (HW4.out.lt b hb).1)); obtain ⟨A6, c6, hv6⟩ := hown'.shape; rw [List.length_append, List.length_singleton] at hv6; subst hv6)
              rw [← HV.out] at hown'
              have HW6 := Lib.hid hown'
              clear hown' hb6 hgrow hor
              have hS := HS4.out
              rw [if_pos hm] at hS
              have HFL := rp_fail R6.out 9 ta
              rw [← hS] at HFL
              have HF := Lib.hid HFL
              clear hS HFL HS4 hmi
              go_wp2_with fail
              refine HF.out.mono ?_
              rintro e w7 ⟨rfl, hr7, ho7⟩
              have R7 := Lib.hid hr7
              have HO7 := Lib.hid (HO6.out.trans ho7)
              have HW7 := Lib.hid (HW6.out.byBlock fun b hb => ho7.2 b (HW6.out.lt b hb).2 (by have := (HW6.out.lt b hb).1; omega))
              have HTK := Lib.hid (rp_take hr7 ⟨#[44]⟩)
              change Hid (Calls Try.prog 18 #[.pointer (some ⟨g, 0, none⟩), .string ⟨#[44]⟩] w7 fun e w' => e = .returned (.bool (isR ls s4 wComma)) ∧ RdP w' g t c ls (takeR ls s4 wComma) ∧ OnlyR g w7 w') at HTK
              have HTQ : Hid (takeR ls s4 wComma = if isR ls s4 wComma = true then stepR ls s4 else s4) := Lib.hid rfl
              generalize takeR ls s4 wComma = s8 at *
              generalize isR ls s4 wComma = p2 at *
              clear hr7 ho7 HF
              clear hm
              go_wp2_with fail
              refine HTK.out.mono ?_
              rintro e w8 ⟨rfl, hr8, ho8⟩
              have R8 := Lib.hid hr8
              have HO8 := Lib.hid (HO7.out.trans ho8)
              have HW8 := Lib.hid (HW7.out.byBlock fun b hb => ho8.2 b (HW7.out.lt b hb).2 (by have := (HW7.out.lt b hb).1; omega))
              clear hr8 ho8 HTK
              cases p2 with
              | true =>
                rw [if_pos rfl] at HA HTQ
                go_wp2
                go_roundw
                case rel => exact ⟨k + 1, l ++ [x], stepR ls s4, by go_num, by omega, by rw [List.length_append]; simp; omega, HW8.out, by rw [← HTQ.out]; exact R8.out, HA, HO8.out⟩
                case measure => simp [intOf]; omega
              | false =>
                rw [if_neg Bool.false_ne_true] at HA HTQ
                have R8b := R8.out
                rw [HTQ.out] at R8b
                have HMU := Lib.hid (rp_must R8b ⟨#[41]⟩)
                change Hid (Calls Try.prog 22 #[.pointer (some ⟨g, 0, none⟩), .string ⟨#[41]⟩] w8 fun e w' => e = .returned (.tuple #[]) ∧ RdP w' g t c ls (mustR ls s4 wShut) ∧ OnlyR g w8 w') at HMU
                clear R8b
                go_wp2_with fail
                refine HMU.out.mono ?_
                rintro e w9 ⟨rfl, hr9, ho9⟩
                have R9 := Lib.hid hr9
                have HO9 := Lib.hid (HO8.out.trans ho9)
                have HW9 := Lib.hid (HW8.out.byBlock fun b hb => ho9.2 b (HW8.out.lt b hb).2 (by have := (HW8.out.lt b hb).1; omega))
                clear hr9 ho9 HMU
                go_wp2
                go_ret
                exact ⟨_, rfl, by rw [HA.out]; exact HW9.out, by rw [HA.out]; exact R9.out, HO9.out⟩
            · have hmi : ¬ (40 : Int) < (l.length : Int) + 1 := by omega
              go_wp2_with (at_builtin; refine wp_append_F el_Tm _ rfl (.tmp 27) (.tmp 29) rfl w.heap.size _ l anyT rfl (by exact HW4.out.alloc _) ⟨w4.heap.size, 0, none⟩ 1 rfl (lit_F TmP.cells w4 anyT _ _ rfl) (by omega) (by simp; omega) ?_; intro v' w6 hown' hb6 hgrow hor; have R6 := Lib.hid (RdP.grown (R4.out.below (one_new w4 _)) hgrow (fun b hb => (HW4.out.lt b hb).1) hg ht); have HO6 := Lib.hid (OnlyR.grown (HO4.out.trans (OnlyR.of (one_new w4 _))) rfl hgrow (fun b hb => (HW4.out.lt b hb).1)); obtain ⟨A6, c6, hv6⟩ := hown'.shape; rw [List.length_append, List.length_singleton] at hv6; subst hv6)
              rw [← HV.out] at hown'
              have HW6 := Lib.hid hown'
              clear hown' hb6 hgrow hor
              have hS := HS4.out
              rw [if_neg hm] at hS
              have R7 := R6
              rw [← hS] at R7
              have HO7 := HO6
              have HW7 := HW6
              have HTK := Lib.hid (rp_take R7.out ⟨#[44]⟩)
              change Hid (Calls Try.prog 18 #[.pointer (some ⟨g, 0, none⟩), .string ⟨#[44]⟩] w6 fun e w' => e = .returned (.bool (isR ls s4 wComma)) ∧ RdP w' g t c ls (takeR ls s4 wComma) ∧ OnlyR g w6 w') at HTK
              have HTQ : Hid (takeR ls s4 wComma = if isR ls s4 wComma = true then stepR ls s4 else s4) := Lib.hid rfl
              generalize takeR ls s4 wComma = s8 at *
              generalize isR ls s4 wComma = p2 at *
              clear hS HS4
              clear hm
              go_wp2_with fail
              refine HTK.out.mono ?_
              rintro e w8 ⟨rfl, hr8, ho8⟩
              have R8 := Lib.hid hr8
              have HO8 := Lib.hid (HO7.out.trans ho8)
              have HW8 := Lib.hid (HW7.out.byBlock fun b hb => ho8.2 b (HW7.out.lt b hb).2 (by have := (HW7.out.lt b hb).1; omega))
              clear hr8 ho8 HTK
              cases p2 with
              | true =>
                rw [if_pos rfl] at HA HTQ
                go_wp2
                go_roundw
                case rel => exact ⟨k + 1, l ++ [x], stepR ls s4, by go_num, by omega, by rw [List.length_append]; simp; omega, HW8.out, by rw [← HTQ.out]; exact R8.out, HA, HO8.out⟩
                case measure => simp [intOf]; omega
              | false =>
                rw [if_neg Bool.false_ne_true] at HA HTQ
                have R8b := R8.out
                rw [HTQ.out] at R8b
                have HMU := Lib.hid (rp_must R8b ⟨#[41]⟩)
                change Hid (Calls Try.prog 22 #[.pointer (some ⟨g, 0, none⟩), .string ⟨#[41]⟩] w8 fun e w' => e = .returned (.tuple #[]) ∧ RdP w' g t c ls (mustR ls s4 wShut) ∧ OnlyR g w8 w') at HMU
                clear R8b
                go_wp2_with fail
                refine HMU.out.mono ?_
                rintro e w9 ⟨rfl, hr9, ho9⟩
                have R9 := Lib.hid hr9
                have HO9 := Lib.hid (HO8.out.trans ho9)
                have HW9 := Lib.hid (HW8.out.byBlock fun b hb => ho9.2 b (HW8.out.lt b hb).2 (by have := (HW8.out.lt b hb).1; omega))
                clear hr9 ho9 HMU
                go_wp2
                go_ret
                exact ⟨_, rfl, by rw [HA.out]; exact HW9.out, by rw [HA.out]; exact R9.out, HO9.out⟩
          | false =>
            rw [if_neg Bool.false_ne_true] at HV HS
            have HQ := rp_term R3.out
            rw [← HV.out, ← HS.out] at HQ
            have HQ := Lib.hid HQ
            go_wp2_with fail
            refine HQ.out.mono ?_
            rintro e w4 ⟨rfl, hr4, ho4⟩
            have R4 := Lib.hid hr4
            have HO4 := Lib.hid ((HO.out.trans (OnlyR.of HB3.out)).trans ho4)
            have hsz4 := ho4.size
            have ho5 := (OnlyR.of (g := g) HB3.out).trans ho4
            have HW4 := Lib.hid (HW.out.byBlock fun b hb => ho5.2 b (HW.out.lt b hb).2 (by have := (HW.out.lt b hb).1; omega))
            clear hr4 ho4 HQ ho5 HV
            obtain ⟨xs, xa, ⟨xk, xf, xn, xt⟩⟩ := x
            by_cases hm : 40 ≤ l.length
            · have hmi : (40 : Int) < (l.length : Int) + 1 := by omega
              go_wp2_with (at_builtin; refine wp_append_F el_Tm _ rfl (.tmp 31) (.tmp 34) rfl w.heap.size _ l ⟨xs, xa, ⟨xk, xf, xn, xt⟩⟩ rfl (by exact HW4.out.alloc _) ⟨w4.heap.size, 0, none⟩ 1 rfl (lit_F TmP.cells w4 ⟨xs, xa, ⟨xk, xf, xn, xt⟩⟩ _ _ rfl) (by omega) (by simp; omega) ?_; intro v' w6 hown' hb6 hgrow hor; have R6 := Lib.hid (RdP.grown (R4.out.below (one_new w4 _)) hgrow (fun b hb => (HW4.out.lt b hb).1) hg ht); have HO6 := Lib.hid (OnlyR.grown (HO4.out.trans (OnlyR.of (one_new w4 _))) rfl hgrow (fun b hb => (HW4.out.lt b hb).1)); obtain ⟨A6, c6, hv6⟩ := hown'.shape; rw [List.length_append, List.length_singleton] at hv6; subst hv6)
              obtain ⟨x, hx⟩ : ∃ x : TmP, x = ⟨xs, xa, ⟨xk, xf, xn, xt⟩⟩ := ⟨_, rfl⟩
              rw [← hx] at hown' HA
              clear hx
              have HW6 := Lib.hid hown'
              clear hown' hb6 hgrow hor
              have hS := HS4.out
              rw [if_pos hm] at hS
              have HFL := rp_fail R6.out 9 ta
              rw [← hS] at HFL
              have HF := Lib.hid HFL
              clear hS HFL HS4 hmi
              go_wp2_with fail
              refine HF.out.mono ?_
              rintro e w7 ⟨rfl, hr7, ho7⟩
              have R7 := Lib.hid hr7
              have HO7 := Lib.hid (HO6.out.trans ho7)
              have HW7 := Lib.hid (HW6.out.byBlock fun b hb => ho7.2 b (HW6.out.lt b hb).2 (by have := (HW6.out.lt b hb).1; omega))
              have HTK := Lib.hid (rp_take hr7 ⟨#[44]⟩)
              change Hid (Calls Try.prog 18 #[.pointer (some ⟨g, 0, none⟩), .string ⟨#[44]⟩] w7 fun e w' => e = .returned (.bool (isR ls s4 wComma)) ∧ RdP w' g t c ls (takeR ls s4 wComma) ∧ OnlyR g w7 w') at HTK
              have HTQ : Hid (takeR ls s4 wComma = if isR ls s4 wComma = true then stepR ls s4 else s4) := Lib.hid rfl
              generalize takeR ls s4 wComma = s8 at *
              generalize isR ls s4 wComma = p2 at *
              clear hr7 ho7 HF
              clear hm
              go_wp2_with fail
              refine HTK.out.mono ?_
              rintro e w8 ⟨rfl, hr8, ho8⟩
              have R8 := Lib.hid hr8
              have HO8 := Lib.hid (HO7.out.trans ho8)
              have HW8 := Lib.hid (HW7.out.byBlock fun b hb => ho8.2 b (HW7.out.lt b hb).2 (by have := (HW7.out.lt b hb).1; omega))
              clear hr8 ho8 HTK
              cases p2 with
              | true =>
                rw [if_pos rfl] at HA HTQ
                go_wp2
                go_roundw
                case rel => exact ⟨k + 1, l ++ [x], stepR ls s4, by go_num, by omega, by rw [List.length_append]; simp; omega, HW8.out, by rw [← HTQ.out]; exact R8.out, HA, HO8.out⟩
                case measure => simp [intOf]; omega
              | false =>
                rw [if_neg Bool.false_ne_true] at HA HTQ
                have R8b := R8.out
                rw [HTQ.out] at R8b
                have HMU := Lib.hid (rp_must R8b ⟨#[41]⟩)
                change Hid (Calls Try.prog 22 #[.pointer (some ⟨g, 0, none⟩), .string ⟨#[41]⟩] w8 fun e w' => e = .returned (.tuple #[]) ∧ RdP w' g t c ls (mustR ls s4 wShut) ∧ OnlyR g w8 w') at HMU
                clear R8b
                go_wp2_with fail
                refine HMU.out.mono ?_
                rintro e w9 ⟨rfl, hr9, ho9⟩
                have R9 := Lib.hid hr9
                have HO9 := Lib.hid (HO8.out.trans ho9)
                have HW9 := Lib.hid (HW8.out.byBlock fun b hb => ho9.2 b (HW8.out.lt b hb).2 (by have := (HW8.out.lt b hb).1; omega))
                clear hr9 ho9 HMU
                go_wp2
                go_ret
                exact ⟨_, rfl, by rw [HA.out]; exact HW9.out, by rw [HA.out]; exact R9.out, HO9.out⟩
            · have hmi : ¬ (40 : Int) < (l.length : Int) + 1 := by omega
              go_wp2_with (at_builtin; refine wp_append_F el_Tm _ rfl (.tmp 31) (.tmp 34) rfl w.heap.size _ l ⟨xs, xa, ⟨xk, xf, xn, xt⟩⟩ rfl (by exact HW4.out.alloc _) ⟨w4.heap.size, 0, none⟩ 1 rfl (lit_F TmP.cells w4 ⟨xs, xa, ⟨xk, xf, xn, xt⟩⟩ _ _ rfl) (by omega) (by simp; omega) ?_; intro v' w6 hown' hb6 hgrow hor; have R6 := Lib.hid (RdP.grown (R4.out.below (one_new w4 _)) hgrow (fun b hb => (HW4.out.lt b hb).1) hg ht); have HO6 := Lib.hid (OnlyR.grown (HO4.out.trans (OnlyR.of (one_new w4 _))) rfl hgrow (fun b hb => (HW4.out.lt b hb).1)); obtain ⟨A6, c6, hv6⟩ := hown'.shape; rw [List.length_append, List.length_singleton] at hv6; subst hv6)
              obtain ⟨x, hx⟩ : ∃ x : TmP, x = ⟨xs, xa, ⟨xk, xf, xn, xt⟩⟩ := ⟨_, rfl⟩
              rw [← hx] at hown' HA
              clear hx
              have HW6 := Lib.hid hown'
              clear hown' hb6 hgrow hor
              have hS := HS4.out
              rw [if_neg hm] at hS
              have R7 := R6
              rw [← hS] at R7
              have HO7 := HO6
              have HW7 := HW6
              have HTK := Lib.hid (rp_take R7.out ⟨#[44]⟩)
              change Hid (Calls Try.prog 18 #[.pointer (some ⟨g, 0, none⟩), .string ⟨#[44]⟩] w6 fun e w' => e = .returned (.bool (isR ls s4 wComma)) ∧ RdP w' g t c ls (takeR ls s4 wComma) ∧ OnlyR g w6 w') at HTK
              have HTQ : Hid (takeR ls s4 wComma = if isR ls s4 wComma = true then stepR ls s4 else s4) := Lib.hid rfl
              generalize takeR ls s4 wComma = s8 at *
              generalize isR ls s4 wComma = p2 at *
              clear hS HS4
              clear hm
              go_wp2_with fail
              refine HTK.out.mono ?_
              rintro e w8 ⟨rfl, hr8, ho8⟩
              have R8 := Lib.hid hr8
              have HO8 := Lib.hid (HO7.out.trans ho8)
              have HW8 := Lib.hid (HW7.out.byBlock fun b hb => ho8.2 b (HW7.out.lt b hb).2 (by have := (HW7.out.lt b hb).1; omega))
              clear hr8 ho8 HTK
              cases p2 with
              | true =>
                rw [if_pos rfl] at HA HTQ
                go_wp2
                go_roundw
                case rel => exact ⟨k + 1, l ++ [x], stepR ls s4, by go_num, by omega, by rw [List.length_append]; simp; omega, HW8.out, by rw [← HTQ.out]; exact R8.out, HA, HO8.out⟩
                case measure => simp [intOf]; omega
              | false =>
                rw [if_neg Bool.false_ne_true] at HA HTQ
                have R8b := R8.out
                rw [HTQ.out] at R8b
                have HMU := Lib.hid (rp_must R8b ⟨#[41]⟩)
                change Hid (Calls Try.prog 22 #[.pointer (some ⟨g, 0, none⟩), .string ⟨#[41]⟩] w8 fun e w' => e = .returned (.tuple #[]) ∧ RdP w' g t c ls (mustR ls s4 wShut) ∧ OnlyR g w8 w') at HMU
                clear R8b
                go_wp2_with fail
                refine HMU.out.mono ?_
                rintro e w9 ⟨rfl, hr9, ho9⟩
                have R9 := Lib.hid hr9
                have HO9 := Lib.hid (HO8.out.trans ho9)
                have HW9 := Lib.hid (HW8.out.byBlock fun b hb => ho9.2 b (HW8.out.lt b hb).2 (by have := (HW8.out.lt b hb).1; omega))
                clear hr9 ho9 HMU
                go_wp2
                go_ret
                exact ⟨_, rfl, by rw [HA.out]; exact HW9.out, by rw [HA.out]; exact R9.out, HO9.out⟩
        · have hy' : (s2.why == 0) = false := by simpa using hy
          have HS := Lib.hid (asF_stop ls (400 - k) l s2 hy)
          clear hy
          go_wp2
          go_ret
          exact ⟨_, rfl, by rw [HA.out, HS.out]; exact HW.out, by rw [HA.out, HS.out]; exact HRD.out, HO.out⟩
      · have h0 : 400 - k = 0 := by omega
        rw [h0] at HA
        have HS : Hid (asF ls 0 l s2 = (l, s2)) := Lib.hid rfl
        clear h0
        go_wp2
        go_ret
        exact ⟨_, rfl, by rw [HA.out, HS.out]; exact HW.out, by rw [HA.out, HS.out]; exact HRD.out, HO.out⟩
end
end Go.Proofs.Ythdjkagodccdbaa
namespace Go.Proofs.Ythdjkagodccdbaa
section
open Go.RowKit

set_option maxRecDepth 10000 in
set_option maxHeartbeats 2000000 in
theorem rp_lone {w : World} {g t c : Nat} {ls : List Tok} {s : Rst} (h : RdP w g t c ls s) (p : Int) :
    Calls Try.prog 41 #[.pointer (some ⟨g, 0, none⟩), .int .i64 p] w fun e w' => e = .returned (.tuple #[]) ∧ RdP w' g t c ls (loR ls s p) ∧ OnlyR g w w' := by
  have hg := h.lt
  obtain ⟨⟨k, b, ⟨vk, vf, vn, vt⟩, a⟩, hX⟩ : ∃ x, nowR ls s = x := ⟨_, rfl⟩
  have hL : loR ls s p = failR (if (isR ls s wNot || (namedR ls s || decide (k = 2))) = true then failR s 9 p else s) 7 p := by unfold loR; rw [hX]
  have HN := Lib.hid (rp_now' h hX)
  have H := Lib.hid h
  obtain ⟨q, hq⟩ : ∃ q, isR ls s wNot = q := ⟨_, rfl⟩
  obtain ⟨nb, hnb⟩ : ∃ nb, namedR ls s = nb := ⟨_, rfl⟩
  rw [hq, hnb] at hL
  have HL := Lib.hid hL
  have HQ := Lib.hid hq
  have HNB := Lib.hid hnb
  generalize loR ls s p = s9 at *
  clear h hX hL hq hnb
  go_enter Try.func41, Try.ntmps41
  go_wp2_with fail
  refine HN.out.mono ?_
  rintro e w1 ⟨rfl, hb1⟩
  have hb2 := hb1.trans ((one_new w1 (Tok.obj k b vk vf vn vt a)).mono hb1.size)
  have R2 := Lib.hid (H.out.below hb2)
  have HB2 := Lib.hid hb2
  have k2 := heap_alloc_new w1 (Tok.obj k b vk vf vn vt a)
  have HK2 := Lib.hid k2
  have hz1 := hb1.size
  have HI := Lib.hid (rp_is R2.out ⟨#[110, 111, 116]⟩)
  change Hid (Calls Try.prog 38 #[.pointer (some ⟨g, 0, none⟩), .string ⟨#[110, 111, 116]⟩] (w1.alloc (Tok.obj k b vk vf vn vt a)) fun e w' => e = .returned (.bool (isR ls s wNot)) ∧ Below (w1.alloc (Tok.obj k b vk vf vn vt a)).heap.size (w1.alloc (Tok.obj k b vk vf vn vt a)) w') at HI
  rw [HQ.out] at HI
  clear hb1 hb2 k2 HN
  have key9 : Hid (∀ W, Below w.heap.size w W → Calls Try.prog 19 #[.pointer (some ⟨g, 0, none⟩), .int .i64 9, .int .i64 p] W fun e w' => e = .returned (.tuple #[]) ∧ RdP w' g t c ls (failR s 9 p) ∧ OnlyR g w w') := Lib.hid fun W hW => (rp_fail (H.out.below hW) 9 p).mono fun e w' ⟨h1, h2, h3⟩ => ⟨h1, h2, (OnlyR.of hW).trans h3⟩
  have key7 : Hid (∀ W s', RdP W g t c ls s' → OnlyR g w W → Calls Try.prog 19 #[.pointer (some ⟨g, 0, none⟩), .int .i64 7, .int .i64 p] W fun e w' => e = .returned (.tuple #[]) ∧ RdP w' g t c ls (failR s' 7 p) ∧ OnlyR g w w') := Lib.hid fun W s' hR hW => (rp_fail hR 7 p).mono fun e w' ⟨h1, h2, h3⟩ => ⟨h1, h2, hW.trans h3⟩
  cases q with
  | true =>
    go_wp2_with (go_at_call 38; refine HI.out.mono ?_; rintro e w3 ⟨rfl, hb3⟩; have HB3 := Lib.hid (HB2.out.trans (hb3.mono HB2.out.size)); clear hb3)
    refine (key9.out _ HB3.out).mono ?_
    rintro e w4 ⟨rfl, hr4, ho4⟩
    have HF := Lib.hid (key7.out _ _ hr4 ho4)
    clear hr4 ho4
    go_wp2_with fail
    refine HF.out.mono ?_
    rintro e w5 ⟨rfl, hr5, ho5⟩
    have R5 := Lib.hid hr5
    have O5 := Lib.hid ho5
    clear hr5 ho5
    go_wp2
    go_end0
    exact ⟨rfl, by rw [HL.out]; exact R5.out, O5.out⟩
  | false =>
    have HND : Hid (∀ W, Below w.heap.size w W → Calls Try.prog 39 #[.pointer (some ⟨g, 0, none⟩)] W fun e w' => e = .returned (.bool nb) ∧ Below W.heap.size W w') := Lib.hid fun W hW => by rw [← HNB.out]; exact rp_named (H.out.below hW)
    cases nb with
    | true =>
      go_wp2_with (first
        | (go_at_call 38; refine HI.out.mono ?_; rintro e w3 ⟨rfl, hb3⟩; have HB3 := Lib.hid (HB2.out.trans (hb3.mono HB2.out.size)); clear hb3)
        | (go_at_call 39; refine (HND.out _ HB3.out).mono ?_; rintro e w4 ⟨rfl, hb4⟩; have HB4 := Lib.hid (HB3.out.trans (hb4.mono HB3.out.size)); clear hb4))
      refine (key9.out _ HB4.out).mono ?_
      rintro e w5 ⟨rfl, hr4, ho4⟩
      have HF := Lib.hid (key7.out _ _ hr4 ho4)
      clear hr4 ho4
      go_wp2_with fail
      refine HF.out.mono ?_
      rintro e w6 ⟨rfl, hr5, ho5⟩
      have R5 := Lib.hid hr5
      have O5 := Lib.hid ho5
      clear hr5 ho5
      go_wp2
      go_end0
      exact ⟨rfl, by rw [HL.out]; exact R5.out, O5.out⟩
    | false =>
      by_cases hk : k = 2
      · have b2 : (k == 2) = true := by simpa using hk
        have hl : s9 = failR (failR s 9 p) 7 p := by rw [HL.out, decide_eq_true hk]; rfl
        have HLL := Lib.hid hl
        clear hk hl HL
        go_wp2_with (first
          | (go_at_call 38; refine HI.out.mono ?_; rintro e w3 ⟨rfl, hb3⟩; have HB3 := Lib.hid (HB2.out.trans (hb3.mono HB2.out.size)); have hbk := (hb3.block w1.heap.size (by simp)).trans HK2.out; have HBK := Lib.hid hbk; clear hb3 hbk)
          | (go_at_call 39; refine (HND.out _ HB3.out).mono ?_; rintro e w4 ⟨rfl, hb4⟩; have HB4 := Lib.hid (HB3.out.trans (hb4.mono HB3.out.size)); have n0 := cell_of_row _ w1.heap.size 0 _ _ (0, 0) ((hb4.block w1.heap.size (Array.getElem?_eq_some_iff.1 HBK.out).1).trans HBK.out); clear hb4))
        refine (key9.out _ HB4.out).mono ?_
        rintro e w5 ⟨rfl, hr4, ho4⟩
        have HF := Lib.hid (key7.out _ _ hr4 ho4)
        clear hr4 ho4
        go_wp2_with fail
        refine HF.out.mono ?_
        rintro e w6 ⟨rfl, hr5, ho5⟩
        have R5 := Lib.hid hr5
        have O5 := Lib.hid ho5
        clear hr5 ho5
        go_wp2
        go_end0
        exact ⟨rfl, by rw [HLL.out]; exact R5.out, O5.out⟩
      · have b2 : (k == 2) = false := by simpa using hk
        have hl : s9 = failR s 7 p := by rw [HL.out, decide_eq_false hk]; rfl
        have HLL := Lib.hid hl
        clear hk hl HL
        go_wp2_with (first
          | (go_at_call 38; refine HI.out.mono ?_; rintro e w3 ⟨rfl, hb3⟩; have HB3 := Lib.hid (HB2.out.trans (hb3.mono HB2.out.size)); have hbk := (hb3.block w1.heap.size (by simp)).trans HK2.out; have HBK := Lib.hid hbk; clear hb3 hbk)
          | (go_at_call 39; refine (HND.out _ HB3.out).mono ?_; rintro e w4 ⟨rfl, hb4⟩; have HB4 := Lib.hid (HB3.out.trans (hb4.mono HB3.out.size)); have n0 := cell_of_row _ w1.heap.size 0 _ _ (0, 0) ((hb4.block w1.heap.size (Array.getElem?_eq_some_iff.1 HBK.out).1).trans HBK.out); clear hb4))
        refine (key7.out _ _ (H.out.below HB4.out) (OnlyR.of HB4.out)).mono ?_
        rintro e w6 ⟨rfl, hr5, ho5⟩
        have R5 := Lib.hid hr5
        have O5 := Lib.hid ho5
        clear hr5 ho5
        go_wp2
        go_end0
        exact ⟨rfl, by rw [HLL.out]; exact R5.out, O5.out⟩
end
end Go.Proofs.Ythdjkagodccdbaa
