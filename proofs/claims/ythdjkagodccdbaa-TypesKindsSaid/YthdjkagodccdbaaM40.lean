/-
  All literals of a body, those that bind first: the program's side.
  Condition: a body has no more than 41 literals, each no more than 5000 terms, names are no longer than they can be.
  All that a body tells of its variables, over kinds and views: know; the columns of names.
  Condition: as of look; views are no more than a million, names no longer than they can be.
-/
import Derived.WalkMore
import Derived.Test.YthdjkagodccdbaaM39
namespace Go.Proofs.Ythdjkagodccdbaa
section
open Go.RowKit Go.Maps

/-- What is to be known of a body. -/
def SmlB (body : List LmG) : Prop := body.length ≤ 41 ∧ ∀ x ∈ body, x.args.length ≤ 5000 ∧ x.s.size ≤ maxLen ∧ ∀ t ∈ x.args, t.s.size ≤ maxLen
def contB (S U : List Sc) (l : List LiP) (b : Bool) (r : List Co × Nat × Int) : List Co × Nat × Int := if b = true then (if r.2.2 = 0 then passT S U false r.1 0 l else r) else r
theorem contB_start (S U : List Sc) (l : List LiP) : knowT S U l = contB S U l true (passT S U true [] 0 l) := by
  unfold knowT contB
  rw [if_pos rfl]
theorem contB_true (S U : List Sc) (l : List LiP) (L : List Co) : contB S U l true (L, 0, 0) = contB S U l false (passT S U false L 0 l) := by
  unfold contB
  rw [if_pos rfl, if_pos rfl, if_neg (by simp)]
theorem contB_false (S U : List Sc) (l : List LiP) (r : List Co × Nat × Int) : contB S U l false r = r := if_neg (by simp)
theorem contB_err (S U : List Sc) (l : List LiP) (b : Bool) (L : List Co) (k : Nat) (z : Int) (hz : z ≠ 0) : contB S U l b (L, k, z) = (L, k, z) := by
  cases b with
  | true =>
    show (if z = 0 then _ else _) = _
    exact if_neg hz
  | false => rfl
theorem li_at {body : List LmG} {k : Nat} {x : LmG} (h : body[k]? = some x) : (body.map LmG.li)[k]? = some x.li := by rw [List.getElem?_map, h]; rfl
theorem cont_skip (S U : List Sc) (body : List LmG) (b : Bool) (L : List Co) (k : Nat) (x : LmG) (h : body[k]? = some x) (hb : atomB x.li ≠ b) : contB S U (body.map LmG.li) b (passT S U b L k ((body.map LmG.li).drop k)) = contB S U (body.map LmG.li) b (passT S U b L (k + 1) ((body.map LmG.li).drop (k + 1))) := by
  rw [passT_step S U b L _ k _ (li_at h), if_neg hb]
theorem cont_take (S U : List Sc) (body : List LmG) (b : Bool) (L : List Co) (k : Nat) (x : LmG) (h : body[k]? = some x) (hb : atomB x.li = b) (hz : (litT S U L x.li).1 = 0) : contB S U (body.map LmG.li) b (passT S U b L k ((body.map LmG.li).drop k)) = contB S U (body.map LmG.li) b (passT S U b (litT S U L x.li).2 (k + 1) ((body.map LmG.li).drop (k + 1))) := by
  rw [passT_step S U b L _ k _ (li_at h), if_pos hb, if_pos hz]
theorem cont_stop (S U : List Sc) (body : List LmG) (b : Bool) (L : List Co) (k : Nat) (x : LmG) (h : body[k]? = some x) (hb : atomB x.li = b) (hz : (litT S U L x.li).1 ≠ 0) : contB S U (body.map LmG.li) b (passT S U b L k ((body.map LmG.li).drop k)) = (L, k, (litT S U L x.li).1) := by
  rw [passT_step S U b L _ k _ (li_at h), if_pos hb, if_neg hz, contB_err _ _ _ _ _ _ _ hz]
theorem cont_end (S U : List Sc) (body : List LmG) (b : Bool) (L : List Co) (k : Nat) (h : body.length ≤ k) : contB S U (body.map LmG.li) b (passT S U b L k ((body.map LmG.li).drop k)) = contB S U (body.map LmG.li) b (L, 0, 0) := by
  rw [passT_end S U b L _ k (by rw [List.length_map]; exact h)]
/-- What look leaves. -/
def LookIs (base : Nat) (W : World) (g s vb cb : Nat) (ov : Value) (S : List Sc) (ls : List RS) (U : List Sc) (K : List Co × Nat × Int) (e : Ending) (W' : World) : Prop := e = .returned (.tuple #[.int .i64 (K.2.1 : Int), .int .i64 K.2.2]) ∧ ∃ ov' m', m' ≤ 900000 ∧ (K.2.2 = 0 → KnowAt base W' g s vb cb ov' S ls U K.1 m') ∧ OnlyK g cb ov ov' W W'

set_option maxRecDepth 100000 in
set_option maxHeartbeats 8000000 in
theorem k_look {base : Nat} {w0 W : World} {g s vb cb : Nat} {ov : Value} {S : List Sc} {ls : List RS} {U : List Sc} (h : KnowAt base W g s vb cb ov S ls U [] 0) (hf : ∀ x ∈ S, x.cols.length ≤ 900000) (hw0 : w0.heap.size ≤ base) (hbw : Below w0.heap.size w0 W) (bA : Option Addr) (bc : Nat) (body : List LmG) (hx : LgsAt w0 bA body) (hsm : SmlB body) :
    Calls Try.prog 48 #[.pointer (some ⟨g, 0, none⟩), .slice bA body.length bc] W (LookIs base W g s vb cb ov S ls U (knowT S U (body.map LmG.li))) := by
  have HLI : Hid (∀ (w : World) (L2 : List Co) (ov2 : Value) (m2 : Nat) (x : LmG), x ∈ body → KnowAt base w g s vb cb ov2 S ls U L2 m2 → Below w0.heap.size w0 w → m2 ≤ 600000 → Calls Try.prog 70 #[.pointer (some ⟨g, 0, none⟩), .agg #[.bool x.n, .string x.s, .slice x.A x.args.length x.c, .int .i64 x.o]] w (LitIs base w g s vb cb ov2 S ls U (m2 + x.args.length) (litT S U L2 x.li))) := Lib.hid fun w L2 ov2 m2 x hxm hk hb hm => k_literal hk hf x hw0 hb (hx.2 x hxm) (by have := (hsm.2 x hxm).1; omega) (hsm.2 x hxm).2.2 (hsm.2 x hxm).2.1 (hsm.2 x hxm).1
  have HX := Lib.hid hx.1
  have HBL := Lib.hid hsm.1
  have HAL := Lib.hid hsm.2
  have HMT : Hid (∀ j, MutK g cb ov j → w0.heap.size ≤ j) := Lib.hid fun j hj => Nat.le_trans hw0 (h.mt j hj).1
  have HK := Lib.hid h
  have HBW := Lib.hid hbw
  have HST : Hid (knowT S U (body.map LmG.li) = contB S U (body.map LmG.li) true (passT S U true [] 0 ((body.map LmG.li).drop 0))) := Lib.hid (contB_start S U _)
  generalize knowT S U (body.map LmG.li) = K at *
  have i0 : ∀ w : World, (Instr.index 113 (.agg #[.bool true, .bool false]) (.int .i64 0)).run Try.prog w = .ok (.bool true) w := fun _ => rfl
  have i1 : ∀ w : World, (Instr.index 113 (.agg #[.bool true, .bool false]) (.int .i64 1)).run Try.prog w = .ok (.bool false) w := fun _ => rfl
  clear h hf hw0 hbw hx hsm
  go_enter Try.func48, Try.ntmps48
  go_wp2
  go_step3
  go_wp2
  go_step3
  go_wp2
  go_loopw [4, 5, 11] (fun v4 v5 i wr => ∃ (z : Int) (L1 : List Co) (ov1 : Value) (m1 : Nat), v4 = .int .i64 0 ∧ v5 = .int .i64 0 ∧ i = .int .i64 z ∧ Hid ((z = 0 ∧ m1 ≤ 0 ∧ K = contB S U (body.map LmG.li) true (passT S U true L1 0 ((body.map LmG.li).drop 0))) ∨ (z = 1 ∧ m1 ≤ 205000 ∧ K = contB S U (body.map LmG.li) false (passT S U false L1 0 ((body.map LmG.li).drop 0))) ∨ (z = 2 ∧ m1 ≤ 410000 ∧ K = (L1, 0, 0))) ∧ KnowAt base wr g s vb cb ov1 S ls U L1 m1 ∧ OnlyK g cb ov ov1 W wr) (fun _ _ i _ => 2 - (intOf i).toNat)
  case atStart => exact ⟨0, [], ov, 0, rfl, rfl, rfl, Lib.hid (.inl ⟨rfl, Nat.le_refl _, HST.out⟩), HK.out, OnlyK.refl _ _ _ _⟩
  case round =>
    obtain ⟨z, L1, ov1, m1, rfl, rfl, rfl, hj3, hK, hO⟩ := hrel
    have HK1 := Lib.hid hK
    have HO1 := Lib.hid hO
    obtain ⟨wo, hwo⟩ : ∃ wo, wo = wr := ⟨_, rfl⟩
    subst hwo
    clear hK hO
    rcases hj3.out with ⟨rfl, hm1, hc⟩ | ⟨rfl, hm1, hc⟩ | ⟨rfl, hm1, hc⟩
    · have HC := Lib.hid hc
      clear hj3 hc
      go_wp2
      go_loopw [4, 5, 16] (fun v4 v5 i wr => ∃ (k : Nat) (L2 : List Co) (ov2 : Value) (m2 : Nat), v4 = .int .i64 0 ∧ v5 = .int .i64 0 ∧ i = .int .i64 k ∧ k ≤ body.length ∧ m2 ≤ 0 * 205000 + k * 5000 ∧ Hid (K = contB S U (body.map LmG.li) true (passT S U true L2 k ((body.map LmG.li).drop k))) ∧ KnowAt base wr g s vb cb ov2 S ls U L2 m2 ∧ OnlyK g cb ov ov2 W wr) (fun _ _ i _ => body.length - (intOf i).toNat)
      case atStart => exact ⟨0, L1, ov1, m1, rfl, rfl, rfl, Nat.zero_le _, by omega, HC, HK1.out, HO1.out⟩
      case round =>
        obtain ⟨k, L2, ov2, m2, rfl, rfl, rfl, hk, hm2, HCK, hK, hO⟩ := hrel
        have hbr := HBW.out.trans (hO.below HBW.out.size HMT.out)
        have HBR := Lib.hid hbr
        have HK2 := Lib.hid hK
        have HO2 := Lib.hid hO
        have hbl := HBL.out
        clear hK hO hbr
        by_cases hlt : k < body.length
        · obtain ⟨x, hxk⟩ : ∃ x, body[k]? = some x := ⟨_, List.getElem?_eq_getElem hlt⟩
          have hxm := List.mem_of_getElem? hxk
          obtain ⟨ad, rfl, a0, a1, a2, a3⟩ := els_L (HX.out.below HBR.out) hxk
          have HXK := Lib.hid hxk
          have hal := (HAL.out x hxm).1
          have hont := one_new wr (.cells #[.bool x.n, .string x.s, .slice x.A x.args.length x.c, .int .i64 x.o] 46)
          have HBX := Lib.hid (heap_alloc_new wr (.cells #[.bool x.n, .string x.s, .slice x.A x.args.length x.c, .int .i64 x.o] 46))
          have HLT : Hid (∀ w, Below wr.heap.size wr w → Calls Try.prog 70 #[.pointer (some ⟨g, 0, none⟩), .agg #[.bool x.n, .string x.s, .slice x.A x.args.length x.c, .int .i64 x.o]] w (LitIs base w g s vb cb ov2 S ls U (m2 + x.args.length) (litT S U L2 x.li))) := Lib.hid fun w hw => HLI.out w L2 ov2 m2 x hxm (HK2.out.below hw) (HBR.out.trans (hw.mono HBR.out.size)) (by omega)
          have HBI : Hid (∀ w, Calls Try.prog 69 #[.agg #[.bool x.n, .string x.s, .slice x.A x.args.length x.c, .int .i64 x.o]] w fun e w' => e = .returned (.bool (atomB x.li)) ∧ Below w.heap.size w w') := Lib.hid fun w => t_binds x w
          have HONT := Lib.hid hont
          obtain ⟨t0, t1, t2, t3⟩ := four_cells HBX.out
          have HSK : Hid (atomB x.li ≠ true → K = contB S U (body.map LmG.li) true (passT S U true L2 (k + 1) ((body.map LmG.li).drop (k + 1)))) := Lib.hid fun hb => HCK.out.trans (cont_skip S U body true L2 k x HXK.out hb)
          have HTK : Hid (atomB x.li = true → (litT S U L2 x.li).1 = 0 → K = contB S U (body.map LmG.li) true (passT S U true (litT S U L2 x.li).2 (k + 1) ((body.map LmG.li).drop (k + 1)))) := Lib.hid fun hb hz => HCK.out.trans (cont_take S U body true L2 k x HXK.out hb hz)
          have HTP : Hid (atomB x.li = true → (litT S U L2 x.li).1 ≠ 0 → K = (L2, k, (litT S U L2 x.li).1)) := Lib.hid fun hb hz => HCK.out.trans (cont_stop S U body true L2 k x HXK.out hb hz)
          generalize litT S U L2 x.li = R at *
          generalize atomB x.li = ab at *
          obtain ⟨xn, xs, xA, xc, xa, xo⟩ := x
          simp only at a0 a1 a2 a3 hal
          obtain ⟨xl, hxl⟩ : ∃ xl, xa.length = xl := ⟨_, rfl⟩
          simp only [hxl] at *
          clear hxk hxm hont hxl
          cases ab with
          | false =>
            have HKK := Lib.hid (HSK.out (by simp))
            go_wp2_with (go_at_call 69; refine (HBI.out _).mono ?_; rintro e w3 ⟨rfl, hb3⟩; have HB3 := Lib.hid (HONT.out.trans (hb3.mono HONT.out.size)); clear hb3)
            go_roundw
            case rel => exact ⟨k + 1, L2, ov2, m2, rfl, rfl, by go_num, by omega, by omega, HKK, HK2.out.below HB3.out, HO2.out.trans (OnlyK.of_below HB3.out)⟩
            case measure => simp [intOf]; omega
          | true =>
            obtain ⟨why, L3⟩ := R
            by_cases hz : why = 0
            · have HKK := Lib.hid (HTK.out rfl hz)
              have bz : (why != 0) = false := by simpa using hz
              have HZ0 := Lib.hid hz
              clear hz
              go_wp2_with (first | (go_at_call 69; refine (HBI.out _).mono ?_; rintro e w3 ⟨rfl, hb3⟩; have HB3 := Lib.hid (HONT.out.trans (hb3.mono HONT.out.size)); have hx3 := (hb3.block wr.heap.size (by simp)).trans HBX.out; obtain ⟨p0, p1, p2, p3⟩ := four_cells hx3; clear hb3 hx3) | (go_at_call 70; refine (HLT.out _ HB3.out).mono ?_; rintro e w4 ⟨ov4, rfl, hk4, ho4⟩; have HK4 := Lib.hid hk4; have HO4 := Lib.hid (HO2.out.trans ((OnlyK.of_below HB3.out).trans ho4)); clear hk4 ho4))
              go_roundw
              case rel => exact ⟨k + 1, L3, ov4, m2 + xl, rfl, by rw [HZ0.out], by go_num, by omega, by omega, HKK, HK4.out, HO4.out⟩
              case measure => simp [intOf]; omega
            · have HKK := Lib.hid (HTP.out rfl hz)
              have bz : (why != 0) = true := by simpa using hz
              have HZ0 := Lib.hid hz
              clear hz
              go_wp2_with (first | (go_at_call 69; refine (HBI.out _).mono ?_; rintro e w3 ⟨rfl, hb3⟩; have HB3 := Lib.hid (HONT.out.trans (hb3.mono HONT.out.size)); have hx3 := (hb3.block wr.heap.size (by simp)).trans HBX.out; obtain ⟨p0, p1, p2, p3⟩ := four_cells hx3; clear hb3 hx3) | (go_at_call 70; refine (HLT.out _ HB3.out).mono ?_; rintro e w4 ⟨ov4, rfl, hk4, ho4⟩; have HO4 := Lib.hid (HO2.out.trans ((OnlyK.of_below HB3.out).trans ho4)); clear hk4 ho4))
              rw [Exit.noGoto_ret]
              go_ret2
              rw [HKK.out]
              exact ⟨rfl, ov4, 0, by omega, fun hh => absurd hh HZ0.out, HO4.out⟩
        · have HCE := Lib.hid (HCK.out.trans (cont_end S U body true L2 k (by omega)))
          have hkk : k = body.length := by omega
          subst hkk
          clear hlt hk
          go_wp2
          go_roundw
          case rel => exact ⟨1, L2, ov2, m2, rfl, rfl, rfl, Lib.hid (.inr (.inl ⟨rfl, by omega, HCE.out.trans (contB_true S U _ L2)⟩)), HK2.out, HO2.out⟩
          case measure => simp [intOf]
    · have HC := Lib.hid hc
      clear hj3 hc
      go_wp2
      go_loopw [4, 5, 16] (fun v4 v5 i wr => ∃ (k : Nat) (L2 : List Co) (ov2 : Value) (m2 : Nat), v4 = .int .i64 0 ∧ v5 = .int .i64 0 ∧ i = .int .i64 k ∧ k ≤ body.length ∧ m2 ≤ 1 * 205000 + k * 5000 ∧ Hid (K = contB S U (body.map LmG.li) false (passT S U false L2 k ((body.map LmG.li).drop k))) ∧ KnowAt base wr g s vb cb ov2 S ls U L2 m2 ∧ OnlyK g cb ov ov2 W wr) (fun _ _ i _ => body.length - (intOf i).toNat)
      case atStart => exact ⟨0, L1, ov1, m1, rfl, rfl, rfl, Nat.zero_le _, by omega, HC, HK1.out, HO1.out⟩
      case round =>
        obtain ⟨k, L2, ov2, m2, rfl, rfl, rfl, hk, hm2, HCK, hK, hO⟩ := hrel
        have hbr := HBW.out.trans (hO.below HBW.out.size HMT.out)
        have HBR := Lib.hid hbr
        have HK2 := Lib.hid hK
        have HO2 := Lib.hid hO
        have hbl := HBL.out
        clear hK hO hbr
        by_cases hlt : k < body.length
        · obtain ⟨x, hxk⟩ : ∃ x, body[k]? = some x := ⟨_, List.getElem?_eq_getElem hlt⟩
          have hxm := List.mem_of_getElem? hxk
          obtain ⟨ad, rfl, a0, a1, a2, a3⟩ := els_L (HX.out.below HBR.out) hxk
          have HXK := Lib.hid hxk
          have hal := (HAL.out x hxm).1
          have hont := one_new wr (.cells #[.bool x.n, .string x.s, .slice x.A x.args.length x.c, .int .i64 x.o] 46)
          have HBX := Lib.hid (heap_alloc_new wr (.cells #[.bool x.n, .string x.s, .slice x.A x.args.length x.c, .int .i64 x.o] 46))
          have HLT : Hid (∀ w, Below wr.heap.size wr w → Calls Try.prog 70 #[.pointer (some ⟨g, 0, none⟩), .agg #[.bool x.n, .string x.s, .slice x.A x.args.length x.c, .int .i64 x.o]] w (LitIs base w g s vb cb ov2 S ls U (m2 + x.args.length) (litT S U L2 x.li))) := Lib.hid fun w hw => HLI.out w L2 ov2 m2 x hxm (HK2.out.below hw) (HBR.out.trans (hw.mono HBR.out.size)) (by omega)
          have HBI : Hid (∀ w, Calls Try.prog 69 #[.agg #[.bool x.n, .string x.s, .slice x.A x.args.length x.c, .int .i64 x.o]] w fun e w' => e = .returned (.bool (atomB x.li)) ∧ Below w.heap.size w w') := Lib.hid fun w => t_binds x w
          have HONT := Lib.hid hont
          obtain ⟨t0, t1, t2, t3⟩ := four_cells HBX.out
          have HSK : Hid (atomB x.li ≠ false → K = contB S U (body.map LmG.li) false (passT S U false L2 (k + 1) ((body.map LmG.li).drop (k + 1)))) := Lib.hid fun hb => HCK.out.trans (cont_skip S U body false L2 k x HXK.out hb)
          have HTK : Hid (atomB x.li = false → (litT S U L2 x.li).1 = 0 → K = contB S U (body.map LmG.li) false (passT S U false (litT S U L2 x.li).2 (k + 1) ((body.map LmG.li).drop (k + 1)))) := Lib.hid fun hb hz => HCK.out.trans (cont_take S U body false L2 k x HXK.out hb hz)
          have HTP : Hid (atomB x.li = false → (litT S U L2 x.li).1 ≠ 0 → K = (L2, k, (litT S U L2 x.li).1)) := Lib.hid fun hb hz => HCK.out.trans (cont_stop S U body false L2 k x HXK.out hb hz)
          generalize litT S U L2 x.li = R at *
          generalize atomB x.li = ab at *
          obtain ⟨xn, xs, xA, xc, xa, xo⟩ := x
          simp only at a0 a1 a2 a3 hal
          obtain ⟨xl, hxl⟩ : ∃ xl, xa.length = xl := ⟨_, rfl⟩
          simp only [hxl] at *
          clear hxk hxm hont hxl
          cases ab with
          | true =>
            have HKK := Lib.hid (HSK.out (by simp))
            go_wp2_with (go_at_call 69; refine (HBI.out _).mono ?_; rintro e w3 ⟨rfl, hb3⟩; have HB3 := Lib.hid (HONT.out.trans (hb3.mono HONT.out.size)); clear hb3)
            go_roundw
            case rel => exact ⟨k + 1, L2, ov2, m2, rfl, rfl, by go_num, by omega, by omega, HKK, HK2.out.below HB3.out, HO2.out.trans (OnlyK.of_below HB3.out)⟩
            case measure => simp [intOf]; omega
          | false =>
            obtain ⟨why, L3⟩ := R
            by_cases hz : why = 0
            · have HKK := Lib.hid (HTK.out rfl hz)
              have bz : (why != 0) = false := by simpa using hz
              have HZ0 := Lib.hid hz
              clear hz
              go_wp2_with (first | (go_at_call 69; refine (HBI.out _).mono ?_; rintro e w3 ⟨rfl, hb3⟩; have HB3 := Lib.hid (HONT.out.trans (hb3.mono HONT.out.size)); have hx3 := (hb3.block wr.heap.size (by simp)).trans HBX.out; obtain ⟨p0, p1, p2, p3⟩ := four_cells hx3; clear hb3 hx3) | (go_at_call 70; refine (HLT.out _ HB3.out).mono ?_; rintro e w4 ⟨ov4, rfl, hk4, ho4⟩; have HK4 := Lib.hid hk4; have HO4 := Lib.hid (HO2.out.trans ((OnlyK.of_below HB3.out).trans ho4)); clear hk4 ho4))
              go_roundw
              case rel => exact ⟨k + 1, L3, ov4, m2 + xl, rfl, by rw [HZ0.out], by go_num, by omega, by omega, HKK, HK4.out, HO4.out⟩
              case measure => simp [intOf]; omega
            · have HKK := Lib.hid (HTP.out rfl hz)
              have bz : (why != 0) = true := by simpa using hz
              have HZ0 := Lib.hid hz
              clear hz
              go_wp2_with (first | (go_at_call 69; refine (HBI.out _).mono ?_; rintro e w3 ⟨rfl, hb3⟩; have HB3 := Lib.hid (HONT.out.trans (hb3.mono HONT.out.size)); have hx3 := (hb3.block wr.heap.size (by simp)).trans HBX.out; obtain ⟨p0, p1, p2, p3⟩ := four_cells hx3; clear hb3 hx3) | (go_at_call 70; refine (HLT.out _ HB3.out).mono ?_; rintro e w4 ⟨ov4, rfl, hk4, ho4⟩; have HO4 := Lib.hid (HO2.out.trans ((OnlyK.of_below HB3.out).trans ho4)); clear hk4 ho4))
              rw [Exit.noGoto_ret]
              go_ret2
              rw [HKK.out]
              exact ⟨rfl, ov4, 0, by omega, fun hh => absurd hh HZ0.out, HO4.out⟩
        · have HCE := Lib.hid (HCK.out.trans (cont_end S U body false L2 k (by omega)))
          have hkk : k = body.length := by omega
          subst hkk
          clear hlt hk
          go_wp2
          go_roundw
          case rel => exact ⟨2, L2, ov2, m2, rfl, rfl, rfl, Lib.hid (.inr (.inr ⟨rfl, by omega, HCE.out.trans (contB_false S U _ _)⟩)), HK2.out, HO2.out⟩
          case measure => simp [intOf]
    · have HC := Lib.hid hc
      clear hj3 hc
      go_wp2
      rw [Exit.noGoto_ret]
      go_ret2
      rw [HC.out]
      exact ⟨rfl, ov1, m1, by omega, fun _ => HK1.out, HO1.out⟩
end
end Go.Proofs.Ythdjkagodccdbaa
namespace Go.Proofs.Ythdjkagodccdbaa
section
open Go.RowKit Go.Maps

theorem ViewM.skip {W : World} {b m : Nat} {ls : List RS} {x : RS} (h : ViewM W b ls m) (hx : (findW ls x.1).isSome = true) : ViewM W b (ls ++ [x]) m := by
  obtain ⟨n, D, h1, h2, h3⟩ := h
  exact ⟨n, D, h1, h2, h3.skip hx⟩
theorem know_new (w : World) (sp : Nat) (Q : Nat → Prop) (S : List Sc) (hs : SetIs w Q sp S) (W : World) (g vb cb : Nat) (ls : List RS) (U : List Sc) (hl : ScR w Q ls U) (hbw : Below w.heap.size w W) (hg : W.heap[g]? = some (.cells #[.pointer (some ⟨sp, 0, none⟩), .map (some vb), .map (some cb), .slice none 0 0] 88 (0, 0))) (j : Nat) (hv : ViewM W vb ls j) (hc : ColM W cb [] 0) (h1 : w.heap.size ≤ g) (h2 : w.heap.size ≤ cb) (h3 : w.heap.size ≤ vb) (h4 : vb ≠ cb) :
    KnowAt w.heap.size W g sp vb cb (.slice none 0 0) S ls U [] 0 :=
  ⟨hg, (hs.below hbw).keep (fun _ _ _ => rfl) |> fun h => by obtain ⟨v, a, b, c⟩ := hs; exact ⟨v, (hbw.cell (p := ⟨sp, 0, none⟩) (World.block_lt_of_cell? w _ a)).trans a, World.block_lt_of_cell? w _ a, (c.imp (fun k hk _ => hk)).keep (Below.keepQ hbw _)⟩, ⟨j, hv⟩, (hl.imp (fun k hk _ => hk)).keep (Below.keepQ hbw _), hc, OwnF.nil _ _, GoodC.nil, by simp [Value.ownBlock], h1, h2, h3, h4⟩

/-- What know leaves. -/
def KnowIs (w : World) (sp : Nat) (S U : List Sc) (ls : List RS) (K : List Co × Nat × Int) (e : Ending) (W' : World) : Prop := ∃ g, e = .returned (.tuple #[.pointer (some ⟨g, 0, none⟩), .int .i64 (K.2.1 : Int), .int .i64 K.2.2]) ∧ Below w.heap.size w W' ∧ (K.2.2 = 0 → ∃ vb cb ov m, m ≤ 900000 ∧ KnowAt w.heap.size W' g sp vb cb ov S ls U K.1 m)

set_option maxHeartbeats 1000000 in
theorem k_know_nil (bA : Option Addr) (bl bc : Nat) (vA : Option Addr) (vl vc : Nat) (w : World) : Calls Try.prog 30 #[.slice bA bl bc, .pointer none, .slice vA vl vc] w fun e w' => e = .returned (.tuple #[.pointer none, .int .i64 0, .int .i64 1]) ∧ Below w.heap.size w w' := by
  go_enter Try.func30, Try.ntmps30
  go_wp2
  go_ret3
  exact ⟨rfl, Below.refl _ _⟩

set_option maxRecDepth 100000 in
set_option maxHeartbeats 8000000 in
theorem k_know (sp : Nat) (Q : Nat → Prop) (S : List Sc) (w : World) (hs : SetIs w Q sp S) (hf : ∀ x ∈ S, x.cols.length ≤ 900000) (vA : Option Addr) (U : List Sc) (ls : List RS) (vc : Nat) (hl : ScR w Q ls U) (hcv : CellsQ w Q vA (flatS ls)) (hul : U.length ≤ 900000) (hun : ∀ x ∈ U, x.nm.size ≤ maxLen) (bA : Option Addr) (bc : Nat) (body : List LmG) (hx : LgsAt w bA body) (hsm : SmlB body) :
    Calls Try.prog 30 #[.slice bA body.length bc, .pointer (some ⟨sp, 0, none⟩), .slice vA U.length vc] w (KnowIs w sp S U ls (knowT S U (body.map LmG.li))) := by
  have hll : ls.length = U.length := hl.len
  have HLK : Hid (∀ (W : World) (g vb cb j : Nat), Below w.heap.size w W → W.heap[g]? = some (.cells #[.pointer (some ⟨sp, 0, none⟩), .map (some vb), .map (some cb), .slice none 0 0] 88 (0, 0)) → ViewM W vb ls j → ColM W cb [] 0 → w.heap.size ≤ g → w.heap.size ≤ cb → w.heap.size ≤ vb → vb ≠ cb →
      Calls Try.prog 48 #[.pointer (some ⟨g, 0, none⟩), .slice bA body.length bc] W fun e W' => e = .returned (.tuple #[.int .i64 ((knowT S U (body.map LmG.li)).2.1 : Int), .int .i64 (knowT S U (body.map LmG.li)).2.2]) ∧ Below w.heap.size w W' ∧ ((knowT S U (body.map LmG.li)).2.2 = 0 → ∃ vb cb ov m, m ≤ 900000 ∧ KnowAt w.heap.size W' g sp vb cb ov S ls U (knowT S U (body.map LmG.li)).1 m)) := Lib.hid fun W g vb cb j hb hg hv hc h1 h2 h3 h4 => by
    have hk := know_new w sp Q S hs W g vb cb ls U hl hb hg j hv hc h1 h2 h3 h4
    refine (k_look hk hf (Nat.le_refl _) hb bA bc body hx hsm).mono ?_
    rintro e W' ⟨rfl, ov', m', hm', hk', ho⟩
    exact ⟨rfl, hb.trans (ho.below hb.size (fun k hm => (hk.mt k hm).1)), fun hz => ⟨vb, cb, ov', m', hm', hk' hz⟩⟩
  generalize knowT S U (body.map LmG.li) = K at *
  have HS := Lib.hid hs
  have HL := Lib.hid hl
  have HCV := Lib.hid hcv
  have HUN := Lib.hid hun
  have HUL := Lib.hid hul
  have HLL := Lib.hid hll
  have hmm := @run_makeMap Try.prog
  have hba : ∃ n, body.length = n := ⟨_, rfl⟩
  obtain ⟨bn, hbn⟩ := hba
  rw [hbn] at HLK
  rw [hbn]
  clear hs hf hl hcv hun hul hx hsm hbn hll
  go_enter Try.func30, Try.ntmps30
  go_wp2
  obtain ⟨W0, hW0⟩ : ∃ W0, W0 = ((w.alloc (.map #[] 0)).alloc (.map #[] 0)).alloc (.cells #[.pointer (some ⟨sp, 0, none⟩), .map (some w.heap.size), .map (some (w.heap.size + 1)), .slice none 0 0] 88) := ⟨_, rfl⟩
  have hz1 : (w.alloc (.map #[] 0)).heap.size = w.heap.size + 1 := World.size_alloc _ _
  have hz2 : ((w.alloc (.map #[] 0)).alloc (.map #[] 0)).heap.size = w.heap.size + 1 + 1 := by rw [World.size_alloc, hz1]
  have hv0 : ViewM W0 w.heap.size [] 0 := by
    rw [hW0]
    exact (viewM_new w).block ((Below.heap_alloc _ _ _ (by rw [hz2]; omega)).trans (Below.heap_alloc _ _ _ (by rw [hz1]; omega)))
  have hc0 : ColM W0 (w.heap.size + 1) [] 0 := by
    rw [hW0]
    have h := colM_new (w.alloc (.map #[] 0))
    rw [hz1] at h
    exact h.block (Below.heap_alloc _ _ _ (by rw [hz2]; omega))
  have hg0 : W0.heap[w.heap.size + 1 + 1]? = some (.cells #[.pointer (some ⟨sp, 0, none⟩), .map (some w.heap.size), .map (some (w.heap.size + 1)), .slice none 0 0] 88 (0, 0)) := by
    have h := heap_alloc_new ((w.alloc (.map #[] 0)).alloc (.map #[] 0)) (.cells #[.pointer (some ⟨sp, 0, none⟩), .map (some w.heap.size), .map (some (w.heap.size + 1)), .slice none 0 0] 88)
    rw [hz2] at h
    rw [hW0]
    exact h
  have hb0 : Below w.heap.size w W0 := by rw [hW0]; exact (two_new w _ _).trans ((one_new _ _).mono (by rw [hz2]; omega))
  have HV0 := Lib.hid hv0
  have HC0 := Lib.hid hc0
  have HG0 := Lib.hid hg0
  have HB0 := Lib.hid hb0
  clear hv0 hc0 hg0 hb0 hz1 hz2
  subst hW0
  have hul := HUL.out
  go_loopw [25] (fun i wr => ∃ k : Nat, i = .int .i64 k ∧ k ≤ U.length ∧ (∃ j, j ≤ k ∧ ViewM wr w.heap.size (ls.take k) j) ∧ wr.heap[w.heap.size + 1 + 1]? = some (.cells #[.pointer (some ⟨sp, 0, none⟩), .map (some w.heap.size), .map (some (w.heap.size + 1)), .slice none 0 0] 88 (0, 0)) ∧ ColM wr (w.heap.size + 1) [] 0 ∧ Below w.heap.size w wr) (fun i _ => U.length - (intOf i).toNat)
  case atStart => exact ⟨0, rfl, Nat.zero_le _, ⟨0, Nat.le_refl _, by rw [List.take_zero]; exact HV0.out⟩, HG0.out, HC0.out, HB0.out⟩
  case round =>
    obtain ⟨k, rfl, hk, ⟨j, hj, hv⟩, hg, hc, hb⟩ := hrel
    have HV := Lib.hid hv
    have HG := Lib.hid hg
    have HC := Lib.hid hc
    have HB := Lib.hid hb
    by_cases hlt : k < U.length
    · obtain ⟨x, hx⟩ : ∃ x, U[k]? = some x := ⟨_, List.getElem?_eq_getElem hlt⟩
      obtain ⟨v, h3, h4⟩ := HL.out.get k x hx
      obtain ⟨f0, f1⟩ := flatS_at ls k _ h3
      have hcb := HCV.out.keep (Below.keepQ hb Q)
      obtain ⟨a, rfl, -, c0⟩ := hcb _ _ f0
      have c1 := hcb.at _ _ _ _ rfl (by omega) f1
      obtain ⟨nm, cols⟩ := x
      simp only at h3 h4 c0 c1
      have hnm : nm.size ≤ maxLen := HUN.out _ (List.mem_of_getElem? hx)
      obtain ⟨hcl, A', c', rfl, -⟩ := h4
      obtain ⟨cl, hcl2⟩ : ∃ cl, cols.length = cl := ⟨_, rfl⟩
      rw [hcl2] at c1 h3
      have htk : ls.take (k + 1) = ls.take k ++ [(nm, .slice A' cl c')] := by rw [List.take_add_one, h3]; rfl
      have hont := one_new wr (.cells #[.string nm, .slice A' cl c'] 71)
      have hzt : (wr.alloc (.cells #[.string nm, .slice A' cl c'] 71)).heap.size = wr.heap.size + 1 := World.size_alloc _ _
      have htn := heap_alloc_new wr (.cells #[.string nm, .slice A' cl c'] 71)
      have t0 := cell_of_row _ wr.heap.size 0 _ _ (0, 0) htn
      have t1 := cell_of_row _ wr.heap.size 1 _ _ (0, 0) htn
      have hgl := (Array.getElem?_eq_some_iff.1 hg).1
      have hgt := (hont.block _ hgl).trans hg
      obtain ⟨g0, g1, g2, g3⟩ := four_cells hgt
      have hvt : ViewM (wr.alloc (.cells #[.string nm, .slice A' cl c'] 71)) w.heap.size (ls.take k) j := hv.block (hont.block _ hv.lt)
      have hct : ColM (wr.alloc (.cells #[.string nm, .slice A' cl c'] 71)) (w.heap.size + 1) [] 0 := hc.block (hont.block _ hc.lt)
      have hlk := look_W2 hvt nm hnm
      have hlk2 : (Instr.lookup 85 (.map (some w.heap.size)) (.string nm) true).run Try.prog (wr.alloc (.cells #[.string nm, .slice A' cl c'] 71)).drew = _ := look_W2 (W := (wr.alloc (.cells #[.string nm, .slice A' cl c'] 71)).drew) hvt nm hnm
      have HBT := Lib.hid (hb.trans (hont.mono hb.size))
      have HGT := Lib.hid hgt
      have HCT := Lib.hid hct
      have HVT := Lib.hid hvt
      have HTK := Lib.hid htk
      rcases Bool.eq_false_or_eq_true (findW (ls.take k) nm).isSome with hs | hs
      · have HSK := Lib.hid (hvt.skip (x := (nm, .slice A' cl c')) hs)
        obtain ⟨y, hy⟩ := Option.isSome_iff_exists.1 hs
        have hys : ∃ A9 n9 c9, vOf (findW (ls.take k) nm) = .slice A9 n9 c9 := by
          have h5 : ScR w Q (ls.take k) (U.take k) := HL.out.take k
          rcases findW_of h5 nm with ⟨z1, _⟩ | ⟨v9, x9, z1, _, z3⟩
          · rw [z1] at hs; simp at hs
          · obtain ⟨_, A9, c9, rfl, _⟩ := z3
            exact ⟨A9, _, c9, by rw [z1]; rfl⟩
        obtain ⟨A9, n9, c9, h9⟩ := hys
        rw [hs, h9] at hlk hlk2
        clear hv hg hc hb hx h3 f0 f1 hcb hcl hnm hcl2 htk hont hzt htn hgl hgt hvt hct hs hy h9
        go_wp2
        go_region
        go_wp2
        go_roundw
        case rel => exact ⟨k + 1, by go_num, by omega, ⟨j, by omega, by rw [HTK.out]; exact HSK.out⟩, HGT.out, HCT.out, HBT.out.drew⟩
        case measure => simp [intOf]; omega
      · have hno : findW (ls.take k) nm = none := by
          cases hq : findW (ls.take k) nm with
          | none => rfl
          | some y => rw [hq] at hs; simp at hs
        obtain ⟨w7, hrun, hg7, hv7⟩ := put_W (W := (wr.alloc (.cells #[.string nm, .slice A' cl c'] 71)).drew.drew) (x := (nm, .slice A' cl c')) hvt hnm (by omega) hno
        rw [hno] at hlk hlk2
        have hlk3 : (Instr.lookup 85 (.map (some w.heap.size)) (.string nm) true).run Try.prog (wr.alloc (.cells #[.string nm, .slice A' cl c'] 71)).drew = .ok (.tuple #[.slice none 0 0, .bool false]) (wr.alloc (.cells #[.string nm, .slice A' cl c'] 71)).drew := hlk2
        have hrun2 : (Instr.mapUpdate 85 (.map (some w.heap.size)) (.string nm) (.slice A' cl c')).run Try.prog (wr.alloc (.cells #[.string nm, .slice A' cl c'] 71)).drew.drew = .ok () w7 := hrun
        have HG7 := Lib.hid hg7
        have HV7 := Lib.hid hv7
        have HGL := Lib.hid hgl
        clear hv hg hc hb hx h3 f0 f1 hcb hcl hnm hcl2 htk hont hzt htn hgl hgt hvt hct hs hno hlk hlk2 hrun hg7 hv7
        go_wp2
        go_region
        go_wp2
        go_region
        go_wp2
        go_roundw
        case rel =>
          have hk7 : ∀ q, q < (wr.alloc (.cells #[.string nm, .slice A' cl c'] 71)).heap.size → q ≠ w.heap.size → w7.heap[q]? = (wr.alloc (.cells #[.string nm, .slice A' cl c'] 71)).heap[q]? := fun q hq hne => HG7.out.block q hq (fun e => hne (Option.some.inj e))
          have hz := (one_new wr (.cells #[.string nm, .slice A' cl c'] 71)).size
          refine ⟨k + 1, by go_num, by omega, ⟨j + 1, by omega, by rw [HTK.out]; exact HV7.out⟩, (hk7 _ (by have := HGL.out; omega) (by omega)).trans HGT.out, HCT.out.block (hk7 _ HCT.out.lt (by omega)), ?_⟩
          have h8 : Below w.heap.size (wr.alloc (.cells #[.string nm, .slice A' cl c'] 71)).drew.drew w7 := ⟨HG7.out.os, HG7.out.tape, HG7.out.output, HG7.out.size, fun q hq => HG7.out.block q (Nat.lt_of_lt_of_le hq HBT.out.size) (fun e => by have := Option.some.inj e; omega)⟩
          exact HBT.out.drew.drew.trans h8
        case measure => simp [intOf]; omega
    · have hkk : k = U.length := by omega
      have htk : ls.take k = ls := List.take_of_length_le (by rw [HLL.out]; omega)
      rw [htk] at hv
      have HLK2 := Lib.hid (HLK.out wr (w.heap.size + 1 + 1) w.heap.size (w.heap.size + 1) j hb hg hv hc (by omega) (by omega) (Nat.le_refl _) (by omega))
      obtain ⟨K1, K2, K3⟩ := K
      clear hv hg hc hb htk
      go_wp2_with (go_at_call 48; refine HLK2.out.mono ?_; rintro e w9 ⟨rfl, hb9, hk9⟩; have HB9 := Lib.hid hb9; have HK9 := Lib.hid hk9; clear hb9 hk9)
      go_ret3
      exact ⟨_, rfl, HB9.out, HK9.out⟩

/-! ### the columns of names -/
theorem co_lit1 (w : World) (c : Co) : CellsQ (w.alloc (.cells #[.string c.nm, .int .i64 c.k, .bool c.nl] 49)) (fun _ => True) (some ⟨w.heap.size, 0, none⟩) (flatC [c]) := c_lit1 w c
set_option maxRecDepth 100000 in
set_option maxHeartbeats 4000000 in
theorem k_columns {base : Nat} {W : World} {g s vb cb : Nat} {ov : Value} {S : List Sc} {ls : List RS} {U : List Sc} {L : List Co} {m : Nat} (h : KnowAt base W g s vb cb ov S ls U L m) (A : Option Addr) (ns : List ByteArray) (c : Nat) (hl : ns.length ≤ 1000000) (hx : ElsAt strC 1 W A ns) (hsz : ∀ n ∈ ns, n.size ≤ maxLen) :
    Calls Try.prog 32 #[.pointer (some ⟨g, 0, none⟩), .slice A ns.length c] W (MakesC W (ns.map fun n => orC (findC L n))) := by
  have HX := Lib.hid hx
  have HK := Lib.hid h
  have HSZ := Lib.hid hsz
  obtain ⟨q, hq⟩ : ∃ q : ByteArray → Co, (fun n => orC (findC L n)) = q := ⟨_, rfl⟩
  have HQ := Lib.hid hq
  rw [hq]
  obtain ⟨nl, hnl⟩ : ∃ nl, ns.length = nl := ⟨_, rfl⟩
  have HNL := Lib.hid hnl
  rw [hnl] at hl ⊢
  clear hx h hsz hq hnl
  go_enter Try.func32, Try.ntmps32
  go_wp2
  go_loopw [5, 10] (fun v i wr => ∃ k : Nat, k ≤ nl ∧ i = .int .i64 k ∧ OwnC wr W.heap.size v ((ns.take k).map q) ∧ Below W.heap.size W wr) (fun _ i _ => nl - (intOf i).toNat)
  case atStart => exact ⟨0, Nat.zero_le _, rfl, by rw [List.take_zero]; exact OwnC.nil _ _, Below.refl _ _⟩
  case round =>
    obtain ⟨k, hk, rfl, hown, hb⟩ := hrel
    have HOWN := Lib.hid hown
    have HB := Lib.hid hb
    have hsz : W.heap.size ≤ wr.heap.size := hb.size
    have hkr := HK.out.below hb
    obtain ⟨g0, g1, g2, g3⟩ := cellK hkr
    clear hown hb
    by_cases h1 : k < nl
    · obtain ⟨t, ht⟩ : ∃ t, ns[k]? = some t := ⟨_, List.getElem?_eq_getElem (by rw [HNL.out]; exact h1)⟩
      obtain ⟨a, rfl, a0⟩ := els_S (HX.out.below HB.out) ht
      have hlk := look_C hkr.cls t (HSZ.out t (List.mem_of_getElem? ht))
      have htk : (ns.take (k + 1)).map q = (ns.take k).map q ++ [q t] := by
        rw [List.take_add_one, ht]
        simp
      have hqt : orC (findC L t) = q t := congrFun HQ.out t
      rw [hqt] at hlk
      generalize q t = d at *
      obtain ⟨dn, dk, dl⟩ := d
      unfold Co.val at hlk
      have HTK := Lib.hid htk
      have hroom : ((ns.take k).map q).length + 1 ≤ 3000000 := by rw [List.length_map]; have := List.length_take_le k ns; omega
      clear ht htk hkr hqt
      go_wp2_with (at_builtin; go_must (refine wp_append_C _ rfl (.tmp 14) (.tmp 21) rfl W.heap.size _ ((ns.take k).map q) [⟨dn, dk, dl⟩] rfl (HOWN.out.alloc _) (some ⟨wr.heap.size, 0, none⟩) 1 1 rfl rfl (fun _ => True) (c_lit1 _ ⟨dn, dk, dl⟩) (flatC_one _) (by exact hroom) (by simp; omega) ?_; intro v1 w3 hown3 hb3 _ _))
      have HO3 := Lib.hid hown3
      have HB3 := Lib.hid (HB.out.trans ((one_new_far wr _ hsz).trans hb3))
      clear hown3 hb3
      go_roundw
      case rel => exact ⟨k + 1, by omega, by go_num, by rw [HTK.out]; exact HO3.out, HB3.out⟩
      case measure => simp [intOf]; omega
    · obtain rfl : k = nl := by omega
      clear hkr
      go_wp2
      go_ret
      have h2 := HOWN.out
      rw [List.take_of_length_le (by rw [HNL.out]; exact Nat.le_refl _)] at h2
      exact ⟨_, rfl, h2, HB.out⟩
end
end Go.Proofs.Ythdjkagodccdbaa
