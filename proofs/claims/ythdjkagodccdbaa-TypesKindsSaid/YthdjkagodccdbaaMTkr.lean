/-
  One literal: the document's side.
  Condition: a literal has no more than 5000 terms, names are no longer than they can be.
  The document's columns of variables of a rule.
  Condition: a rule is no longer than SmlT says, kinds have no more than 900000 columns.
-/
import Derived.Test.YthdjkagodccdbaaMTkp
namespace Go.Proofs.Ythdjkagodccdbaa
section
open Go.RowKit Go.Maps

theorem relT_kinds (S : List Sc) (n : ByteArray) : relT S [] n = colsOf S n := by
  unfold relT
  cases colsOf S n <;> rfl
set_option maxRecDepth 100000 in
set_option maxHeartbeats 4000000 in
theorem e_columns {base : Nat} {W : World} {g : Nat} {kA : Option Addr} {kc : Nat} {ks : List RS} {S : List Sc} {lv : Value} {L : List Co} {m : Nat} (h : EnvAt base W g kA kc ks S lv L m) (hsl : S.length ≤ 1000000) (hf : ∀ x ∈ S, x.cols.length ≤ 900000) (n : ByteArray) :
    Calls Try.prog 71 #[.pointer (some ⟨g, 0, none⟩), .string n] W (ColsIs W (colsOf S n)) := by
  obtain ⟨g0, g1, g2⟩ := three_cells h.box
  have HC := Lib.hid (ref_columnsOf _ kA ks S S.length kc n W rfl hsl h.kls h.kcl hf)
  have HK := Lib.hid h
  obtain ⟨o, ho⟩ : ∃ o, colsOf S n = o := ⟨_, rfl⟩
  rw [ho] at HC ⊢
  obtain ⟨A, c, hlv, -⟩ := h.slice
  subst hlv
  clear h hf ho hsl
  go_enter Try.func71, Try.ntmps71
  go_wp2_with fail
  refine HC.out.mono ?_
  rintro e w1 ⟨hb1, hm⟩
  obtain ⟨p0, p1, p2⟩ := three_cells (HK.out.below hb1).box
  have HB1 := Lib.hid hb1
  clear hb1 g0 g1 g2
  cases o with
  | some cs =>
    obtain ⟨v, rfl, hv⟩ := hm
    have HV := Lib.hid hv
    obtain ⟨_, A1, c1, rfl, _⟩ := hv
    go_wp2
    go_ret2
    exact ⟨HB1.out, _, rfl, HV.out⟩
  | none =>
    have hm2 : e = .returned (.tuple #[.slice none 0 0, .int .i64 20]) := hm
    clear hm
    subst hm2
    go_wp2
    go_loopw [8] (fun i wr => i = .int .i64 0 ∧ w1 = wr) (fun _ _ => 0)
    case atStart => exact ⟨rfl, rfl⟩
    case round =>
      obtain ⟨rfl, rfl⟩ := hrel
      go_wp2
      go_ret2
      exact ⟨HB1.out, rfl⟩

set_option maxRecDepth 100000 in
set_option maxHeartbeats 4000000 in
theorem e_comparison {base : Nat} {W : World} {g : Nat} {kA : Option Addr} {kc : Nat} {ks : List RS} {S : List Sc} {lv : Value} {L : List Co} {m : Nat} (h : EnvAt base W g kA kc ks S lv L m) (hm : m ≤ 900000) (x : LmG) (hl : x.args.length ≤ maxLen) (hx : ElsAt TmP.cells 6 W x.A x.args) :
    Calls Try.prog 51 #[.pointer (some ⟨g, 0, none⟩), x.val] W fun e W' => e = .returned (.int .i64 (cmpT L x.args)) ∧ Below W.heap.size W W' := by
  obtain ⟨n, nm, A, c, args, o⟩ := x
  simp only at hl hx
  have hon := one_new W (.cells #[.bool n, .string nm, .slice A args.length c, .int .i64 o] 46)
  have hbx := heap_alloc_new W (.cells #[.bool n, .string nm, .slice A args.length c, .int .i64 o] 46)
  have HON := Lib.hid hon
  have HBX := Lib.hid hbx
  have hz : (W.alloc (.cells #[.bool n, .string nm, .slice A args.length c, .int .i64 o] 46)).heap.size = W.heap.size + 1 := World.size_alloc _ _
  have HZ := Lib.hid hz
  obtain ⟨n0, n1, n2, n3⟩ := four_cells hbx
  by_cases h2 : args.length = 2
  · match args, h2 with
    | [a, b], _ =>
      have HKA : Hid (∀ w, Below W.heap.size W w → Calls Try.prog 73 #[.pointer (some ⟨g, 0, none⟩), a.val] w fun e W' => e = .returned (.int .i64 (kindT L a)) ∧ Below w.heap.size w W') := Lib.hid fun w hw => e_kind (h.below hw) hm a
      have HKB : Hid (∀ w, Below W.heap.size W w → Calls Try.prog 73 #[.pointer (some ⟨g, 0, none⟩), b.val] w fun e W' => e = .returned (.int .i64 (kindT L b)) ∧ Below w.heap.size w W') := Lib.hid fun w hw => e_kind (h.below hw) hm b
      obtain ⟨p, rfl, -⟩ := els_T (i := 0) hx rfl
      have HC : Hid (∀ w, Below W.heap.size W w → (w.cell? p = some (.string a.s) ∧ w.cell? { block := p.block, off := p.off + 1 } = some (.bool a.a) ∧ w.cell? { block := p.block, off := p.off + 2 } = some (.int .i64 a.v.k) ∧ w.cell? { block := p.block, off := p.off + 3 } = some (.bool a.v.f) ∧ w.cell? { block := p.block, off := p.off + 4 } = some (.int .i64 a.v.n) ∧ w.cell? { block := p.block, off := p.off + 5 } = some (.string a.v.t)) ∧ (w.cell? { block := p.block, off := p.off + 6 } = some (.string b.s) ∧ w.cell? { block := p.block, off := p.off + 6 + 1 } = some (.bool b.a) ∧ w.cell? { block := p.block, off := p.off + 6 + 2 } = some (.int .i64 b.v.k) ∧ w.cell? { block := p.block, off := p.off + 6 + 3 } = some (.bool b.v.f) ∧ w.cell? { block := p.block, off := p.off + 6 + 4 } = some (.int .i64 b.v.n) ∧ w.cell? { block := p.block, off := p.off + 6 + 5 } = some (.string b.v.t))) := Lib.hid fun w hw => by
        obtain ⟨q, hq, x0, x1, x2, x3, x4, x5⟩ := els_T (i := 0) (hx.below hw) rfl
        obtain ⟨q', hq', y0, y1, y2, y3, y4, y5⟩ := els_T (i := 1) (hx.below hw) rfl
        injection hq with hq
        injection hq' with hq'
        subst hq hq'
        refine ⟨⟨?_, ?_, ?_, ?_, ?_, ?_⟩, ?_, ?_, ?_, ?_, ?_, ?_⟩
        · simpa [Addr.add] using x0
        · simpa [Addr.add] using x1
        · simpa [Addr.add] using x2
        · simpa [Addr.add] using x3
        · simpa [Addr.add] using x4
        · simpa [Addr.add] using x5
        · simpa [Addr.add] using y0
        · simpa [Addr.add] using y1
        · simpa [Addr.add] using y2
        · simpa [Addr.add] using y3
        · simpa [Addr.add] using y4
        · simpa [Addr.add] using y5
      have HCM := Lib.hid (cmpT_two L a b)
      generalize cmpT L [a, b] = q at *
      have b2 : (((([a, b] : List TmP).length : Nat) : Int) != 2) = false := rfl
      obtain ⟨sa, aa, ⟨avk, avf, avn, avt⟩⟩ := a
      obtain ⟨sb, ba, ⟨bvk, bvf, bvn, bvt⟩⟩ := b
      generalize kindT L ⟨sa, aa, ⟨avk, avf, avn, avt⟩⟩ = x at HKA HCM
      generalize kindT L ⟨sb, ba, ⟨bvk, bvf, bvn, bvt⟩⟩ = y at HKB HCM
      obtain ⟨lA, lc, hlv, -⟩ := h.slice
      subst hlv
      have HON2 : Hid (Below W.heap.size W (W.alloc (.cells #[.bool n, .string nm, .slice (some p) 2 c, .int .i64 o] 46))) := HON
      have HBX2 : Hid ((W.alloc (.cells #[.bool n, .string nm, .slice (some p) 2 c, .int .i64 o] 46)).heap[W.heap.size]? = some (.cells #[.bool n, .string nm, .slice (some p) 2 c, .int .i64 o] 46 (0, 0))) := HBX
      have HZ2 : Hid ((W.alloc (.cells #[.bool n, .string nm, .slice (some p) 2 c, .int .i64 o] 46)).heap.size = W.heap.size + 1) := HZ
      clear HON HBX HZ
      have HON := HON2
      have HBX := HBX2
      have HZ := HZ2
      clear HON2 HBX2 HZ2
      clear n0 n1 n2 n3
      obtain ⟨n0, n1, n2, n3⟩ := four_cells HBX.out
      obtain ⟨⟨a0, a1, a2, a3, a4, a5⟩, -⟩ := HC.out _ HON.out
      clear h hl hx hon hbx hz
      show Calls Try.prog 51 #[.pointer (some ⟨g, 0, none⟩), .agg #[.bool n, .string nm, .slice (some p) 2 c, .int .i64 o]] W fun e W' => e = .returned (.int .i64 q) ∧ Below W.heap.size W W'
      go_enter Try.func51, Try.ntmps51
      go_wp2_with fail
      refine (HKA.out _ HON.out).mono ?_
      rintro e w1 ⟨rfl, hb1⟩
      have HB1 := Lib.hid (HON.out.trans (hb1.mono HON.out.size))
      have HX1 := Lib.hid ((hb1.block W.heap.size (by rw [HZ.out]; omega)).trans HBX.out)
      clear a0 a1 a2 a3 a4 a5 n0 n1 n2 n3 hb1
      obtain ⟨n0, n1, n2, n3⟩ := four_cells HX1.out
      obtain ⟨-, f0, f1, f2, f3, f4, f5⟩ := HC.out _ HB1.out
      go_wp2_with fail
      refine (HKB.out _ HB1.out).mono ?_
      rintro e w2 ⟨rfl, hb2⟩
      have HB2 := Lib.hid (HB1.out.trans (hb2.mono HB1.out.size))
      clear f0 f1 f2 f3 f4 f5 n0 n1 n2 n3 hb2
      by_cases e2 : x = 0
      · have t2 : (x != 0) = false := by simpa using e2
        have HE2 := Lib.hid e2
        clear e2
        go_wp2
        go_ret
        exact ⟨by rw [HCM.out, if_neg (fun z => z.2.1 HE2.out)]; rfl, HB2.out⟩
      · have t2 : (x != 0) = true := by simpa using e2
        have HE2 := Lib.hid e2
        clear e2
        by_cases e3 : y = 0
        · have t3 : (y != 0) = false := by simpa using e3
          have HE3 := Lib.hid e3
          clear e3
          go_wp2
          go_ret
          exact ⟨by rw [HCM.out, if_neg (fun z => z.2.2 HE3.out)]; rfl, HB2.out⟩
        · have t3 : (y != 0) = true := by simpa using e3
          have HE3 := Lib.hid e3
          clear e3
          by_cases e1 : x = y
          · have t1 : (x != y) = false := by simpa using e1
            have HE := Lib.hid e1
            clear e1
            go_wp2
            go_ret
            exact ⟨by rw [HCM.out, if_neg (fun z => z.1 HE.out)]; rfl, HB2.out⟩
          · have t1 : (x != y) = true := by simpa using e1
            have HE := Lib.hid e1
            clear e1
            go_wp2
            go_ret
            exact ⟨by rw [HCM.out, if_pos ⟨HE.out, HE2.out, HE3.out⟩]; rfl, HB2.out⟩
  · have HCM := Lib.hid (cmpT_not L args h2)
    have hb : ((args.length : Int) != 2) = true := by
      rw [bne_iff_ne]
      omega
    clear h hx hon hbx hz
    show Calls Try.prog 51 #[.pointer (some ⟨g, 0, none⟩), .agg #[.bool n, .string nm, .slice A args.length c, .int .i64 o]] W fun e W' => e = .returned (.int .i64 (cmpT L args)) ∧ Below W.heap.size W W'
    rw [HCM.out]
    go_enter Try.func51, Try.ntmps51
    go_wp2
    go_ret
    exact ⟨rfl, HON.out⟩
set_option maxRecDepth 100000 in
set_option maxHeartbeats 8000000 in
theorem e_atom {base : Nat} {W : World} {g : Nat} {kA : Option Addr} {kc : Nat} {ks : List RS} {S : List Sc} {lv : Value} {L : List Co} {m : Nat} (h : EnvAt base W g kA kc ks S lv L m) (w0 : World) (hw0 : w0.heap.size ≤ base) (hbw : Below w0.heap.size w0 W) (hsl : S.length ≤ 1000000) (hf : ∀ x ∈ S, x.cols.length ≤ 900000) (x : LmG) (hx : ElsAt TmP.cells 6 w0 x.A x.args) (hm : m + x.args.length ≤ 800000) (hs : ∀ t ∈ x.args, t.s.size ≤ maxLen) (hl : x.args.length ≤ 5000) :
    Calls Try.prog 50 #[.pointer (some ⟨g, 0, none⟩), x.val] W (EArg base W g kA kc ks S lv (m + x.args.length) (atomT S [] L x.li)) := by
  obtain ⟨n, nm, A, c, args, o⟩ := x
  simp only at hx hm hs hl
  show Calls Try.prog 50 #[.pointer (some ⟨g, 0, none⟩), .agg #[.bool n, .string nm, .slice A args.length c, .int .i64 o]] W (EArg base W g kA kc ks S lv (m + args.length) (atomT S [] L (LmG.li ⟨n, nm, A, c, args, o⟩)))
  obtain ⟨wB, hwB⟩ : ∃ wB, W.alloc (.cells #[.bool n, .string nm, .slice A args.length c, .int .i64 o] 46) = wB := ⟨_, rfl⟩
  have hon : Below W.heap.size W wB := by rw [← hwB]; exact one_new _ _
  have hbox : wB.heap[W.heap.size]? = some (.cells #[.bool n, .string nm, .slice A args.length c, .int .i64 o] 46 (0, 0)) := by rw [← hwB]; exact heap_alloc_new _ _
  have hz : wB.heap.size = W.heap.size + 1 := by rw [← hwB]; exact World.size_alloc _ _
  have HKB := Lib.hid (h.below hon)
  have HW0 := Lib.hid (hbw.trans (hon.mono hbw.size))
  have HX := Lib.hid hx
  have HS := Lib.hid hs
  have HON := Lib.hid hon
  have HBX := Lib.hid hbox
  have HZ := Lib.hid hz
  have HMT := Lib.hid h.mt
  have HREL := Lib.hid (e_columns HKB.out hsl hf nm)
  have HLT : Hid (atomT S [] L (LmG.li ⟨n, nm, A, c, args, o⟩) = match colsOf S nm with
    | none => (20, L)
    | some cs => if args.length = cs.length then argsT (!n) L args cs else (9, L)) := Lib.hid (by rw [← relT_kinds]; rfl)
  generalize atomT S [] L (LmG.li ⟨n, nm, A, c, args, o⟩) = R at *
  generalize colsOf S nm = rl at *
  obtain ⟨n0, n1, n2, n3⟩ := four_cells hbox
  obtain ⟨lA, lc, hlv, -⟩ := h.slice
  subst hlv
  clear h hf hbw hx hs hon hbox hz hsl
  subst hwB
  go_enter Try.func50, Try.ntmps50
  go_wp2_with fail
  refine HREL.out.mono ?_
  rintro e w1 ⟨hb1, hmm⟩
  have hx1 := (hb1.block W.heap.size (by rw [HZ.out]; omega)).trans HBX.out
  clear n0 n1 n2 n3
  obtain ⟨n0, n1, n2, n3⟩ := four_cells hx1
  cases rl with
  | none =>
    have hR : R = (20, L) := HLT.out
    have hm2 : e = .returned (.tuple #[.slice none 0 0, .int .i64 20]) := hmm
    clear hmm
    subst hm2
    have HFIN := Lib.hid (EArg.same HKB.out (m' := m + args.length) (by omega) hb1 20 R hR)
    have HFI2 : Hid (EArg base W g kA kc ks S (.slice lA L.length lc) (m + args.length) R (.returned (.int .i64 20)) w1) := Lib.hid (by rw [hR]; exact ⟨_, rfl, (HKB.out.below hb1).mono (by omega), OnlyK.of_below (HON.out.trans (hb1.mono HON.out.size))⟩)
    clear hb1 hx1 HFIN
    go_wp2
    go_ret
    exact HFI2.out
  | some cs =>
    have hR : R = if args.length = cs.length then argsT (!n) L args cs else (9, L) := HLT.out
    obtain ⟨v, rfl, hv⟩ := hmm
    have HCS := Lib.hid hv
    obtain ⟨hcl, A1, c1, rfl, -, -, -⟩ := hv
    by_cases hne : args.length = cs.length
    · have b1 : ((cs.length : Int) != (args.length : Int)) = false := by simp [hne]
      rw [if_pos hne] at hR
      have HR := Lib.hid hR
      have HK1 := Lib.hid (HKB.out.below hb1)
      have HB1 := Lib.hid (HON.out.trans (hb1.mono HON.out.size))
      have HX1 := Lib.hid hx1
      have HWW := Lib.hid (HW0.out.trans (hb1.mono HW0.out.size))
      have hz1 := hb1.size
      obtain ⟨csl, hcsl⟩ : ∃ csl, cs.length = csl := ⟨_, rfl⟩
      rw [hcsl] at b1
      clear hb1 hx1 hR
      rw [hcsl] at hne
      have HNE := Lib.hid hne
      have HCSL := Lib.hid hcsl
      rw [hcsl]
      clear hne hcsl
      go_wp2
      go_loopw [7] (fun i wr => ∃ (k : Nat) (L1 : List Co) (lv1 : Value), i = .int .i64 k ∧ k ≤ args.length ∧ argsT (!n) L1 (args.drop k) (cs.drop k) = R ∧ EnvAt base wr g kA kc ks S lv1 L1 (m + k) ∧ OnlyK g g (.slice lA L.length lc) lv1 w1 wr) (fun i _ => args.length - (intOf i).toNat)
      case atStart => exact ⟨0, L, _, rfl, Nat.zero_le _, by rw [HR.out, List.drop_zero, List.drop_zero], HK1.out, OnlyK.refl _ _ _ _⟩
      case round =>
        obtain ⟨k, L1, lv1, rfl, hk, hR1, hK, hO⟩ := hrel
        have hbr := HWW.out.trans (hO.below HWW.out.size (fun j hj => Nat.le_trans hw0 (HMT.out j hj).1))
        have HBR := Lib.hid hbr
        have hbx := (hO.keep W.heap.size (by have := HZ.out; omega) (fun hm2 => by have := (HMT.out _ hm2).2; omega)).trans HX1.out
        have hcr := HCS.out.keep (hO.keepQ (fun j hq _ hm2 => by
          have hq : (W.alloc (.cells #[.bool n, .string nm, .slice A args.length c, .int .i64 o] 46)).heap.size ≤ j := hq
          have := (HMT.out j hm2).2
          rw [HZ.out] at hq
          omega))
        have HBOX := Lib.hid hbx
        have HK := Lib.hid hK
        have HOK := Lib.hid hO
        have HR1 := Lib.hid hR1
        clear n0 n1 n2 n3
        obtain ⟨n0, n1, n2, n3⟩ := four_cells hbx
        by_cases hlt : k < args.length
        · obtain ⟨t, ht⟩ : ∃ t, args[k]? = some t := ⟨_, List.getElem?_eq_getElem hlt⟩
          obtain ⟨cc, hc⟩ : ∃ cc, cs[k]? = some cc := ⟨_, List.getElem?_eq_getElem (by rw [HCSL.out, ← HNE.out]; exact hlt)⟩
          have htz := HS.out t (List.mem_of_getElem? ht)
          obtain ⟨ad0, hA0, x0, x1, x2, x3, x4, x5⟩ := els_T HX.out ht
          obtain ⟨ad, rfl, a0, a1, a2, a3, a4, a5⟩ := els_T (HX.out.below HBR.out) ht
          injection hA0 with hA0
          subst hA0
          have hab : (ad.add (k * 6)).block < base := Nat.lt_of_lt_of_le (World.block_lt_of_cell? w0 _ x0) hw0
          have hcx := hcr
          obtain ⟨-, A3, c3, e3, -, -, hcc⟩ := hcr
          injection e3 with e3 e4 e5
          subst e3 e5
          obtain ⟨ac, rfl, hcb, d0, d1, d2⟩ := hcc.col k cc hc
          obtain ⟨ac', e6, hq6, hc6⟩ := hcc _ _ (flatC_at cs k _ hc).1
          injection e6 with e6
          subst e6
          obtain ⟨tn, ta, ⟨tk, tf, tv, tt⟩⟩ := t
          obtain ⟨cn, ck, cl⟩ := cc
          simp only at a0 a1 a2 a3 a4 a5 d0 d1 d2 htz
          have hna : ¬ MutK g g lv1 (ad.add (k * 6)).block := fun hm2 => by have := (hK.mt _ hm2).1; omega
          have hnl : ¬ MutK g g lv1 W.heap.size := fun hm2 => by
            have h5 := (HMT.out _ (hO.mt _ (by have := HZ.out; omega) hm2)).2
            omega
          have hq6' : (W.alloc (.cells #[.bool n, .string nm, .slice (some ad) args.length c, .int .i64 o] 46)).heap.size ≤ (ac.add (k * 3)).block := hq6
          have hnc : ¬ MutK g g lv1 (ac.add (k * 3)).block := fun hm2 => by
            obtain ⟨-, A9, c9, e9, -, -, h9⟩ := HCS.out
            injection e9 with e9 _ _
            subst e9
            obtain ⟨a9, f1, f2, f3⟩ := h9 _ _ (flatC_at cs k _ hc).1
            injection f1 with f1
            subst f1
            have h5 := (HMT.out _ (hO.mt _ (World.block_lt_of_cell? w1 _ f3) hm2)).2
            rw [HZ.out] at hq6'
            omega
          have HCL : Hid (∀ w2 : World, (∀ q, ¬ MutK g g lv1 q → q < wr.heap.size → w2.heap[q]? = wr.heap[q]?) → (w2.cell? (ad.add (k * 6)) = some (.string tn) ∧ w2.cell? { block := (ad.add (k * 6)).block, off := (ad.add (k * 6)).off + 1 } = some (.bool ta) ∧ w2.cell? { block := (ad.add (k * 6)).block, off := (ad.add (k * 6)).off + 2 } = some (.int .i64 tk) ∧ w2.cell? { block := (ad.add (k * 6)).block, off := (ad.add (k * 6)).off + 3 } = some (.bool tf) ∧ w2.cell? { block := (ad.add (k * 6)).block, off := (ad.add (k * 6)).off + 4 } = some (.int .i64 tv) ∧ w2.cell? { block := (ad.add (k * 6)).block, off := (ad.add (k * 6)).off + 5 } = some (.string tt)) ∧ (w2.cell? (ac.add (k * 3)) = some (.string cn) ∧ w2.cell? { block := (ac.add (k * 3)).block, off := (ac.add (k * 3)).off + 1 } = some (.int .i64 ck) ∧ w2.cell? { block := (ac.add (k * 3)).block, off := (ac.add (k * 3)).off + 2 } = some (.bool cl)) ∧ (w2.cell? ⟨W.heap.size, 0, none⟩ = some (.bool n) ∧ w2.cell? ⟨W.heap.size, 1, none⟩ = some (.string nm) ∧ w2.cell? ⟨W.heap.size, 2, none⟩ = some (.slice (some ad) args.length c) ∧ w2.cell? ⟨W.heap.size, 3, none⟩ = some (.int .i64 o))) := Lib.hid fun w2 hw2 => by
            have q1 : ∀ (p : Addr) (v : Value), p.block = (ad.add (k * 6)).block → wr.cell? p = some v → w2.cell? p = some v := fun p v hp h => (World.cell?_of_block (w := wr) (w' := w2) (a := p) (by rw [hp]; exact hw2 _ hna (World.block_lt_of_cell? wr _ a0))).trans h
            have q2 : ∀ (p : Addr) (v : Value), p.block = (ac.add (k * 3)).block → wr.cell? p = some v → w2.cell? p = some v := fun p v hp h => (World.cell?_of_block (w := wr) (w' := w2) (a := p) (by rw [hp]; exact hw2 _ hnc hcb)).trans h
            exact ⟨⟨q1 _ _ rfl a0, q1 _ _ rfl a1, q1 _ _ rfl a2, q1 _ _ rfl a3, q1 _ _ rfl a4, q1 _ _ rfl a5⟩, ⟨q2 _ _ rfl d0, q2 _ _ rfl d1, q2 _ _ rfl d2⟩, four_cells ((hw2 _ hnl (Array.getElem?_eq_some_iff.1 HBOX.out).1).trans HBOX.out)⟩
          have HAR := Lib.hid (e_arg (hK.below (Below.refl _ _).drew) (by omega) ⟨tn, ta, ⟨tk, tf, tv, tt⟩⟩ htz ⟨cn, ck, cl⟩ (!n))
          have hR9 := HR1.out
          rw [argsT_step _ _ _ _ k _ _ ht hc] at hR9
          have HR9 := Lib.hid hR9
          generalize argT L1 (!n) ⟨tn, ta, ⟨tk, tf, tv, tt⟩⟩ ⟨cn, ck, cl⟩ = X at *
          obtain ⟨z, L2⟩ := X
          simp only at HR9
          have hkc : k < csl := by have := HNE.out; omega
          have hki : (k : Int) < (csl : Int) := by omega
          obtain ⟨A4, c4, hl4, -⟩ := hK.slice
          clear hR1 hK hO hR9 htz ht hc hcb hcc hna hnl hnc hq6 hq6' hc6 x0 x1 x2 x3 x4 x5 hab hcx hbx hbr
          subst hl4
          go_wp2
          go_region_held3 (fun w' : World => w'.cell? (ad.add (k * 6)) = some (Value.string tn) ∧ w'.cell? { block := (ad.add (k * 6)).block, off := (ad.add (k * 6)).off + 1 } = some (Value.bool ta) ∧ w'.cell? { block := (ad.add (k * 6)).block, off := (ad.add (k * 6)).off + 2 } = some (Value.int .i64 tk) ∧ w'.cell? { block := (ad.add (k * 6)).block, off := (ad.add (k * 6)).off + 3 } = some (Value.bool tf) ∧ w'.cell? { block := (ad.add (k * 6)).block, off := (ad.add (k * 6)).off + 4 } = some (Value.int .i64 tv) ∧ w'.cell? { block := (ad.add (k * 6)).block, off := (ad.add (k * 6)).off + 5 } = some (Value.string tt) ∧ w'.cell? (ac.add (k * 3)) = some (Value.string cn) ∧ w'.cell? { block := (ac.add (k * 3)).block, off := (ac.add (k * 3)).off + 1 } = some (Value.int .i64 ck) ∧ w'.cell? { block := (ac.add (k * 3)).block, off := (ac.add (k * 3)).off + 2 } = some (Value.bool cl) ∧ w'.cell? ⟨W.heap.size, 0, none⟩ = some (Value.bool n) ∧ w'.cell? ⟨W.heap.size, 1, none⟩ = some (Value.string nm) ∧ w'.cell? ⟨W.heap.size, 2, none⟩ = some (Value.slice (some ad) args.length c) ∧ w'.cell? ⟨W.heap.size, 3, none⟩ = some (Value.int .i64 o)) (go_keep)
            (first
              | (go_at_call 72; refine HAR.out.mono ?_; rintro e w2 ⟨lv2, rfl, hk2, ho2⟩; have HK2 := Lib.hid hk2; have HO2 := Lib.hid (HOK.out.trans ((OnlyK.of_below (Below.refl _ _).drew).trans ho2)); obtain ⟨⟨u0, u1, u2, u3, u4, u5⟩, ⟨v0, v1, v2⟩, ⟨m0, m1, m2, m3⟩⟩ := HCL.out w2 (fun q hq hl => ho2.keep q hl hq); clear hk2 ho2))
          all_goals
            clear a0 a1 a2 a3 a4 a5 d0 d1 d2 n0 n1 n2 n3
            by_cases hz0 : z = 0
            · have HRN := Lib.hid (HR9.out.symm.trans (if_pos hz0))
              have bz : (z != 0) = false := by simpa using hz0
              clear hz0
              go_wp2
              go_roundw
              case rel => exact ⟨k + 1, L2, lv2, by go_num, by omega, HRN.out.symm, HK2.out, HO2.out⟩
              case measure => simp [intOf]; omega
            · have HRN := Lib.hid (HR9.out.symm.trans (if_neg hz0))
              have bz : (z != 0) = true := by simpa using hz0
              have HFI2 : Hid (EArg base W g kA kc ks S (.slice lA L.length lc) (m + args.length) R (.returned (.int .i64 z)) w2) := Lib.hid (by rw [HRN.out]; exact ⟨_, rfl, HK2.out.mono (by omega), (OnlyK.of_below HB1.out).trans HO2.out⟩)
              clear hz0
              go_wp2
              go_ret
              exact HFI2.out
        · have hkk : k = args.length := by omega
          have hR2 := HR1.out
          rw [argsT_end _ _ _ _ _ (by omega)] at hR2
          have HFI2 : Hid (EArg base W g kA kc ks S (.slice lA L.length lc) (m + args.length) R (.returned (.int .i64 0)) wr) := Lib.hid (by rw [← hR2, ← hkk]; exact ⟨lv1, rfl, HK.out, (OnlyK.of_below HB1.out).trans HOK.out⟩)
          have hkc : ¬ k < csl := by have := HNE.out; omega
          clear hR1 hK hO hcr hR2 hkk hbx hbr
          go_wp2
          go_ret
          exact HFI2.out
    · have b1 : ((cs.length : Int) != (args.length : Int)) = true := by rw [bne_iff_ne]; omega
      rw [if_neg hne] at hR
      have HFI2 : Hid (EArg base W g kA kc ks S (.slice lA L.length lc) (m + args.length) R (.returned (.int .i64 9)) w1) := Lib.hid (by rw [hR]; exact ⟨_, rfl, (HKB.out.below hb1).mono (by omega), OnlyK.of_below (HON.out.trans (hb1.mono HON.out.size))⟩)
      clear hb1 hx1 hne
      go_wp2
      go_ret
      exact HFI2.out
end
end Go.Proofs.Ythdjkagodccdbaa
namespace Go.Proofs.Ythdjkagodccdbaa
section
open Go.RowKit Go.Maps

/-- What is answered: columns of one's own, a place, a number. -/
def EVarIs (w : World) (R : List Co × Int × Int) (e : Ending) (w' : World) : Prop := ∃ v m, e = .returned (.tuple #[v, .int .i64 R.2.1, .int .i64 R.2.2]) ∧ m ≤ 900000 ∧ OwnC w' (w.heap.size + 1) v R.1 ∧ GoodC R.1 m ∧ Below w.heap.size w w'
theorem EVarIs.typ {w : World} {R : List Co × Int × Int} {e : Ending} {w' : World} (h : EVarIs w R e w') : TypIs w R e w' := by
  obtain ⟨v, m, rfl, hm, ho, hg, hb⟩ := h
  exact ⟨v, rfl, own_cols ho (by have := hg.len; omega) (Nat.le_succ _), hb⟩
theorem litT_atom (S : List Sc) (L : List Co) (x : LmG) (h : x.o = 0) : litT S [] L x.li = atomT S [] L x.li := if_pos h
theorem litT_cmp (S : List Sc) (L : List Co) (x : LmG) (h : x.o ≠ 0) : litT S [] L x.li = (cmpT L x.args, L) := if_neg h
set_option maxRecDepth 100000 in
set_option maxHeartbeats 8000000 in
theorem e_Vars (r : RuG) (Q : Nat → Prop) (S : List Sc) (kA : Option Addr) (ls : List RS) (kc : Nat) (w : World) (hr : r.Ok w) (hsm : SmlT r) (hf : ∀ x ∈ S, x.cols.length ≤ 900000) (hl : ScR w Q ls S) (hcv : CellsQ w Q kA (flatS ls)) (hsl : S.length ≤ 1000000) :
    Calls Try.prog 34 #[.agg r.cells, .slice kA S.length kc, .slice none 0 0] w (EVarIs w (varsZ S [] r.pl)) := by
  obtain ⟨k0, nm, hA, hc, head, ag, ofv, lim, bA, bc, body⟩ := r
  obtain ⟨hx, hbl, hal⟩ : LgsAt w bA body ∧ body.length ≤ 41 ∧ ∀ x ∈ body, x.args.length ≤ 5000 ∧ x.s.size ≤ maxLen ∧ ∀ t ∈ x.args, t.s.size ≤ maxLen := ⟨hr.2, hsm.2.2.2.1, hsm.2.2.2.2⟩
  obtain ⟨W1, hW1⟩ : ∃ W1, W1 = (w.alloc (.cells #[.int .i64 k0, .string nm, .slice hA head.length hc, .int .i64 ag, .string ofv, .int .i64 lim, .slice bA body.length bc] 27)).alloc (.cells #[.slice kA S.length kc, .slice none 0 0, .slice none 0 0] 80) := ⟨_, rfl⟩
  have hz1 : (w.alloc (.cells #[.int .i64 k0, .string nm, .slice hA head.length hc, .int .i64 ag, .string ofv, .int .i64 lim, .slice bA body.length bc] 27)).heap.size = w.heap.size + 1 := World.size_alloc _ _
  have hz2 : W1.heap.size = w.heap.size + 2 := by rw [hW1, World.size_alloc, hz1]
  have hb1 : Below w.heap.size w W1 := by rw [hW1]; exact (one_new w _).trans ((one_new _ _).mono (by rw [hz1]; omega))
  have hx0 : W1.heap[w.heap.size]? = some (.cells #[.int .i64 k0, .string nm, .slice hA head.length hc, .int .i64 ag, .string ofv, .int .i64 lim, .slice bA body.length bc] 27 (0, 0)) := by rw [hW1]; exact (Below.heap_alloc _ _ _ (by rw [hz1]; omega)).trans (heap_alloc_new w _)
  have hx1 : W1.heap[w.heap.size + 1]? = some (.cells #[.slice kA S.length kc, .slice none 0 0, .slice none 0 0] 80 (0, 0)) := by
    have h := heap_alloc_new (w.alloc (.cells #[.int .i64 k0, .string nm, .slice hA head.length hc, .int .i64 ag, .string ofv, .int .i64 lim, .slice bA body.length bc] 27)) (.cells #[.slice kA S.length kc, .slice none 0 0, .slice none 0 0] 80)
    rw [hz1] at h
    rw [hW1]
    exact h
  have hk0 : EnvAt (w.heap.size + 1) W1 (w.heap.size + 1) kA kc ls S (.slice none 0 0) [] 0 := ⟨hx1, (hl.imp (Q' := fun k => k < w.heap.size + 1) (fun k hk _ => Nat.lt_succ_of_lt hk)).keep (Below.keepQ hb1 _), (hcv.imp (Q' := fun k => k < w.heap.size + 1) (fun k hk _ => Nat.lt_succ_of_lt hk)).below hb1, OwnC.nil _ _, GoodC.nil, (fun h => by cases h), Nat.le_refl _⟩
  have HLI : Hid (∀ (w9 : World) (L2 : List Co) (lv2 : Value) (m2 : Nat) (x : LmG), x ∈ body → EnvAt (w.heap.size + 1) w9 (w.heap.size + 1) kA kc ls S lv2 L2 m2 → Below w.heap.size w w9 → m2 ≤ 600000 → Calls Try.prog 50 #[.pointer (some ⟨w.heap.size + 1, 0, none⟩), .agg #[.bool x.n, .string x.s, .slice x.A x.args.length x.c, .int .i64 x.o]] w9 (EArg (w.heap.size + 1) w9 (w.heap.size + 1) kA kc ls S lv2 (m2 + x.args.length) (atomT S [] L2 x.li))) := Lib.hid fun w9 L2 lv2 m2 x hxm hk hb hm => e_atom hk w (Nat.le_succ _) hb hsl hf x (hx.2 x hxm) (by have := (hal x hxm).1; omega) (hal x hxm).2.2 (hal x hxm).1
  have HLC : Hid (∀ (w9 : World) (L2 : List Co) (lv2 : Value) (m2 : Nat) (x : LmG), x ∈ body → EnvAt (w.heap.size + 1) w9 (w.heap.size + 1) kA kc ls S lv2 L2 m2 → Below w.heap.size w w9 → m2 ≤ 600000 → Calls Try.prog 51 #[.pointer (some ⟨w.heap.size + 1, 0, none⟩), .agg #[.bool x.n, .string x.s, .slice x.A x.args.length x.c, .int .i64 x.o]] w9 fun e W' => e = .returned (.int .i64 (cmpT L2 x.args)) ∧ Below w9.heap.size w9 W') := Lib.hid fun w9 L2 lv2 m2 x hxm hk hb hm => e_comparison hk (by omega) x (Nat.le_trans (hal x hxm).1 (by decide)) ((hx.2 x hxm).below hb)
  have HV0 := Lib.hid (varsZ_ok S [] (RuG.pl ⟨k0, nm, hA, hc, head, ag, ofv, lim, bA, bc, body⟩))
  have HVN := Lib.hid (varsZ_no S [] (RuG.pl ⟨k0, nm, hA, hc, head, ag, ofv, lim, bA, bc, body⟩))
  generalize varsZ S [] (RuG.pl ⟨k0, nm, hA, hc, head, ag, ofv, lim, bA, bc, body⟩) = R0 at *
  simp only at HV0 HVN
  have HST : Hid (knowT S [] (body.map LmG.li) = contB S [] (body.map LmG.li) true (passT S [] true [] 0 ((body.map LmG.li).drop 0))) := Lib.hid (contB_start S [] _)
  generalize knowT S [] (body.map LmG.li) = K at *
  show Calls Try.prog 34 #[.agg #[.int .i64 k0, .string nm, .slice hA head.length hc, .int .i64 ag, .string ofv, .int .i64 lim, .slice bA body.length bc], .slice kA S.length kc, .slice none 0 0] w (EVarIs w R0)
  obtain ⟨bl, hbn⟩ : ∃ bl, body.length = bl := ⟨_, rfl⟩
  obtain ⟨hn, hhn⟩ : ∃ hn, head.length = hn := ⟨_, rfl⟩
  rw [hbn, hhn] at hW1 hx0
  rw [hbn] at hbl
  rw [hbn, hhn]
  have HX := Lib.hid hx.1
  have HAL := Lib.hid hal
  have HBL := Lib.hid hbl
  have HBN := Lib.hid hbn
  have HK0 := Lib.hid hk0
  have HBW := Lib.hid hb1
  have HMT : Hid (∀ j, MutK (w.heap.size + 1) (w.heap.size + 1) (.slice none 0 0) j → w.heap.size + 1 ≤ j) := Lib.hid fun j hj => (hk0.mt j hj).1
  have HRB : Hid (∀ w9, Below (w.heap.size + 1) W1 w9 → w9.cell? ⟨w.heap.size, 0, none⟩ = some (.int .i64 k0) ∧ w9.cell? ⟨w.heap.size, 1, none⟩ = some (.string nm) ∧ w9.cell? ⟨w.heap.size, 2, none⟩ = some (.slice hA hn hc) ∧ w9.cell? ⟨w.heap.size, 3, none⟩ = some (.int .i64 ag) ∧ w9.cell? ⟨w.heap.size, 4, none⟩ = some (.string ofv) ∧ w9.cell? ⟨w.heap.size, 5, none⟩ = some (.int .i64 lim) ∧ w9.cell? ⟨w.heap.size, 6, none⟩ = some (.slice bA bl bc)) := Lib.hid fun w9 hb => box7g_of ((hb.block w.heap.size (Nat.lt_succ_self _)).trans hx0)
  have HB01 : Hid (Below (w.heap.size + 1) W1 W1) := Lib.hid (Below.refl _ _)
  have HZ2 := Lib.hid hz2
  have HBE0 : Hid (∀ {w9 : World} {lv9 : Value}, OnlyK (w.heap.size + 1) (w.heap.size + 1) (.slice none 0 0) lv9 W1 w9 → Below (w.heap.size + 1) W1 w9) := Lib.hid fun ho => ho.below (by rw [hz2]; omega) (fun j hj => (hk0.mt j hj).1)
  have HBE : Hid (∀ {w9 : World} {lv9 : Value}, OnlyK (w.heap.size + 1) (w.heap.size + 1) (.slice none 0 0) lv9 W1 w9 → Below w.heap.size w w9) := Lib.hid fun ho => hb1.trans ((HBE0.out ho).mono (Nat.le_succ _))
  obtain ⟨n0, n1, n2, n3, n4, n5, n6⟩ := HRB.out W1 HB01.out
  clear hr hsm hf hl hcv hsl hx hbl hal hbn hhn hb1 hx0 hx1 hk0 hz2 hz1
  go_enter Try.func34, Try.ntmps34
  go_wp2
  rw [← hW1]
  clear hW1
  go_loopw [10] (fun i wr => ∃ (k : Nat) (L2 : List Co) (lv2 : Value) (m2 : Nat), i = .int .i64 k ∧ k ≤ bl ∧ m2 ≤ k * 5000 ∧ Hid (K = contB S [] (body.map LmG.li) true (passT S [] true L2 k ((body.map LmG.li).drop k))) ∧ EnvAt (w.heap.size + 1) wr (w.heap.size + 1) kA kc ls S lv2 L2 m2 ∧ OnlyK (w.heap.size + 1) (w.heap.size + 1) (.slice none 0 0) lv2 W1 wr) (fun i _ => bl - (intOf i).toNat)
  case atStart => exact ⟨0, [], .slice none 0 0, 0, rfl, Nat.zero_le _, Nat.zero_le _, HST, HK0.out, OnlyK.refl _ _ _ _⟩
  case round =>
    obtain ⟨k, L2, lv2, m2, rfl, hk, hm2, HCK, hK, hO⟩ := hrel
    have hbr0 := HBE0.out hO
    have hbr := HBE.out hO
    have HBR := Lib.hid hbr
    have HK2 := Lib.hid hK
    have HO2 := Lib.hid hO
    have hbl := HBL.out
    obtain ⟨n0, n1, n2, n3, n4, n5, n6⟩ := HRB.out wr hbr0
    clear hK hO hbr hbr0 n0 n1 n2 n3 n4 n5
    by_cases hlt : k < bl
    · obtain ⟨x, hxk⟩ : ∃ x, body[k]? = some x := ⟨_, List.getElem?_eq_getElem (by rw [HBN.out]; exact hlt)⟩
      have hxm := List.mem_of_getElem? hxk
      obtain ⟨ad, rfl, a0, a1, a2, a3⟩ := els_L (HX.out.below HBR.out) hxk
      have HXK := Lib.hid hxk
      have hal := (HAL.out x hxm).1
      have HAT : Hid (∀ w9, Below wr.heap.size wr w9 → Calls Try.prog 50 #[.pointer (some ⟨w.heap.size + 1, 0, none⟩), .agg #[.bool x.n, .string x.s, .slice x.A x.args.length x.c, .int .i64 x.o]] w9 (EArg (w.heap.size + 1) w9 (w.heap.size + 1) kA kc ls S lv2 (m2 + x.args.length) (atomT S [] L2 x.li))) := Lib.hid fun w9 hb9 => HLI.out w9 L2 lv2 m2 x hxm (HK2.out.below hb9) (HBR.out.trans (hb9.mono HBR.out.size)) (by omega)
      have HSK : Hid (atomB x.li ≠ true → K = contB S [] (body.map LmG.li) true (passT S [] true L2 (k + 1) ((body.map LmG.li).drop (k + 1)))) := Lib.hid fun hb => HCK.out.trans (cont_skip S [] body true L2 k x HXK.out hb)
      have HTK : Hid (x.o = 0 → x.n = false → (atomT S [] L2 x.li).1 = 0 → K = contB S [] (body.map LmG.li) true (passT S [] true (atomT S [] L2 x.li).2 (k + 1) ((body.map LmG.li).drop (k + 1)))) := Lib.hid fun ho hn hz => by
        have e := litT_atom S L2 x ho
        rw [← e] at hz ⊢
        exact HCK.out.trans (cont_take S [] body true L2 k x HXK.out (by unfold atomB; simp [ho, hn]) hz)
      have HTP : Hid (x.o = 0 → x.n = false → (atomT S [] L2 x.li).1 ≠ 0 → K = (L2, k, (atomT S [] L2 x.li).1)) := Lib.hid fun ho hn hz => by
        have e := litT_atom S L2 x ho
        rw [← e] at hz ⊢
        exact HCK.out.trans (cont_stop S [] body true L2 k x HXK.out (by unfold atomB; simp [ho, hn]) hz)
      have HAB : Hid (x.o ≠ 0 ∨ x.n = true → atomB x.li ≠ true) := Lib.hid fun h => by unfold atomB; rcases h with h | h <;> simp [h]
      generalize atomT S [] L2 x.li = R at *
      generalize atomB x.li = ab at *
      obtain ⟨xn, xs, xA, xc, xa, xo⟩ := x
      simp only at a0 a1 a2 a3 hal HAT HTK HTP HAB
      obtain ⟨xl, hxl⟩ : ∃ xl, xa.length = xl := ⟨_, rfl⟩
      simp only [hxl] at *
      clear hxk hxm hxl
      by_cases ho : xo = 0
      · have bo : (xo == 0) = true := by simpa using ho
        cases xn with
        | true =>
          have HKK := Lib.hid (HSK.out (HAB.out (.inr rfl)))
          clear ho
          go_wp2
          go_roundw
          case rel => exact ⟨k + 1, L2, lv2, m2, by go_num, by omega, by omega, HKK, HK2.out.below (Below.refl _ _), HO2.out.trans (OnlyK.of_below (Below.refl _ _))⟩
          case measure => simp [intOf]; omega
        | false =>
          obtain ⟨why, L3⟩ := R
          by_cases hz : why = 0
          · have HKK := Lib.hid (HTK.out ho rfl hz)
            have bz : (why != 0) = false := by simpa using hz
            clear hz ho
            go_wp2_with (go_at_call 50; refine (HAT.out _ (Below.refl _ _)).mono ?_; rintro e w4 ⟨lv4, rfl, hk4, ho4⟩; have HK4 := Lib.hid hk4; have HO4 := Lib.hid (HO2.out.trans ((OnlyK.of_below (Below.refl _ _)).trans ho4)); obtain ⟨n0, n1, n2, n3, n4, n5, n6⟩ := HRB.out w4 (HBE0.out HO4.out); clear hk4 ho4)
            go_roundw
            case rel => exact ⟨k + 1, L3, lv4, m2 + xl, by go_num, by omega, by omega, HKK, HK4.out, HO4.out⟩
            case measure => simp [intOf]; omega
          · have HKK := Lib.hid (HTP.out ho rfl hz)
            have bz : (why != 0) = true := by simpa using hz
            have HV := Lib.hid (HVN.out (by rw [HKK.out]; exact hz))
            rw [HKK.out] at HV
            clear hz ho
            go_wp2_with (go_at_call 50; refine (HAT.out _ (Below.refl _ _)).mono ?_; rintro e w4 ⟨lv4, rfl, hk4, ho4⟩; have HK4 := Lib.hid hk4; have HO4 := Lib.hid (HO2.out.trans ((OnlyK.of_below (Below.refl _ _)).trans ho4)); obtain ⟨n0, n1, n2, n3, n4, n5, n6⟩ := HRB.out w4 (HBE0.out HO4.out); clear hk4 ho4)
            go_ret3
            exact ⟨_, 0, by rw [HV.out]; rfl, by omega, by rw [HV.out]; exact OwnC.nil _ _, by rw [HV.out]; exact GoodC.nil, HBE.out HO4.out⟩
      · have bo : (xo == 0) = false := by simpa using ho
        have HKK := Lib.hid (HSK.out (HAB.out (.inl ho)))
        clear ho
        go_wp2
        go_roundw
        case rel => exact ⟨k + 1, L2, lv2, m2, by go_num, by omega, by omega, HKK, HK2.out.below (Below.refl _ _), HO2.out.trans (OnlyK.of_below (Below.refl _ _))⟩
        case measure => simp [intOf]; omega
    · have HCE := Lib.hid ((HCK.out.trans (cont_end S [] body true L2 k (by have := HBN.out; omega))).trans (contB_true S [] _ L2))
      have hm3 : m2 ≤ 205000 := by have := HBL.out; omega
      have hkn : ¬ k < bl := hlt
      clear hlt hk hm2
      go_wp2
      go_loopw [12] (fun i wr => ∃ (k : Nat) (L2 : List Co) (lv2 : Value) (m2 : Nat), i = .int .i64 k ∧ k ≤ bl ∧ m2 ≤ 205000 + k * 5000 ∧ Hid (K = contB S [] (body.map LmG.li) false (passT S [] false L2 k ((body.map LmG.li).drop k))) ∧ EnvAt (w.heap.size + 1) wr (w.heap.size + 1) kA kc ls S lv2 L2 m2 ∧ OnlyK (w.heap.size + 1) (w.heap.size + 1) (.slice none 0 0) lv2 W1 wr) (fun i _ => bl - (intOf i).toNat)
      case atStart => exact ⟨0, L2, lv2, m2, rfl, Nat.zero_le _, by omega, HCE, HK2.out, HO2.out⟩
      case round =>
        obtain ⟨k, L2, lv2, m2, rfl, hk, hm2, HCK, hK, hO⟩ := hrel
        clear n0 n1 n2 n3 n4 n5 n6
        have hbr0 := HBE0.out hO
        have hbr := HBE.out hO
        have HBR := Lib.hid hbr
        have HK2 := Lib.hid hK
        have HO2 := Lib.hid hO
        have hbl := HBL.out
        obtain ⟨n0, n1, n2, n3, n4, n5, n6⟩ := HRB.out wr hbr0
        clear hK hO hbr hbr0
        by_cases hlt : k < bl
        · obtain ⟨x, hxk⟩ : ∃ x, body[k]? = some x := ⟨_, List.getElem?_eq_getElem (by rw [HBN.out]; exact hlt)⟩
          have hxm := List.mem_of_getElem? hxk
          obtain ⟨ad, rfl, a0, a1, a2, a3⟩ := els_L (HX.out.below HBR.out) hxk
          have HXK := Lib.hid hxk
          have hal := (HAL.out x hxm).1
          have HAT : Hid (∀ w9, Below wr.heap.size wr w9 → Calls Try.prog 50 #[.pointer (some ⟨w.heap.size + 1, 0, none⟩), .agg #[.bool x.n, .string x.s, .slice x.A x.args.length x.c, .int .i64 x.o]] w9 (EArg (w.heap.size + 1) w9 (w.heap.size + 1) kA kc ls S lv2 (m2 + x.args.length) (atomT S [] L2 x.li))) := Lib.hid fun w9 hb9 => HLI.out w9 L2 lv2 m2 x hxm (HK2.out.below hb9) (HBR.out.trans (hb9.mono HBR.out.size)) (by omega)
          have HCM : Hid (∀ w9, Below wr.heap.size wr w9 → Calls Try.prog 51 #[.pointer (some ⟨w.heap.size + 1, 0, none⟩), .agg #[.bool x.n, .string x.s, .slice x.A x.args.length x.c, .int .i64 x.o]] w9 fun e W' => e = .returned (.int .i64 (cmpT L2 x.args)) ∧ Below w9.heap.size w9 W') := Lib.hid fun w9 hb9 => HLC.out w9 L2 lv2 m2 x hxm (HK2.out.below hb9) (HBR.out.trans (hb9.mono HBR.out.size)) (by omega)
          have HSK : Hid (x.o = 0 → x.n = false → K = contB S [] (body.map LmG.li) false (passT S [] false L2 (k + 1) ((body.map LmG.li).drop (k + 1)))) := Lib.hid fun ho hn => HCK.out.trans (cont_skip S [] body false L2 k x HXK.out (by unfold atomB; simp [ho, hn]))
          have HTK : Hid (x.o = 0 → x.n = true → (atomT S [] L2 x.li).1 = 0 → K = contB S [] (body.map LmG.li) false (passT S [] false (atomT S [] L2 x.li).2 (k + 1) ((body.map LmG.li).drop (k + 1)))) := Lib.hid fun ho hn hz => by
            have e := litT_atom S L2 x ho
            rw [← e] at hz ⊢
            exact HCK.out.trans (cont_take S [] body false L2 k x HXK.out (by unfold atomB; simp [ho, hn]) hz)
          have HTP : Hid (x.o = 0 → x.n = true → (atomT S [] L2 x.li).1 ≠ 0 → K = (L2, k, (atomT S [] L2 x.li).1)) := Lib.hid fun ho hn hz => by
            have e := litT_atom S L2 x ho
            rw [← e] at hz ⊢
            exact HCK.out.trans (cont_stop S [] body false L2 k x HXK.out (by unfold atomB; simp [ho, hn]) hz)
          have HCT : Hid (x.o ≠ 0 → cmpT L2 x.args = 0 → K = contB S [] (body.map LmG.li) false (passT S [] false L2 (k + 1) ((body.map LmG.li).drop (k + 1)))) := Lib.hid fun ho hz => by
            have e := litT_cmp S L2 x ho
            have h := cont_take S [] body false L2 k x HXK.out (by unfold atomB; simp [ho]) (by rw [e]; exact hz)
            rw [e] at h
            exact HCK.out.trans h
          have HCP : Hid (x.o ≠ 0 → cmpT L2 x.args ≠ 0 → K = (L2, k, cmpT L2 x.args)) := Lib.hid fun ho hz => by
            have e := litT_cmp S L2 x ho
            have h := cont_stop S [] body false L2 k x HXK.out (by unfold atomB; simp [ho]) (by rw [e]; exact hz)
            rw [e] at h
            exact HCK.out.trans h
          generalize atomT S [] L2 x.li = R at *
          obtain ⟨xn, xs, xA, xc, xa, xo⟩ := x
          simp only at a0 a1 a2 a3 hal HAT HTK HTP HSK HCT HCP HCM
          generalize cmpT L2 xa = cz at *
          obtain ⟨xl, hxl⟩ : ∃ xl, xa.length = xl := ⟨_, rfl⟩
          simp only [hxl] at *
          clear hxk hxm hxl
          by_cases ho : xo = 0
          · have bo : (xo != 0) = false := by simpa using ho
            cases xn with
            | false =>
              have HKK := Lib.hid (HSK.out ho rfl)
              clear ho
              go_wp2
              go_roundw
              case rel => exact ⟨k + 1, L2, lv2, m2, by go_num, by omega, by omega, HKK, HK2.out, HO2.out⟩
              case measure => simp [intOf]; omega
            | true =>
              obtain ⟨why, L3⟩ := R
              by_cases hz : why = 0
              · have HKK := Lib.hid (HTK.out ho rfl hz)
                have bz : (why != 0) = false := by simpa using hz
                clear hz ho
                go_wp2_with (go_at_call 50; refine (HAT.out _ (Below.refl _ _)).mono ?_; rintro e w4 ⟨lv4, rfl, hk4, ho4⟩; have HK4 := Lib.hid hk4; have HO4 := Lib.hid (HO2.out.trans ((OnlyK.of_below (Below.refl _ _)).trans ho4)); obtain ⟨n0, n1, n2, n3, n4, n5, n6⟩ := HRB.out w4 (HBE0.out HO4.out); clear hk4 ho4)
                go_roundw
                case rel => exact ⟨k + 1, L3, lv4, m2 + xl, by go_num, by omega, by omega, HKK, HK4.out, HO4.out⟩
                case measure => simp [intOf]; omega
              · have HKK := Lib.hid (HTP.out ho rfl hz)
                have bz : (why != 0) = true := by simpa using hz
                have HV := Lib.hid (HVN.out (by rw [HKK.out]; exact hz))
                rw [HKK.out] at HV
                clear hz ho
                go_wp2_with (go_at_call 50; refine (HAT.out _ (Below.refl _ _)).mono ?_; rintro e w4 ⟨lv4, rfl, hk4, ho4⟩; have HK4 := Lib.hid hk4; have HO4 := Lib.hid (HO2.out.trans ((OnlyK.of_below (Below.refl _ _)).trans ho4)); obtain ⟨n0, n1, n2, n3, n4, n5, n6⟩ := HRB.out w4 (HBE0.out HO4.out); clear hk4 ho4)
                go_ret3
                exact ⟨_, 0, by rw [HV.out]; rfl, by omega, by rw [HV.out]; exact OwnC.nil _ _, by rw [HV.out]; exact GoodC.nil, HBE.out HO4.out⟩
          · have bo : (xo != 0) = true := by simpa using ho
            by_cases hz : cz = 0
            · have HKK := Lib.hid (HCT.out ho hz)
              have bz : (cz != 0) = false := by simpa using hz
              clear hz ho
              go_wp2_with (go_at_call 51; refine (HCM.out _ (Below.refl _ _)).mono ?_; rintro e w4 ⟨rfl, hb4⟩; have HK4 := Lib.hid (HK2.out.below hb4); have HO4 := Lib.hid (HO2.out.trans (OnlyK.of_below hb4)); obtain ⟨n0, n1, n2, n3, n4, n5, n6⟩ := HRB.out w4 (HBE0.out HO4.out); clear hb4)
              go_roundw
              case rel => exact ⟨k + 1, L2, lv2, m2, by go_num, by omega, by omega, HKK, HK4.out, HO4.out⟩
              case measure => simp [intOf]; omega
            · have HKK := Lib.hid (HCP.out ho hz)
              have bz : (cz != 0) = true := by simpa using hz
              have HV := Lib.hid (HVN.out (by rw [HKK.out]; exact hz))
              rw [HKK.out] at HV
              clear hz ho
              go_wp2_with (go_at_call 51; refine (HCM.out _ (Below.refl _ _)).mono ?_; rintro e w4 ⟨rfl, hb4⟩; have HK4 := Lib.hid (HK2.out.below hb4); have HO4 := Lib.hid (HO2.out.trans (OnlyK.of_below hb4)); obtain ⟨n0, n1, n2, n3, n4, n5, n6⟩ := HRB.out w4 (HBE0.out HO4.out); clear hb4)
              go_ret3
              exact ⟨_, 0, by rw [HV.out]; rfl, by omega, by rw [HV.out]; exact OwnC.nil _ _, by rw [HV.out]; exact GoodC.nil, HBE.out HO4.out⟩
        · have HCF := Lib.hid ((HCK.out.trans (cont_end S [] body false L2 k (by have := HBN.out; omega))).trans (contB_false S [] _ _))
          have HV := Lib.hid (HV0.out (by rw [HCF.out]))
          rw [HCF.out] at HV
          have hkn : ¬ k < bl := hlt
          have hlv : m2 ≤ 900000 := by omega
          have HLV := Lib.hid hlv
          obtain ⟨g0, g1, g2⟩ := three_cells HK2.out.box
          clear hlt hk hm2 hlv
          go_wp2
          go_ret3
          exact ⟨_, m2, by rw [HV.out]; rfl, HLV.out, by rw [HV.out]; exact HK2.out.own, by rw [HV.out]; exact HK2.out.good, HBE.out HO2.out⟩
end
end Go.Proofs.Ythdjkagodccdbaa
