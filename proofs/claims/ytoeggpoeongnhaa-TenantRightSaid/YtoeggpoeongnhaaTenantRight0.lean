/-
  TenantRight of verdererlaw09 answers true at every list of acts, in every world, and changes nothing that was there.
  No condition.
-/
import Derived.Test.YtoeggpoeongnhaaTnk
import Derived.Test.YtoeggpoeongnhaaTnr
import Derived.BigQuiet
namespace Go.Proofs.Ytoeggpoeongnhaa
open Go.RowKit Go.Maps

theorem ext_class9 (h : Nat) (w : World) (hh : h ≤ w.heap.size) : ∃ (E : Type) (X : E → World), Nonempty E ∧ (∀ e, Below h w (X e)) ∧ (∀ W, Below h w W → ∃ e, W = X e) ∧ ∀ e W, Below (X e).heap.size (X e) W → ∃ e2, W = X e2 :=
  ⟨{W : World // Below h w W}, Subtype.val, ⟨⟨w, Below.refl _ _⟩⟩, fun e => e.2, fun W hW => ⟨⟨W, hW⟩, rfl⟩, fun e W hW => ⟨⟨W, e.2.trans (hW.mono (Nat.le_trans hh e.2.size))⟩, rfl⟩⟩
theorem hasX_under {L : List Tn} {n m : ByteArray} (hm : (findN L m).isSome = true) : hasX m (underL L n) = hasX n (chn L m) := by
  cases h : hasX n (chn L m) with
  | true => exact hasX_iff.2 (underL_mem.2 ⟨hm, hasX_iff.1 h⟩)
  | false =>
    cases h2 : hasX m (underL L n) with
    | false => rfl
    | true =>
      obtain ⟨_, h3⟩ := underL_mem.1 (hasX_iff.1 h2)
      rw [hasX_iff.2 h3] at h
      cases h
theorem hasX_succ (ab : ByteArray) (ss : List ByteArray) (k : Nat) (s : ByteArray) (hs : ss[k]? = some s) : hasX ab (ss.drop k) = ((s.toList == ab.toList) || hasX ab (ss.drop (k + 1))) := by
  have hlt := (List.getElem?_eq_some_iff.1 hs).1
  rw [List.getElem?_eq_getElem hlt] at hs
  injection hs with hs
  rw [List.drop_eq_getElem_cons hlt, hs]
  rfl
set_option maxRecDepth 100000 in
set_option maxHeartbeats 2000000 in
theorem lw_hasT (ss : List ByteArray) (ab : ByteArray) (A : Option Addr) (c : Nat) (w : World) (hl : ss.length ≤ 1000) (hA : TxsAt w A ss) (hag : ∀ a, A = some a → ∃ g, a = ⟨g, 0, none⟩) :
    Calls Try.prog 50 #[.slice A ss.length c, .string ab] w fun e w' => e = .returned (.bool (hasX ab ss)) ∧ Below w.heap.size w w' := by
  have HA := Lib.hid hA
  have HAG := Lib.hid hag
  clear hA hag
  go_enter Try.func50, Try.ntmps50
  go_wp2
  go_loopw [5] (fun i wr => ∃ k : Nat, i = .int .i64 k ∧ k ≤ ss.length ∧ Hid (hasX ab ss = hasX ab (ss.drop k)) ∧ Below w.heap.size w wr) (fun i _ => ss.length - (intOf i).toNat)
  case atStart => exact ⟨0, rfl, by omega, Lib.hid rfl, Below.refl _ _⟩
  case round =>
    obtain ⟨k, rfl, hk, HH, hb⟩ := hrel
    have HB := Lib.hid hb
    have hta := HA.out.below hb
    clear hb
    by_cases hlt : k < ss.length
    · obtain ⟨g, rfl⟩ := hta.head HAG.out (by omega)
      obtain ⟨x, hx⟩ : ∃ x, ss[k]? = some x := ⟨_, List.getElem?_eq_getElem hlt⟩
      have c0 := hta.at k _ hx
      have hs := hasX_succ ab ss k x hx
      clear hta hx
      rcases Bool.eq_false_or_eq_true (x.toList == ab.toList) with he | he
      · have HE : Hid (hasX ab ss = true) := Lib.hid (by rw [HH.out, hs, he]; rfl)
        clear hs
        go_wp2
        go_ret
        exact ⟨by rw [HE.out]; rfl, HB.out⟩
      · have HE : Hid (hasX ab ss = hasX ab (ss.drop (k + 1))) := Lib.hid (by rw [HH.out, hs, he]; rfl)
        clear hs
        go_wp2
        go_roundw
        case rel => exact ⟨k + 1, by go_num, by omega, HE, HB.out⟩
        case measure => simp [intOf]; omega
    · have hkl : k = ss.length := by omega
      subst hkl
      have HE : Hid (hasX ab ss = false) := Lib.hid (by rw [HH.out, List.drop_length]; rfl)
      go_wp2
      go_ret
      exact ⟨by rw [HE.out]; rfl, HB.out⟩

set_option maxRecDepth 100000 in
set_option maxHeartbeats 8000000 in
theorem tenantRight_all (A : Option Addr) (c : Nat) (xs : List Ta) (n : Nat) (w : World) (hn : xs.length = n) (hA : TasAt w A xs) (hs : ∀ x ∈ xs, x.n.size ≤ maxLen ∧ x.p.size ≤ maxLen) :
    Calls Try.prog 8 #[.slice A n c] w fun e w' => e = .returned (.bool true) ∧ Below w.heap.size w w' := by
  have HA := Lib.hid hA
  have HS := Lib.hid hs
  clear hA hs
  go_enter Try.func8, Try.ntmps8
  go_wp2_with fail
  refine (t_new w).mono ?_
  rintro e w1 ⟨rfl, hb1, hT1⟩
  have HB1 := Lib.hid hb1
  have HT1 := Lib.hid hT1
  clear hb1 hT1
  go_wp2
  go_loopw [4] (fun i wr => ∃ (k : Nat) (D : DataW Value) (L : List Tn), k ≤ n ∧ k ≤ 100 ∧ i = .int .i64 k ∧ Hid (GoodT L) ∧ Hid (TreeB wr (w.heap.size + 1) w.heap.size D L) ∧ Below w.heap.size w wr) (fun i _ => n - (intOf i).toNat)
  case atStart => exact ⟨0, _, [], Nat.zero_le _, by omega, rfl, Lib.hid GoodT.empty, HT1, HB1.out⟩
  case round =>
    obtain ⟨k, D, L, hk, hk1, rfl, HG, HT, hb⟩ := hrel
    have HB := Lib.hid hb
    by_cases hlt : k < n ∧ k < 100
    · obtain ⟨hlt1, hlt2⟩ := hlt
      obtain ⟨⟨xk, xn, xp⟩, hx⟩ : ∃ x, xs[k]? = some x := ⟨_, List.getElem?_eq_getElem (by omega)⟩
      obtain ⟨a, rfl, hal, q0, q1, q2⟩ := HA.out k _ hx
      have c0 := (hb.cell (p := a.add (k * 3)) hal).trans q0
      have c1 := (hb.cell (p := { block := (a.add (k * 3)).block, off := (a.add (k * 3)).off + 1 }) hal).trans q1
      have c2 := (hb.cell (p := { block := (a.add (k * 3)).block, off := (a.add (k * 3)).off + 2 }) hal).trans q2
      obtain ⟨z1, z2⟩ := HS.out _ (List.mem_of_getElem? hx)
      simp only at c0 c1 c2 z1 z2 q1 q2
      have Q1 := Lib.hid q1
      have Q2 := Lib.hid q2
      clear hx hb q0 q1 q2
      by_cases h0 : xk.tmod 3 = 0
      · have hq : (xk.tmod 3 == 0) = true := by simpa using h0
        go_wp2_with fail
        go_region_held3 (fun w' => w'.cell? { block := (a.add (k * 3)).block, off := (a.add (k * 3)).off + 1 } = some (.string xn) ∧ w'.cell? { block := (a.add (k * 3)).block, off := (a.add (k * 3)).off + 2 } = some (.string xp)) (go_keep)
          (first | (go_at_call 47; refine (t_add2 (w.heap.size + 1) w.heap.size D L _ xn xp (by exact HT.out.below (below_drew _ _)) HG.out z1 z2).mono ?_; rintro e w2 ⟨rfl, ho, D2, hT2⟩; have hbo := ho.1; have HB2 := Lib.hid ((HB.out.drew).trans hbo); have HT2 := Lib.hid hT2; have k1 := (HB2.out.cell (p := { block := (a.add (k * 3)).block, off := (a.add (k * 3)).off + 1 }) hal).trans Q1.out; have k2 := (HB2.out.cell (p := { block := (a.add (k * 3)).block, off := (a.add (k * 3)).off + 2 }) hal).trans Q2.out; clear ho hT2 hbo))
        go_wp2
        go_roundw
        case rel => exact ⟨k + 1, D2, _, by omega, by omega, by go_num, Lib.hid (addTn2_good HG.out xn xp), HT2, HB2.out⟩
        case measure => simp [intOf]; omega
      · have hq0 : (xk.tmod 3 == 0) = false := by simpa using h0
        by_cases h1 : xk.tmod 3 = 1
        · have hq1 : (xk.tmod 3 == 1) = true := by simpa using h1
          go_wp2_with fail
          go_region_held3 (fun w' => w'.cell? { block := (a.add (k * 3)).block, off := (a.add (k * 3)).off + 1 } = some (.string xn) ∧ w'.cell? { block := (a.add (k * 3)).block, off := (a.add (k * 3)).off + 2 } = some (.string xp)) (go_keep)
            (first | (go_at_call 48; refine (t_move (w.heap.size + 1) w.heap.size D L _ xn xp (by exact HT.out.below (below_drew _ _)) HG.out z1 z2).mono ?_; rintro e w2 ⟨rfl, ho, D2, hT2⟩; have hbo := ho.1; have HB2 := Lib.hid ((HB.out.drew).trans hbo); have HT2 := Lib.hid hT2; have k1 := (HB2.out.cell (p := { block := (a.add (k * 3)).block, off := (a.add (k * 3)).off + 1 }) hal).trans Q1.out; have k2 := (HB2.out.cell (p := { block := (a.add (k * 3)).block, off := (a.add (k * 3)).off + 2 }) hal).trans Q2.out; clear ho hT2 hbo))
          go_wp2
          go_roundw
          case rel => exact ⟨k + 1, D2, _, by omega, by omega, by go_num, Lib.hid (movTn_good HG.out xn xp), HT2, HB2.out⟩
          case measure => simp [intOf]; omega
        · have hq1 : (xk.tmod 3 == 1) = false := by simpa using h1
          go_wp2_with fail
          refine (t_drop (w.heap.size + 1) w.heap.size D L _ xn HT.out HG.out z1).mono ?_
          rintro e w2 ⟨rfl, ho, D2, hT2⟩
          have HB2 := Lib.hid (HB.out.trans ho.1)
          have HT2 := Lib.hid hT2
          clear ho hT2
          go_wp2
          go_roundw
          case rel => exact ⟨k + 1, D2, _, by omega, by omega, by go_num, Lib.hid (drpTn_good HG.out xn), HT2, HB2.out⟩
          case measure => simp [intOf]; omega
    · have HBW := Lib.hid hb
      have hfew := HG.out.few
      have hg24 : decide ((24 : Int) < (L.length : Int)) = false := by simp; omega
      clear hb
      rcases (show n ≤ k ∨ (k < n ∧ 100 ≤ k) by omega) with h1 | ⟨h1, h2⟩
      all_goals
        go_wp2_with fail
        refine (t_all _ _ D L wr HT.out HG.out.srt (by omega)).mono ?_
        rintro e w3 ⟨v, rfl, hown, hb3⟩
        obtain ⟨B, cB, rfl, _, _, hat, hag⟩ := hown.slice
        have HAT := Lib.hid hat
        have HAG := Lib.hid hag
        have HT3 := Lib.hid (HT.out.below hb3)
        have HB3 := Lib.hid (HBW.out.trans (hb3.mono HBW.out.size))
        clear hown hat hag hb3
        go_wp2
        go_loopw [6] (fun i wr => ∃ j : Nat, j ≤ L.length ∧ i = .int .i64 j ∧ Below w3.heap.size w3 wr) (fun i _ => L.length - (intOf i).toNat)
        case atStart => exact ⟨0, Nat.zero_le _, rfl, Below.refl _ _⟩
        case round =>
          obtain ⟨j, hj, rfl, hbj⟩ := hrel
          have HBJ := Lib.hid hbj
          have HTJ := Lib.hid (HT3.out.below hbj)
          have hatj := HAT.out.below hbj
          clear hbj
          by_cases hjl : j < L.length
          · obtain ⟨g, rfl⟩ := hatj.head HAG.out (by omega)
            obtain ⟨⟨x1, x2⟩, hx⟩ : ∃ x, L[j]? = some x := ⟨_, List.getElem?_eq_getElem hjl⟩
            obtain ⟨d0, _⟩ := hatj.at j _ hx
            simp only at d0
            have hmem := List.mem_of_getElem? hx
            have hfm : (findN L x1).isSome = true := by rw [findN_mem HG.out.srt.apart hmem]; rfl
            have s1 : x1.size ≤ maxLen := by have := nameR_short (HG.out.nam _ hmem); unfold maxLen; simp only at this; omega
            have HL := Lib.hid (fun y (hy : y ∈ L) => show y.2.size ≤ maxLen from by have := HG.out.par y hy; unfold maxLen; omega)
            have hc := HG.out.chain x1
            obtain ⟨C, hC⟩ : ∃ C, chn L x1 = C := ⟨_, rfl⟩
            rw [hC] at hc
            obtain ⟨d, hd⟩ : ∃ d, C = x1 :: d := by
              rcases hc.1.parts with ⟨hf, _⟩ | ⟨_, d, _, hd, _⟩
              · rw [hf] at hfm; cases hfm
              · exact ⟨d, hd⟩
            have hc5 := hc.2
            have hc1 : 1 ≤ C.length := by rw [hd]; simp
            have hq6 : 0 < C.length := hc1
            have HCH := Lib.hid hc.1
            have HCC := Lib.hid hC
            have HX := Lib.hid hx
            have HFM := Lib.hid hfm
            have hC0 : Hid (C[0]? = some x1) := Lib.hid (by rw [hd]; rfl)
            have hq1 : decide ((C.length : Int) < 1) = false := by simp; omega
            have hq2 : decide ((5 : Int) < (C.length : Int)) = false := by simp; omega
            have hq3 : (x1.toList != x1.toList) = false := by simp
            have hq4 : ((C.length : Int) != (C.length : Int)) = false := by simp
            clear hx hmem hfm hc hC hd hatj
            go_wp2_with fail
            refine (t_above _ _ D L wr x1 C HCH.out HTJ.out HL.out s1 (by omega)).mono ?_
            rintro e w4 ⟨u, rfl, hown4, hb4⟩
            obtain ⟨U, cU, rfl, _, _, hatu, hagu⟩ := hown4.slice
            obtain ⟨gu, rfl⟩ := hatu.head hagu (by omega)
            have u0 := hatu.at 0 x1 hC0.out
            have HU := Lib.hid hatu
            have HAU := Lib.hid hagu
            have HB4 := Lib.hid (HBJ.out.trans (hb4.mono HBJ.out.size))
            have HT4 := Lib.hid (HTJ.out.below hb4)
            have d4 := ((HAT.out.below HB4.out).at j _ HX.out).1
            simp only at d4
            clear hown4 hatu hagu hb4
            go_wp2_with fail
            obtain ⟨XE, xf, hXN, hX1, hX0, hX2⟩ := ext_class9 w4.heap.size w4 (Nat.le_refl _)
            have HX1 := Lib.hid hX1
            have HX2 := Lib.hid hX2
            have hin := hX0 w4.drew (Below.drew (Below.refl _ _))
            have hgul := World.block_lt_of_cell? w4 _ u0
            have hgl := World.block_lt_of_cell? w4 _ d4
            have b1 := fun e => (((HX1.out e).cell (p := ⟨gu, 0, none⟩) hgul).trans u0 : (xf e).cell? ⟨gu, 0, none⟩ = _)
            have b2 := fun e => (((HX1.out e).cell (p := ⟨g, j * 2, none⟩) hgl).trans d4 : (xf e).cell? ⟨g, j * 2, none⟩ = _)
            have HDP := Lib.hid (fun (W : World) (hb : Below w4.heap.size w4 W) => t_depth _ _ D L W x1 C HCH.out (HT4.out.below hb) HL.out s1 (by omega))
            clear hX0 hX1 hX2 u0 d4
            refine wp_region_quiet (C := fun W => ∃ e, W = xf e) (by kernel_rfl) (by kernel_rfl) hin ?_
            clear hin
            dsimp only
            repeat (go_big_quiet_step ((go_at_call 37; refine (HDP.out _ (HX1.out _)).mono ?_; rintro e w5 ⟨rfl, hb5⟩; exact ⟨rfl, HX2.out _ _ hb5⟩)))
            refine wpQuiet_nil ?_
            intro w5 hW5
            obtain ⟨ee, hW5⟩ := hW5
            have hb5 : Below w4.heap.size w4 w5 := by rw [hW5]; exact HX1.out ee
            clear hW5 b1 b2 HX1 HX2 hXN HDP hgul hgl
            clear ee xf XE
            have HB5 := Lib.hid (HB4.out.trans (hb5.mono HB4.out.size))
            have HU5 := Lib.hid (HU.out.below hb5)
            clear hb5
            have HT5 := Lib.hid (HT3.out.below HB5.out)
            go_wp2
            go_loopw [8] (fun i wr => ∃ m : Nat, m ≤ L.length ∧ i = .int .i64 m ∧ Below w5.heap.size w5 wr) (fun i _ => L.length - (intOf i).toNat)
            case atStart => exact ⟨0, Nat.zero_le _, rfl, Below.refl _ _⟩
            case round =>
              obtain ⟨m, hm, rfl, hbm⟩ := hrel
              have HBM := Lib.hid (HB5.out.trans (hbm.mono HB5.out.size))
              have HTM := Lib.hid (HT5.out.below hbm)
              have HUM := Lib.hid (HU5.out.below hbm)
              have HBM0 := Lib.hid hbm
              clear hbm
              by_cases hml : m < L.length
              · obtain ⟨⟨y1, y2⟩, hy⟩ : ∃ x, L[m]? = some x := ⟨_, List.getElem?_eq_getElem hml⟩
                have hmy := List.mem_of_getElem? hy
                have s2 : y1.size ≤ maxLen := by have := nameR_short (HG.out.nam _ hmy); unfold maxLen; simp only at this; omega
                have f0 := ((HAT.out.below HBM.out).at j _ HX.out).1
                have f1 := ((HAT.out.below HBM.out).at m _ hy).1
                simp only at f0 f1
                have HY := Lib.hid hy
                have HXU := Lib.hid (show hasX x1 (underL L y1) = hasX y1 C by rw [hasX_under HFM.out, HCC.out])
                have hq5 : (hasX y1 C != hasX y1 C) = false := by simp
                have hul := underL_len L y1
                clear hy hmy
                go_wp2_with fail
                go_region_held3 (fun W : World => W.cell? ⟨g, m * 2, none⟩ = some (.string y1) ∧ W.cell? ⟨g, j * 2, none⟩ = some (.string x1)) (go_keep)
                  (first
                    | (go_at_call 42; refine (t_under _ _ D L _ y1 (by exact HTM.out.below (below_drew _ _)) HG.out s2).mono ?_; rintro e w6 ⟨v6, rfl, hown6, hb6⟩; obtain ⟨U6, c6, rfl, _, _, hat6, hag6⟩ := hown6.slice; have HA6 := Lib.hid hat6; have HG6 := Lib.hid hag6; have HM6 := Lib.hid ((below_drew _ wr).trans hb6); have HB6 := Lib.hid (HBM.out.trans (HM6.out.mono HBM.out.size)); have g0 := ((HAT.out.below HB6.out).at j _ HX.out).1; have g1 := ((HAT.out.below HB6.out).at m _ HY.out).1; simp only at g0 g1; clear hown6 hat6 hag6 hb6)
                    | (go_at_call 50; refine (lw_hasT (underL L y1) x1 _ _ _ (by omega) HA6.out HG6.out).mono ?_; rintro e w7 ⟨rfl, hb7⟩; rw [HXU.out]; have HM7 := Lib.hid (HM6.out.trans (hb7.mono HM6.out.size)); have HB7 := Lib.hid (HB6.out.trans (hb7.mono HB6.out.size)); have i0 := ((HAT.out.below HB7.out).at j _ HX.out).1; have i1 := ((HAT.out.below HB7.out).at m _ HY.out).1; simp only at i0 i1; clear hb7 HA6)
                    | (go_at_call 50; refine (lw_hasT C y1 _ cU _ (by omega) (HUM.out.below HM7.out) HAU.out).mono ?_; rintro e w8 ⟨rfl, hb8⟩; have HM8 := Lib.hid (HM7.out.trans (hb8.mono HM7.out.size)); have HB8 := Lib.hid (HB7.out.trans (hb8.mono HB7.out.size)); have j0 := ((HAT.out.below HB8.out).at j _ HX.out).1; have j1 := ((HAT.out.below HB8.out).at m _ HY.out).1; simp only at j0 j1; clear hb8))
                go_wp2
                go_roundw
                case rel => exact ⟨m + 1, by omega, by go_num, HBM0.out.trans (HM8.out.mono HBM0.out.size)⟩
                case measure => simp [intOf]; omega
              · go_wp2
                go_roundw
                case rel => exact ⟨j + 1, by omega, by go_num, HBM.out⟩
                case measure => simp [intOf]; omega
          · go_wp2_with fail
            refine (known9 _).mono ?_
            rintro e w9 ⟨rfl, hb9⟩
            have HB9 := Lib.hid (HB3.out.trans ((HBJ.out.trans (hb9.mono HBJ.out.size)).mono HB3.out.size))
            clear hb9
            go_wp2
            go_ret
            exact ⟨rfl, HB9.out⟩
end Go.Proofs.Ytoeggpoeongnhaa
