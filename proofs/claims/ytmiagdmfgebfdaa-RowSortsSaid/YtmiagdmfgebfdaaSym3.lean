/-
  stableCmpFunc, SortStableFunc at []int with row.Sort's comparison: behind it the places are in order, equal ones by their number.
  At every row of fewer than 2^40 places that begin as their own numbers.
-/
import Derived.Test.YtmiagdmfgebfdaaSym2
namespace Go.Proofs.Ytmiagdmfgebfdaa
open Go.RowKit

/-- The places lo to hi are in order, and are these numbers. -/
def Gd (R : Nat → Nat → Prop) (f : Nat → Nat) (lo hi : Nat) : Prop := Srt R f lo hi ∧ ∀ p, lo ≤ p → p < hi → lo ≤ f p ∧ f p < hi
theorem Gd.congr {R : Nat → Nat → Prop} {f g : Nat → Nat} {lo hi : Nat} (h : Gd R f lo hi) (he : ∀ p, lo ≤ p → p < hi → g p = f p) : Gd R g lo hi :=
  ⟨h.1.congr he, fun p h1 h2 => by rw [he p h1 h2]; exact h.2 p h1 h2⟩
theorem Gd.nil {R : Nat → Nat → Prop} {f : Nat → Nat} (a : Nat) : Gd R f a a := ⟨fun i j h1 h2 h3 => by omega, fun p h1 h2 => by omega⟩
theorem Gd.lr {R : Nat → Nat → Prop} {f : Nat → Nat} {a m b : Nat} (h1 : Gd R f a m) (h2 : Gd R f m b) : LR f a m b := fun i j hi him hj hjb => by
  have g1 := h1.2 i hi him
  have g2 := h2.2 j hj hjb
  omega
theorem Gd.merged {R : Nat → Nat → Prop} {f f' : Nat → Nat} {a m b : Nat} (h1 : Gd R f a m) (h2 : Gd R f m b) (ham : a ≤ m) (hmb : m ≤ b) (h : MrgI R f f' a b) : Gd R f' a b := by
  refine ⟨h.1, fun p hp hpb => ?_⟩
  obtain ⟨k, k0, k1, e⟩ := h.2.1 p hp hpb
  rw [e]
  rcases Nat.lt_or_ge k m with hk | hk
  · have := h1.2 k k0 hk
    omega
  · have := h2.2 k hk k1
    omega
inductive UpTo (R : Nat → Nat → Prop) (f : Nat → Nat) (bs : Nat) : Nat → Prop
  | zero : UpTo R f bs 0
  | step {a : Nat} (h : UpTo R f bs a) (g : Gd R f a (a + bs)) : UpTo R f bs (a + bs)
inductive Runs (R : Nat → Nat → Prop) (f : Nat → Nat) (bs n : Nat) : Nat → Prop
  | last {a : Nat} (h1 : a ≤ n) (h2 : n ≤ a + bs) (g : Gd R f a n) : Runs R f bs n a
  | more {a : Nat} (h1 : a + bs ≤ n) (g : Gd R f a (a + bs)) (h : Runs R f bs n (a + bs)) : Runs R f bs n a
theorem UpTo.congr {R : Nat → Nat → Prop} {f g : Nat → Nat} {bs a : Nat} (h : UpTo R f bs a) (he : ∀ p, p < a → g p = f p) : UpTo R g bs a := by
  induction h with
  | zero => exact .zero
  | step h gd ih => exact .step (ih fun p hp => he p (by omega)) (gd.congr fun p _ hp => he p hp)
theorem Runs.congr {R : Nat → Nat → Prop} {f g : Nat → Nat} {bs n a : Nat} (h : Runs R f bs n a) (he : ∀ p, a ≤ p → g p = f p) : Runs R g bs n a := by
  induction h with
  | last h1 h2 gd => exact .last h1 h2 (gd.congr fun p hp _ => he p hp)
  | more h1 gd h ih => exact .more h1 (gd.congr fun p hp _ => he p hp) (ih fun p hp => he p (by omega))
theorem UpTo.runs {R : Nat → Nat → Prop} {f : Nat → Nat} {bs n a : Nat} (h : UpTo R f bs a) (ha : a ≤ n) (hr : Runs R f bs n a) : Runs R f bs n 0 := by
  induction h with
  | zero => exact hr
  | step h gd ih => exact ih (by omega) (.more ha gd hr)
theorem Runs.split2 {R : Nat → Nat → Prop} {f : Nat → Nat} {bs n a : Nat} (h : Runs R f bs n a) (hb : 0 < bs) (h2 : a + bs + bs ≤ n) : Gd R f a (a + bs) ∧ Gd R f (a + bs) (a + bs + bs) ∧ Runs R f bs n (a + bs + bs) := by
  cases h with
  | last h1 h2' gd => omega
  | more h1 gd h =>
    refine ⟨gd, ?_⟩
    cases h with
    | last h1 h2' gd2 =>
      have e : n = a + bs + bs := by omega
      subst e
      exact ⟨gd2, .last (Nat.le_refl _) (by omega) (Gd.nil _)⟩
    | more h1 gd2 h => exact ⟨gd2, h⟩
theorem Runs.tail {R : Nat → Nat → Prop} {f : Nat → Nat} {bs n a : Nat} (h : Runs R f bs n a) (h1 : a + bs < n) (h2 : n < a + bs + bs) : Gd R f a (a + bs) ∧ Gd R f (a + bs) n := by
  cases h with
  | last h1 h2' gd => omega
  | more h1 gd h =>
    refine ⟨gd, ?_⟩
    cases h with
    | last h1 h2' gd2 => exact gd2
    | more h1 gd2 h => omega
theorem Runs.whole {R : Nat → Nat → Prop} {f : Nat → Nat} {bs n a : Nat} (h : Runs R f bs n a) (h1 : n ≤ a + bs) : Gd R f a n := by
  cases h with
  | last h1 h2' gd => exact gd
  | more h2 gd h =>
    have e : n = a + bs := by omega
    rw [e]
    exact gd
theorem Runs.le {R : Nat → Nat → Prop} {f : Nat → Nat} {bs n a : Nat} (h : Runs R f bs n a) : a ≤ n := by
  cases h with
  | last h1 h2' gd => exact h1
  | more h2 gd h => omega
theorem out_gd {lt : Nat → Nat → Bool} {f0 f : Nat → Nat} {a b : Nat} (h : OutI lt f0 f a b) : Gd (ltp lt) f a b := ⟨h.1, h.2.1⟩
theorem out_lt {lt : Nat → Nat → Bool} {f0 f : Nat → Nat} {a b n : Nat} (h : OutI lt f0 f a b) (hb : b ≤ n) (hv : ∀ p, p < n → f0 p < n) : ∀ p, p < n → f p < n := by
  intro p hp
  by_cases hc : a ≤ p ∧ p < b
  · have := h.2.1 p hc.1 hc.2
    omega
  · rw [h.2.2 p (by omega)]
    exact hv p hp

set_option maxRecDepth 100000 in
set_option maxHeartbeats 1000000 in
theorem p_insert0 (g n c a : Nat) (q : Addr) (w : World) (hn : n < 1099511627776) (ha : a ≤ n) :
    Calls Try.prog 81 #[.slice (some ⟨g, 0, none⟩) n c, .int .i64 a, .int .i64 a, .func (.func 31) #[] #[.pointer (some q)]] w fun e w' => e = .returned (.tuple #[]) ∧ w = w' := by
  go_enter Try.func81, Try.ntmps81
  go_wp2
  refine wp_loop_rounds 1 ?_
  rw [rounds_succ]
  go_wp2
  (try simp only [Exit.inBlock, Exit.then]); refine bodyPost_end (results_none rfl _ _ _) rfl ?_
  exact ⟨rfl, rfl⟩

set_option maxRecDepth 100000 in
set_option maxHeartbeats 8000000 in
theorem p_stable (g n c : Nat) (lt : Nat → Nat → Bool) (q : Addr) (w0 w : World) (ht : ∀ x y z, ltp lt x y → ltp lt y z → ltp lt x z) (hc : CmpIs g n lt q w0) (hn : n < 1099511627776) (h : PAt w g n id) (hb : Below g w0 w) :
    Calls Try.prog 61 #[.slice (some ⟨g, 0, none⟩) n c, .int .i64 n, .func (.func 31) #[] #[.pointer (some q)]] w fun e w' => e = .returned (.tuple #[]) ∧ ∃ f, Gd (ltp lt) f 0 n ∧ PAt w' g n f ∧ Below g w0 w' := by
  have H := Lib.hid h
  have HB0 := Lib.hid hb
  have HIN := Lib.hid (fun a b f0 w h1 h2 h3 h4 h5 => p_insert g n c a b lt f0 q w0 w ht hc h1 h2 hn h3 h4 h5)
  have HIN0 := Lib.hid (fun a w h1 => p_insert0 g n c a q w hn h1)
  have HMG := Lib.hid (fun N => p_merge g n c lt q w0 ht hc hn N)
  clear h hb ht hc
  go_enter Try.func61, Try.ntmps61
  go_wp2
  go_loopw [7, 8] (fun u v wr => ∃ (a : Nat) (fx : Nat → Nat), u = .int .i64 a ∧ v = .int .i64 (a + 20 : Nat) ∧ a ≤ n ∧ Hid (UpTo (ltp lt) fx 20 a) ∧ Hid (∀ p, a ≤ p → fx p = p) ∧ Hid (∀ p, p < n → fx p < n) ∧ PAt wr g n fx ∧ Below g w0 wr) (fun u _ _ => n - (intOf u).toNat)
  case atStart => exact ⟨0, id, rfl, rfl, Nat.zero_le _, Lib.hid .zero, Lib.hid (fun p _ => rfl), Lib.hid (fun p h => h), H.out, HB0.out⟩
  case round =>
    obtain ⟨a, fx, rfl, rfl, han, HU, HID, HV, hp, hbw⟩ := hrel
    have HP := Lib.hid hp
    have HBW := Lib.hid hbw
    clear hp hbw
    by_cases hlt : a + 20 ≤ n
    · have HC1 := Lib.hid (HIN.out a (a + 20) fx wr (by omega) hlt (fun p hp _ => HID.out p hp) HP.out HBW.out)
      have hg : ((a + 20 : Nat) : Int) ≤ (n : Int) := by omega
      go_wp2_with fail
      refine HC1.out.mono ?_
      rintro e w1 ⟨rfl, f', ho, hp1, hb1⟩
      have HO := Lib.hid ho
      have HP1 := Lib.hid hp1
      have HB1 := Lib.hid hb1
      clear ho hp1 hb1 HC1
      go_wp2
      go_roundw
      case rel => exact ⟨a + 20, f', rfl, by go_num, by omega, Lib.hid ((HU.out.congr fun p hp => HO.out.2.2 p (.inl hp)).step (out_gd HO.out)), Lib.hid (fun p hp => by rw [HO.out.2.2 p (.inr hp)]; exact HID.out p (by omega)), Lib.hid (out_lt HO.out hlt HV.out), HP1.out, HB1.out⟩
      case measure => simp [intOf]; omega
    · have hg : ¬ ((a + 20 : Nat) : Int) ≤ (n : Int) := by omega
      have HRST : Hid (∀ f' : Nat → Nat, OutI lt fx f' a n → Runs (ltp lt) f' 20 n 0 ∧ (∀ p, p < n → f' p < n)) := Lib.hid (fun f' ho => ⟨(HU.out.congr fun p hp => ho.2.2 p (.inl hp)).runs han (.last han (by omega) (out_gd ho)), out_lt ho (Nat.le_refl _) HV.out⟩)
      have HINS : Hid (Calls Try.prog 81 #[.slice (some ⟨g, 0, none⟩) n c, .int .i64 a, .int .i64 n, .func (.func 31) #[] #[.pointer (some q)]] wr fun e w' => e = .returned (.tuple #[]) ∧ ∃ f, OutI lt fx f a n ∧ PAt w' g n f ∧ Below g w0 w') := Lib.hid (by
        rcases Nat.lt_or_ge a n with h | h
        · exact HIN.out a n fx wr h (Nat.le_refl _) (fun p hp _ => HID.out p hp) HP.out HBW.out
        · have e : a = n := by omega
          subst e
          exact (HIN0.out a wr (Nat.le_refl _)).mono fun e w' ⟨h1, h2⟩ => ⟨h1, fx, ⟨fun i j h1 h2 h3 => by omega, fun p h1 h2 => by omega, fun _ _ => rfl⟩, by rw [← h2]; exact HP.out, by rw [← h2]; exact HBW.out⟩)
      go_wp2_with fail
      refine HINS.out.mono ?_
      rintro e w1 ⟨rfl, f1, ho1, hp1, hb1⟩
      obtain ⟨hr1, hv1⟩ := HRST.out f1 ho1
      have HR1 := Lib.hid hr1
      have HV1 := Lib.hid hv1
      have HP1 := Lib.hid hp1
      have HB1 := Lib.hid hb1
      clear ho1 hp1 hb1 hr1 hv1 HINS HRST HU HID HV HP HBW hg HIN HIN0 H HB0
      go_wp2
      go_loopw [6] (fun u wr => ∃ (bs : Nat) (fx : Nat → Nat), u = .int .i64 bs ∧ 20 ≤ bs ∧ bs ≤ 2 * n + 20 ∧ Hid (Runs (ltp lt) fx bs n 0) ∧ Hid (∀ p, p < n → fx p < n) ∧ PAt wr g n fx ∧ Below g w0 wr) (fun u _ => n - (intOf u).toNat)
      case atStart => exact ⟨20, f1, rfl, Nat.le_refl _, by omega, HR1, HV1, HP1.out, HB1.out⟩
      case round =>
        rename_i wo1
        obtain ⟨bs, f2, rfl, hbs, hbs2, HR2, HV2, hp2, hb2⟩ := hrel
        have HP2 := Lib.hid hp2
        have HB2 := Lib.hid hb2
        clear hp2 hb2
        by_cases hbn : bs < n
        · go_wp2
          go_loopw [7, 8] (fun u v wr => ∃ (a2 : Nat) (fy : Nat → Nat), u = .int .i64 a2 ∧ v = .int .i64 (a2 + bs + bs : Nat) ∧ a2 ≤ n ∧ Hid (UpTo (ltp lt) fy (bs + bs) a2) ∧ Hid (Runs (ltp lt) fy bs n a2) ∧ Hid (∀ p, p < n → fy p < n) ∧ PAt wr g n fy ∧ Below g w0 wr) (fun u _ _ => n - (intOf u).toNat)
          case atStart => exact ⟨0, f2, rfl, by go_num, Nat.zero_le _, Lib.hid .zero, HR2, HV2, HP2.out, HB2.out⟩
          case round =>
            rename_i wo2
            obtain ⟨a2, fy, rfl, rfl, han2, HU3, HR3, HV3, hp3, hb3⟩ := hrel
            have HP3 := Lib.hid hp3
            have HB3 := Lib.hid hb3
            clear hp3 hb3
            by_cases hl3 : a2 + bs + bs ≤ n
            · have hg3 : ((a2 + bs + bs : Nat) : Int) ≤ (n : Int) := by omega
              have HSP := Lib.hid (HR3.out.split2 (by omega) hl3)
              have HCM : Hid (Calls Try.prog 82 #[.slice (some ⟨g, 0, none⟩) n c, .int .i64 a2, .int .i64 ((a2 : Int) + (bs : Int)), .int .i64 (a2 + bs + bs : Nat), .func (.func 31) #[] #[.pointer (some q)]] _ fun e w' => e = .returned (.tuple #[]) ∧ ∃ f', MrgI (ltp lt) fy f' a2 (a2 + bs + bs) ∧ PAt w' g n f' ∧ Below g w0 w') := Lib.hid (HMG.out (bs + bs) a2 (a2 + bs) (a2 + bs + bs) fy _ (by omega) (by omega) (by omega) hl3 HV3.out HSP.out.1.1 HSP.out.2.1.1 (HSP.out.1.lr HSP.out.2.1) HP3.out HB3.out)
              go_wp2_with fail
              refine HCM.out.mono ?_
              rintro e w4 ⟨rfl, f4, hm4, hp4, hb4⟩
              have HM4 := Lib.hid hm4
              have HP4 := Lib.hid hp4
              have HB4 := Lib.hid hb4
              clear hm4 hp4 hb4 HCM
              go_wp2
              go_roundw
              case rel => exact ⟨a2 + bs + bs, f4, rfl, by go_num, hl3, Lib.hid (by rw [Nat.add_assoc]; exact (HU3.out.congr fun p hp => HM4.out.2.2 p (.inl hp)).step (by rw [← Nat.add_assoc]; exact HSP.out.1.merged HSP.out.2.1 (by omega) (by omega) HM4.out)), Lib.hid (HSP.out.2.2.congr fun p hp => HM4.out.2.2 p (.inr hp)), Lib.hid (HM4.out.2.1.lt HM4.out.2.2 hl3 HV3.out), HP4.out, HB4.out⟩
              case measure => simp [intOf]; omega
            · have hg3 : ¬ ((a2 + bs + bs : Nat) : Int) ≤ (n : Int) := by omega
              by_cases hm3 : a2 + bs < n
              · have hg4 : (a2 : Int) + (bs : Int) < (n : Int) := by omega
                have HSP := Lib.hid (HR3.out.tail hm3 (by omega))
                have HCM : Hid (Calls Try.prog 82 #[.slice (some ⟨g, 0, none⟩) n c, .int .i64 a2, .int .i64 ((a2 : Int) + (bs : Int)), .int .i64 n, .func (.func 31) #[] #[.pointer (some q)]] _ fun e w' => e = .returned (.tuple #[]) ∧ ∃ f', MrgI (ltp lt) fy f' a2 n ∧ PAt w' g n f' ∧ Below g w0 w') := Lib.hid (HMG.out n a2 (a2 + bs) n fy _ (by omega) (by omega) hm3 (Nat.le_refl _) HV3.out HSP.out.1.1 HSP.out.2.1 (HSP.out.1.lr HSP.out.2) HP3.out HB3.out)
                go_wp2_with fail
                refine HCM.out.mono ?_
                rintro e w4 ⟨rfl, f4, hm4, hp4, hb4⟩
                have HM4 := Lib.hid hm4
                have HP4 := Lib.hid hp4
                have HB4 := Lib.hid hb4
                clear hm4 hp4 hb4 HCM
                go_wp2
                go_roundw
                case rel => exact ⟨bs + bs, f4, by go_num, by omega, by omega, Lib.hid ((HU3.out.congr fun p hp => HM4.out.2.2 p (.inl hp)).runs han2 (.last han2 (by omega) (HSP.out.1.merged HSP.out.2 (by omega) (by omega) HM4.out))), Lib.hid (HM4.out.2.1.lt HM4.out.2.2 (Nat.le_refl _) HV3.out), HP4.out, HB4.out⟩
                case measure => simp [intOf]; omega
              · have hg4 : ¬ (a2 : Int) + (bs : Int) < (n : Int) := by omega
                go_wp2
                go_roundw
                case rel => exact ⟨bs + bs, fy, by go_num, by omega, by omega, Lib.hid (HU3.out.runs han2 (.last han2 (by omega) (HR3.out.whole (by omega)))), HV3, HP3.out, HB3.out⟩
                case measure => simp [intOf]; omega
        · have HG := Lib.hid (HR2.out.whole (show n ≤ 0 + bs by omega))
          go_wp2
          go_end0
          exact ⟨rfl, f2, HG.out, HP2.out, HB2.out⟩

set_option maxHeartbeats 1000000 in
theorem p_sort (g n c : Nat) (lt : Nat → Nat → Bool) (q : Addr) (w0 w : World) (ht : ∀ x y z, ltp lt x y → ltp lt y z → ltp lt x z) (hc : CmpIs g n lt q w0) (hn : n < 1099511627776) (h : PAt w g n id) (hb : Below g w0 w) :
    Calls Try.prog 33 #[.slice (some ⟨g, 0, none⟩) n c, .func (.func 31) #[] #[.pointer (some q)]] w fun e w' => e = .returned (.tuple #[]) ∧ ∃ f, Gd (ltp lt) f 0 n ∧ PAt w' g n f ∧ Below g w0 w' := by
  have HS := Lib.hid (p_stable g n c lt q w0 w ht hc hn h hb)
  clear h hb ht hc
  go_enter Try.func33, Try.ntmps33
  go_wp2_with fail
  refine HS.out.mono ?_
  rintro e w1 ⟨rfl, h1⟩
  have H1 := Lib.hid h1
  clear h1
  go_wp2
  go_end0
  exact ⟨rfl, H1.out⟩
end Go.Proofs.Ytmiagdmfgebfdaa
