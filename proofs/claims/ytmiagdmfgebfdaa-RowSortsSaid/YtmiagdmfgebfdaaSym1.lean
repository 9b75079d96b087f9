/-
  symMergeCmpFunc at []int where one place alone stands on the left, or on the right.
  At every row of fewer than 2^40 places.
-/
import Derived.Test.YtmiagdmfgebfdaaSymp
import Derived.Outline
import Derived.Deep.Cut
import Derived.Deep.RegionHeld3
namespace Go.Proofs.Ytmiagdmfgebfdaa
open Go.RowKit

set_option maxRecDepth 100000 in
set_option maxHeartbeats 4000000 in
theorem p_merge1 (g n c a m b : Nat) (lt : Nat → Nat → Bool) (f : Nat → Nat) (q : Addr) (w0 w : World) (ht : ∀ x y z, ltp lt x y → ltp lt y z → ltp lt x z) (hc : CmpIs g n lt q w0) (hm : m = a + 1) (hmb : m < b) (hbn : b ≤ n) (hn : n < 1099511627776) (hv : ∀ p, p < n → f p < n) (hr : Srt (ltp lt) f m b) (hlr : LR f a m b) (h : PAt w g n f) (hb : Below g w0 w) :
    Calls Try.prog 82 #[.slice (some ⟨g, 0, none⟩) n c, .int .i64 a, .int .i64 m, .int .i64 b, .func (.func 31) #[] #[.pointer (some q)]] w fun e w' => e = .returned (.tuple #[]) ∧ ∃ f', MrgI (ltp lt) f f' a b ∧ PAt w' g n f' ∧ Below g w0 w' := by
  have H := Lib.hid h
  have HC := Lib.hid hc
  have HB0 := Lib.hid hb
  have HV := Lib.hid hv
  have hm1 : ((m : Int) - (a : Int) == 1) = true := by simp; omega
  have hma : m ≤ a + 1 := by omega
  have ham : a < m := by omega
  have FIN := Lib.hid (fun i h1 h2 h3 h4 => merge_one (i := i) ht h1 h2 (by rw [← hm]; exact hr) (by rw [← hm]; exact hlr) h3 h4)
  rw [← hm] at FIN
  clear h hc hb hv hm hr hlr ht
  go_enter Try.func82, Try.ntmps82
  go_wp2
  go_loopw [10, 11] (fun u v wr => ∃ (i j : Nat), u = .int .i64 i ∧ v = .int .i64 j ∧ m ≤ i ∧ i ≤ j ∧ j ≤ b ∧ Hid (i = m ∨ lt (f (i - 1)) (f a) = true) ∧ Hid (j = b ∨ lt (f j) (f a) = false) ∧ PAt wr g n f ∧ Below g w0 wr) (fun u v _ => (intOf v).toNat - (intOf u).toNat)
  case atStart => exact ⟨m, b, rfl, rfl, Nat.le_refl _, by omega, Nat.le_refl _, Lib.hid (.inl rfl), Lib.hid (.inl rfl), H.out, HB0.out⟩
  case round =>
    obtain ⟨i, j, rfl, rfl, hi, hij, hj, HI, HJ, hp, hbw⟩ := hrel
    have HP := Lib.hid hp
    have HBW := Lib.hid hbw
    clear hp hbw
    by_cases hlt : i < j
    · go_upto_region 5 with (fail)
      obtain ⟨h, hh, hih, hhj⟩ : ∃ h : Nat, ((i : Int) + (j : Int)) / 2 = (h : Int) ∧ i ≤ h ∧ h < j := ⟨(i + j) / 2, by omega, by omega, by omega⟩
      rw [hh]
      clear hh
      have hcmp := fun W hW => HC.out W hW (f h) (f a) (HV.out h (by omega)) (HV.out a (by omega))
      have hcell := fun W (hW : PAt W g n f) => And.intro (hW.cell h (by omega)) (hW.cell a (by omega))
      obtain ⟨x, ex⟩ : ∃ x, f h = x := ⟨_, rfl⟩
      obtain ⟨y, ey⟩ : ∃ y, f a = y := ⟨_, rfl⟩
      rw [ex, ey] at hcmp
      simp only [ex, ey] at hcell
      have HEX := Lib.hid ex
      have HEY := Lib.hid ey
      have HCM := Lib.hid hcmp
      have HCE := Lib.hid hcell
      obtain ⟨ch, ca⟩ := hcell _ HP.out
      have i1 : (h : Int) < (n : Int) := by omega
      have i2 : (a : Int) < (n : Int) := by omega
      have i3 : h < n := by omega
      have i4 : a < n := by omega
      clear hcmp hcell ex ey
      rcases Bool.eq_false_or_eq_true (lt x y) with hl | hl
      · rw [hl] at HCM
        have HL := Lib.hid hl
        clear hl
        go_region_held3 (fun w' => w'.cell? { block := g, off := h } = some (.int .i64 (x : Int)) ∧ w'.cell? { block := g, off := a } = some (.int .i64 (y : Int))) (go_keep) (first
          | (go_at_call 31; refine (HCM.out _ (by exact HBW.out.drew)).mono ?_; rintro e wa ⟨z, rfl, hz, hba⟩; have hbc : Below wr.heap.size wr wa := ((Below.refl _ wr).drew).trans hba; have HPa := Lib.hid (HP.out.below hbc HP.out.lt); have HBa := Lib.hid (HBW.out.trans (hbc.mono (Nat.le_of_lt HP.out.lt))); clear hbc; obtain ⟨ch, ca⟩ := HCE.out _ HPa.out; clear hba))
        go_wp2
        go_roundw
        case rel => exact ⟨h + 1, j, by go_num, rfl, by omega, by omega, hj, Lib.hid (.inr (by rw [Nat.add_sub_cancel, HEX.out, HEY.out]; exact HL.out)), HJ, HPa.out, HBa.out⟩
        case measure => simp [intOf]; omega
      · rw [hl] at HCM
        have HL := Lib.hid hl
        clear hl
        go_region_held3 (fun w' => w'.cell? { block := g, off := h } = some (.int .i64 (x : Int)) ∧ w'.cell? { block := g, off := a } = some (.int .i64 (y : Int))) (go_keep) (first
          | (go_at_call 31; refine (HCM.out _ (by exact HBW.out.drew)).mono ?_; rintro e wa ⟨z, rfl, hz, hba⟩; have hbc : Below wr.heap.size wr wa := ((Below.refl _ wr).drew).trans hba; have HPa := Lib.hid (HP.out.below hbc HP.out.lt); have HBa := Lib.hid (HBW.out.trans (hbc.mono (Nat.le_of_lt HP.out.lt))); clear hbc; obtain ⟨ch, ca⟩ := HCE.out _ HPa.out; clear hba))
        go_wp2
        go_roundw
        case rel => exact ⟨i, h, rfl, rfl, hi, hih, by omega, HI, Lib.hid (.inr (by rw [HEX.out, HEY.out]; exact HL.out)), HPa.out, HBa.out⟩
        case measure => simp [intOf]; omega
    · obtain rfl : i = j := by omega
      have HF := Lib.hid (FIN.out i hi hj HI.out HJ.out)
      clear HI HJ FIN
      go_wp2
      go_loopw [13] (fun u wq => ∃ (k : Nat), u = .int .i64 k ∧ a ≤ k ∧ k + 1 ≤ i ∧ PAt wq g n (rot f a m (k + 1)) ∧ Below g w0 wq) (fun u _ => i - (intOf u).toNat)
      case atStart => exact ⟨a, rfl, Nat.le_refl _, by omega, by rw [show m = a + 1 from by omega, rot_none2]; exact HP.out, HBW.out⟩
      case round =>
        obtain ⟨k, rfl, hak, hki, hp, hbw⟩ := hrel
        have HPk := Lib.hid hp
        have HBk := Lib.hid hbw
        clear hp hbw
        by_cases hk2 : k + 1 < i
        · have hk3 : (k : Int) < (i : Int) - 1 := by omega
          have hset := (HPk.out.set k (rot f a m (k + 1) (k + 1))).set (k + 1) (rot f a m (k + 1) k)
          have hupd : upd (upd (rot f a m (k + 1)) k (rot f a m (k + 1) (k + 1))) (k + 1) (rot f a m (k + 1) k) = rot f a m (k + 2) := by
            have e : m = a + 1 := by omega
            rw [e]
            exact rot_up f a k hak
          rw [hupd] at hset
          have ck := HPk.out.cell k (by omega)
          have ck1 := HPk.out.cell (k + 1) (by omega)
          have fk := HPk.out.free k
          have fk1 := HPk.out.free (k + 1)
          generalize rot f a m (k + 1) k = x at hset ck
          generalize rot f a m (k + 1) (k + 1) = y at hset ck1
          have HS := Lib.hid hset
          have i1 : IntKind.i64.wrap ((k : Int) + 1) = (k : Int) + 1 := IntWalk.i64_in _ (by omega)
          have i2 : (k : Int) + 1 < (n : Int) := by omega
          have i3 : (k : Int) < (n : Int) := by omega
          have i4 : k + 1 < n := by omega
          have i5 : k < n := by omega
          have i6 : (0 : Int) ≤ (k : Int) + 1 := by omega
          have i7 : ((k : Int) + 1).toNat = k + 1 := by omega
          clear hset hupd
          go_wp2
          go_region
          all_goals go_wp2
          go_roundw
          case rel => exact ⟨k + 1, by go_num, by omega, by omega, HS.out, ((HBk.out.setCell (p := ⟨g, k, none⟩) (Nat.le_refl _) _).setCell (p := ⟨g, k + 1, none⟩) (Nat.le_refl _) _).drew⟩
          case measure => simp [intOf]; omega
        · have hki2 : k + 1 = i := by omega
          have hk3 : ¬ ((k : Int) < (i : Int) - 1) := by omega
          have HPF : Hid (PAt wr g n (rot f a m i)) := Lib.hid (by rw [← hki2]; exact HPk.out)
          go_wp2
          refine bodyPost_ret (results_none rfl _ _ _) rfl ?_
          exact ⟨rfl, _, HF.out, HPF.out, HBk.out⟩
set_option maxRecDepth 100000 in
set_option maxHeartbeats 4000000 in
theorem p_merge2 (g n c a m b : Nat) (lt : Nat → Nat → Bool) (f : Nat → Nat) (q : Addr) (w0 w : World) (ht : ∀ x y z, ltp lt x y → ltp lt y z → ltp lt x z) (hc : CmpIs g n lt q w0) (ham : a + 1 < m) (hm : b = m + 1) (hbn : b ≤ n) (hn : n < 1099511627776) (hv : ∀ p, p < n → f p < n) (hl : Srt (ltp lt) f a m) (hlr : LR f a m b) (h : PAt w g n f) (hb : Below g w0 w) :
    Calls Try.prog 82 #[.slice (some ⟨g, 0, none⟩) n c, .int .i64 a, .int .i64 m, .int .i64 b, .func (.func 31) #[] #[.pointer (some q)]] w fun e w' => e = .returned (.tuple #[]) ∧ ∃ f', MrgI (ltp lt) f f' a b ∧ PAt w' g n f' ∧ Below g w0 w' := by
  have H := Lib.hid h
  have HC := Lib.hid hc
  have HB0 := Lib.hid hb
  have HV := Lib.hid hv
  have hm1 : ((m : Int) - (a : Int) == 1) = false := by simp; omega
  have hm2 : ((b : Int) - (m : Int) == 1) = true := by simp; omega
  have hmb : m < b := by omega
  have hbm : b ≤ m + 1 := by omega
  have FIN := Lib.hid (fun i h1 h2 h3 h4 => merge_last (i := i) (m := m) ht h1 h2 hl (by rw [← hm]; exact hlr) h3 h4)
  rw [← hm] at FIN
  clear h hc hb hv hm hl hlr ht
  go_enter Try.func82, Try.ntmps82
  go_wp2
  go_loopw [14, 15] (fun u v wr => ∃ (i j : Nat), u = .int .i64 i ∧ v = .int .i64 j ∧ a ≤ i ∧ i ≤ j ∧ j ≤ m ∧ Hid (i = a ∨ lt (f m) (f (i - 1)) = false) ∧ Hid (j = m ∨ lt (f m) (f j) = true) ∧ PAt wr g n f ∧ Below g w0 wr) (fun u v _ => (intOf v).toNat - (intOf u).toNat)
  case atStart => exact ⟨a, m, rfl, rfl, Nat.le_refl _, by omega, Nat.le_refl _, Lib.hid (.inl rfl), Lib.hid (.inl rfl), H.out, HB0.out⟩
  case round =>
    obtain ⟨i, j, rfl, rfl, hi, hij, hj, HI, HJ, hp, hbw⟩ := hrel
    have HP := Lib.hid hp
    have HBW := Lib.hid hbw
    clear hp hbw
    by_cases hlt : i < j
    · go_upto_region 17 with (fail)
      obtain ⟨h, hh, hih, hhj⟩ : ∃ h : Nat, ((i : Int) + (j : Int)) / 2 = (h : Int) ∧ i ≤ h ∧ h < j := ⟨(i + j) / 2, by omega, by omega, by omega⟩
      rw [hh]
      clear hh
      have hcmp := fun W hW => HC.out W hW (f m) (f h) (HV.out m (by omega)) (HV.out h (by omega))
      have hcell := fun W (hW : PAt W g n f) => And.intro (hW.cell m (by omega)) (hW.cell h (by omega))
      obtain ⟨x, ex⟩ : ∃ x, f m = x := ⟨_, rfl⟩
      obtain ⟨y, ey⟩ : ∃ y, f h = y := ⟨_, rfl⟩
      rw [ex, ey] at hcmp
      simp only [ex, ey] at hcell
      have HEX := Lib.hid ex
      have HEY := Lib.hid ey
      have HCM := Lib.hid hcmp
      have HCE := Lib.hid hcell
      obtain ⟨ch, ca⟩ := hcell _ HP.out
      have i1 : (h : Int) < (n : Int) := by omega
      have i2 : (m : Int) < (n : Int) := by omega
      have i3 : h < n := by omega
      have i4 : m < n := by omega
      clear hcmp hcell ex ey
      rcases Bool.eq_false_or_eq_true (lt x y) with hl | hl
      · rw [hl] at HCM
        have HL := Lib.hid hl
        clear hl
        go_region_held3 (fun w' => w'.cell? { block := g, off := m } = some (.int .i64 (x : Int)) ∧ w'.cell? { block := g, off := h } = some (.int .i64 (y : Int))) (go_keep) (first
          | (go_at_call 31; refine (HCM.out _ (by exact HBW.out.drew)).mono ?_; rintro e wa ⟨z, rfl, hz, hba⟩; have hbc : Below wr.heap.size wr wa := ((Below.refl _ wr).drew).trans hba; have HPa := Lib.hid (HP.out.below hbc HP.out.lt); have HBa := Lib.hid (HBW.out.trans (hbc.mono (Nat.le_of_lt HP.out.lt))); clear hbc; obtain ⟨ch, ca⟩ := HCE.out _ HPa.out; clear hba))
        go_wp2
        go_roundw
        case rel => exact ⟨i, h, rfl, rfl, hi, hih, by omega, HI, Lib.hid (.inr (by rw [HEX.out, HEY.out]; exact HL.out)), HPa.out, HBa.out⟩
        case measure => simp [intOf]; omega
      · rw [hl] at HCM
        have HL := Lib.hid hl
        clear hl
        go_region_held3 (fun w' => w'.cell? { block := g, off := m } = some (.int .i64 (x : Int)) ∧ w'.cell? { block := g, off := h } = some (.int .i64 (y : Int))) (go_keep) (first
          | (go_at_call 31; refine (HCM.out _ (by exact HBW.out.drew)).mono ?_; rintro e wa ⟨z, rfl, hz, hba⟩; have hbc : Below wr.heap.size wr wa := ((Below.refl _ wr).drew).trans hba; have HPa := Lib.hid (HP.out.below hbc HP.out.lt); have HBa := Lib.hid (HBW.out.trans (hbc.mono (Nat.le_of_lt HP.out.lt))); clear hbc; obtain ⟨ch, ca⟩ := HCE.out _ HPa.out; clear hba))
        go_wp2
        go_roundw
        case rel => exact ⟨h + 1, j, by go_num, rfl, by omega, by omega, hj, Lib.hid (.inr (by rw [Nat.add_sub_cancel, HEX.out, HEY.out]; exact HL.out)), HJ, HPa.out, HBa.out⟩
        case measure => simp [intOf]; omega
    · obtain rfl : i = j := by omega
      have HF := Lib.hid (FIN.out i hi hj HI.out HJ.out)
      have hrt : rot f m m b = f := rot_none1 f m b
      have HP0 : Hid (PAt wr g n (rot f m m b)) := Lib.hid (by rw [hrt]; exact HP.out)
      clear HI HJ FIN hrt
      go_wp2
      go_loopw [17] (fun u wq => ∃ (k : Nat), u = .int .i64 k ∧ i ≤ k ∧ k ≤ m ∧ PAt wq g n (rot f k m b) ∧ Below g w0 wq) (fun u _ => (intOf u).toNat)
      case atStart => exact ⟨m, rfl, hj, Nat.le_refl _, HP0.out, HBW.out⟩
      case round =>
        obtain ⟨k, rfl, hik, hkm, hp, hbw⟩ := hrel
        have HPk := Lib.hid hp
        have HBk := Lib.hid hbw
        clear hp hbw
        by_cases hk2 : i < k
        · obtain ⟨kp, rfl⟩ : ∃ kp, k = kp + 1 := ⟨k - 1, by omega⟩
          have hset := (HPk.out.set (kp + 1) (rot f (kp + 1) m b kp)).set kp (rot f (kp + 1) m b (kp + 1))
          have hupd : upd (upd (rot f (kp + 1) m b) (kp + 1) (rot f (kp + 1) m b kp)) kp (rot f (kp + 1) m b (kp + 1)) = rot f kp m b := by
            have e : b = m + 1 := by omega
            rw [e]
            exact rot_down f kp m hkm
          rw [hupd] at hset
          have ck := HPk.out.cell kp (by omega)
          have ck1 := HPk.out.cell (kp + 1) (by omega)
          have fk := HPk.out.free kp
          have fk1 := HPk.out.free (kp + 1)
          generalize rot f (kp + 1) m b kp = x at hset ck
          generalize rot f (kp + 1) m b (kp + 1) = y at hset ck1
          have HS := Lib.hid hset
          have i1 : IntKind.i64.wrap ((kp : Int) + 1 - 1) = (kp : Int) := by
            rw [Int.add_sub_cancel]
            exact IntWalk.i64_in _ (by omega)
          have i0 : IntKind.i64.wrap (kp : Int) = (kp : Int) := IntWalk.i64_in _ (by omega)
          have i2 : (kp : Int) + 1 < (n : Int) := by omega
          have i3 : (kp : Int) < (n : Int) := by omega
          have i4 : kp + 1 < n := by omega
          have i5 : kp < n := by omega
          have i6 : (0 : Int) ≤ (kp : Int) + 1 := by omega
          have i7 : ((kp : Int) + 1).toNat = kp + 1 := by omega
          have i8 : (i : Int) < (kp : Int) + 1 := by omega
          clear hset hupd
          go_wp2
          go_region
          all_goals go_wp2
          go_roundw
          case rel => exact ⟨kp, rfl, by omega, by omega, HS.out, ((HBk.out.setCell (p := ⟨g, kp + 1, none⟩) (Nat.le_refl _) _).setCell (p := ⟨g, kp, none⟩) (Nat.le_refl _) _).drew⟩
          case measure => simp [intOf]
        · obtain rfl : i = k := by omega
          go_wp2
          refine bodyPost_ret (results_none rfl _ _ _) rfl ?_
          exact ⟨rfl, _, HF.out, HPk.out, HBk.out⟩
end Go.Proofs.Ytmiagdmfgebfdaa
