/-
  slices.insertionSortCmpFunc at []int, with row.Sort's comparison of two places: behind it the places of the range are in order, equal ones by their number, and no other block that was there has changed.
  At every range of a row of fewer than 2^40 places that begin as their own numbers.
-/
import Derived.Test.YtmiagdmfgebfdaaRot
import Derived.Deep.RegionHeld3
namespace Go.Proofs.Ytmiagdmfgebfdaa
open Go.RowKit

/-- Equal ones go by their number. -/
def ltp (lt : Nat → Nat → Bool) (x y : Nat) : Prop := lt x y = true ∨ (lt y x = false ∧ x < y)
def OutI (lt : Nat → Nat → Bool) (f0 fx : Nat → Nat) (a i : Nat) : Prop := Srt (ltp lt) fx a i ∧ (∀ p, a ≤ p → p < i → a ≤ fx p ∧ fx p < i) ∧ (∀ p, p < a ∨ i ≤ p → fx p = f0 p)
def InI (lt : Nat → Nat → Bool) (f0 fx : Nat → Nat) (a i j : Nat) : Prop := (∀ p q, a ≤ p → p < q → q ≤ i → p ≠ j → q ≠ j → ltp lt (fx p) (fx q)) ∧ (∀ q, j < q → q ≤ i → ltp lt (fx j) (fx q)) ∧ fx j = i ∧ (∀ p, a ≤ p → p ≤ i → p ≠ j → a ≤ fx p ∧ fx p < i) ∧ (∀ p, p < a ∨ i < p → fx p = f0 p)

theorem in_start {lt : Nat → Nat → Bool} {f0 fx : Nat → Nat} {a i : Nat} (h : OutI lt f0 fx a i) (h0 : f0 i = i) : InI lt f0 fx a i i := by
  obtain ⟨h1, h2, h3⟩ := h
  refine ⟨fun p q hp hpq hq hpi hqi => h1 p q hp hpq (by omega), fun q h1 h2 => by omega, by rw [h3 i (Or.inr (Nat.le_refl _)), h0], fun p hp hpi hne => h2 p hp (by omega), fun p hp => h3 p (by omega)⟩

theorem upd_at (f : Nat → Nat) (i v : Nat) : upd f i v i = v := if_pos rfl
theorem upd_ne (f : Nat → Nat) (i v p : Nat) (h : p ≠ i) : upd f i v p = f p := if_neg h

theorem in_step {lt : Nat → Nat → Bool} {f0 fx : Nat → Nat} {a i j jp : Nat} (h : InI lt f0 fx a i j) (hj : j = jp + 1) (haj : a ≤ jp) (hji : j ≤ i) (hl : lt (fx j) (fx jp) = true) : InI lt f0 (upd (upd fx j (fx jp)) jp (fx j)) a i jp := by
  obtain ⟨h1, h2, h3, h4, h5⟩ := h
  have ej : upd (upd fx j (fx jp)) jp (fx j) jp = fx j := upd_at _ _ _
  have ejp : upd (upd fx j (fx jp)) jp (fx j) j = fx jp := by rw [upd_ne _ _ _ _ (by omega), upd_at]
  have eo : ∀ p, p ≠ j → p ≠ jp → upd (upd fx j (fx jp)) jp (fx j) p = fx p := fun p ha hb => by rw [upd_ne _ _ _ _ hb, upd_ne _ _ _ _ ha]
  refine ⟨?_, ?_, by rw [ej, h3], ?_, ?_⟩
  · intro p q hp hpq hq hpj hqj
    by_cases hpe : p = j
    · subst hpe
      rw [ejp, eo q (by omega) hqj]
      exact h1 jp q haj (by omega) hq (by omega) (by omega)
    · rw [eo p hpe hpj]
      by_cases hqe : q = j
      · subst hqe
        rw [ejp]
        exact h1 p jp hp (by omega) (by omega) hpe (by omega)
      · rw [eo q hqe hqj]
        exact h1 p q hp hpq hq hpe hqe
  · intro q hq hqi
    rw [ej]
    by_cases hqe : q = j
    · subst hqe
      rw [ejp]
      exact Or.inl hl
    · rw [eo q hqe (by omega)]
      exact h2 q (by omega) hqi
  · intro p hp hpi hpj
    by_cases hpe : p = j
    · subst hpe
      rw [ejp]
      exact h4 jp haj (by omega) (by omega)
    · rw [eo p hpe hpj]
      exact h4 p hp hpi hpe
  · intro p hp
    rw [eo p (by omega) (by omega)]
    exact h5 p hp

theorem in_end {lt : Nat → Nat → Bool} {f0 fx : Nat → Nat} {a i j : Nat} (ht : ∀ x y z, ltp lt x y → ltp lt y z → ltp lt x z) (h : InI lt f0 fx a i j) (haj : a ≤ j) (hji : j ≤ i) (hai : a ≤ i) (hl : j = a ∨ lt (fx j) (fx (j - 1)) = false) : OutI lt f0 fx a (i + 1) := by
  obtain ⟨h1, h2, h3, h4, h5⟩ := h
  refine ⟨?_, ?_, fun p hp => h5 p (by omega)⟩
  · intro p q hp hpq hq
    by_cases hqe : q = j
    · subst hqe
      rcases hl with h | h
      · omega
      · have hd : ltp lt (fx (q - 1)) (fx q) := Or.inr ⟨h, by rw [h3]; exact (h4 (q - 1) (by omega) (by omega) (by omega)).2⟩
        by_cases hpe : p = q - 1
        · rw [hpe]
          exact hd
        · exact ht _ _ _ (h1 p (q - 1) hp (by omega) (by omega) (by omega) (by omega)) hd
    · by_cases hpe : p = j
      · subst hpe
        exact h2 q hpq (by omega)
      · exact h1 p q hp hpq (by omega) hpe hqe
  · intro p hp hpi
    by_cases hpe : p = j
    · rw [hpe, h3]
      omega
    · have := h4 p hp (by omega) hpe
      omega

/-- What the comparison that row.Sort hands on answers, while no block below g changes: whether the row at the one place goes ahead of the row at the other. -/
def CmpIs (g n : Nat) (lt : Nat → Nat → Bool) (q : Addr) (w0 : World) : Prop := ∀ W, Below g w0 W → ∀ x y : Nat, x < n → y < n → Calls Try.prog 31 #[.int .i64 x, .int .i64 y, .pointer (some q)] W (fun e W' => ∃ k : Int, e = .returned (.int .i64 k) ∧ decide (k < 0) = lt x y ∧ Below W.heap.size W W')

set_option maxRecDepth 100000 in
set_option maxHeartbeats 4000000 in
theorem p_insert (g n c a b : Nat) (lt : Nat → Nat → Bool) (f0 : Nat → Nat) (q : Addr) (w0 w : World) (ht : ∀ x y z, ltp lt x y → ltp lt y z → ltp lt x z) (hc : CmpIs g n lt q w0) (hab : a < b) (hbn : b ≤ n) (hn : n < 1099511627776) (hf0 : ∀ p, a ≤ p → p < b → f0 p = p) (h : PAt w g n f0) (hb : Below g w0 w) :
    Calls Try.prog 81 #[.slice (some ⟨g, 0, none⟩) n c, .int .i64 a, .int .i64 b, .func (.func 31) #[] #[.pointer (some q)]] w fun e w' => e = .returned (.tuple #[]) ∧ ∃ f, OutI lt f0 f a b ∧ PAt w' g n f ∧ Below g w0 w' := by
  have H := Lib.hid h
  have HC := Lib.hid hc
  have HB0 := Lib.hid hb
  have HT := Lib.hid ht
  have HF0 := Lib.hid hf0
  clear h hc hb ht hf0
  go_enter Try.func81, Try.ntmps81
  go_wp2
  go_loopw [8, 9] (fun i _ wr => ∃ (k : Nat) (fx : Nat → Nat), i = .int .i64 k ∧ a < k ∧ k ≤ b ∧ Hid (OutI lt f0 fx a k) ∧ PAt wr g n fx ∧ Below g w0 wr) (fun i _ _ => b - (intOf i).toNat)
  case atStart =>
    refine ⟨a + 1, f0, by go_num, by omega, by omega, Lib.hid ⟨fun i j h1 h2 h3 => by omega, fun p h1 h2 => ?_, fun p _ => rfl⟩, H.out, HB0.out⟩
    have e : p = a := by omega
    rw [e, HF0.out a (Nat.le_refl _) hab]
    omega
  case round =>
    obtain ⟨k, fx, rfl, hak, hkb, hI, hp, hbw⟩ := hrel
    have HP := Lib.hid hp
    have HBW := Lib.hid hbw
    clear hp hbw
    by_cases hk : k < b
    · go_wp2
      go_loopw [9] (fun i wr => ∃ (j : Nat) (fy : Nat → Nat), i = .int .i64 j ∧ a ≤ j ∧ j ≤ k ∧ Hid (InI lt f0 fy a k j) ∧ PAt wr g n fy ∧ Below g w0 wr) (fun i _ => (intOf i).toNat)
      case atStart => exact ⟨k, fx, rfl, by omega, by omega, Lib.hid (in_start hI.out (HF0.out k (by omega) hk)), HP.out, HBW.out⟩
      case round =>
        rename_i wo
        obtain ⟨j, fy, rfl, haj, hjk, hJ, hp, hbw⟩ := hrel
        have HPj := Lib.hid hp
        have HBj := Lib.hid hbw
        clear hp hbw
        by_cases hja : a < j
        · obtain ⟨jp, rfl⟩ : ∃ jp, j = jp + 1 := ⟨j - 1, by omega⟩
          have hxj : fy (jp + 1) < n := by have := hJ.out.2.2.1; omega
          have hyj : fy jp < n := by have := hJ.out.2.2.2.1 jp (by omega) (by omega) (by omega); omega
          have hcmp := fun W hW => HC.out W hW (fy (jp + 1)) (fy jp) hxj hyj
          have hcell := fun W (hW : PAt W g n fy) => And.intro (hW.cell (jp + 1) (by omega)) (hW.cell jp (by omega))
          have hfre := fun W (hW : PAt W g n fy) => And.intro (hW.free (jp + 1)) (hW.free jp)
          have hstep := fun hl => in_step hJ.out rfl (by omega) hjk hl
          have hset := fun W (hW : PAt W g n fy) => (hW.set (jp + 1) (fy jp)).set jp (fy (jp + 1))
          have hend := fun hl => in_end HT.out hJ.out haj hjk (by omega) (Or.inr hl)
          rw [Nat.add_sub_cancel] at hend
          obtain ⟨x, ex⟩ : ∃ x, fy (jp + 1) = x := ⟨_, rfl⟩
          obtain ⟨y, ey⟩ : ∃ y, fy jp = y := ⟨_, rfl⟩
          rw [ex, ey] at hcmp hstep hend
          simp only [ex, ey] at hcell hset
          have HCM := Lib.hid hcmp
          have HCE := Lib.hid hcell
          have HFR := Lib.hid hfre
          have HSE := Lib.hid hset
          have HST := Lib.hid hstep
          have HEN := Lib.hid hend
          obtain ⟨cj, cp⟩ := hcell _ HPj.out
          have a1 : decide (a < jp + 1) = true := by rw [decide_eq_true_eq]; exact hja
          have a2 : (a : Int) ≤ (jp : Int) := by omega
          have a3 : a ≤ jp := by omega
          have a4 : (a : Int) < (jp : Int) + 1 := by omega
          have i1 : IntKind.i64.wrap ((jp : Int) + 1 - 1) = (jp : Int) := by
            rw [Int.add_sub_cancel]
            exact IntWalk.i64_in _ (by omega)
          have i7 : IntKind.i64.wrap (jp : Int) = (jp : Int) := IntWalk.i64_in _ (by omega)
          have i2 : (jp : Int) + 1 < (n : Int) := by omega
          have i3 : (jp : Int) < (n : Int) := by omega
          have i4 : jp + 1 < n := by omega
          have i5 : jp < n := by omega
          have i8 : (0 : Int) ≤ (jp : Int) + 1 := by omega
          have i9 : ((jp : Int) + 1).toNat = jp + 1 := by omega
          clear hcmp hcell hset hstep hend hfre ex ey hxj hyj
          rcases Bool.eq_false_or_eq_true (lt x y) with hl | hl
          · have hst := HST.out hl
            have HST2 := Lib.hid hst
            rw [hl] at HCM
            clear hst
            go_wp2
            go_region_held3 (fun w' => w'.cell? { block := g, off := jp + 1 } = some (.int .i64 (x : Int)) ∧ w'.cell? { block := g, off := jp } = some (.int .i64 (y : Int))) (go_keep) (first
              | (go_at_call 31; refine (HCM.out _ (by exact HBj.out.drew)).mono ?_; rintro e wa ⟨z, rfl, hz, hba⟩; have hbc : Below wr.heap.size wr wa := ((Below.refl _ wr).drew).trans hba; have HPa := Lib.hid (HPj.out.below hbc HPj.out.lt); have HBa := Lib.hid (HBj.out.trans (hbc.mono (Nat.le_of_lt HPj.out.lt))); clear hbc; obtain ⟨cj, cp⟩ := HCE.out _ HPa.out; clear hba))
            obtain ⟨fj, fp⟩ := HFR.out _ HPa.out
            have HS := Lib.hid (HSE.out _ HPa.out)
            go_wp2
            go_region
            all_goals go_wp2
            go_roundw
            case rel => exact ⟨jp, _, rfl, a3, by omega, HST2, HS.out, ((HBa.out.setCell (p := ⟨g, jp + 1, none⟩) (Nat.le_refl _) _).setCell (p := ⟨g, jp, none⟩) (Nat.le_refl _) _).drew⟩
            case measure => simp [intOf]
          · have hen := Lib.hid (HEN.out hl)
            rw [hl] at HCM
            go_wp2
            go_region_held3 (fun w' => w'.cell? { block := g, off := jp + 1 } = some (.int .i64 (x : Int)) ∧ w'.cell? { block := g, off := jp } = some (.int .i64 (y : Int))) (go_keep) (first
              | (go_at_call 31; refine (HCM.out _ (by exact HBj.out.drew)).mono ?_; rintro e wa ⟨z, rfl, hz, hba⟩; have hbc : Below wr.heap.size wr wa := ((Below.refl _ wr).drew).trans hba; have HPa := Lib.hid (HPj.out.below hbc HPj.out.lt); have HBa := Lib.hid (HBj.out.trans (hbc.mono (Nat.le_of_lt HPj.out.lt))); clear hbc; obtain ⟨cj, cp⟩ := HCE.out _ HPa.out; clear hba))
            go_wp2
            go_roundw
            case rel => exact ⟨k + 1, fy, by go_num, by omega, by omega, hen, HPa.out, HBa.out⟩
            case measure => simp [intOf]; omega
        · obtain rfl : j = a := by omega
          have a1 : decide (j < j) = false := by rw [decide_eq_false_iff_not]; omega
          have hen := Lib.hid (in_end HT.out hJ.out haj hjk (by omega) (Or.inl rfl))
          go_wp2
          go_quiet (fail)
          go_wp2
          go_roundw
          case rel => exact ⟨k + 1, fy, by go_num, by omega, by omega, hen, HPj.out, below_drewN' HBj.out _⟩
          case measure => simp [intOf]; omega
    · obtain rfl : k = b := by omega
      go_wp2
      go_end0
      exact ⟨rfl, fx, hI.out, HP.out, HBW.out⟩
end Go.Proofs.Ytmiagdmfgebfdaa
