/-
  Compare and Same of package row, and the document's own Compare, Same and Equal of two rows, answer the plain order and the plain oneness of two rows, at every two rows and in every world; nothing that was there is changed.
  No condition but that a row, and a text, is no longer than it can be.
-/
import Derived.Test.YtpliofhphijdkaaRow
import Derived.Laws.StructEq
import Derived.Deep.RegionHeld3
namespace Go.Proofs.Ytpliofhphijdkaa
open Go.RowKit

attribute [local go_sem high] equal_val

theorem below_drew (B : Nat) (w : World) : Below B w w.drew := (Below.refl B w).drew

/-- No text of the row is longer than a text can be. -/
def Fit (xs : List V) : Prop := ∀ (i : Nat) (v : V), xs[i]? = some v → v.t.size ≤ maxLen

set_option maxHeartbeats 400000 in
theorem row_cmp (A B : Option Addr) (xs ys : List V) (n m c c' : Nat) (w : World) (hn : n = xs.length) (hm : m = ys.length) (hl : n ≤ maxLen) (hx : RowAt w w.heap.size A xs) (hy : RowAt w w.heap.size B ys) :
    Calls Try.prog 69 #[.slice A n c, .slice B m c'] w fun e w' => e = .returned (.int .i64 (cmpR xs ys)) ∧ Below w.heap.size w w' := by
  have HF := Lib.hid (cmp_func A B xs ys n m c c' w hn hm hl hx hy)
  clear hx hy hn hm hl
  go_enter Try.func69, Try.ntmps69
  go_wp2_with fail
  refine HF.out.mono ?_
  rintro e w' ⟨rfl, hb⟩
  go_wp2
  go_ret
  exact ⟨rfl, hb⟩

set_option maxHeartbeats 400000 in
theorem row_same (A B : Option Addr) (xs ys : List V) (n m c c' : Nat) (w : World) (hn : n = xs.length) (hm : m = ys.length) (hl : n ≤ maxLen) (hx : RowAt w w.heap.size A xs) (hy : RowAt w w.heap.size B ys) :
    Calls Try.prog 61 #[.slice A n c, .slice B m c'] w fun e w' => e = .returned (.bool (cmpR xs ys == 0)) ∧ Below w.heap.size w w' := by
  have HF := Lib.hid (row_cmp A B xs ys n m c c' w hn hm hl hx hy)
  clear hx hy hn hm hl
  go_enter Try.func61, Try.ntmps61
  go_wp2_with fail
  refine HF.out.mono ?_
  rintro e w' ⟨rfl, hb⟩
  go_wp2
  go_ret
  exact ⟨rfl, hb⟩

set_option maxHeartbeats 1000000 in
theorem ref_cmpR (A B : Option Addr) (xs ys : List V) (n m c c' : Nat) (w : World) (hn : n = xs.length) (hm : m = ys.length) (hl : n ≤ maxLen) (hfit : Fit xs) (hx : RowAt w w.heap.size A xs) (hy : RowAt w w.heap.size B ys) :
    Calls Try.prog 52 #[.slice A n c, .slice B m c'] w fun e w' => e = .returned (.int .i64 (cmpR xs ys)) ∧ Below w.heap.size w w' := by
  unfold maxLen at hl
  have HX := Lib.hid hx
  have HY := Lib.hid hy
  have HN := Lib.hid hn
  have HM := Lib.hid hm
  have HT := Lib.hid hfit
  clear hx hy hn hm hfit
  go_enter Try.func52, Try.ntmps52
  go_wp2
  go_loopw [5] (fun i wr => ∃ k : Nat, k ≤ n ∧ k ≤ m ∧ i = .int .i64 k ∧ cmpR xs ys = cmpR (xs.drop k) (ys.drop k) ∧ Below w.heap.size w wr) (fun i _ => n - (intOf i).toNat)
  case atStart => exact ⟨0, Nat.zero_le _, Nat.zero_le _, rfl, rfl, Below.refl _ _⟩
  case round =>
    obtain ⟨k, hk, hkm, rfl, hc, hb⟩ := hrel
    have HC := Lib.hid hc
    have HB := Lib.hid hb
    have hsz : w.heap.size ≤ wr.heap.size := hb.size
    clear hc hb
    by_cases h1 : k < n
    · obtain ⟨v, hv⟩ : ∃ v, xs[k]? = some v := ⟨_, List.getElem?_eq_getElem (by rw [← HN.out]; exact h1)⟩
      obtain ⟨a, rfl, ha, a0, a1, a2, a3⟩ := (HX.out.below HB.out) k v hv
      have HV := Lib.hid hv
      clear hv
      by_cases h2 : k < m
      · obtain ⟨u, hu⟩ : ∃ u, ys[k]? = some u := ⟨_, List.getElem?_eq_getElem (by rw [← HM.out]; exact h2)⟩
        obtain ⟨b, rfl, hb, b0, b1, b2, b3⟩ := (HY.out.below HB.out) k u hu
        have HU := Lib.hid hu
        clear hu
        have ha' : (a.add (k * 4)).block < wr.heap.size := by omega
        have hb' : (b.add (k * 4)).block < wr.heap.size := by omega
        by_cases hz : cmpV v u = 0
        · have HZ := Lib.hid hz
          clear hz
          go_wp2
          go_region_held3 (fun w' => w'.cell? (a.add (k * 4)) = some (.int .i64 v.k) ∧ w'.cell? { block := (a.add (k * 4)).block, off := (a.add (k * 4)).off + 1 } = some (.bool v.f) ∧ w'.cell? { block := (a.add (k * 4)).block, off := (a.add (k * 4)).off + 2 } = some (.int .i64 v.n) ∧ w'.cell? { block := (a.add (k * 4)).block, off := (a.add (k * 4)).off + 3 } = some (.string v.t) ∧
              w'.cell? (b.add (k * 4)) = some (.int .i64 u.k) ∧ w'.cell? { block := (b.add (k * 4)).block, off := (b.add (k * 4)).off + 1 } = some (.bool u.f) ∧ w'.cell? { block := (b.add (k * 4)).block, off := (b.add (k * 4)).off + 2 } = some (.int .i64 u.n) ∧ w'.cell? { block := (b.add (k * 4)).block, off := (b.add (k * 4)).off + 3 } = some (.string u.t)) (go_keep)
            (first | (go_at_call 59; refine (ref_cmp v u _ (HT.out k v HV.out)).mono ?_; rintro e w' ⟨rfl, hb2⟩; have hcl : ∀ p : Addr, p.block < wr.heap.size → w'.cell? p = wr.cell? p := fun p hp => hb2.cell hp; rw [HZ.out]))
          go_wp2
          go_roundw
          case rel =>
            refine ⟨k + 1, by omega, by omega, by go_num, ?_, ?_⟩
            · rw [HC.out, cmpR_step _ _ _ _ _ HV.out HU.out, if_pos HZ.out]
            · exact HB.out.trans ((below_drew _ _).trans (hb2.mono hsz))
          case measure => simp [intOf]; omega
        · go_wp2
          go_region_held3 (fun w' => w'.cell? (a.add (k * 4)) = some (.int .i64 v.k) ∧ w'.cell? { block := (a.add (k * 4)).block, off := (a.add (k * 4)).off + 1 } = some (.bool v.f) ∧ w'.cell? { block := (a.add (k * 4)).block, off := (a.add (k * 4)).off + 2 } = some (.int .i64 v.n) ∧ w'.cell? { block := (a.add (k * 4)).block, off := (a.add (k * 4)).off + 3 } = some (.string v.t) ∧
              w'.cell? (b.add (k * 4)) = some (.int .i64 u.k) ∧ w'.cell? { block := (b.add (k * 4)).block, off := (b.add (k * 4)).off + 1 } = some (.bool u.f) ∧ w'.cell? { block := (b.add (k * 4)).block, off := (b.add (k * 4)).off + 2 } = some (.int .i64 u.n) ∧ w'.cell? { block := (b.add (k * 4)).block, off := (b.add (k * 4)).off + 3 } = some (.string u.t)) (go_keep)
            (first | (go_at_call 59; refine (ref_cmp v u _ (HT.out k v HV.out)).mono ?_; rintro e w' ⟨rfl, hb2⟩; have hcl : ∀ p : Addr, p.block < wr.heap.size → w'.cell? p = wr.cell? p := fun p hp => hb2.cell hp))
          go_wp2
          go_ret
          refine ⟨ret_int ?_, ?_⟩
          · rw [HC.out, cmpR_step _ _ _ _ _ HV.out HU.out, if_neg hz]
          · exact HB.out.trans ((below_drew _ _).trans (hb2.mono hsz))
      · have hlt : m < n := by omega
        go_wp2
        go_ret
        refine ⟨ret_int ?_, HB.out⟩
        rw [HC.out, cmpR_endr _ _ _ (by rw [← HM.out]; omega) (by rw [← HN.out]; exact h1)]
    · by_cases h2 : n < m
      · go_wp2
        go_ret
        refine ⟨ret_int ?_, HB.out⟩
        rw [HC.out, cmpR_endl _ _ _ (by rw [← HN.out]; omega) (by rw [← HM.out]; exact hkm), if_pos (by rw [← HN.out, ← HM.out]; exact h2)]
      · have h3 : ¬ m < n := by omega
        go_wp2
        go_ret
        refine ⟨ret_int ?_, HB.out⟩
        rw [HC.out, cmpR_endl _ _ _ (by rw [← HN.out]; omega) (by rw [← HM.out]; exact hkm), if_neg (by rw [← HN.out, ← HM.out]; omega)]

set_option maxHeartbeats 400000 in
theorem ref_sameR (A B : Option Addr) (xs ys : List V) (n m c c' : Nat) (w : World) (hn : n = xs.length) (hm : m = ys.length) (hl : n ≤ maxLen) (hfit : Fit xs) (hx : RowAt w w.heap.size A xs) (hy : RowAt w w.heap.size B ys) :
    Calls Try.prog 53 #[.slice A n c, .slice B m c'] w fun e w' => e = .returned (.bool (cmpR xs ys == 0)) ∧ Below w.heap.size w w' := by
  have HF := Lib.hid (ref_cmpR A B xs ys n m c c' w hn hm hl hfit hx hy)
  clear hx hy hn hm hl hfit
  go_enter Try.func53, Try.ntmps53
  go_wp2_with fail
  refine HF.out.mono ?_
  rintro e w' ⟨rfl, hb⟩
  go_wp2
  go_ret
  exact ⟨rfl, hb⟩

/-- Are two rows one, cell by cell? -/
def eqR : List V → List V → Bool
  | [], [] => true
  | [], _ :: _ => false
  | _ :: _, [] => false
  | a :: x, b :: y => eqV a b && eqR x y

theorem eqR_iff : ∀ (x y : List V), eqR x y = true ↔ x = y
  | [], [] => by simp [eqR]
  | [], _ :: _ => by simp [eqR]
  | _ :: _, [] => by simp [eqR]
  | a :: x, b :: y => by
    unfold eqR
    rw [Bool.and_eq_true, eqV_iff, eqR_iff x y]
    simp
theorem eqR_self (x : List V) : eqR x x = true := (eqR_iff x x).2 rfl
theorem eqR_len : ∀ (x y : List V), ¬ x.length = y.length → eqR x y = false
  | [], [], h => absurd rfl h
  | [], _ :: _, _ => rfl
  | _ :: _, [], _ => rfl
  | a :: x, b :: y, h => by
    unfold eqR
    rw [eqR_len x y (by simpa using h), Bool.and_false]
theorem eqR_step (xs ys : List V) (k : Nat) (a b : V) (ha : xs[k]? = some a) (hb : ys[k]? = some b) : eqR (xs.drop k) (ys.drop k) = (eqV a b && eqR (xs.drop (k + 1)) (ys.drop (k + 1))) := by
  obtain ⟨h1, h2⟩ := List.getElem?_eq_some_iff.1 ha
  obtain ⟨h3, h4⟩ := List.getElem?_eq_some_iff.1 hb
  rw [List.drop_eq_getElem_cons h1, List.drop_eq_getElem_cons h3, h2, h4]
  rfl

set_option maxHeartbeats 1000000 in
theorem ref_equal (A B : Option Addr) (xs ys : List V) (n m c c' : Nat) (w : World) (hn : n = xs.length) (hm : m = ys.length) (hl : n ≤ maxLen) (hx : RowAt w w.heap.size A xs) (hy : RowAt w w.heap.size B ys) :
    Calls Try.prog 25 #[.slice A n c, .slice B m c'] w fun e w' => e = .returned (.bool (eqR xs ys)) ∧ ∃ nd, w' = w.drewN nd := by
  unfold maxLen at hl
  have HX := Lib.hid hx
  have HY := Lib.hid hy
  have HN := Lib.hid hn
  have HM := Lib.hid hm
  clear hx hy hn hm
  by_cases hnm : n = m
  · subst hnm
    have he : eqR xs ys = eqR (xs.drop 0) (ys.drop 0) := rfl
    have HE := Lib.hid he
    clear he
    go_enter Try.func25, Try.ntmps25
    go_wp2
    go_loopw [5] (fun i wr => ∃ k : Nat, k ≤ n ∧ i = .int .i64 k ∧ eqR xs ys = eqR (xs.drop k) (ys.drop k) ∧ ∃ nd, wr = w.drewN nd) (fun i _ => n - (intOf i).toNat)
    case atStart => exact ⟨0, Nat.zero_le _, rfl, HE.out, 0, rfl⟩
    case round =>
      obtain ⟨k, hk, rfl, hc, nd, rfl⟩ := hrel
      have HC := Lib.hid hc
      clear hc
      by_cases h1 : k < n
      · obtain ⟨v, hv⟩ : ∃ v, xs[k]? = some v := ⟨_, List.getElem?_eq_getElem (by rw [← HN.out]; exact h1)⟩
        obtain ⟨a, rfl, _, a0, a1, a2, a3⟩ := HX.out k v hv
        obtain ⟨u, hu⟩ : ∃ u, ys[k]? = some u := ⟨_, List.getElem?_eq_getElem (by rw [← HM.out]; exact h1)⟩
        obtain ⟨b, rfl, _, b0, b1, b2, b3⟩ := HY.out k u hu
        have HV := Lib.hid hv
        have HU := Lib.hid hu
        clear hv hu
        rcases Bool.eq_false_or_eq_true (eqV v u) with hz | hz
        · go_wp2
          go_quiet (fail)
          go_wp2
          go_roundw
          case rel =>
            refine ⟨k + 1, by omega, by go_num, ?_, _, rfl⟩
            rw [HC.out, eqR_step _ _ _ _ _ HV.out HU.out, hz, Bool.true_and]
          case measure => simp [intOf]; omega
        · go_wp2
          go_quiet (fail)
          go_wp2
          go_ret
          refine ⟨ret_bool ?_, drewN2 _ _ _⟩
          rw [HC.out, eqR_step _ _ _ _ _ HV.out HU.out, hz, Bool.false_and]
      · go_wp2
        go_ret
        refine ⟨ret_bool ?_, nd, rfl⟩
        rw [HC.out, List.drop_of_length_le (by rw [← HN.out]; omega), List.drop_of_length_le (by rw [← HM.out]; omega)]
        rfl
  · have HL := Lib.hid (eqR_len xs ys (by rw [← HN.out, ← HM.out]; exact hnm))
    go_enter Try.func25, Try.ntmps25
    go_wp2
    go_ret
    exact ⟨ret_bool HL.out.symm, 0, rfl⟩
end Go.Proofs.Ytpliofhphijdkaa
