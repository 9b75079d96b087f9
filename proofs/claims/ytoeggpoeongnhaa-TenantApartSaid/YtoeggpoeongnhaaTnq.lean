/-
  The document's tree of tenants: the place of one, whether one is there, those above and under it.
  Condition: no more than a thousand tenants.
-/
import Derived.Test.YtoeggpoeongnhaaTnk
namespace Go.Proofs.Ytoeggpoeongnhaa
open Go.RowKit Go.Maps

/-- The document's tree at block r, its list at v. -/
def RefB (w : World) (q r : Nat) (v : Value) (L : List Tn) : Prop := w.heap[r]? = some (.cells #[v] 66 (0, 0)) ∧ OwnN w q v L
theorem RefB.lt {w : World} {q r : Nat} {v : Value} {L : List Tn} (h : RefB w q r v L) : r < w.heap.size := (Array.getElem?_eq_some_iff.1 h.1).1
theorem RefB.below {w w' : World} {q r : Nat} {v : Value} {L : List Tn} (h : RefB w q r v L) (hb : Below w.heap.size w w') : RefB w' q r v L := ⟨(hb.block r h.lt).trans h.1, h.2.below hb (Nat.le_refl _)⟩
/-- The place of the first one of that name. -/
def posT (L : List Tn) (n : ByteArray) : Nat := L.findIdx fun x => decide (x.1 = n)
def findR (L : List Tn) (n : ByteArray) : Int := if (findN L n).isSome = true then (posT L n : Int) else -1
theorem posT_at {L : List Tn} {n : ByteArray} {x : Tn} (h : findN L n = some x) : L[posT L n]? = some x ∧ posT L n < L.length := by
  have hlt : posT L n < L.length := by
    unfold posT
    rw [List.findIdx_lt_length]
    obtain ⟨h1, h2⟩ := findN_some h
    exact ⟨x, h1, by simpa using h2⟩
  refine ⟨?_, hlt⟩
  unfold findN at h
  rw [List.find?_eq_getElem?_findIdx] at h
  exact h
theorem pos_step (L : List Tn) (n : ByteArray) (k : Nat) (x : Tn) (hx : L[k]? = some x) : findR (L.drop k) n = if (x.1.toList == n.toList) = true then 0 else if findR (L.drop (k + 1)) n = -1 then -1 else findR (L.drop (k + 1)) n + 1 := by
  have hlt := (List.getElem?_eq_some_iff.1 hx).1
  have hd : L.drop k = x :: L.drop (k + 1) := by
    rw [List.drop_eq_getElem_cons hlt]
    rw [List.getElem?_eq_getElem hlt] at hx
    injection hx with hx
    rw [hx]
  rw [hd]
  obtain ⟨a, q⟩ := x
  unfold findR posT
  rw [findN_cons, List.findIdx_cons]
  by_cases h : a = n
  · subst h
    simp
  · have h1 : ¬ ((a.toList == n.toList) = true) := fun e => h (toList_eqT.1 e)
    have hnn : (if n = a then some (a, q) else findN (L.drop (k + 1)) n) = findN (L.drop (k + 1)) n := if_neg (fun e => h e.symm)
    rw [hnn, if_neg h1]
    by_cases hs : (findN (L.drop (k + 1)) n).isSome = true
    · rw [if_pos hs, if_pos hs, if_neg (by omega)]
      simp [h]
    · rw [if_neg hs, if_neg hs, if_pos rfl]

set_option maxRecDepth 100000 in
set_option maxHeartbeats 2000000 in
theorem r_findT (q r : Nat) (v : Value) (L : List Tn) (n : ByteArray) (w : World) (hR : RefB w q r v L) (hl : L.length ≤ 1000) :
    Calls Try.prog 75 #[.pointer (some ⟨r, 0, none⟩), .string n] w fun e w' => e = .returned (.int .i64 (findR L n)) ∧ Below w.heap.size w w' := by
  obtain ⟨A, c, rfl, _, _, hat, hag⟩ := hR.2.slice
  have hrl := hR.lt
  have C0 := Lib.hid (cell_rowT w r _ _ hR.1)
  have HAT := Lib.hid hat
  have HAG := Lib.hid hag
  clear hR hat hag
  go_enter Try.func75, Try.ntmps75
  go_wp2
  go_loopw [5] (fun i wr => ∃ k : Nat, k ≤ L.length ∧ i = .int .i64 k ∧ Hid (findR L n = if findR (L.drop k) n = -1 then -1 else findR (L.drop k) n + k) ∧ Below w.heap.size w wr) (fun i _ => L.length - (intOf i).toNat)
  case atStart => exact ⟨0, Nat.zero_le _, rfl, Lib.hid (by rw [List.drop_zero]; by_cases h : findR L n = -1 <;> simp [h]), Below.refl _ _⟩
  case round =>
    obtain ⟨k, hk, rfl, HF, hb⟩ := hrel
    have HB := Lib.hid hb
    have hat := HAT.out.below hb
    have c0 := (hb.cell (p := ⟨r, 0, none⟩) hrl).trans C0.out
    clear hb
    by_cases hlt : k < L.length
    · obtain ⟨g, rfl⟩ := hat.head HAG.out (by omega)
      obtain ⟨⟨x1, x2⟩, hx⟩ : ∃ x, L[k]? = some x := ⟨_, List.getElem?_eq_getElem hlt⟩
      obtain ⟨c1, c2⟩ := hat.at k _ hx
      have hs := pos_step L n k _ hx
      clear hat hx
      simp only at c1 c2 hs
      rcases Bool.eq_false_or_eq_true (x1.toList == n.toList) with he | he
      · rw [if_pos he] at hs
        have HFF : Hid (findR L n = k) := Lib.hid (by rw [HF.out, hs]; simp)
        clear hs
        go_wp2
        go_ret
        exact ⟨by rw [HFF.out]; rfl, HB.out⟩
      · rw [if_neg (by rw [he]; simp)] at hs
        have HFF : Hid (findR L n = if findR (L.drop (k + 1)) n = -1 then -1 else findR (L.drop (k + 1)) n + (k + 1 : Nat)) := Lib.hid (by
          rw [HF.out, hs]
          by_cases h : findR (L.drop (k + 1)) n = -1
          · rw [if_pos h, if_pos rfl]; simp [h]
          · rw [if_neg h, if_neg h]
            have : 0 ≤ findR (L.drop (k + 1)) n := by
              unfold findR at h ⊢
              split at h <;> simp_all
            rw [if_neg (by omega)]
            omega)
        clear hs
        go_wp2
        go_roundw
        case rel => exact ⟨k + 1, by omega, by go_num, HFF, HB.out⟩
        case measure => simp [intOf]; omega
    · have hkl : k = L.length := by omega
      subst hkl
      have HFF : Hid (findR L n = -1) := Lib.hid (by rw [HF.out, List.drop_length]; rfl)
      go_wp2
      go_ret
      exact ⟨by rw [HFF.out]; rfl, HB.out⟩
theorem findR_has (L : List Tn) (n : ByteArray) : decide (0 ≤ findR L n) = (findN L n).isSome := by
  unfold findR
  cases h : (findN L n).isSome <;> simp
set_option maxHeartbeats 1000000 in
theorem r_hasT (q r : Nat) (v : Value) (L : List Tn) (n : ByteArray) (w : World) (hR : RefB w q r v L) (hl : L.length ≤ 1000) :
    Calls Try.prog 36 #[.pointer (some ⟨r, 0, none⟩), .string n] w fun e w' => e = .returned (.bool (findN L n).isSome) ∧ Below w.heap.size w w' := by
  have HF := Lib.hid (r_findT q r v L n w hR hl)
  rw [← findR_has]
  clear hR
  generalize findR L n = fr at *
  go_enter Try.func36, Try.ntmps36
  go_wp2_with fail
  refine HF.out.mono ?_
  rintro e w1 ⟨rfl, hb⟩
  go_wp2
  go_ret
  exact ⟨rfl, hb⟩
end Go.Proofs.Ytoeggpoeongnhaa
