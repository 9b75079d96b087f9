/-
  Objects and what tells them apart, as plain things; keys of a map that are three texts; a map from keys to objects, read as a list.
  No condition but that texts are no longer than texts can be.
-/
import Derived.Test.YtoeggpoeongnhaaCq
import Derived.Test.YtoeggpoeongnhaaOwn
import Derived.Test.YtoeggpoeongnhaaLaw
import Derived.Maps.OwnSet
import Derived.Maps.OwnOps
import Derived.WalkSpells
import Derived.DeepKeys5
namespace Go.Proofs.Ytoeggpoeongnhaa
open Go.RowKit Go.Maps

/-- What tells an object from all others: its kind, its space, its name. -/
abbrev Ky := ByteArray × ByteArray × ByteArray
def kV (k : Ky) : Value := .agg #[.string k.1, .string k.2.1, .string k.2.2]
def kOk (k : Ky) : Prop := k.1.size ≤ maxLen ∧ k.2.1.size ≤ maxLen ∧ k.2.2.size ≤ maxLen
def ko (k : Ky) : Lit := .string (keyBytes [.string k.1.data.toList, .string k.2.1.data.toList, .string k.2.2.data.toList])

theorem lawO : Keyed Try.prog 103 := Keyed.of_law (deep_law_gate Try.laidOut (of_decide_eq_true (by kernel_rfl)) (of_decide_eq_true (by kernel_rfl)) (by kernel_rfl) (by kernel_rfl))

theorem fieldsO : Try.prog.underlying 103 = some (.struct (Try.prog.fieldsOf 103)) := by kernel_rfl
theorem cellsK : Try.prog.cellsOf 103 = 3 := by kernel_rfl
theorem lits_str (d : Nat) (a : ByteArray) : Try.prog.keyLits (d + 1) 9 [.string a] = if a.size ≤ maxLen then some [.string a.data.toList] else none := by
  unfold Program.keyLits
  rw [Try.underlying9]
theorem lits_ky (d : Nat) (k : Ky) (h : kOk k) : Try.prog.keyLits (d + 1 + 1) 103 [.string k.1, .string k.2.1, .string k.2.2] = some [.string k.1.data.toList, .string k.2.1.data.toList, .string k.2.2.data.toList] := by
  obtain ⟨h1, h2, h3⟩ := h
  have c0 : Try.prog.cellsOf 9 = 1 := by kernel_rfl
  unfold Program.keyLits
  rw [Try.underlying103]
  show (if _ ∧ _ then _ else _) = _
  rw [if_pos ⟨cellsK.symm, by kernel_rfl⟩]
  simp [List.mapM_cons, c0, lits_str, h1, h2, h3]
theorem sizeO : ∃ m, Try.prog.types.size = m + 1 := ⟨Try.prog.types.size - 1, by
  have h : decide (0 < Try.prog.types.size) = true := by kernel_rfl
  have := of_decide_eq_true h
  omega⟩
theorem keyOf_ky {k : Ky} (h : kOk k) : keyOf Try.prog 103 (kV k) = some (ko k) := by
  have hk : Try.prog.keyType 103 = true := by kernel_rfl
  obtain ⟨m, hm⟩ : ∃ m, Try.prog.types.size = m + 1 := sizeO
  have hf : Value.formed Try.prog 103 (kV k) = true := by
    unfold kV Value.formed
    rw [fieldsO]
    simp only [cellsK]
    rfl
  unfold keyOf
  rw [fieldsO]
  simp only [hk, hf, Bool.and_self, if_true, hm]
  unfold kV ko
  simp only [Value.cells]
  rw [lits_ky m k h]
  rfl
set_option maxRecDepth 100000 in
theorem lits_inv (m : Nat) (v : Value) (r : List Lit) (hv : Try.prog.keyLits (m + 1) 9 [v] = some r) : ∃ s : ByteArray, v = .string s ∧ s.size ≤ maxLen ∧ r = [.string s.data.toList] := by
  cases v with
  | string s =>
    rw [lits_str] at hv
    split at hv
    · rename_i hs
      injection hv with hv
      exact ⟨s, rfl, hs, hv.symm⟩
    · cases hv
  | _ =>
    exfalso
    unfold Program.keyLits at hv
    rw [Try.underlying9] at hv
    cases hv
theorem three_of {α : Type} {l : List α} (h : l.length = 3) : ∃ x y z, l = [x, y, z] := by
  match l, h with
  | [x, y, z], _ => exact ⟨x, y, z, rfl⟩
theorem lits_three (d : Nat) (x y z : Value) : Try.prog.keyLits (d + 1 + 1) 103 [x, y, z] = (Try.prog.keyLits (d + 1) 9 [x]).bind fun a => (Try.prog.keyLits (d + 1) 9 [y]).bind fun b => (Try.prog.keyLits (d + 1) 9 [z]).bind fun c => some (a ++ (b ++ c)) := by
  have c0 : Try.prog.cellsOf 9 = 1 := by kernel_rfl
  conv => lhs; unfold Program.keyLits
  rw [Try.underlying103]
  show (if _ ∧ _ then _ else _) = _
  rw [if_pos ⟨cellsK.symm, by kernel_rfl⟩]
  simp only [List.mapM_cons, List.mapM_nil, c0]
  cases hx : Try.prog.keyLits (d + 1) 9 [x] with
  | none => simp [hx]
  | some a =>
    cases hy : Try.prog.keyLits (d + 1) 9 [y] with
    | none => simp [hx, hy]
    | some b =>
      cases hz : Try.prog.keyLits (d + 1) 9 [z] with
      | none => simp [hx, hy, hz]
      | some c => simp [hx, hy, hz]
/-- What reads as a key is one. -/
theorem keyOf_back {v : Value} {l : Lit} (h : keyOf Try.prog 103 v = some l) : ∃ k, kOk k ∧ v = kV k ∧ l = ko k := by
  have hk : Try.prog.keyType 103 = true := by kernel_rfl
  obtain ⟨m, hm⟩ : ∃ m, Try.prog.types.size = m + 1 := sizeO
  unfold keyOf at h
  rw [fieldsO] at h
  simp only [hk, Bool.true_and] at h
  split at h
  · rename_i hf
    cases v <;> simp only [Value.formed, fieldsO, cellsK, Bool.false_eq_true] at hf
    rename_i xs
    obtain ⟨l0⟩ := xs
    obtain ⟨x, y, z, rfl⟩ := three_of (l := l0) (by simpa using hf)
    · simp only [hm, Value.cells, lits_three] at h
      cases hx : Try.prog.keyLits (m + 1) 9 [x] with
      | none => simp [hx] at h
      | some a =>
        cases hy : Try.prog.keyLits (m + 1) 9 [y] with
        | none => simp [hx, hy] at h
        | some b =>
          cases hz : Try.prog.keyLits (m + 1) 9 [z] with
          | none => simp [hx, hy, hz] at h
          | some c =>
            obtain ⟨s1, rfl, g1, rfl⟩ := lits_inv _ _ _ hx
            obtain ⟨s2, rfl, g2, rfl⟩ := lits_inv _ _ _ hy
            obtain ⟨s3, rfl, g3, rfl⟩ := lits_inv _ _ _ hz
            simp [hx, hy, hz] at h
            exact ⟨(s1, s2, s3), ⟨g1, g2, g3⟩, rfl, by unfold ko; rw [← h]⟩
  · cases h
theorem ko_inj {a b : Ky} (ha : kOk a) (hb : kOk b) (h : ko a = ko b) : a = b := by
  have h1 := keyOf_ky ha
  have h2 := keyOf_ky hb
  rw [← h] at h2
  have h3 := lawO.inj h1 h2
  obtain ⟨a1, a2, a3⟩ := a
  obtain ⟨b1, b2, b3⟩ := b
  unfold kV at h3
  simp only [Value.agg.injEq, Array.mk.injEq, List.cons.injEq, Value.string.injEq, and_true] at h3
  obtain ⟨rfl, rfl, rfl⟩ := h3
  rfl
end Go.Proofs.Ytoeggpoeongnhaa
