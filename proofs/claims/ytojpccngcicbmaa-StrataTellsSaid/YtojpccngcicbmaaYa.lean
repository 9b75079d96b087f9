/-
  Texts in order, each once, as plain things: putting one more; the names that a body asks.
-/
import Derived.Test.YtojpccngcicbmaaOrder
namespace Go.Proofs.Ytojpccngcicbmaa
open Go.RowKit

/-- Texts that rise strictly. -/
def SrtS (l : List ByteArray) : Prop := l.Pairwise fun a b => cmpS a b < 0
theorem cmpL_eqY : ∀ (x y : List UInt8), cmpL x y = 0 → x = y
  | [], [], _ => rfl
  | [], _ :: _, h => by simp [cmpL] at h
  | _ :: _, [], h => by simp [cmpL] at h
  | a :: x, b :: y, h => by
    unfold cmpL at h
    by_cases h1 : a < b
    · rw [if_pos h1] at h
      omega
    · by_cases h2 : b < a
      · rw [if_neg h1, if_pos h2] at h
        omega
      · rw [if_neg h1, if_neg h2] at h
        have e : a = b := by
          apply UInt8.toNat_inj.1
          rw [UInt8.lt_iff_toNat_lt] at h1 h2
          omega
        rw [e, cmpL_eqY x y h]
theorem cmpS_eqY (a b : ByteArray) (h : cmpS a b = 0) : a = b := by
  rw [cmpS_list] at h
  have := cmpL_eqY _ _ h
  obtain ⟨⟨l⟩⟩ := a
  obtain ⟨⟨l'⟩⟩ := b
  have e : l = l' := this
  rw [e]
theorem cmpS_reflY (a : ByteArray) : cmpS a a = 0 := cmpS_ordered.self a
theorem cmpS_neY {a b : ByteArray} (h : cmpS a b < 0) : a ≠ b := by
  rintro rfl
  rw [cmpS_reflY] at h
  omega
theorem cmpS_trY {a b c : ByteArray} (h1 : cmpS a b < 0) (h2 : cmpS b c < 0) : cmpS a c < 0 := cmpS_ordered.trl a b c (by omega) (by omega) (.inl h1)
theorem cmpS_antiY (a b : ByteArray) : cmpS b a = - cmpS a b := cmpS_ordered.anti a b
theorem sortedS_one : ∀ (a b : List ByteArray), SrtS a → SrtS b → (∀ y, y ∈ a ↔ y ∈ b) → a = b
  | [], [], _, _, _ => rfl
  | [], y :: b, _, _, h => absurd ((h y).2 List.mem_cons_self) List.not_mem_nil
  | x :: a, [], _, _, h => absurd ((h x).1 List.mem_cons_self) List.not_mem_nil
  | x :: a, y :: b, ha, hb, h => by
    obtain ⟨ha1, ha2⟩ := List.pairwise_cons.1 ha
    obtain ⟨hb1, hb2⟩ := List.pairwise_cons.1 hb
    have e : x = y := by
      rcases List.mem_cons.1 ((h x).1 List.mem_cons_self) with e | hx
      · exact e
      · rcases List.mem_cons.1 ((h y).2 List.mem_cons_self) with e | hy
        · exact e.symm
        · have h1 := hb1 x hx
          have h2 := ha1 y hy
          have := cmpS_antiY x y
          omega
    subst e
    rw [sortedS_one a b ha2 hb2 fun z => ⟨fun hz => ?_, fun hz => ?_⟩]
    · rcases List.mem_cons.1 ((h z).1 (List.mem_cons_of_mem _ hz)) with e | h2
      · exact absurd e.symm (cmpS_neY (ha1 z hz))
      · exact h2
    · rcases List.mem_cons.1 ((h z).2 (List.mem_cons_of_mem _ hz)) with e | h2
      · exact absurd e.symm (cmpS_neY (hb1 z hz))
      · exact h2

/-- A text more, in order, once. -/
def putS : List ByteArray → ByteArray → List ByteArray
  | [], s => [s]
  | x :: l, s => if cmpS s x = 0 then x :: l else if cmpS s x < 0 then s :: x :: l else x :: putS l s
theorem putS_mem (l : List ByteArray) (s y : ByteArray) : y ∈ putS l s ↔ y = s ∨ y ∈ l := by
  induction l with
  | nil => simp [putS]
  | cons x l ih =>
    unfold putS
    by_cases h : cmpS s x = 0
    · rw [if_pos h]
      have := cmpS_eqY _ _ h
      subst this
      simp
    · rw [if_neg h]
      by_cases h2 : cmpS s x < 0
      · rw [if_pos h2]
        simp
      · rw [if_neg h2, List.mem_cons, ih, List.mem_cons]
        constructor
        · rintro (a | b | c)
          · exact .inr (.inl a)
          · exact .inl b
          · exact .inr (.inr c)
        · rintro (a | b | c)
          · exact .inr (.inl a)
          · exact .inl b
          · exact .inr (.inr c)
theorem putS_srt {l : List ByteArray} (h : SrtS l) (s : ByteArray) : SrtS (putS l s) := by
  induction l with
  | nil => exact List.pairwise_singleton _ _
  | cons x l ih =>
    obtain ⟨h1, h2⟩ := List.pairwise_cons.1 h
    unfold putS
    by_cases h0 : cmpS s x = 0
    · rw [if_pos h0]
      exact h
    · rw [if_neg h0]
      by_cases h3 : cmpS s x < 0
      · rw [if_pos h3]
        refine List.pairwise_cons.2 ⟨fun y hy => ?_, h⟩
        rcases List.mem_cons.1 hy with rfl | hy
        · exact h3
        · exact cmpS_trY h3 (h1 y hy)
      · rw [if_neg h3]
        refine List.pairwise_cons.2 ⟨fun y hy => ?_, ih h2⟩
        rcases (putS_mem l s y).1 hy with rfl | hy
        · have := cmpS_antiY y x
          omega
        · exact h1 y hy
theorem putS_len (l : List ByteArray) (s : ByteArray) : (putS l s).length ≤ l.length + 1 := by
  induction l with
  | nil => simp [putS]
  | cons x l ih =>
    unfold putS
    by_cases h : cmpS s x = 0
    · rw [if_pos h]
      omega
    · rw [if_neg h]
      by_cases h2 : cmpS s x < 0
      · rw [if_pos h2]
        simp
      · rw [if_neg h2]
        simpa using ih
theorem putS_in {l : List ByteArray} (h : SrtS l) {s : ByteArray} (hs : s ∈ l) : putS l s = l :=
  sortedS_one _ _ (putS_srt h s) h fun y => by
    rw [putS_mem]
    exact ⟨fun hy => hy.elim (fun e => e ▸ hs) id, .inr⟩
theorem putS_app {a : List ByteArray} {s : ByteArray} (h : ∀ y ∈ a, 0 < cmpS s y) (b : List ByteArray) : putS (a ++ b) s = a ++ putS b s := by
  induction a with
  | nil => rfl
  | cons x a ih =>
    have hx := h x List.mem_cons_self
    rw [List.cons_append]
    conv => lhs; unfold putS
    rw [if_neg (by omega), if_neg (by omega), ih fun y hy => h y (List.mem_cons_of_mem _ hy), List.cons_append]
/-- What stands of the list in the making, behind some of its texts: 'told' says whether the text is in already. -/
def PutAt (s : ByteArray) (done : List ByteArray) (told : Bool) (out : List ByteArray) : Prop :=
  (told = false ∧ (∀ y ∈ done, 0 < cmpS s y) ∧ out = done) ∨ (told = true ∧ ∃ a y b, done = a ++ y :: b ∧ (∀ z ∈ a, 0 < cmpS s z) ∧ cmpS s y < 0 ∧ out = a ++ s :: y :: b)
theorem PutAt.nil (s : ByteArray) : PutAt s [] false [] := .inl ⟨rfl, fun _ h => absurd h List.not_mem_nil, rfl⟩
theorem PutAt.one {s : ByteArray} {d o : List ByteArray} (h : PutAt s d false o) {x : ByteArray} (hx : cmpS s x < 0) : PutAt s (d ++ [x]) true (o ++ [s] ++ [x]) := by
  rcases h with ⟨_, h1, rfl⟩ | ⟨h, _⟩
  · exact .inr ⟨rfl, o, x, [], rfl, h1, hx, by simp⟩
  · cases h
theorem PutAt.past {s : ByteArray} {d o : List ByteArray} (h : PutAt s d false o) {x : ByteArray} (hx : 0 < cmpS s x) : PutAt s (d ++ [x]) false (o ++ [x]) := by
  rcases h with ⟨_, h1, rfl⟩ | ⟨h, _⟩
  · refine .inl ⟨rfl, fun y hy => ?_, rfl⟩
    rcases List.mem_append.1 hy with h | h
    · exact h1 y h
    · rw [List.mem_singleton.1 h]
      exact hx
  · cases h
theorem PutAt.more {s : ByteArray} {d o : List ByteArray} (h : PutAt s d true o) (x : ByteArray) : PutAt s (d ++ [x]) true (o ++ [x]) := by
  rcases h with ⟨h, _⟩ | ⟨_, a, y, b, rfl, h1, h2, rfl⟩
  · cases h
  · exact .inr ⟨rfl, a, y, b ++ [x], by simp, h1, h2, by simp⟩
theorem PutAt.lastIn {s : ByteArray} {d o : List ByteArray} (h : PutAt s d true o) : o = putS d s := by
  rcases h with ⟨h, _⟩ | ⟨_, a, y, b, rfl, h1, h2, rfl⟩
  · cases h
  · rw [putS_app h1]
    conv => rhs; unfold putS
    rw [if_neg (by omega), if_pos h2]
theorem PutAt.lastNot {s : ByteArray} {d o : List ByteArray} (h : PutAt s d false o) : o ++ [s] = putS d s := by
  rcases h with ⟨_, h1, rfl⟩ | ⟨h, _⟩
  · have := putS_app h1 []
    rw [List.append_nil] at this
    rw [this]
    rfl
  · cases h
theorem PutAt.len {s : ByteArray} {d o : List ByteArray} {t : Bool} (h : PutAt s d t o) : o.length ≤ d.length + 1 := by
  rcases h with ⟨_, _, rfl⟩ | ⟨_, a, y, b, rfl, _, _, rfl⟩
  · omega
  · simp
    omega

theorem toList_eqT {a b : ByteArray} : (a.toList == b.toList) = true ↔ a = b := by
  constructor
  · intro h
    have h := eq_of_beq h
    rw [ByteArray.toList_eq, ByteArray.toList_eq] at h
    obtain ⟨⟨l⟩⟩ := a
    obtain ⟨⟨l'⟩⟩ := b
    have e : l = l' := h
    rw [e]
  · rintro rfl; simp
/-- Whether a text is one of some. -/
def hasX (ab : ByteArray) (ys : List ByteArray) : Bool := ys.any fun x => x.toList == ab.toList
theorem hasX_iff {ab : ByteArray} {ys : List ByteArray} : hasX ab ys = true ↔ ab ∈ ys := by
  unfold hasX
  rw [List.any_eq_true]
  constructor
  · rintro ⟨x, hx, h⟩
    rw [toList_eqT] at h
    exact h ▸ hx
  · intro h
    exact ⟨ab, h, toList_eqT.2 rfl⟩
theorem hasX_succ (ab : ByteArray) (ss : List ByteArray) (k : Nat) (s : ByteArray) (hs : ss[k]? = some s) : hasX ab (ss.take (k + 1)) = (hasX ab (ss.take k) || (s.toList == ab.toList)) := by
  unfold hasX
  rw [List.take_add_one, hs, List.any_append]
  simp
/-- A literal as the layer sees it: its kind and its name. -/
abbrev Lt := Int × ByteArray
/-- The names that a body asks. -/
def asksS (b : List Lt) : List ByteArray := b.foldl (fun l x => if x.1 = 0 then putS l x.2 else l) []
theorem asksS_take (b : List Lt) (k : Nat) (x : Lt) (h : b[k]? = some x) : asksS (b.take (k + 1)) = if x.1 = 0 then putS (asksS (b.take k)) x.2 else asksS (b.take k) := by
  unfold asksS
  rw [List.take_add_one, h, Option.toList_some, List.foldl_append]
  rfl
theorem asks_goes (b : List Lt) : ∀ l : List ByteArray, SrtS l → SrtS (b.foldl (fun l x => if x.1 = 0 then putS l x.2 else l) l) ∧ (b.foldl (fun l x => if x.1 = 0 then putS l x.2 else l) l).length ≤ l.length + b.length ∧
    ∀ y, y ∈ b.foldl (fun l x => if x.1 = 0 then putS l x.2 else l) l ↔ y ∈ l ∨ ∃ x ∈ b, x.1 = 0 ∧ x.2 = y := by
  induction b with
  | nil => exact fun l h => ⟨h, by simp, fun y => by simp⟩
  | cons x b ih =>
    intro l h
    rw [List.foldl_cons]
    by_cases h0 : x.1 = 0
    · rw [if_pos h0]
      obtain ⟨h1, h2, h3⟩ := ih (putS l x.2) (putS_srt h _)
      refine ⟨h1, by have := putS_len l x.2; rw [List.length_cons]; omega, fun y => ?_⟩
      rw [h3, putS_mem]
      constructor
      · rintro ((rfl | hy) | ⟨z, hz, hz1, hz2⟩)
        · exact .inr ⟨x, List.mem_cons_self, h0, rfl⟩
        · exact .inl hy
        · exact .inr ⟨z, List.mem_cons_of_mem _ hz, hz1, hz2⟩
      · rintro (hy | ⟨z, hz, hz1, hz2⟩)
        · exact .inl (.inr hy)
        · rcases List.mem_cons.1 hz with rfl | hz
          · exact .inl (.inl hz2.symm)
          · exact .inr ⟨z, hz, hz1, hz2⟩
    · rw [if_neg h0]
      obtain ⟨h1, h2, h3⟩ := ih l h
      refine ⟨h1, by rw [List.length_cons]; omega, fun y => ?_⟩
      rw [h3]
      constructor
      · rintro (hy | ⟨z, hz, hz1, hz2⟩)
        · exact .inl hy
        · exact .inr ⟨z, List.mem_cons_of_mem _ hz, hz1, hz2⟩
      · rintro (hy | ⟨z, hz, hz1, hz2⟩)
        · exact .inl hy
        · rcases List.mem_cons.1 hz with rfl | hz
          · exact absurd hz1 h0
          · exact .inr ⟨z, hz, hz1, hz2⟩
theorem asksS_srt (b : List Lt) : SrtS (asksS b) := (asks_goes b [] List.Pairwise.nil).1
theorem asksS_len (b : List Lt) : (asksS b).length ≤ b.length := by
  have := (asks_goes b [] List.Pairwise.nil).2.1
  unfold asksS
  rwa [List.length_nil, Nat.zero_add] at this
theorem asksS_mem (b : List Lt) (y : ByteArray) : y ∈ asksS b ↔ ∃ x ∈ b, x.1 = 0 ∧ x.2 = y := by
  have := (asks_goes b [] List.Pairwise.nil).2.2 y
  unfold asksS
  rw [this]
  exact ⟨fun h => h.elim (fun h => absurd h List.not_mem_nil) id, .inr⟩
end Go.Proofs.Ytojpccngcicbmaa
