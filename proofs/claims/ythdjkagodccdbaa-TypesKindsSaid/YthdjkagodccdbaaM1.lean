/-
  The calls that compare two integers, two texts or two truths answer -1, 0 or 1 by the plain order, at every input and in every world, and change nothing.
  No condition.
  Compare of package value, and the document's own comparison beside it, answer the plain order of two values, at every two values and in every world; nothing that was there is changed.
  No condition.
  The document's own comparison of two texts, and of two values, answer the plain order, at every input and in every world; nothing that was there is changed.
  No condition but that a text is no longer than a text can be.
-/
import Derived.Test.YthdjkagodccdbaaProg
import Derived.WalkKit
import Derived.WalkSpells
import Derived.WalkLawsBesides
import Derived.Lib.Hide
import Derived.Deep.QuietTactic
import Derived.BigQuiet
namespace Go.Proofs.Ythdjkagodccdbaa
section
open Go.RowKit

/-- -1, 0, 1: which of two numbers goes ahead. -/
def cmpI (a b : Int) : Int := if a < b then -1 else if b < a then 1 else 0
/-- -1, 0, 1: which of two texts goes ahead. -/
def cmpS (a b : ByteArray) : Int := if Op.bytesLess a.toList b.toList = true then -1 else if (a.toList == b.toList) = true then 0 else 1
/-- -1, 0, 1: which of two truths goes ahead. -/
def cmpB (a b : Bool) : Int := if a = b then 0 else if b = true then -1 else 1
end
end Go.Proofs.Ythdjkagodccdbaa
namespace Go.Proofs.Ythdjkagodccdbaa
section
open Go.RowKit

/-- A value: its kind, its truth, its number, its text. -/
structure V where
  k : Int
  f : Bool
  n : Int
  t : ByteArray

/-- A value as the program holds it. -/
abbrev V.val (v : V) : Value := .agg #[.int .i64 v.k, .bool v.f, .int .i64 v.n, .string v.t]

/-- -1, 0, 1: which of two values goes ahead. -/
def cmpV (a b : V) : Int := if a.k < b.k then -1 else if b.k < a.k then 1 else if a.k = 1 then cmpB a.f b.f else if a.k = 2 then cmpI a.n b.n else if a.k = 3 then cmpS a.t b.t else 0

theorem one_new (w : World) (o : Obj) : Below w.heap.size w (w.alloc o) := (Below.refl _ _).alloc (Nat.le_refl _) _
theorem two_new (w : World) (o p : Obj) : Below w.heap.size w ((w.alloc o).alloc p) := (one_new w o).alloc (by simp) _
theorem below_drewN' {B : Nat} {a w : World} (h : Below B a w) (n : Nat) : Below B a (w.drewN n) := ⟨h.os, h.tape, h.output, h.size, h.block⟩

theorem ret_int {k : IntKind} {a b : Int} (h : a = b) : Ending.returned (.int k a) = .returned (.int k b) := by rw [h]
theorem ret_bool {a b : Bool} (h : a = b) : Ending.returned (.bool a) = .returned (.bool b) := by rw [h]
end
end Go.Proofs.Ythdjkagodccdbaa
namespace Go.Proofs.Ythdjkagodccdbaa
section
open Go.RowKit

/-- -1, 0, 1: which of two lists of bytes goes ahead. -/
def cmpL : List UInt8 → List UInt8 → Int
  | [], [] => 0
  | [], _ :: _ => -1
  | _ :: _, [] => 1
  | a :: x, b :: y => if a < b then -1 else if b < a then 1 else cmpL x y

theorem cmpL_cut : ∀ (x y : List UInt8), cmpL x y = if Op.bytesLess x y = true then -1 else if (x == y) = true then 0 else 1
  | [], [] => by simp [cmpL, Op.bytesLess]
  | [], _ :: _ => by simp [cmpL, Op.bytesLess]
  | _ :: _, [] => by simp [cmpL, Op.bytesLess]
  | a :: x, b :: y => by
    have ih := cmpL_cut x y
    unfold cmpL
    by_cases h1 : a < b
    · simp [Op.bytesLess, h1]
    · by_cases h2 : b < a
      · have h3 : ¬ a = b := by
          rintro rfl
          exact h1 h2
        simp [Op.bytesLess, h1, h2, h3]
      · have h3 : a = b := by
          apply UInt8.toNat_inj.1
          rw [UInt8.lt_iff_toNat_lt] at h1 h2
          omega
        subst h3
        simp only [Op.bytesLess, h1, if_false, ih]
        simp

theorem cmpS_list (a b : ByteArray) : cmpS a b = cmpL a.data.toList b.data.toList := by
  rw [cmpL_cut]
  unfold cmpS
  rw [ByteArray.toList_eq, ByteArray.toList_eq]

theorem cmpL_drop : ∀ (k : Nat) (x y : List UInt8) (h : k < x.length) (h' : k < y.length), cmpL (x.drop k) (y.drop k) = if x[k] < y[k] then -1 else if y[k] < x[k] then 1 else cmpL (x.drop (k + 1)) (y.drop (k + 1)) := by
  intro k x y h h'
  rw [List.drop_eq_getElem_cons h, List.drop_eq_getElem_cons h']
  rfl

theorem cmpL_endl (k : Nat) (x y : List UInt8) (h : k = x.length) (hy : k ≤ y.length) : cmpL (x.drop k) (y.drop k) = if x.length < y.length then -1 else 0 := by
  subst h
  rw [List.drop_length]
  by_cases hl : x.length < y.length
  · rw [List.drop_eq_getElem_cons hl, if_pos hl]
    rfl
  · rw [if_neg hl, List.drop_of_length_le (by omega)]
    rfl
theorem cmpL_endr (k : Nat) (x y : List UInt8) (h : k = y.length) (hx : k < x.length) : cmpL (x.drop k) (y.drop k) = 1 := by
  subst h
  rw [List.drop_length, List.drop_eq_getElem_cons hx]
  rfl

theorem drewN2 (w : World) (a b : Nat) : ∃ n, (w.drewN a).drewN b = w.drewN n := ⟨a + b, World.drewN_drewN _ _ _⟩
theorem drewN3 (w : World) (a b c : Nat) : ∃ n, ((w.drewN a).drewN b).drewN c = w.drewN n := ⟨a + (b + c), by rw [World.drewN_drewN, World.drewN_drewN]⟩
end
end Go.Proofs.Ythdjkagodccdbaa
