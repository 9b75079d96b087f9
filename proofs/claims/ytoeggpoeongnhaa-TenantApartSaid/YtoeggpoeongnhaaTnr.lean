/-
  Acts with tenants as they lie in memory: three cells an act.
  No condition.
-/
import Derived.Test.YtoeggpoeongnhaaTnk
namespace Go.Proofs.Ytoeggpoeongnhaa
open Go.RowKit

/-- An act: its kind, a name, the name of a parent. -/
structure Ta where
  k : Int
  n : ByteArray
  p : ByteArray
instance : Inhabited Ta := ⟨⟨0, ⟨#[]⟩, ⟨#[]⟩⟩⟩
def TaAt (w : World) (q : Addr) (x : Ta) : Prop :=
  w.cell? q = some (.int .i64 x.k) ∧ w.cell? { block := q.block, off := q.off + 1 } = some (.string x.n) ∧ w.cell? { block := q.block, off := q.off + 2 } = some (.string x.p)
/-- Acts lie at A. -/
def TasAt (w : World) (A : Option Addr) (xs : List Ta) : Prop :=
  ∀ (i : Nat) (x : Ta), xs[i]? = some x → ∃ a : Addr, A = some a ∧ (a.add (i * 3)).block < w.heap.size ∧ TaAt w (a.add (i * 3)) x
theorem TasAt.below {w w' : World} {A : Option Addr} {xs : List Ta} (h : TasAt w A xs) (hb : Below w.heap.size w w') : TasAt w' A xs := by
  intro i x hx
  obtain ⟨a, ha, hl, h0, h1, h2⟩ := h i x hx
  exact ⟨a, ha, Nat.lt_of_lt_of_le hl hb.size, (hb.cell (p := a.add (i * 3)) hl).trans h0, (hb.cell (p := { block := (a.add (i * 3)).block, off := (a.add (i * 3)).off + 1 }) hl).trans h1, (hb.cell (p := { block := (a.add (i * 3)).block, off := (a.add (i * 3)).off + 2 }) hl).trans h2⟩

end Go.Proofs.Ytoeggpoeongnhaa
