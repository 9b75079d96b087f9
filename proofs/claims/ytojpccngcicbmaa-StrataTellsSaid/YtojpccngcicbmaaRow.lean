/-
  Compare of package row, and the document's own comparison of two rows, answer the plain order of two rows, at every two rows and in every world; nothing that was there is changed.
  No condition but that a row, and a text, is no longer than it can be.
-/
import Derived.Test.YtojpccngcicbmaaRref
namespace Go.Proofs.Ytojpccngcicbmaa
open Go.RowKit

/-- Value v lies at place p. -/
def At (w : World) (p : Addr) (v : V) : Prop :=
  w.cell? p = some (.int .i64 v.k) ∧ w.cell? { block := p.block, off := p.off + 1 } = some (.bool v.f) ∧ w.cell? { block := p.block, off := p.off + 2 } = some (.int .i64 v.n) ∧ w.cell? { block := p.block, off := p.off + 3 } = some (.string v.t)

/-- The row xs lies at A, below block B. -/
def RowAt (w : World) (B : Nat) (A : Option Addr) (xs : List V) : Prop :=
  ∀ (i : Nat) (v : V), xs[i]? = some v → ∃ a : Addr, A = some a ∧ (a.add (i * 4)).block < B ∧ At w (a.add (i * 4)) v

theorem At.keep {w w' : World} {p : Addr} {v : V} (h : At w p v) (hk : ∀ q : Addr, q.block = p.block → w'.cell? q = w.cell? q) : At w' p v :=
  ⟨(hk p rfl).trans h.1, (hk { block := p.block, off := p.off + 1 } rfl).trans h.2.1, (hk { block := p.block, off := p.off + 2 } rfl).trans h.2.2.1, (hk { block := p.block, off := p.off + 3 } rfl).trans h.2.2.2⟩
theorem RowAt.keep {w w' : World} {B : Nat} {A : Option Addr} {xs : List V} (h : RowAt w B A xs) (hk : ∀ q : Addr, q.block < B → w'.cell? q = w.cell? q) : RowAt w' B A xs := by
  intro i v hi
  obtain ⟨a, ha, hb, hv⟩ := h i v hi
  exact ⟨a, ha, hb, hv.keep fun q hq => hk q (by omega)⟩
theorem RowAt.below {w w' : World} {B : Nat} {A : Option Addr} {xs : List V} (h : RowAt w B A xs) (hb : Below B w w') : RowAt w' B A xs := h.keep fun _ hq => hb.cell hq
theorem RowAt.more {w : World} {B B' : Nat} {A : Option Addr} {xs : List V} (h : RowAt w B A xs) (hB : B ≤ B') : RowAt w B' A xs := by
  intro i v hi
  obtain ⟨a, ha, hb, hv⟩ := h i v hi
  exact ⟨a, ha, by omega, hv⟩
/-- A row at a later world, spoken of from there. -/
theorem RowAt.later {w w' : World} {A : Option Addr} {xs : List V} (h : RowAt w w.heap.size A xs) (hb : Below w.heap.size w w') : RowAt w' w'.heap.size A xs := (h.below hb).more hb.size

/-- -1, 0, 1: which of two rows goes ahead. -/
def cmpR : List V → List V → Int
  | [], [] => 0
  | [], _ :: _ => -1
  | _ :: _, [] => 1
  | a :: x, b :: y => if cmpV a b = 0 then cmpR x y else cmpV a b

theorem cmpR_step (xs ys : List V) (k : Nat) (a b : V) (ha : xs[k]? = some a) (hb : ys[k]? = some b) : cmpR (xs.drop k) (ys.drop k) = if cmpV a b = 0 then cmpR (xs.drop (k + 1)) (ys.drop (k + 1)) else cmpV a b := by
  obtain ⟨h1, h2⟩ := List.getElem?_eq_some_iff.1 ha
  obtain ⟨h3, h4⟩ := List.getElem?_eq_some_iff.1 hb
  rw [List.drop_eq_getElem_cons h1, List.drop_eq_getElem_cons h3, h2, h4]
  rfl
theorem cmpR_endl (xs ys : List V) (k : Nat) (h : k = xs.length) (hy : k ≤ ys.length) : cmpR (xs.drop k) (ys.drop k) = if xs.length < ys.length then -1 else 0 := by
  subst h
  rw [List.drop_length]
  by_cases hl : xs.length < ys.length
  · rw [List.drop_eq_getElem_cons hl, if_pos hl]
    rfl
  · rw [if_neg hl, List.drop_of_length_le (by omega)]
    rfl
theorem cmpR_endr (xs ys : List V) (k : Nat) (h : k = ys.length) (hx : k < xs.length) : cmpR (xs.drop k) (ys.drop k) = 1 := by
  subst h
  rw [List.drop_length, List.drop_eq_getElem_cons hx]
  rfl

theorem one_new_far (w : World) (o : Obj) {B : Nat} (h : B ≤ w.heap.size) : Below B w (w.alloc o) := (one_new w o).mono h
theorem two_new_far (w : World) (o p : Obj) {B : Nat} (h : B ≤ w.heap.size) : Below B w ((w.alloc o).alloc p) := (two_new w o p).mono h

end Go.Proofs.Ytojpccngcicbmaa
