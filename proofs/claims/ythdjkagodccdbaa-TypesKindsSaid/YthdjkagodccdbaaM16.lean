/-
  How a tree of rows lies in memory (a node is five cells: its row, how often, how many rows, the two sides), and what the small calls on it answer: len, weight, fork.
  No condition but that a tree has no more rows, and a row no more cells, than fits.
-/
import Derived.Deep.RegionHeld3
import Derived.IntWalk
import Derived.RangeFuncBox
import Derived.Test.YthdjkagodccdbaaM15
import Derived.Test.YthdjkagodccdbaaM2
namespace Go.Proofs.Ythdjkagodccdbaa
open Go.RowKit

/-- What lies in the blocks of Q has not changed. -/
def KeepQ (Q : Nat → Prop) (w w' : World) : Prop := ∀ k, Q k → k < w.heap.size → w'.heap[k]? = w.heap[k]?
theorem Below.keepQ {w w' : World} (h : Below w.heap.size w w') (Q : Nat → Prop) : KeepQ Q w w' := fun k _ hk => h.block k hk
/-- Of what was there, block g alone may have changed. -/
def Only (g : Nat) (w w' : World) : Prop := Below g w w' ∧ ∀ k, k < w.heap.size → k ≠ g → w'.heap[k]? = w.heap[k]?
theorem Only.keepQ {w w' : World} {g : Nat} (h : Only g w w') {Q : Nat → Prop} (hg : ¬ Q g) : KeepQ Q w w' := fun k hq hk => h.2 k hk fun e => hg (e ▸ hq)
theorem Only.refl (g : Nat) (w : World) : Only g w w := ⟨Below.refl _ _, fun _ _ _ => rfl⟩
theorem Only.of_below {w w' : World} {g : Nat} (hb : Below w.heap.size w w') (hg : g ≤ w.heap.size) : Only g w w' := ⟨hb.mono hg, fun k hk _ => hb.block k hk⟩
theorem Only.trans {w w1 w2 : World} {g : Nat} (h : Only g w w1) (h' : Only g w1 w2) : Only g w w2 :=
  ⟨h.1.trans h'.1, fun k hk hg => (h'.2 k (Nat.lt_of_lt_of_le hk h.1.size) hg).trans (h.2 k hk hg)⟩
theorem Only.below {w w1 w2 : World} {g : Nat} (hb : Below w.heap.size w w1) (h : Only g w1 w2) (hg : w.heap.size ≤ g) : Below w.heap.size w w2 := hb.trans (h.1.mono hg)

/-- The row xs lies at A, in blocks of Q. -/
def RowQ (w : World) (Q : Nat → Prop) (A : Option Addr) (xs : List V) : Prop :=
  ∀ (i : Nat) (v : V), xs[i]? = some v → ∃ a : Addr, A = some a ∧ Q (a.add (i * 4)).block ∧ At w (a.add (i * 4)) v
theorem RowQ.at {w : World} {Q : Nat → Prop} {A : Option Addr} {xs : List V} (h : RowQ w Q A xs) : RowAt w w.heap.size A xs := by
  intro i v hi
  obtain ⟨a, ha, _, hv⟩ := h i v hi
  exact ⟨a, ha, World.block_lt_of_cell? w _ hv.1, hv⟩
theorem RowQ.of {w : World} {Q : Nat → Prop} {B : Nat} {A : Option Addr} {xs : List V} (h : RowAt w B A xs) (hQ : ∀ k, k < B → Q k) : RowQ w Q A xs := by
  intro i v hi
  obtain ⟨a, ha, hb, hv⟩ := h i v hi
  exact ⟨a, ha, hQ _ hb, hv⟩
theorem RowQ.keep {w w' : World} {Q : Nat → Prop} {A : Option Addr} {xs : List V} (h : RowQ w Q A xs) (hk : KeepQ Q w w') : RowQ w' Q A xs := by
  intro i v hi
  obtain ⟨a, ha, hb, hv⟩ := h i v hi
  have hlt := World.block_lt_of_cell? w _ hv.1
  refine ⟨a, ha, hb, hv.keep fun q hq => World.cell?_of_block (w := w) ?_⟩
  rw [hq]
  exact hk _ hb hlt
theorem RowQ.imp {w : World} {Q Q' : Nat → Prop} {A : Option Addr} {xs : List V} (h : RowQ w Q A xs) (hq : ∀ k, k < w.heap.size → Q k → Q' k) : RowQ w Q' A xs := by
  intro i v hi
  obtain ⟨a, ha, hb, hv⟩ := h i v hi
  exact ⟨a, ha, hq _ (World.block_lt_of_cell? w _ hv.1) hb, hv⟩

/-- v is the row xs. -/
def IsRow (w : World) (Q : Nat → Prop) (v : Value) (xs : List V) : Prop := xs.length ≤ 1000000 ∧ ∃ A c, v = .slice A xs.length c ∧ (A = none → c = 0) ∧ RowQ w Q A xs
theorem IsRow.keep {w w' : World} {Q : Nat → Prop} {v : Value} {xs : List V} (h : IsRow w Q v xs) (hk : KeepQ Q w w') : IsRow w' Q v xs := by
  obtain ⟨h0, A, c, h1, h2, h3⟩ := h
  exact ⟨h0, A, c, h1, h2, h3.keep hk⟩
theorem IsRow.imp {w : World} {Q Q' : Nat → Prop} {v : Value} {xs : List V} (h : IsRow w Q v xs) (hq : ∀ k, k < w.heap.size → Q k → Q' k) : IsRow w Q' v xs := by
  obtain ⟨h0, A, c, h1, h2, h3⟩ := h
  exact ⟨h0, A, c, h1, h2, h3.imp hq⟩

/-- A node lies at block b: its row, how often it is there, how many rows, and its two sides. -/
def NodeIs (w : World) (Q : Nat → Prop) (b : Nat) (r : List V) (m : Int) (s : Nat) (pl ph : Option Addr) : Prop :=
  Q b ∧ b < w.heap.size ∧ (∃ v, IsRow w Q v r ∧ w.cell? ⟨b, 0, none⟩ = some v) ∧ w.cell? ⟨b, 1, none⟩ = some (.int .i64 m) ∧ w.cell? ⟨b, 2, none⟩ = some (.int .i64 (s : Int)) ∧ w.cell? ⟨b, 3, none⟩ = some (.pointer pl) ∧ w.cell? ⟨b, 4, none⟩ = some (.pointer ph)
/-- The tree t lies at p, in blocks of Q. -/
def TreeAt (w : World) (Q : Nat → Prop) : Option Addr → Tr → Prop
  | p, .nil => p = none
  | p, .node r m l h => ∃ b pl ph, p = some ⟨b, 0, none⟩ ∧ NodeIs w Q b r m (Tr.node r m l h).cnt pl ph ∧ TreeAt w Q pl l ∧ TreeAt w Q ph h

theorem NodeIs.keep {w w' : World} {Q : Nat → Prop} {b : Nat} {r : List V} {m : Int} {s : Nat} {pl ph : Option Addr} (h : NodeIs w Q b r m s pl ph) (hk : KeepQ Q w w') : NodeIs w' Q b r m s pl ph := by
  obtain ⟨h1, hl, ⟨v, h2, h4⟩, h5, h6, h7, h8⟩ := h
  have hb := hk b h1 hl
  have hc : ∀ o, w'.cell? ⟨b, o, none⟩ = w.cell? ⟨b, o, none⟩ := fun o => World.cell?_of_block (w := w) hb
  have h4' := (hc 0).trans h4
  exact ⟨h1, World.block_lt_of_cell? w' _ h4', ⟨v, h2.keep hk, h4'⟩, (hc 1).trans h5, (hc 2).trans h6, (hc 3).trans h7, (hc 4).trans h8⟩
theorem NodeIs.imp {w : World} {Q Q' : Nat → Prop} {b : Nat} {r : List V} {m : Int} {s : Nat} {pl ph : Option Addr} (h : NodeIs w Q b r m s pl ph) (hq : ∀ k, k < w.heap.size → Q k → Q' k) : NodeIs w Q' b r m s pl ph := by
  obtain ⟨h1, hl, ⟨v, h2, h4⟩, h5⟩ := h
  exact ⟨hq _ hl h1, hl, ⟨v, h2.imp hq, h4⟩, h5⟩
theorem TreeAt.keep {w w' : World} {Q : Nat → Prop} (hk : KeepQ Q w w') : ∀ {p : Option Addr} {t : Tr}, TreeAt w Q p t → TreeAt w' Q p t
  | _, .nil, h => h
  | _, .node _ _ _ _, ⟨b, pl, ph, e, hn, hl, hh⟩ => ⟨b, pl, ph, e, hn.keep hk, TreeAt.keep hk hl, TreeAt.keep hk hh⟩
theorem TreeAt.imp {w : World} {Q Q' : Nat → Prop} (hq : ∀ k, k < w.heap.size → Q k → Q' k) : ∀ {p : Option Addr} {t : Tr}, TreeAt w Q p t → TreeAt w Q' p t
  | _, .nil, h => h
  | _, .node _ _ _ _, ⟨b, pl, ph, e, hn, hl, hh⟩ => ⟨b, pl, ph, e, hn.imp hq, TreeAt.imp hq hl, TreeAt.imp hq hh⟩
theorem TreeAt.below {w w' : World} {Q : Nat → Prop} {p : Option Addr} {t : Tr} (h : TreeAt w Q p t) (hb : Below w.heap.size w w') : TreeAt w' Q p t := h.keep (Below.keepQ hb Q)
theorem IsRow.below {w w' : World} {Q : Nat → Prop} {v : Value} {xs : List V} (h : IsRow w Q v xs) (hb : Below w.heap.size w w') : IsRow w' Q v xs := h.keep (Below.keepQ hb Q)
theorem TreeAt.nil_iff {w : World} {Q : Nat → Prop} {p : Option Addr} {t : Tr} (h : TreeAt w Q p t) : t.isNil = true ↔ p = none := by
  cases t with
  | nil =>
    obtain rfl : p = none := h
    simp [Tr.isNil]
  | node r m l h' =>
    obtain ⟨b, pl, ph, rfl, _⟩ := h
    simp [Tr.isNil]

/-- A call that answers a tree, and changes nothing that was there. -/
def Trees (w : World) (Q : Nat → Prop) (t : Tr) (e : Ending) (w' : World) : Prop := ∃ p, e = .returned (.pointer p) ∧ TreeAt w' Q p t ∧ Below w.heap.size w w'

theorem alloc_new_cells (w : World) (cs : Array Value) (t : TypeId) (i : Nat) : (w.alloc (.cells cs t)).cell? ⟨w.heap.size, i, none⟩ = cs[i]? := by
  have h : (w.alloc (.cells cs t)).heap[w.heap.size]? = some (.cells cs t (0, 0)) := World.alloc_heap_new w _
  unfold World.cell?
  simp only [h]
  rfl
theorem quiet_same {f : FuncId} {args : Array Value} {w : World} {v : Value} (h : Calls Try.prog f args w fun e w' => e = .returned v ∧ w = w') : Calls Try.prog f args w fun e w' => e = .returned v ∧ w' = w := h.mono fun _ _ h => ⟨h.1, h.2.symm⟩
end Go.Proofs.Ythdjkagodccdbaa
