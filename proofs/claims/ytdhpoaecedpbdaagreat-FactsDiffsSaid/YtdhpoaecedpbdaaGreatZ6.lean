/-
  How a tree of rows lies in memory (a node is five cells: its row, how often, how many rows, the two sides), and what the small calls on it answer: len, weight, fork.
  No condition but that a tree has no more rows, and a row no more cells, than fits.
  The calls that turn a tree and put it in balance: raiseLow, raiseHigh, balanced, and the search for the first and the last node. What they answer is the plain tree.
  No condition but that a tree has no more rows than fits.
  The searches in a tree: from, many, least, most answer what the plain tree's do.
  No condition but that a tree has no more rows, and a row no more cells, than fits.
  balanced answers the plain tree in balance.
  No condition but that a tree has no more rows than fits.
-/
import Derived.Deep.RegionHeld3
import Derived.IntWalk
import Derived.RangeFuncBox
import Derived.Deep.QuietTactic
import Derived.BigQuiet
import Derived.LoopTactic
import Derived.Test.YtdhpoaecedpbdaaGreatZ3
import Derived.Test.YtdhpoaecedpbdaaGreatZ5
namespace Go.Proofs.YtdhpoaecedpbdaaGreat
section
open Go.RowKit

/-- What lies in the blocks of Q has not changed. -/
def KeepQ (Q : Nat → Prop) (w w' : World) : Prop := ∀ k, Q k → k < w.heap.size → w'.heap[k]? = w.heap[k]?
theorem Below.keepQ {w w' : World} (h : Below w.heap.size w w') (Q : Nat → Prop) : KeepQ Q w w' := fun k _ hk => h.block k hk
/-- Of what was there, block g alone may have changed. -/
def Only (g : Nat) (w w' : World) : Prop := Below g w w' ∧ ∀ k, k < w.heap.size → k ≠ g → w'.heap[k]? = w.heap[k]?
theorem Only.keepQ {w w' : World} {g : Nat} (h : Only g w w') {Q : Nat → Prop} (hg : ¬ Q g) : KeepQ Q w w' := fun k hq hk => h.2 k hk fun e => hg (e ▸ hq)
theorem Only.refl (g : Nat) (w : World) : Only g w w := ⟨Below.refl _ _, fun _ _ _ => rfl⟩
theorem Only.of_below {w w' : World} {g : Nat} (hb : Below w.heap.size w w') (hg : g ≤ w.heap.size) : Only g w w' := ⟨hb.mono hg, fun k hk _ => hb.block k hk⟩
theorem Only.trans {w w1 w2 : World} {g : Nat} (h : Only g w w1) (h' : Only g w1 w2) : Only g w w2 :=
  ⟨h.1.trans h'.1, fun k hk hg => (h'.2 k (Nat.lt_of_lt_of_le hk h.1.size) hg).trans (h.2 k hk hg)⟩
theorem Only.below {w w1 w2 : World} {g : Nat} (hb : Below w.heap.size w w1) (h : Only g w1 w2) (hg : w.heap.size ≤ g) : Below w.heap.size w w2 := hb.trans (h.1.mono hg)

/-- The row xs lies at A, in blocks of Q. -/
def RowQ (w : World) (Q : Nat → Prop) (A : Option Addr) (xs : List V) : Prop :=
  ∀ (i : Nat) (v : V), xs[i]? = some v → ∃ a : Addr, A = some a ∧ Q (a.add (i * 4)).block ∧ At w (a.add (i * 4)) v
theorem RowQ.at {w : World} {Q : Nat → Prop} {A : Option Addr} {xs : List V} (h : RowQ w Q A xs) : RowAt w w.heap.size A xs := by
  intro i v hi
  obtain ⟨a, ha, _, hv⟩ := h i v hi
  exact ⟨a, ha, World.block_lt_of_cell? w _ hv.1, hv⟩
theorem RowQ.of {w : World} {Q : Nat → Prop} {B : Nat} {A : Option Addr} {xs : List V} (h : RowAt w B A xs) (hQ : ∀ k, k < B → Q k) : RowQ w Q A xs := by
  intro i v hi
  obtain ⟨a, ha, hb, hv⟩ := h i v hi
  exact ⟨a, ha, hQ _ hb, hv⟩
theorem RowQ.keep {w w' : World} {Q : Nat → Prop} {A : Option Addr} {xs : List V} (h : RowQ w Q A xs) (hk : KeepQ Q w w') : RowQ w' Q A xs := by
  intro i v hi
  obtain ⟨a, ha, hb, hv⟩ := h i v hi
  have hlt := World.block_lt_of_cell? w _ hv.1
  refine ⟨a, ha, hb, hv.keep fun q hq => World.cell?_of_block (w := w) ?_⟩
  rw [hq]
  exact hk _ hb hlt
theorem RowQ.imp {w : World} {Q Q' : Nat → Prop} {A : Option Addr} {xs : List V} (h : RowQ w Q A xs) (hq : ∀ k, k < w.heap.size → Q k → Q' k) : RowQ w Q' A xs := by
  intro i v hi
  obtain ⟨a, ha, hb, hv⟩ := h i v hi
  exact ⟨a, ha, hq _ (World.block_lt_of_cell? w _ hv.1) hb, hv⟩

/-- v is the row xs. -/
def IsRow (w : World) (Q : Nat → Prop) (v : Value) (xs : List V) : Prop := xs.length ≤ 1000000 ∧ ∃ A c, v = .slice A xs.length c ∧ (A = none → c = 0) ∧ RowQ w Q A xs
theorem IsRow.keep {w w' : World} {Q : Nat → Prop} {v : Value} {xs : List V} (h : IsRow w Q v xs) (hk : KeepQ Q w w') : IsRow w' Q v xs := by
  obtain ⟨h0, A, c, h1, h2, h3⟩ := h
  exact ⟨h0, A, c, h1, h2, h3.keep hk⟩
theorem IsRow.imp {w : World} {Q Q' : Nat → Prop} {v : Value} {xs : List V} (h : IsRow w Q v xs) (hq : ∀ k, k < w.heap.size → Q k → Q' k) : IsRow w Q' v xs := by
  obtain ⟨h0, A, c, h1, h2, h3⟩ := h
  exact ⟨h0, A, c, h1, h2, h3.imp hq⟩

/-- A node lies at block b: its row, how often it is there, how many rows, and its two sides. -/
def NodeIs (w : World) (Q : Nat → Prop) (b : Nat) (r : List V) (m : Int) (s : Nat) (pl ph : Option Addr) : Prop :=
  Q b ∧ b < w.heap.size ∧ (∃ v, IsRow w Q v r ∧ w.cell? ⟨b, 0, none⟩ = some v) ∧ w.cell? ⟨b, 1, none⟩ = some (.int .i64 m) ∧ w.cell? ⟨b, 2, none⟩ = some (.int .i64 (s : Int)) ∧ w.cell? ⟨b, 3, none⟩ = some (.pointer pl) ∧ w.cell? ⟨b, 4, none⟩ = some (.pointer ph)
/-- The tree t lies at p, in blocks of Q. -/
def TreeAt (w : World) (Q : Nat → Prop) : Option Addr → Tr → Prop
  | p, .nil => p = none
  | p, .node r m l h => ∃ b pl ph, p = some ⟨b, 0, none⟩ ∧ NodeIs w Q b r m (Tr.node r m l h).cnt pl ph ∧ TreeAt w Q pl l ∧ TreeAt w Q ph h

theorem NodeIs.keep {w w' : World} {Q : Nat → Prop} {b : Nat} {r : List V} {m : Int} {s : Nat} {pl ph : Option Addr} (h : NodeIs w Q b r m s pl ph) (hk : KeepQ Q w w') : NodeIs w' Q b r m s pl ph := by
  obtain ⟨h1, hl, ⟨v, h2, h4⟩, h5, h6, h7, h8⟩ := h
  have hb := hk b h1 hl
  have hc : ∀ o, w'.cell? ⟨b, o, none⟩ = w.cell? ⟨b, o, none⟩ := fun o => World.cell?_of_block (w := w) hb
  have h4' := (hc 0).trans h4
  exact ⟨h1, World.block_lt_of_cell? w' _ h4', ⟨v, h2.keep hk, h4'⟩, (hc 1).trans h5, (hc 2).trans h6, (hc 3).trans h7, (hc 4).trans h8⟩
theorem NodeIs.imp {w : World} {Q Q' : Nat → Prop} {b : Nat} {r : List V} {m : Int} {s : Nat} {pl ph : Option Addr} (h : NodeIs w Q b r m s pl ph) (hq : ∀ k, k < w.heap.size → Q k → Q' k) : NodeIs w Q' b r m s pl ph := by
  obtain ⟨h1, hl, ⟨v, h2, h4⟩, h5⟩ := h
  exact ⟨hq _ hl h1, hl, ⟨v, h2.imp hq, h4⟩, h5⟩
theorem TreeAt.keep {w w' : World} {Q : Nat → Prop} (hk : KeepQ Q w w') : ∀ {p : Option Addr} {t : Tr}, TreeAt w Q p t → TreeAt w' Q p t
  | _, .nil, h => h
  | _, .node _ _ _ _, ⟨b, pl, ph, e, hn, hl, hh⟩ => ⟨b, pl, ph, e, hn.keep hk, TreeAt.keep hk hl, TreeAt.keep hk hh⟩
theorem TreeAt.imp {w : World} {Q Q' : Nat → Prop} (hq : ∀ k, k < w.heap.size → Q k → Q' k) : ∀ {p : Option Addr} {t : Tr}, TreeAt w Q p t → TreeAt w Q' p t
  | _, .nil, h => h
  | _, .node _ _ _ _, ⟨b, pl, ph, e, hn, hl, hh⟩ => ⟨b, pl, ph, e, hn.imp hq, TreeAt.imp hq hl, TreeAt.imp hq hh⟩
theorem TreeAt.below {w w' : World} {Q : Nat → Prop} {p : Option Addr} {t : Tr} (h : TreeAt w Q p t) (hb : Below w.heap.size w w') : TreeAt w' Q p t := h.keep (Below.keepQ hb Q)
theorem IsRow.below {w w' : World} {Q : Nat → Prop} {v : Value} {xs : List V} (h : IsRow w Q v xs) (hb : Below w.heap.size w w') : IsRow w' Q v xs := h.keep (Below.keepQ hb Q)
theorem TreeAt.nil_iff {w : World} {Q : Nat → Prop} {p : Option Addr} {t : Tr} (h : TreeAt w Q p t) : t.isNil = true ↔ p = none := by
  cases t with
  | nil =>
    obtain rfl : p = none := h
    simp [Tr.isNil]
  | node r m l h' =>
    obtain ⟨b, pl, ph, rfl, _⟩ := h
    simp [Tr.isNil]

set_option maxHeartbeats 400000 in
theorem t_len (Q : Nat → Prop) (p : Option Addr) (t : Tr) (w : World) (h : TreeAt w Q p t) : Calls Tryz.prog 148 #[.pointer p] w fun e w' => e = .returned (.int .i64 (t.cnt : Int)) ∧ w = w' := by
  cases t with
  | nil =>
    obtain rfl : p = none := h
    go_enter Tryz.func148, Tryz.ntmps148
    go_wp2
    go_ret
    exact ⟨rfl, rfl⟩
  | node r m l h' =>
    obtain ⟨b, pl, ph, rfl, ⟨h1, hl, h2, h3, h4, h5⟩, h6, h7⟩ := h
    clear h2 h3 h5 h6 h7
    go_enter Tryz.func148, Tryz.ntmps148
    go_wp2
    go_ret
    exact ⟨rfl, rfl⟩
set_option maxHeartbeats 400000 in
theorem t_weight (Q : Nat → Prop) (p : Option Addr) (t : Tr) (w : World) (h : TreeAt w Q p t) (hc : t.cnt ≤ 1000000) : Calls Tryz.prog 189 #[.pointer p] w fun e w' => e = .returned (.int .i64 ((t.cnt : Int) + 1)) ∧ w = w' := by
  have HL := Lib.hid (t_len Q p t w h)
  clear h
  go_enter Tryz.func189, Tryz.ntmps189
  go_wp2_with fail
  refine HL.out.mono ?_
  rintro e w' ⟨rfl, rfl⟩
  go_wp2
  go_ret
  exact ⟨rfl, rfl⟩

/-- A call that answers a tree, and changes nothing that was there. -/
def Trees (w : World) (Q : Nat → Prop) (t : Tr) (e : Ending) (w' : World) : Prop := ∃ p, e = .returned (.pointer p) ∧ TreeAt w' Q p t ∧ Below w.heap.size w w'

theorem alloc_new_cells (w : World) (cs : Array Value) (t : TypeId) (i : Nat) : (w.alloc (.cells cs t)).cell? ⟨w.heap.size, i, none⟩ = cs[i]? := by
  have h : (w.alloc (.cells cs t)).heap[w.heap.size]? = some (.cells cs t (0, 0)) := World.alloc_heap_new w _
  unfold World.cell?
  simp only [h]
  rfl
theorem tree_new (w : World) (Q : Nat → Prop) (hQ : ∀ k, w.heap.size ≤ k → Q k) (v : Value) (r : List V) (m : Int) (pl ph : Option Addr) (l h : Tr) (k : Int) (hk : k = ((Tr.node r m l h).cnt : Int)) (hx : IsRow w Q v r) (hl : TreeAt w Q pl l) (hh : TreeAt w Q ph h) :
    TreeAt (w.alloc (.cells #[v, .int .i64 m, .int .i64 k, .pointer pl, .pointer ph] 192)) Q (some ⟨w.heap.size, 0, none⟩) (.node r m l h) := by
  have hb := one_new w (.cells #[v, .int .i64 m, .int .i64 k, .pointer pl, .pointer ph] 192)
  subst hk
  refine ⟨w.heap.size, pl, ph, rfl, ⟨hQ _ (Nat.le_refl _), by simp, ⟨v, hx.below hb, ?_⟩, ?_, ?_, ?_, ?_⟩, hl.below hb, hh.below hb⟩
  all_goals rw [alloc_new_cells]; rfl

theorem quiet_same {f : FuncId} {args : Array Value} {w : World} {v : Value} (h : Calls Tryz.prog f args w fun e w' => e = .returned v ∧ w = w') : Calls Tryz.prog f args w fun e w' => e = .returned v ∧ w' = w := h.mono fun _ _ h => ⟨h.1, h.2.symm⟩

set_option maxRecDepth 100000 in
set_option maxHeartbeats 1000000 in
theorem t_fork (v : Value) (r : List V) (m : Int) (pl ph : Option Addr) (l h : Tr) (w : World) (Q : Nat → Prop) (hQ : ∀ k, w.heap.size ≤ k → Q k) (hx : IsRow w Q v r) (hl : TreeAt w Q pl l) (hh : TreeAt w Q ph h) (hcl : l.cnt ≤ 1000000) (hch : h.cnt ≤ 1000000) :
    Calls Tryz.prog 185 #[.agg #[v, .int .i64 m], .pointer pl, .pointer ph] w (Trees w Q (.node r m l h)) := by
  have HX := Lib.hid hx
  have HQ := Lib.hid hQ
  have HL := Lib.hid hl
  have HH := Lib.hid hh
  obtain ⟨_, A, c, rfl, _, _⟩ := hx
  have ho := fun o : Obj => (hl.below (one_new w o))
  have ho' := fun o : Obj => (hh.below (one_new w o))
  have HO := Lib.hid ho
  have HO' := Lib.hid ho'
  clear hl hh hQ ho ho'
  go_enter Tryz.func185, Tryz.ntmps185
  go_wp2
  go_region_held3 (fun w' => w'.cell? { block := w.heap.size, off := 0 } = some (.slice A r.length c) ∧ w'.cell? { block := w.heap.size, off := 1 } = some (.int .i64 m)) (go_keep)
    (first
      | (go_at_call_of 148 (Value.pointer pl); refine (t_len Q pl l _ (by exact (HO.out _).below (below_drew _ _))).mono ?_; rintro e w' ⟨rfl, rfl⟩)
      | (go_at_call_of 148 (Value.pointer ph); refine (t_len Q ph h _ (by exact (HO'.out _).below (below_drew _ _))).mono ?_; rintro e w' ⟨rfl, rfl⟩))
  go_wp2
  go_ret
  have e : IntKind.i64.wrap (IntKind.i64.wrap ((l.cnt : Int) + 1) + (h.cnt : Int)) = ((Tr.node r m l h).cnt : Int) := by
    rw [IntWalk.i64_in ((l.cnt : Int) + 1) (by omega), IntWalk.i64_in _ (by omega)]
    show _ = ((l.cnt + 1 + h.cnt : Nat) : Int)
    omega
  have hb1 := one_new w (.cells #[.slice A r.length c, .int .i64 m] 113)
  have hT := tree_new (w.alloc (.cells #[.slice A r.length c, .int .i64 m] 113)) Q (fun k hk => HQ.out k (by simp at hk; omega)) (.slice A r.length c) r m pl ph l h _ e (HX.out.below hb1) (HO.out _) (HO'.out _)
  refine ⟨_, rfl, ?_, ?_⟩
  · simpa using hT.below (below_drew _ _)
  · exact (hb1.trans ((one_new _ _).mono (by simp))).trans (below_drew _ _)
end
end Go.Proofs.YtdhpoaecedpbdaaGreat
namespace Go.Proofs.YtdhpoaecedpbdaaGreat
section
open Go.RowKit

theorem box_drew (w : World) (o : Obj) : Below w.heap.size w (w.alloc o).drew := (one_new w o).trans (below_drew _ _)
theorem cl_of {w w' : World} (hb : Below w.heap.size w w') : ∀ (b i : Nat), b < w.heap.size → w'.cell? ⟨b, i, none⟩ = w.cell? ⟨b, i, none⟩ := fun b i h => hb.cell (p := ⟨b, i, none⟩) h

set_option maxRecDepth 100000 in
set_option maxHeartbeats 2000000 in
theorem t_raiseLow (v : Value) (r : List V) (m : Int) (pl ph : Option Addr) (lr : List V) (lm : Int) (ll lh h : Tr) (w : World) (Q : Nat → Prop) (hQ : ∀ k, w.heap.size ≤ k → Q k) (hx : IsRow w Q v r) (hl : TreeAt w Q pl (.node lr lm ll lh)) (hh : TreeAt w Q ph h) (hc : (Tr.node lr lm ll lh).cnt + h.cnt ≤ 900000) :
    Calls Tryz.prog 191 #[.agg #[v, .int .i64 m], .pointer pl, .pointer ph] w (Trees w Q (Tr.raiseLow r m (.node lr lm ll lh) h)) := by
  obtain ⟨b, pll, plh, rfl, ⟨hb0, hb1, ⟨lv, hlv, c0⟩, c1, c2, c3, c4⟩, hll, hlh⟩ := hl
  have hc' : ll.cnt + 1 + lh.cnt + h.cnt ≤ 900000 := hc
  have hcn : (Tr.node r m lh h).cnt = lh.cnt + 1 + h.cnt := rfl
  have hcn' : (Tr.node r m lh h).cnt ≤ 1000000 := by rw [hcn]; omega
  have HX := Lib.hid hx
  have HQ := Lib.hid hQ
  have HV := Lib.hid hlv
  have HL := Lib.hid hll
  have HR := Lib.hid hlh
  have HH := Lib.hid hh
  obtain ⟨_, A, c, rfl, _, _⟩ := hx
  obtain ⟨_, A', c', rfl, _, _⟩ := hlv
  clear hh hQ hll hlh hc hcn
  go_enter Tryz.func191, Tryz.ntmps191
  go_wp2
  go_region_held3 (fun w' => w'.cell? { block := w.heap.size, off := 0 } = some (.slice A r.length c) ∧ w'.cell? { block := w.heap.size, off := 1 } = some (.int .i64 m) ∧
      w'.cell? { block := b, off := 0 } = some (.slice A' lr.length c') ∧ w'.cell? { block := b, off := 1 } = some (.int .i64 lm) ∧ w'.cell? { block := b, off := 3 } = some (.pointer pll) ∧ w'.cell? { block := b, off := 4 } = some (.pointer plh)) (go_keep)
    (first
      | (go_at_call_of 185 (Value.pointer ph); refine (t_fork _ r m plh ph lh h _ Q (by intro k hk; exact HQ.out k (by simp at hk; omega)) (by exact HX.out.below (box_drew _ _)) (by exact HR.out.below (box_drew _ _)) (by exact HH.out.below (box_drew _ _)) (by omega) (by omega)).mono ?_; rintro e w1 ⟨q, rfl, hT1, hbw⟩; have hbb := (box_drew w _).trans (hbw.mono (by simp)); have hcl := cl_of hbw; have hcb := fun i => cl_of hbb b i hb1)
      | (go_at_call_of 185 (Value.pointer pll); refine (t_fork _ lr lm pll q ll (.node r m lh h) _ Q (by intro k hk; exact HQ.out k (by have := hbb.size; omega)) (by exact HV.out.below hbb) (by exact HL.out.below hbb) (by exact hT1) (by omega) (by omega)).mono ?_; rintro e w2 ⟨q2, rfl, hT2, hbw2⟩; have hbb2 := hbb.trans (hbw2.mono hbb.size); have hcl2 := cl_of hbw2; have hcb2 := fun i => cl_of hbb2 b i hb1; have hcz := fun i => cl_of hbw2 w.heap.size i (by have := hbw.size; simp at this; omega)))
  go_wp2
  go_ret
  exact ⟨_, rfl, hT2, hbb2⟩

set_option maxRecDepth 100000 in
set_option maxHeartbeats 2000000 in
theorem t_raiseHigh (v : Value) (r : List V) (m : Int) (pl ph : Option Addr) (lr : List V) (lm : Int) (ll lh h : Tr) (w : World) (Q : Nat → Prop) (hQ : ∀ k, w.heap.size ≤ k → Q k) (hx : IsRow w Q v r) (hl : TreeAt w Q pl (.node lr lm ll lh)) (hh : TreeAt w Q ph h) (hc : (Tr.node lr lm ll lh).cnt + h.cnt ≤ 900000) :
    Calls Tryz.prog 190 #[.agg #[v, .int .i64 m], .pointer ph, .pointer pl] w (Trees w Q (Tr.raiseHigh r m h (.node lr lm ll lh))) := by
  obtain ⟨b, pll, plh, rfl, ⟨hb0, hb1, ⟨lv, hlv, c0⟩, c1, c2, c3, c4⟩, hll, hlh⟩ := hl
  have hc' : ll.cnt + 1 + lh.cnt + h.cnt ≤ 900000 := hc
  have hcn : (Tr.node r m h ll).cnt = h.cnt + 1 + ll.cnt := rfl
  have hcn' : (Tr.node r m h ll).cnt ≤ 1000000 := by rw [hcn]; omega
  have HX := Lib.hid hx
  have HQ := Lib.hid hQ
  have HV := Lib.hid hlv
  have HL := Lib.hid hll
  have HR := Lib.hid hlh
  have HH := Lib.hid hh
  obtain ⟨_, A, c, rfl, _, _⟩ := hx
  obtain ⟨_, A', c', rfl, _, _⟩ := hlv
  clear hh hQ hll hlh hc hcn
  go_enter Tryz.func190, Tryz.ntmps190
  go_wp2
  go_region_held3 (fun w' => w'.cell? { block := w.heap.size, off := 0 } = some (.slice A r.length c) ∧ w'.cell? { block := w.heap.size, off := 1 } = some (.int .i64 m) ∧
      w'.cell? { block := b, off := 0 } = some (.slice A' lr.length c') ∧ w'.cell? { block := b, off := 1 } = some (.int .i64 lm) ∧ w'.cell? { block := b, off := 3 } = some (.pointer pll) ∧ w'.cell? { block := b, off := 4 } = some (.pointer plh)) (go_keep)
    (first
      | (go_at_call_of 185 (Value.pointer ph); refine (t_fork _ r m ph pll h ll _ Q (by intro k hk; exact HQ.out k (by simp at hk; omega)) (by exact HX.out.below (box_drew _ _)) (by exact HH.out.below (box_drew _ _)) (by exact HL.out.below (box_drew _ _)) (by omega) (by omega)).mono ?_; rintro e w1 ⟨q, rfl, hT1, hbw⟩; have hbb := (box_drew w _).trans (hbw.mono (by simp)); have hcl := cl_of hbw; have hcb := fun i => cl_of hbb b i hb1)
      | (go_at_call_of 185 (Value.pointer plh); refine (t_fork _ lr lm q plh (.node r m h ll) lh _ Q (by intro k hk; exact HQ.out k (by have := hbb.size; omega)) (by exact HV.out.below hbb) (by exact hT1) (by exact HR.out.below hbb) (by omega) (by omega)).mono ?_; rintro e w2 ⟨q2, rfl, hT2, hbw2⟩; have hbb2 := hbb.trans (hbw2.mono hbb.size); have hcl2 := cl_of hbw2; have hcb2 := fun i => cl_of hbb2 b i hb1; have hcz := fun i => cl_of hbw2 w.heap.size i (by have := hbw.size; simp at this; omega)))
  go_wp2
  go_ret
  exact ⟨_, rfl, hT2, hbb2⟩
end
end Go.Proofs.YtdhpoaecedpbdaaGreat
namespace Go.Proofs.YtdhpoaecedpbdaaGreat
section
open Go.RowKit

/-- How many rows a tree has, read off its node. -/
def szOf (w : World) : Value → Nat
  | .pointer (some a) => match w.cell? ⟨a.block, 2, none⟩ with
    | some v => (intOf v).toNat
    | none => 0
  | _ => 0
theorem szOf_eq {w : World} {Q : Nat → Prop} {p : Option Addr} {t : Tr} (h : TreeAt w Q p t) : szOf w (.pointer p) = t.cnt := by
  cases t with
  | nil =>
    obtain rfl : p = none := h
    rfl
  | node r m l h' =>
    obtain ⟨b, pl, ph, rfl, ⟨h1, hl, h2, h3, h4, h5⟩, h6, h7⟩ := h
    show (match w.cell? ⟨b, 2, none⟩ with | some v => (intOf v).toNat | none => 0) = _
    rw [h4]
    simp [intOf]
theorem IsRow.len {w : World} {Q : Nat → Prop} {v : Value} {xs : List V} (h : IsRow w Q v xs) : xs.length ≤ maxLen := by
  have := h.1
  unfold maxLen
  omega

set_option maxHeartbeats 400000 in
theorem cmp_rows (R S : Nat → Prop) (u v : Value) (xs ys : List V) (w : World) (hx : IsRow w R u xs) (hy : IsRow w S v ys) : Calls Tryz.prog 182 #[u, v] w fun e w' => e = .returned (.int .i64 (cmpR xs ys)) ∧ Below w.heap.size w w' := by
  have hl := hx.len
  obtain ⟨_, A, c, rfl, _, h1⟩ := hx
  obtain ⟨_, B, d, rfl, _, h2⟩ := hy
  exact row_cmp A B xs ys _ _ c d w rfl rfl hl h1.at h2.at
theorem same_rows (R S : Nat → Prop) (u v : Value) (xs ys : List V) (w : World) (hx : IsRow w R u xs) (hy : IsRow w S v ys) : Calls Tryz.prog 181 #[u, v] w fun e w' => e = .returned (.bool (cmpR xs ys == 0)) ∧ Below w.heap.size w w' := by
  have hl := hx.len
  obtain ⟨_, A, c, rfl, _, h1⟩ := hx
  obtain ⟨_, B, d, rfl, _, h2⟩ := hy
  exact row_same A B xs ys _ _ c d w rfl rfl hl h1.at h2.at

set_option maxHeartbeats 1000000 in
theorem t_from (R : Nat → Prop) (v : Value) (x : List V) (p : Option Addr) (t : Tr) (w : World) (Q : Nat → Prop) (hx : IsRow w R v x) (ht : TreeAt w Q p t) :
    Calls Tryz.prog 180 #[.pointer p, v] w (Trees w Q (Tr.fromD x .nil t)) := by
  have HX := Lib.hid hx
  have HT := Lib.hid ht
  obtain ⟨_, A, c, rfl, _, _⟩ := hx
  clear ht
  go_enter Tryz.func180, Tryz.ntmps180
  go_wp2
  go_loopw [0, 5] (fun a b wr => ∃ (q f : Option Addr) (s fi : Tr), a = .pointer q ∧ b = .pointer f ∧ TreeAt wr Q q s ∧ TreeAt wr Q f fi ∧ Hid (Tr.fromD x fi s = Tr.fromD x .nil t) ∧ Below w.heap.size w wr) (fun a _ wr => szOf wr a)
  case atStart => exact ⟨p, none, t, .nil, rfl, rfl, HT.out, rfl, Lib.hid rfl, Below.refl _ _⟩
  case round =>
    obtain ⟨q, f, s, fi, rfl, rfl, hs, hf, hE, hb⟩ := hrel
    have HS := Lib.hid hs
    have HF := Lib.hid hf
    have HB := Lib.hid hb
    have hsz := hb.size
    clear hb
    cases s with
    | nil =>
      obtain rfl : q = none := hs
      clear hf
      go_wp2
      go_ret
      exact ⟨f, rfl, by rw [← hE.out]; exact HF.out, HB.out⟩
    | node r m l h =>
      obtain ⟨b, pl, ph, rfl, ⟨hb0, hb1, ⟨lv, hlv, c0⟩, c1, c2, c3, c4⟩, hll, hlh⟩ := hs
      have HV := Lib.hid hlv
      have HL := Lib.hid hll
      have HR := Lib.hid hlh
      obtain ⟨_, A', c', rfl, _, _⟩ := hlv
      clear hf hll hlh
      by_cases hlt : cmpR r x < 0
      · have hE2 : Tr.fromD x fi (.node r m l h) = Tr.fromD x fi h := if_pos hlt
        have HE2 := Lib.hid hE2
        clear hE2
        go_wp2_with fail
        refine (cmp_rows Q R _ _ r x _ HV.out (HX.out.below HB.out)).mono ?_
        rintro e w1 ⟨rfl, hbw⟩
        have hcb := fun i => cl_of hbw b i hb1
        go_wp2
        go_roundw
        case rel => exact ⟨ph, f, h, fi, rfl, rfl, HR.out.below hbw, HF.out.below hbw, Lib.hid (HE2.out.symm.trans hE.out), HB.out.trans (hbw.mono hsz)⟩
        case measure =>
          rw [szOf_eq HS.out, szOf_eq (HR.out.below hbw)]
          show h.cnt < l.cnt + 1 + h.cnt
          omega
      · have hE2 : Tr.fromD x fi (.node r m l h) = Tr.fromD x (.node r m l h) l := if_neg hlt
        have HE2 := Lib.hid hE2
        clear hE2
        go_wp2_with fail
        refine (cmp_rows Q R _ _ r x _ HV.out (HX.out.below HB.out)).mono ?_
        rintro e w1 ⟨rfl, hbw⟩
        have hcb := fun i => cl_of hbw b i hb1
        go_wp2
        go_quiet (fail)
        go_wp2
        go_roundw
        case rel => exact ⟨pl, some ⟨b, 0, none⟩, l, .node r m l h, rfl, rfl, (HL.out.below hbw).below (below_drewN' (Below.refl _ w1) _), (HS.out.below hbw).below (below_drewN' (Below.refl _ w1) _), Lib.hid (HE2.out.symm.trans hE.out), HB.out.trans ((hbw.mono hsz).trans (below_drewN' (Below.refl _ w1) _))⟩
        case measure =>
          rw [szOf_eq HS.out, szOf_eq ((HL.out.below hbw).below (below_drewN' (Below.refl _ w1) _))]
          show l.cnt < l.cnt + 1 + h.cnt
          omega

set_option maxHeartbeats 1000000 in
theorem t_many (R : Nat → Prop) (v : Value) (x : List V) (p : Option Addr) (t : Tr) (w : World) (Q : Nat → Prop) (hx : IsRow w R v x) (ht : TreeAt w Q p t) :
    Calls Tryz.prog 169 #[.pointer p, v] w fun e w' => e = .returned (.int .i64 (t.many x)) ∧ Below w.heap.size w w' := by
  have HX := Lib.hid hx
  have HC := Lib.hid (t_from R v x p t w Q hx ht)
  have hM : ∀ s, Tr.fromD x .nil t = s → t.many x = match s.root with | none => 0 | some e => if cmpR e.1 x = 0 then e.2 else 0 := by
    rintro s rfl
    rfl
  have HM := Lib.hid hM
  obtain ⟨_, A, c, rfl, _, _⟩ := hx
  clear ht hM
  go_enter Tryz.func169, Tryz.ntmps169
  go_wp2_with fail
  refine HC.out.mono ?_
  rintro e w1 ⟨q, rfl, hT, hb⟩
  generalize hs : Tr.fromD x .nil t = s at *
  have HM2 := Lib.hid (HM.out s rfl)
  have HB := Lib.hid hb
  clear hs hb HC HM
  cases s with
  | nil =>
    obtain rfl : q = none := hT
    go_wp2
    go_ret
    exact ⟨ret_int (by rw [HM2.out]; rfl), HB.out⟩
  | node r m l h =>
    obtain ⟨b, pl, ph, rfl, ⟨hb0, hb1, ⟨lv, hlv, c0⟩, c1, c2, c3, c4⟩, hll, hlh⟩ := hT
    have HV := Lib.hid hlv
    obtain ⟨_, A', c', rfl, _, _⟩ := hlv
    clear hll hlh
    by_cases hz : cmpR r x = 0
    · have hz' : (cmpR r x == 0) = true := by simpa using hz
      have HZ := Lib.hid hz'
      have HM3 : Hid (t.many x = m) := Lib.hid (HM2.out.trans (if_pos hz))
      clear hz hz'
      go_wp2_with fail
      refine (same_rows Q R _ _ r x _ HV.out (HX.out.below HB.out)).mono ?_
      rintro e w2 ⟨rfl, hbw⟩
      have hcb := fun i => cl_of hbw b i hb1
      rw [HZ.out]
      go_wp2
      go_ret
      exact ⟨ret_int HM3.out.symm, HB.out.trans (hbw.mono HB.out.size)⟩
    · have hz' : (cmpR r x == 0) = false := by simpa using hz
      have HZ := Lib.hid hz'
      have HM3 : Hid (t.many x = 0) := Lib.hid (HM2.out.trans (if_neg hz))
      clear hz hz'
      go_wp2_with fail
      refine (same_rows Q R _ _ r x _ HV.out (HX.out.below HB.out)).mono ?_
      rintro e w2 ⟨rfl, hbw⟩
      rw [HZ.out]
      go_wp2
      go_ret
      exact ⟨ret_int HM3.out.symm, HB.out.trans (hbw.mono HB.out.size)⟩

/-- A call that answers a tree, and changes nothing at all. -/
def TreesSame (w : World) (Q : Nat → Prop) (t : Tr) (e : Ending) (w' : World) : Prop := ∃ p, e = .returned (.pointer p) ∧ TreeAt w Q p t ∧ w = w'

set_option maxHeartbeats 1000000 in
theorem t_least (p : Option Addr) (t : Tr) (w : World) (Q : Nat → Prop) (ht : TreeAt w Q p t) : Calls Tryz.prog 184 #[.pointer p] w (TreesSame w Q t.least) := by
  have HT := Lib.hid ht
  clear ht
  go_enter Tryz.func184, Tryz.ntmps184
  go_wp2
  go_loop [0] (fun a => ∃ (q : Option Addr) (s : Tr), a = .pointer q ∧ TreeAt w Q q s ∧ Hid (s.least = t.least)) (fun a => szOf w a)
  case atStart => exact ⟨p, t, rfl, HT.out, Lib.hid rfl⟩
  case round =>
    obtain ⟨q, s, rfl, hs, hE⟩ := hrel
    have HS := Lib.hid hs
    cases s with
    | nil =>
      obtain rfl : q = none := hs
      go_wp2
      go_ret
      exact ⟨none, rfl, by rw [← hE.out]; exact HS.out, rfl⟩
    | node r m l h =>
      obtain ⟨b, pl, ph, rfl, ⟨hb0, hb1, ⟨lv, hlv, c0⟩, c1, c2, c3, c4⟩, hll, hlh⟩ := hs
      clear hlv c0 c1 c2 c4 hlh
      have HL := Lib.hid hll
      cases l with
      | nil =>
        obtain rfl : pl = none := hll
        go_wp2
        go_ret
        exact ⟨_, rfl, by rw [← hE.out]; exact HS.out, rfl⟩
      | node r2 m2 l2 h2 =>
        obtain ⟨b2, pl2, ph2, rfl, _⟩ := hll
        go_wp2
        go_round
        case rel => exact ⟨_, _, rfl, HL.out, Lib.hid hE.out⟩
        case measure =>
          rw [szOf_eq HS.out, szOf_eq HL.out]
          show l2.cnt + 1 + h2.cnt < (l2.cnt + 1 + h2.cnt) + 1 + h.cnt
          omega
end
end Go.Proofs.YtdhpoaecedpbdaaGreat
namespace Go.Proofs.YtdhpoaecedpbdaaGreat
section
open Go.RowKit

theorem two_draws (w : World) (o : Obj) : Below w.heap.size w (w.alloc o).drew.drew := (box_drew w o).trans (below_drew _ _)

set_option maxRecDepth 100000 in
set_option maxHeartbeats 2000000 in
theorem t_bal_low (v : Value) (r : List V) (m : Int) (pl ph : Option Addr) (lr : List V) (lm : Int) (ll lh h : Tr) (w : World) (Q : Nat → Prop) (hQ : ∀ k, w.heap.size ≤ k → Q k) (hx : IsRow w Q v r) (hl : TreeAt w Q pl (.node lr lm ll lh)) (hh : TreeAt w Q ph h) (hc : ll.cnt + 1 + lh.cnt + h.cnt ≤ 900000) (hA : 3 * (h.cnt + 1) < ll.cnt + 1 + lh.cnt + 1) :
    Calls Tryz.prog 183 #[.agg #[v, .int .i64 m], .pointer pl, .pointer ph] w (Trees w Q (Tr.raiseLow r m (Tr.leanLow (.node lr lm ll lh)) h)) := by
  obtain ⟨b, pll, plh, rfl, ⟨hb0, hb1, ⟨lv, hlv, c0⟩, c1, c2, c3, c4⟩, hll, hlh⟩ := id hl
  have hcn : (Tr.node lr lm ll lh).cnt = ll.cnt + 1 + lh.cnt := rfl
  have HWN : ∀ W, Below w.heap.size w W → Calls Tryz.prog 189 #[.pointer (some ⟨b, 0, none⟩)] W fun e w' => e = .returned (.int .i64 (((Tr.node lr lm ll lh).cnt : Int) + 1)) ∧ W = w' := fun W hb => t_weight Q _ _ W (hl.below hb) (by omega)
  have HWO : ∀ W, Below w.heap.size w W → Calls Tryz.prog 189 #[.pointer ph] W fun e w' => e = .returned (.int .i64 ((h.cnt : Int) + 1)) ∧ W = w' := fun W hb => t_weight Q ph h W (hh.below hb) (by omega)
  have HWn := Lib.hid HWN
  have HWo := Lib.hid HWO
  clear HWN HWO
  have hAi : 3 * ((h.cnt : Int) + 1) < ((Tr.node lr lm ll lh).cnt : Int) + 1 := by omega
  have hAj : ¬ 3 * (((Tr.node lr lm ll lh).cnt : Int) + 1) < (h.cnt : Int) + 1 := by omega
  have hAk : ((Tr.node lr lm ll lh).cnt : Int) ≤ 900000 := by omega
  have HX := Lib.hid hx
  have HQ := Lib.hid hQ
  have HV := Lib.hid hlv
  have HL := Lib.hid hll
  have HR := Lib.hid hlh
  have HH := Lib.hid hh
  have HT := Lib.hid hl
  have HXO : Hid (∀ W, Below w.heap.size w W → Calls Tryz.prog 189 #[.pointer pll] W fun e w' => e = .returned (.int .i64 ((ll.cnt : Int) + 1)) ∧ W = w') := Lib.hid fun W hb => t_weight Q pll ll W (HL.out.below hb) (by omega)
  have HXI : Hid (∀ W, Below w.heap.size w W → Calls Tryz.prog 189 #[.pointer plh] W fun e w' => e = .returned (.int .i64 ((lh.cnt : Int) + 1)) ∧ W = w') := Lib.hid fun W hb => t_weight Q plh lh W (HR.out.below hb) (by omega)
  obtain ⟨_, A, c, rfl, _, _⟩ := hx
  obtain ⟨_, A', c', rfl, _, _⟩ := hlv
  have hwr : IntKind.i64.wrap (2 * ((ll.cnt : Int) + 1)) = 2 * ((ll.cnt : Int) + 1) := IntWalk.i64_in _ (by omega)
  have HCN := Lib.hid hcn
  generalize hN : (Tr.node lr lm ll lh).cnt = N at *
  have HN := Lib.hid hN
  clear hN hcn
  by_cases hA2 : 2 * (ll.cnt + 1) ≤ lh.cnt + 1
  · cases lh with
    | nil => exact absurd hA2 (by show ¬ 2 * (ll.cnt + 1) ≤ 0 + 1; omega)
    | node a1 a2 a3 a4 =>
      have hia : (Tr.node a1 a2 a3 a4).cnt = a3.cnt + 1 + a4.cnt := rfl
      have hA3 : 2 * ((ll.cnt : Int) + 1) ≤ ((Tr.node a1 a2 a3 a4).cnt : Int) + 1 := by omega
      have hE : Tr.leanLow (.node lr lm ll (.node a1 a2 a3 a4)) = Tr.raiseHigh lr lm ll (.node a1 a2 a3 a4) := if_pos hA2
      have HE := Lib.hid hE
      have hcr : ll.cnt + (Tr.node a1 a2 a3 a4).cnt ≤ 900000 := by omega
      have hcl4 : ll.cnt + 1 + a3.cnt + 1 + a4.cnt + h.cnt ≤ 900000 := by omega
      have hc5 : (Tr.node a1 a2 (.node lr lm ll a3) a4).cnt + h.cnt ≤ 900000 := by
        have e1 : (Tr.node a1 a2 (.node lr lm ll a3) a4).cnt = (ll.cnt + 1 + a3.cnt) + 1 + a4.cnt := rfl
        omega
      clear hh hQ hll hlh hl hA hA2 hE hia hc
      go_enter Tryz.func183, Tryz.ntmps183
      go_wp2_with fail
      refine (HWn.out _ (one_new _ _)).mono ?_
      rintro e w1 ⟨rfl, rfl⟩
      go_wp2_with fail
      refine (HWo.out _ (one_new _ _)).mono ?_
      rintro e w1 ⟨rfl, rfl⟩
      go_wp2
      go_region_held3 (fun w' => w'.cell? { block := b, off := 3 } = some (.pointer pll) ∧ w'.cell? { block := b, off := 4 } = some (.pointer plh)) (go_keep)
        (first
        | (go_at_call_of 189 (Value.pointer plh); refine (HXI.out _ (box_drew _ _)).mono ?_; rintro e w1 ⟨rfl, rfl⟩)
        | (go_at_call_of 189 (Value.pointer pll); refine (HXO.out _ (box_drew _ _)).mono ?_; rintro e w1 ⟨rfl, rfl⟩))
      clear hwr
      go_wp2
      go_region_held3 (fun w' => w'.cell? { block := b, off := 0 } = some (.slice A' lr.length c') ∧ w'.cell? { block := b, off := 1 } = some (.int .i64 lm) ∧ w'.cell? { block := b, off := 3 } = some (.pointer pll) ∧ w'.cell? { block := b, off := 4 } = some (.pointer plh)) (go_keep)
        (first
        | (go_at_call 190; have hb2 := two_draws w (.cells #[.slice A r.length c, .int .i64 m] 113); refine (t_raiseHigh _ lr lm plh pll a1 a2 a3 a4 ll _ Q (by intro k hk; exact HQ.out k (by simp at hk; omega)) (by exact HV.out.below hb2) (by exact HR.out.below hb2) (by exact HL.out.below hb2) (by omega)).mono ?_; rintro e w1 ⟨q, rfl, hT1, hbw⟩; have hbb := hb2.trans (hbw.mono (by simp)); have hcb := fun i => cl_of hbb b i hb1; have hcz := fun i => cl_of hbw w.heap.size i (by simp)))
      go_wp2_with fail
      refine (t_raiseLow _ r m q ph a1 a2 (.node lr lm ll a3) a4 h _ Q (by intro k hk; exact HQ.out k (by have := hbb.size; omega)) (HX.out.below hbb) hT1 (HH.out.below hbb) hc5).mono ?_
      rintro e w2 ⟨q2, rfl, hT2, hbw2⟩
      go_wp2
      go_ret
      rw [HE.out]
      exact ⟨_, rfl, hT2, hbb.trans (hbw2.mono hbb.size)⟩
  · have hA3 : ¬ 2 * ((ll.cnt : Int) + 1) ≤ (lh.cnt : Int) + 1 := by omega
    have hE : Tr.leanLow (.node lr lm ll lh) = .node lr lm ll lh := if_neg hA2
    have HE := Lib.hid hE
    have hc5 : (Tr.node lr lm ll lh).cnt + h.cnt ≤ 900000 := by rw [HN.out]; have := HCN.out; omega
    clear hh hQ hll hlh hl hA hA2 hE hc
    go_enter Tryz.func183, Tryz.ntmps183
    go_wp2_with fail
    refine (HWn.out _ (one_new _ _)).mono ?_
    rintro e w1 ⟨rfl, rfl⟩
    go_wp2_with fail
    refine (HWo.out _ (one_new _ _)).mono ?_
    rintro e w1 ⟨rfl, rfl⟩
    go_wp2
    go_region_held3 (fun w' => w'.cell? { block := b, off := 3 } = some (.pointer pll) ∧ w'.cell? { block := b, off := 4 } = some (.pointer plh)) (go_keep)
      (first
      | (go_at_call_of 189 (Value.pointer plh); refine (HXI.out _ (box_drew _ _)).mono ?_; rintro e w1 ⟨rfl, rfl⟩)
      | (go_at_call_of 189 (Value.pointer pll); refine (HXO.out _ (box_drew _ _)).mono ?_; rintro e w1 ⟨rfl, rfl⟩))
    clear hwr
    go_wp2_with fail
    have hbb := box_drew w (.cells #[.slice A r.length c, .int .i64 m] 113)
    refine (t_raiseLow _ r m _ ph lr lm ll lh h _ Q (by intro k hk; exact HQ.out k (by have := hbb.size; omega)) (HX.out.below hbb) (HT.out.below hbb) (HH.out.below hbb) hc5).mono ?_
    rintro e w2 ⟨q2, rfl, hT2, hbw2⟩
    go_wp2
    go_ret
    rw [HE.out]
    exact ⟨_, rfl, hT2, hbb.trans (hbw2.mono hbb.size)⟩

set_option maxRecDepth 100000 in
set_option maxHeartbeats 2000000 in
theorem t_bal_high (v : Value) (r : List V) (m : Int) (pl ph : Option Addr) (lr : List V) (lm : Int) (ll lh h : Tr) (w : World) (Q : Nat → Prop) (hQ : ∀ k, w.heap.size ≤ k → Q k) (hx : IsRow w Q v r) (hl : TreeAt w Q pl (.node lr lm ll lh)) (hh : TreeAt w Q ph h) (hc : ll.cnt + 1 + lh.cnt + h.cnt ≤ 900000) (hA : 3 * (h.cnt + 1) < ll.cnt + 1 + lh.cnt + 1) :
    Calls Tryz.prog 183 #[.agg #[v, .int .i64 m], .pointer ph, .pointer pl] w (Trees w Q (Tr.raiseHigh r m h (Tr.leanHigh (.node lr lm ll lh)))) := by
  obtain ⟨b, pll, plh, rfl, ⟨hb0, hb1, ⟨lv, hlv, c0⟩, c1, c2, c3, c4⟩, hll, hlh⟩ := id hl
  have hcn : (Tr.node lr lm ll lh).cnt = ll.cnt + 1 + lh.cnt := rfl
  have HWN : ∀ W, Below w.heap.size w W → Calls Tryz.prog 189 #[.pointer (some ⟨b, 0, none⟩)] W fun e w' => e = .returned (.int .i64 (((Tr.node lr lm ll lh).cnt : Int) + 1)) ∧ W = w' := fun W hb => t_weight Q _ _ W (hl.below hb) (by omega)
  have HWO : ∀ W, Below w.heap.size w W → Calls Tryz.prog 189 #[.pointer ph] W fun e w' => e = .returned (.int .i64 ((h.cnt : Int) + 1)) ∧ W = w' := fun W hb => t_weight Q ph h W (hh.below hb) (by omega)
  have HWn := Lib.hid HWN
  have HWo := Lib.hid HWO
  clear HWN HWO
  have hAi : 3 * ((h.cnt : Int) + 1) < ((Tr.node lr lm ll lh).cnt : Int) + 1 := by omega
  have hAj : ¬ 3 * (((Tr.node lr lm ll lh).cnt : Int) + 1) < (h.cnt : Int) + 1 := by omega
  have hAk : ((Tr.node lr lm ll lh).cnt : Int) ≤ 900000 := by omega
  have HX := Lib.hid hx
  have HQ := Lib.hid hQ
  have HV := Lib.hid hlv
  have HL := Lib.hid hll
  have HR := Lib.hid hlh
  have HH := Lib.hid hh
  have HT := Lib.hid hl
  have HXO : Hid (∀ W, Below w.heap.size w W → Calls Tryz.prog 189 #[.pointer plh] W fun e w' => e = .returned (.int .i64 ((lh.cnt : Int) + 1)) ∧ W = w') := Lib.hid fun W hb => t_weight Q plh lh W (HR.out.below hb) (by omega)
  have HXI : Hid (∀ W, Below w.heap.size w W → Calls Tryz.prog 189 #[.pointer pll] W fun e w' => e = .returned (.int .i64 ((ll.cnt : Int) + 1)) ∧ W = w') := Lib.hid fun W hb => t_weight Q pll ll W (HL.out.below hb) (by omega)
  obtain ⟨_, A, c, rfl, _, _⟩ := hx
  obtain ⟨_, A', c', rfl, _, _⟩ := hlv
  have hwr : IntKind.i64.wrap (2 * ((lh.cnt : Int) + 1)) = 2 * ((lh.cnt : Int) + 1) := IntWalk.i64_in _ (by omega)
  have HCN := Lib.hid hcn
  generalize hN : (Tr.node lr lm ll lh).cnt = N at *
  have HN := Lib.hid hN
  clear hN hcn
  by_cases hA2 : 2 * (lh.cnt + 1) ≤ ll.cnt + 1
  · cases ll with
    | nil => exact absurd hA2 (by show ¬ 2 * (lh.cnt + 1) ≤ 0 + 1; omega)
    | node a1 a2 a3 a4 =>
      have hia : (Tr.node a1 a2 a3 a4).cnt = a3.cnt + 1 + a4.cnt := rfl
      have hA3 : 2 * ((lh.cnt : Int) + 1) ≤ ((Tr.node a1 a2 a3 a4).cnt : Int) + 1 := by omega
      have hE : Tr.leanHigh (.node lr lm (.node a1 a2 a3 a4) lh) = Tr.raiseLow lr lm (.node a1 a2 a3 a4) lh := if_pos hA2
      have HE := Lib.hid hE
      have hcr : lh.cnt + (Tr.node a1 a2 a3 a4).cnt ≤ 900000 := by omega
      have hcl4 : lh.cnt + 1 + a3.cnt + 1 + a4.cnt + h.cnt ≤ 900000 := by omega
      have hc5 : (Tr.node a1 a2 a3 (.node lr lm a4 lh)).cnt + h.cnt ≤ 900000 := by
        have e1 : (Tr.node a1 a2 a3 (.node lr lm a4 lh)).cnt = a3.cnt + 1 + (a4.cnt + 1 + lh.cnt) := rfl
        omega
      clear hh hQ hll hlh hl hA hA2 hE hia hc
      go_enter Tryz.func183, Tryz.ntmps183
      go_wp2_with fail
      refine (HWo.out _ (one_new _ _)).mono ?_
      rintro e w1 ⟨rfl, rfl⟩
      go_wp2_with fail
      refine (HWn.out _ (one_new _ _)).mono ?_
      rintro e w1 ⟨rfl, rfl⟩
      go_wp2_with fail
      refine (HWn.out _ (one_new _ _)).mono ?_
      rintro e w1 ⟨rfl, rfl⟩
      go_wp2_with fail
      refine (HWo.out _ (one_new _ _)).mono ?_
      rintro e w1 ⟨rfl, rfl⟩
      go_wp2
      go_region_held3 (fun w' => w'.cell? { block := b, off := 3 } = some (.pointer pll) ∧ w'.cell? { block := b, off := 4 } = some (.pointer plh)) (go_keep)
        (first
        | (go_at_call_of 189 (Value.pointer pll); refine (HXI.out _ (box_drew _ _)).mono ?_; rintro e w1 ⟨rfl, rfl⟩)
        | (go_at_call_of 189 (Value.pointer plh); refine (HXO.out _ (box_drew _ _)).mono ?_; rintro e w1 ⟨rfl, rfl⟩))
      clear hwr
      go_wp2
      go_region_held3 (fun w' => w'.cell? { block := b, off := 0 } = some (.slice A' lr.length c') ∧ w'.cell? { block := b, off := 1 } = some (.int .i64 lm) ∧ w'.cell? { block := b, off := 3 } = some (.pointer pll) ∧ w'.cell? { block := b, off := 4 } = some (.pointer plh)) (go_keep)
        (first
        | (go_at_call 191; have hb2 := two_draws w (.cells #[.slice A r.length c, .int .i64 m] 113); refine (t_raiseLow _ lr lm pll plh a1 a2 a3 a4 lh _ Q (by intro k hk; exact HQ.out k (by simp at hk; omega)) (by exact HV.out.below hb2) (by exact HL.out.below hb2) (by exact HR.out.below hb2) (by omega)).mono ?_; rintro e w1 ⟨q, rfl, hT1, hbw⟩; have hbb := hb2.trans (hbw.mono (by simp)); have hcb := fun i => cl_of hbb b i hb1; have hcz := fun i => cl_of hbw w.heap.size i (by simp)))
      go_wp2_with fail
      refine (t_raiseHigh _ r m q ph a1 a2 a3 (.node lr lm a4 lh) h _ Q (by intro k hk; exact HQ.out k (by have := hbb.size; omega)) (HX.out.below hbb) hT1 (HH.out.below hbb) hc5).mono ?_
      rintro e w2 ⟨q2, rfl, hT2, hbw2⟩
      go_wp2
      go_ret
      rw [HE.out]
      exact ⟨_, rfl, hT2, hbb.trans (hbw2.mono hbb.size)⟩
  · have hA3 : ¬ 2 * ((lh.cnt : Int) + 1) ≤ (ll.cnt : Int) + 1 := by omega
    have hE : Tr.leanHigh (.node lr lm ll lh) = .node lr lm ll lh := if_neg hA2
    have HE := Lib.hid hE
    have hc5 : (Tr.node lr lm ll lh).cnt + h.cnt ≤ 900000 := by rw [HN.out]; have := HCN.out; omega
    clear hh hQ hll hlh hl hA hA2 hE hc
    go_enter Tryz.func183, Tryz.ntmps183
    go_wp2_with fail
    refine (HWo.out _ (one_new _ _)).mono ?_
    rintro e w1 ⟨rfl, rfl⟩
    go_wp2_with fail
    refine (HWn.out _ (one_new _ _)).mono ?_
    rintro e w1 ⟨rfl, rfl⟩
    go_wp2_with fail
    refine (HWn.out _ (one_new _ _)).mono ?_
    rintro e w1 ⟨rfl, rfl⟩
    go_wp2_with fail
    refine (HWo.out _ (one_new _ _)).mono ?_
    rintro e w1 ⟨rfl, rfl⟩
    go_wp2
    go_region_held3 (fun w' => w'.cell? { block := b, off := 3 } = some (.pointer pll) ∧ w'.cell? { block := b, off := 4 } = some (.pointer plh)) (go_keep)
      (first
      | (go_at_call_of 189 (Value.pointer pll); refine (HXI.out _ (box_drew _ _)).mono ?_; rintro e w1 ⟨rfl, rfl⟩)
      | (go_at_call_of 189 (Value.pointer plh); refine (HXO.out _ (box_drew _ _)).mono ?_; rintro e w1 ⟨rfl, rfl⟩))
    clear hwr
    go_wp2_with fail
    have hbb := box_drew w (.cells #[.slice A r.length c, .int .i64 m] 113)
    refine (t_raiseHigh _ r m _ ph lr lm ll lh h _ Q (by intro k hk; exact HQ.out k (by have := hbb.size; omega)) (HX.out.below hbb) (HT.out.below hbb) (HH.out.below hbb) hc5).mono ?_
    rintro e w2 ⟨q2, rfl, hT2, hbw2⟩
    go_wp2
    go_ret
    rw [HE.out]
    exact ⟨_, rfl, hT2, hbb.trans (hbw2.mono hbb.size)⟩

set_option maxRecDepth 100000 in
set_option maxHeartbeats 2000000 in
theorem t_bal (v : Value) (r : List V) (m : Int) (pl ph : Option Addr) (l h : Tr) (w : World) (Q : Nat → Prop) (hQ : ∀ k, w.heap.size ≤ k → Q k) (hx : IsRow w Q v r) (hl : TreeAt w Q pl l) (hh : TreeAt w Q ph h) (hc : l.cnt + h.cnt ≤ 900000) :
    Calls Tryz.prog 183 #[.agg #[v, .int .i64 m], .pointer pl, .pointer ph] w (Trees w Q (Tr.bal r m l h)) := by
  unfold Tr.bal
  by_cases hA : 3 * (h.cnt + 1) < l.cnt + 1
  · rw [if_pos hA]
    cases l with
    | nil => exact absurd hA (by show ¬ 3 * (h.cnt + 1) < 0 + 1; omega)
    | node lr lm ll lh => exact t_bal_low v r m pl ph lr lm ll lh h w Q hQ hx hl hh hc hA
  · rw [if_neg hA]
    by_cases hB : 3 * (l.cnt + 1) < h.cnt + 1
    · rw [if_pos hB]
      cases h with
      | nil => exact absurd hB (by show ¬ 3 * (l.cnt + 1) < 0 + 1; omega)
      | node lr lm ll lh =>
        have e : (Tr.node lr lm ll lh).cnt = ll.cnt + 1 + lh.cnt := rfl
        exact t_bal_high v r m ph pl lr lm ll lh l w Q hQ hx hh hl (by omega) (by omega)
    · rw [if_neg hB]
      have HWL : ∀ W, Below w.heap.size w W → Calls Tryz.prog 189 #[.pointer pl] W fun e w' => e = .returned (.int .i64 ((l.cnt : Int) + 1)) ∧ W = w' := fun W hb => t_weight Q pl l W (hl.below hb) (by omega)
      have HWH : ∀ W, Below w.heap.size w W → Calls Tryz.prog 189 #[.pointer ph] W fun e w' => e = .returned (.int .i64 ((h.cnt : Int) + 1)) ∧ W = w' := fun W hb => t_weight Q ph h W (hh.below hb) (by omega)
      have HWl := Lib.hid HWL
      have HWh := Lib.hid HWH
      clear HWL HWH
      have HX := Lib.hid hx
      have HQ := Lib.hid hQ
      have HL := Lib.hid hl
      have HH := Lib.hid hh
      obtain ⟨_, A, c, rfl, _, _⟩ := hx
      have hAi : ¬ 3 * ((h.cnt : Int) + 1) < (l.cnt : Int) + 1 := by omega
      have hBi : ¬ 3 * ((l.cnt : Int) + 1) < (h.cnt : Int) + 1 := by omega
      have hbb := one_new w (.cells #[.slice A r.length c, .int .i64 m] 113)
      have HB := Lib.hid hbb
      clear hh hQ hl hA hB hbb
      go_enter Tryz.func183, Tryz.ntmps183
      go_wp2_with fail
      refine (HWl.out _ (one_new _ _)).mono ?_
      rintro e w1 ⟨rfl, rfl⟩
      go_wp2_with fail
      refine (HWh.out _ (one_new _ _)).mono ?_
      rintro e w1 ⟨rfl, rfl⟩
      go_wp2_with fail
      refine (HWh.out _ (one_new _ _)).mono ?_
      rintro e w1 ⟨rfl, rfl⟩
      go_wp2_with fail
      refine (HWl.out _ (one_new _ _)).mono ?_
      rintro e w1 ⟨rfl, rfl⟩
      go_wp2_with fail
      refine (t_fork _ r m pl ph l h _ Q (by intro k hk; exact HQ.out k (by have := HB.out.size; omega)) (HX.out.below HB.out) (HL.out.below HB.out) (HH.out.below HB.out) (by omega) (by omega)).mono ?_
      rintro e w2 ⟨q2, rfl, hT2, hbw2⟩
      go_wp2
      go_ret
      exact ⟨_, rfl, hT2, HB.out.trans (hbw2.mono HB.out.size)⟩
end
end Go.Proofs.YtdhpoaecedpbdaaGreat
