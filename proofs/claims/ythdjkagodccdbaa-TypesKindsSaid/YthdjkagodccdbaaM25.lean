/-
  A literal in memory while it is read; a list of terms that was made ahead.
  Condition: no more than four hundred tokens, and a place among them.
  A rule in memory while it is read; the document's agg.
  Condition: no more than four hundred tokens, and a place among them.
  The document's agg: an aggregate, if one stands there.
  Condition: no more than four hundred tokens, and a place among them.
-/
import Derived.Deep.Cut
import Derived.BigQuiet
import Derived.StillTailTactics
import Derived.Test.YthdjkagodccdbaaM24
namespace Go.Proofs.Ythdjkagodccdbaa
section
open Go.RowKit

/-- A literal lies in a box. -/
def BoxL (W : World) (b : Nat) (n : Bool) (s : ByteArray) (v : Value) (o : Int) : Prop := W.heap[b]? = some (.cells #[.bool n, .string s, v, .int .i64 o] 46 (0, 0))
theorem BoxL.lt {W : World} {b : Nat} {n : Bool} {s : ByteArray} {v : Value} {o : Int} (h : BoxL W b n s v o) : b < W.heap.size := (Array.getElem?_eq_some_iff.1 h).1
/-- Where a literal is read: the reader, the box of what is answered, the box of the literal. -/
structure LSt (w W : World) (g t c : Nat) (ls : List Tok) (s : Rst) (b : Nat) (n : Bool) (nm : ByteArray) (v : Value) (o : Int) : Prop where
  rd : RdP W g t c ls s
  on : OnlyR g w W
  b0 : BoxL W w.heap.size false ⟨#[]⟩ (.slice none 0 0) 0
  b1 : BoxL W b n nm v o
  lt : w.heap.size < b
  gl : g < w.heap.size
  tl : t < w.heap.size
section
variable {w W W' : World} {g t c b : Nat} {ls : List Tok} {s s' : Rst} {n : Bool} {nm : ByteArray} {v : Value} {o : Int}
theorem LSt.call (h : LSt w W g t c ls s b n nm v o) (hr : RdP W' g t c ls s') (ho : OnlyR g W W') : LSt w W' g t c ls s' b n nm v o :=
  ⟨hr, h.on.trans ho, (ho.2 _ h.b0.lt (by have := h.gl; omega)).trans h.b0, (ho.2 _ h.b1.lt (by have := h.gl; have := h.lt; omega)).trans h.b1, h.lt, h.gl, h.tl⟩
theorem LSt.below (h : LSt w W g t c ls s b n nm v o) (hb : Below W.heap.size W W') : LSt w W' g t c ls s b n nm v o := h.call (h.rd.below hb) (OnlyR.of hb)
theorem LSt.setA (h : LSt w W g t c ls s b n nm v o) (i : Nat) (x : Value) : RdP (W.setCell ⟨b, i, none⟩ x) g t c ls s ∧ OnlyR g w (W.setCell ⟨b, i, none⟩ x) ∧ BoxL (W.setCell ⟨b, i, none⟩ x) w.heap.size false ⟨#[]⟩ (.slice none 0 0) 0 := by
  have h1 := h.gl
  have h2 := h.lt
  have h3 := h.tl
  refine ⟨h.rd.new (by omega) (by omega) x, h.on.new (by omega) x, ?_⟩
  unfold BoxL
  rw [Below.heap_setCell W ⟨b, i, none⟩ x _ (by show w.heap.size ≠ b; omega)]
  exact h.b0
theorem LSt.set1 (h : LSt w W g t c ls s b n nm v o) (x : ByteArray) : LSt w (W.setCell ⟨b, 1, none⟩ (.string x)) g t c ls s b n x v o :=
  ⟨(h.setA 1 _).1, (h.setA 1 _).2.1, (h.setA 1 _).2.2, heap_setCell_same W b 1 _ _ _ h.b1, h.lt, h.gl, h.tl⟩
theorem LSt.set2 (h : LSt w W g t c ls s b n nm v o) (x : Value) : LSt w (W.setCell ⟨b, 2, none⟩ x) g t c ls s b n nm x o :=
  ⟨(h.setA 2 _).1, (h.setA 2 _).2.1, (h.setA 2 _).2.2, heap_setCell_same W b 2 _ _ _ h.b1, h.lt, h.gl, h.tl⟩
theorem LSt.set3 (h : LSt w W g t c ls s b n nm v o) (x : Int) : LSt w (W.setCell ⟨b, 3, none⟩ (.int .i64 x)) g t c ls s b n nm v x :=
  ⟨(h.setA 3 _).1, (h.setA 3 _).2.1, (h.setA 3 _).2.2, heap_setCell_same W b 3 _ _ _ h.b1, h.lt, h.gl, h.tl⟩
theorem LSt.cells (h : LSt w W g t c ls s b n nm v o) : W.cell? ⟨b, 0, none⟩ = some (.bool n) ∧ W.cell? ⟨b, 1, none⟩ = some (.string nm) ∧ W.cell? ⟨b, 2, none⟩ = some v ∧ W.cell? ⟨b, 3, none⟩ = some (.int .i64 o) ∧ W.frozen? ⟨b, 0, none⟩ = false ∧ W.frozen? ⟨b, 1, none⟩ = false ∧ W.frozen? ⟨b, 2, none⟩ = false ∧ W.frozen? ⟨b, 3, none⟩ = false := by
  obtain ⟨h0, h1, h2, h3, h4⟩ := box4_of h.b1
  exact ⟨h0, h1, h2, h3, h4 0, h4 1, h4 2, h4 3⟩
theorem LSt.zero (h : LSt w W g t c ls s b n nm v o) : W.cell? ⟨w.heap.size, 0, none⟩ = some (.bool false) ∧ W.cell? ⟨w.heap.size, 1, none⟩ = some (.string ⟨#[]⟩) ∧ W.cell? ⟨w.heap.size, 2, none⟩ = some (.slice none 0 0) ∧ W.cell? ⟨w.heap.size, 3, none⟩ = some (.int .i64 0) ∧ W.frozen? ⟨w.heap.size, 0, none⟩ = false ∧ W.frozen? ⟨w.heap.size, 1, none⟩ = false ∧ W.frozen? ⟨w.heap.size, 2, none⟩ = false ∧ W.frozen? ⟨w.heap.size, 3, none⟩ = false := by
  obtain ⟨h0, h1, h2, h3, h4⟩ := box4_of h.b0
  exact ⟨h0, h1, h2, h3, h4 0, h4 1, h4 2, h4 3⟩
end
/-- A list of terms that was made ahead: nil, or in a block of terms. -/
def ArgsAt (w : World) (base : Nat) (v : Value) (l : List TmP) : Prop := (v = .slice none 0 0 ∧ l = []) ∨ ∃ (b c : Nat) (cur : Array Value), v = .slice (some ⟨b, 0, none⟩) l.length c ∧ base ≤ b ∧ w.heap[b]? = some (.cells cur 84 (0, 0)) ∧ ElsAt TmP.cells 6 w (some ⟨b, 0, none⟩) l
theorem ArgsAt.of {w : World} {base : Nat} {v : Value} {l : List TmP} (h : OwnTm w base v l) : ArgsAt w base v l := by
  rcases h.slice el_Tm with h1 | ⟨g, c, rfl, h2, h3, h4, h5⟩
  · exact .inl h1
  · rcases h.2 with ⟨hn, _⟩ | ⟨g', cap, cur, hv, _, hh, _⟩
    · cases hn
    · cases hv
      exact .inr ⟨g, c, cur, rfl, h2, hh, h5⟩
theorem ArgsAt.byBlock {w w' : World} {base : Nat} {v : Value} {l : List TmP} (h : ArgsAt w base v l) (hb : ∀ (b : Nat) (cur : Array Value), base ≤ b → w.heap[b]? = some (.cells cur 84 (0, 0)) → w'.heap[b]? = w.heap[b]?) : ArgsAt w' base v l := by
  rcases h with h | ⟨b, c, cur, hv, hl, hh, he⟩
  · exact .inl h
  · have hk := hb b cur hl hh
    exact .inr ⟨b, c, cur, hv, hl, hk.trans hh, he.block hk⟩
theorem ArgsAt.only {g : Nat} {w w' : World} {base : Nat} {v : Value} {l : List TmP} (h : ArgsAt w base v l) (ho : OnlyR g w w') (hg : g < base) : ArgsAt w' base v l :=
  h.byBlock fun b _ h1 h2 => ho.2 b (Array.getElem?_eq_some_iff.1 h2).1 (by omega)
theorem ArgsAt.one {w : World} {base : Nat} {v : Value} {l : List TmP} (h : ArgsAt w base v l) : v.oneCell' = true := by
  rcases h with ⟨rfl, _⟩ | ⟨b, c, cur, rfl, _⟩ <;> rfl
theorem els_two {W : World} {b : Nat} {x y : TmP} (h : W.heap[b]? = some (.cells #[.string x.s, .bool x.a, .int .i64 x.v.k, .bool x.v.f, .int .i64 x.v.n, .string x.v.t, .string y.s, .bool y.a, .int .i64 y.v.k, .bool y.v.f, .int .i64 y.v.n, .string y.v.t] 84 (0, 0))) : ElsAt TmP.cells 6 W (some ⟨b, 0, none⟩) [x, y] := by
  intro i z hi
  have hj6 : ∀ (z : TmP) (j : Nat) (u : Value), z.cells[j]? = some u → j < 6 := fun z j u hj => (List.getElem?_eq_some_iff.1 hj).1
  match i, hi with
  | 0, hi =>
    have e : x = z := by simpa using hi
    subst e
    refine ⟨_, rfl, fun j u hj => ?_⟩
    have h6 := hj6 _ j u hj
    rw [add_add, cell_of_row _ b (0 * 6 + j) _ _ (0, 0) h]
    match j, h6, hj with
    | 0, _, hj => exact hj
    | 1, _, hj => exact hj
    | 2, _, hj => exact hj
    | 3, _, hj => exact hj
    | 4, _, hj => exact hj
    | 5, _, hj => exact hj
  | 1, hi =>
    have e : y = z := by simpa using hi
    subst e
    refine ⟨_, rfl, fun j u hj => ?_⟩
    have h6 := hj6 _ j u hj
    rw [add_add, cell_of_row _ b (1 * 6 + j) _ _ (0, 0) h]
    match j, h6, hj with
    | 0, _, hj => exact hj
    | 1, _, hj => exact hj
    | 2, _, hj => exact hj
    | 3, _, hj => exact hj
    | 4, _, hj => exact hj
    | 5, _, hj => exact hj
theorem ArgsAt.setL {W : World} {base r i : Nat} {u x : Value} {l : List TmP} {cs : Array Value} (h : ArgsAt W base u l) (hr : W.heap[r]? = some (.cells cs 46 (0, 0))) : ArgsAt (W.setCell ⟨r, i, none⟩ x) base u l :=
  h.byBlock fun b' cur _ h3 => Below.heap_setCell W ⟨r, i, none⟩ x b' fun e => by
    have e' : b' = r := e
    rw [e', hr] at h3
    injection h3 with h3
    injection h3 with _ h4
    exact absurd h4 (by decide)
theorem LSt.end4 {w W : World} {g t c b : Nat} {ls : List Tok} {s : Rst} {n : Bool} {nm : ByteArray} {v u : Value} {o : Int} {l : List TmP} (h : LSt w W g t c ls s b n nm v o) (hA : ArgsAt W w.heap.size u l) (x0 x1 x2 x3 : Value) :
    ArgsAt ((((W.setCell ⟨w.heap.size, 0, none⟩ x0).setCell ⟨w.heap.size, 1, none⟩ x1).setCell ⟨w.heap.size, 2, none⟩ x2).setCell ⟨w.heap.size, 3, none⟩ x3) w.heap.size u l ∧ RdP ((((W.setCell ⟨w.heap.size, 0, none⟩ x0).setCell ⟨w.heap.size, 1, none⟩ x1).setCell ⟨w.heap.size, 2, none⟩ x2).setCell ⟨w.heap.size, 3, none⟩ x3) g t c ls s ∧ OnlyR g w ((((W.setCell ⟨w.heap.size, 0, none⟩ x0).setCell ⟨w.heap.size, 1, none⟩ x1).setCell ⟨w.heap.size, 2, none⟩ x2).setCell ⟨w.heap.size, 3, none⟩ x3) := by
  have h1 := h.gl
  have h3 := h.tl
  have k0 := h.b0
  have k1 := heap_setCell_same W w.heap.size 0 _ _ x0 k0
  have k2 := heap_setCell_same _ w.heap.size 1 _ _ x1 k1
  have k3 := heap_setCell_same _ w.heap.size 2 _ _ x2 k2
  exact ⟨(((hA.setL k0).setL k1).setL k2).setL k3, (((h.rd.new (by omega) (by omega) x0).new (by omega) (by omega) x1).new (by omega) (by omega) x2).new (by omega) (by omega) x3, (((h.on.new (Nat.le_refl _) x0).new (Nat.le_refl _) x1).new (Nat.le_refl _) x2).new (Nat.le_refl _) x3⟩
theorem ext_classL (h : Nat) (w : World) (hh : h ≤ w.heap.size) : ∃ (E : Type) (X : E → World), Nonempty E ∧ (∀ e, Below h w (X e)) ∧ (∀ W, Below h w W → ∃ e, W = X e) ∧ ∀ e W, Below (X e).heap.size (X e) W → ∃ e2, W = X e2 :=
  ⟨{W : World // Below h w W}, Subtype.val, ⟨⟨w, Below.refl _ _⟩⟩, fun e => e.2, fun W hW => ⟨⟨W, hW⟩, rfl⟩, fun e W hW => ⟨⟨W, e.2.trans (hW.mono (Nat.le_trans hh e.2.size))⟩, rfl⟩⟩
end
end Go.Proofs.Ythdjkagodccdbaa
namespace Go.Proofs.Ythdjkagodccdbaa
section
open Go.RowKit

/-- Literals in a list of one's own, their terms elsewhere. -/
def LisAt (W : World) (base : Nat) (v : Value) (l : List LiP) : Prop := ∃ qs : List LmQ, OwnLq W base v qs ∧ qs.length = l.length ∧ ∀ (i : Nat) (q : LmQ) (y : LiP), qs[i]? = some q → l[i]? = some y → q.1.n = y.n ∧ q.1.s = y.s ∧ q.1.o = y.o ∧ ArgsAt W base q.1.v y.args
theorem LisAt.nil (W : World) (base : Nat) : LisAt W base (.slice none 0 0) [] := ⟨[], OwnF.nil _ _, rfl, fun i q y h => by simp at h⟩
theorem LisAt.byBlock {W W' : World} {base : Nat} {v : Value} {l : List LiP} (h : LisAt W base v l) (hb : ∀ b, base ≤ b → b < W.heap.size → W'.heap[b]? = W.heap[b]?) : LisAt W' base v l := by
  obtain ⟨qs, h1, h2, h3⟩ := h
  refine ⟨qs, h1.byBlock fun k hk => hb k (h1.lt k hk).1 (h1.lt k hk).2, h2, fun i q y hq hy => ?_⟩
  obtain ⟨a, b, c, d⟩ := h3 i q y hq hy
  exact ⟨a, b, c, d.byBlock fun b' _ hl hh => hb b' hl (Array.getElem?_eq_some_iff.1 hh).1⟩
/-- A rule lies in a box. -/
def BoxX (W : World) (x : Nat) (r : RuP) (hv bv : Value) : Prop := W.heap[x]? = some (.cells #[.int .i64 r.k, .string r.nm, hv, .int .i64 r.ag, .string r.ofv, .int .i64 r.lim, bv] 27 (0, 0))
theorem BoxX.lt {W : World} {x : Nat} {r : RuP} {hv bv : Value} (h : BoxX W x r hv bv) : x < W.heap.size := (Array.getElem?_eq_some_iff.1 h).1
theorem BoxX.cell {W : World} {x : Nat} {r : RuP} {hv bv : Value} (h : BoxX W x r hv bv) : W.cell? ⟨x, 0, none⟩ = some (.int .i64 r.k) ∧ W.cell? ⟨x, 1, none⟩ = some (.string r.nm) ∧ W.cell? ⟨x, 2, none⟩ = some hv ∧ W.cell? ⟨x, 3, none⟩ = some (.int .i64 r.ag) ∧ W.cell? ⟨x, 4, none⟩ = some (.string r.ofv) ∧ W.cell? ⟨x, 5, none⟩ = some (.int .i64 r.lim) ∧ W.cell? ⟨x, 6, none⟩ = some bv :=
  ⟨cell_of_row _ x 0 _ _ (0, 0) h, cell_of_row _ x 1 _ _ (0, 0) h, cell_of_row _ x 2 _ _ (0, 0) h, cell_of_row _ x 3 _ _ (0, 0) h, cell_of_row _ x 4 _ _ (0, 0) h, cell_of_row _ x 5 _ _ (0, 0) h, cell_of_row _ x 6 _ _ (0, 0) h⟩
theorem BoxX.frozen {W : World} {x : Nat} {r : RuP} {hv bv : Value} (h : BoxX W x r hv bv) (i : Nat) : W.frozen? ⟨x, i, none⟩ = false := by
  unfold BoxX at h
  simp [World.frozen?, h]
/-- Of what lies below base, blocks g and x alone may have changed. -/
def OnlyX (g x base : Nat) (W W' : World) : Prop := Below 0 W W' ∧ ∀ k, k < base → k < W.heap.size → k ≠ g → k ≠ x → W'.heap[k]? = W.heap[k]?
theorem OnlyX.refl (g x base : Nat) (W : World) : OnlyX g x base W W := ⟨Below.refl _ _, fun _ _ _ _ _ => rfl⟩
theorem OnlyX.trans {g x base : Nat} {W W1 W2 : World} (h1 : OnlyX g x base W W1) (h2 : OnlyX g x base W1 W2) : OnlyX g x base W W2 :=
  ⟨h1.1.trans h2.1, fun k hk hs hg hx => (h2.2 k hk (Nat.lt_of_lt_of_le hs h1.1.size) hg hx).trans (h1.2 k hk hs hg hx)⟩
theorem OnlyX.of {g x base : Nat} {W W' : World} (h : OnlyR g W W') : OnlyX g x base W W' := ⟨h.1, fun k _ hs hg _ => h.2 k hs hg⟩
theorem OnlyX.set (g x base i : Nat) (W : World) (v : Value) : OnlyX g x base W (W.setCell ⟨x, i, none⟩ v) :=
  ⟨(Below.refl 0 W).setCell (p := ⟨x, i, none⟩) (Nat.zero_le _) v, fun k _ _ _ hx => Below.heap_setCell W ⟨x, i, none⟩ v k hx⟩
/-- Where a rule is read: the reader, the rule's box, its lists. -/
structure XSt (W : World) (g x t c base : Nat) (ls : List Tok) (s : Rst) (r : RuP) (hv bv : Value) : Prop where
  rd : RdP W g t c ls s
  bx : BoxX W x r hv bv
  hd : OwnSt W base hv r.head
  bd : LisAt W base bv r.body
  gb : g < base
  xb : x < base
  tb : t < base
  gx : g ≠ x
  tx : t ≠ x
  sz : base ≤ W.heap.size
section
variable {W W' : World} {g x t c base : Nat} {ls : List Tok} {s s' : Rst} {r : RuP} {hv bv : Value}
theorem XSt.call (h : XSt W g x t c base ls s r hv bv) (hr : RdP W' g t c ls s') (ho : OnlyR g W W') : XSt W' g x t c base ls s' r hv bv := by
  have hg := h.gb
  exact ⟨hr, (ho.2 x h.bx.lt (Ne.symm h.gx)).trans h.bx, h.hd.byBlock fun k hk => ho.2 k (h.hd.lt k hk).2 (by have := (h.hd.lt k hk).1; omega), h.bd.byBlock fun b hb hl => ho.2 b hl (by omega), h.gb, h.xb, h.tb, h.gx, h.tx, Nat.le_trans h.sz ho.size⟩
theorem XSt.below (h : XSt W g x t c base ls s r hv bv) (hb : Below W.heap.size W W') : XSt W' g x t c base ls s r hv bv := h.call (h.rd.below hb) (OnlyR.of hb)
theorem XSt.setA (h : XSt W g x t c base ls s r hv bv) (i : Nat) (v : Value) {r' : RuP} {hv' bv' : Value} (hb : BoxX (W.setCell ⟨x, i, none⟩ v) x r' hv' bv') (hh : r'.head = r.head ∧ hv' = hv) (hbb : r'.body = r.body ∧ bv' = bv) : XSt (W.setCell ⟨x, i, none⟩ v) g x t c base ls s r' hv' bv' := by
  have hx := h.xb
  have hk : ∀ k, base ≤ k → (W.setCell ⟨x, i, none⟩ v).heap[k]? = W.heap[k]? := fun k hk => Below.heap_setCell W ⟨x, i, none⟩ v k (by show k ≠ x; omega)
  refine ⟨h.rd.new h.gx h.tx v, hb, ?_, ?_, h.gb, h.xb, h.tb, h.gx, h.tx, by rw [World.size_setCell]; exact h.sz⟩
  · rw [hh.1, hh.2]
    exact h.hd.byBlock fun k hk' => hk k (h.hd.lt k hk').1
  · rw [hbb.1, hbb.2]
    exact h.bd.byBlock fun b hb' _ => hk b hb'
theorem XSt.set0 (h : XSt W g x t c base ls s r hv bv) (k : Int) : XSt (W.setCell ⟨x, 0, none⟩ (.int .i64 k)) g x t c base ls s { r with k := k } hv bv :=
  h.setA 0 _ (heap_setCell_same W x 0 _ _ _ h.bx) ⟨rfl, rfl⟩ ⟨rfl, rfl⟩
theorem XSt.set1 (h : XSt W g x t c base ls s r hv bv) (k : ByteArray) : XSt (W.setCell ⟨x, 1, none⟩ (.string k)) g x t c base ls s { r with nm := k } hv bv :=
  h.setA 1 _ (heap_setCell_same W x 1 _ _ _ h.bx) ⟨rfl, rfl⟩ ⟨rfl, rfl⟩
theorem XSt.set3 (h : XSt W g x t c base ls s r hv bv) (k : Int) : XSt (W.setCell ⟨x, 3, none⟩ (.int .i64 k)) g x t c base ls s { r with ag := k } hv bv :=
  h.setA 3 _ (heap_setCell_same W x 3 _ _ _ h.bx) ⟨rfl, rfl⟩ ⟨rfl, rfl⟩
theorem XSt.set4 (h : XSt W g x t c base ls s r hv bv) (k : ByteArray) : XSt (W.setCell ⟨x, 4, none⟩ (.string k)) g x t c base ls s { r with ofv := k } hv bv :=
  h.setA 4 _ (heap_setCell_same W x 4 _ _ _ h.bx) ⟨rfl, rfl⟩ ⟨rfl, rfl⟩
theorem XSt.set5 (h : XSt W g x t c base ls s r hv bv) (k : Int) : XSt (W.setCell ⟨x, 5, none⟩ (.int .i64 k)) g x t c base ls s { r with lim := k } hv bv :=
  h.setA 5 _ (heap_setCell_same W x 5 _ _ _ h.bx) ⟨rfl, rfl⟩ ⟨rfl, rfl⟩
theorem XSt.boxGrown {W2 : World} (h : XSt W g x t c base ls s r hv bv) {v : Value} (hv2 : ∀ k, v.ownBlock = some k → base ≤ k) (hg : W.grownBy W2 v.ownBlock) : BoxX W2 x r hv bv := by
  have hx := h.xb
  have hsz := h.sz
  exact (hg.block x (by omega) (fun e => by have := hv2 x e.symm; omega)).trans h.bx
/-- The head grows. -/
theorem XSt.head {W2 : World} {ss : List ByteArray} {hv' : Value} (h : XSt W g x t c base ls s r hv bv) (hg : W.grownBy W2 hv.ownBlock) (ho : OwnSt W2 base hv' ss) :
    XSt (W2.setCell ⟨x, 2, none⟩ hv') g x t c base ls s { r with head := ss } hv' bv ∧ OnlyX g x base W (W2.setCell ⟨x, 2, none⟩ hv') := by
  have hx := h.xb
  have hgb := h.gb
  have htb := h.tb
  have hsz := h.sz
  have hlow : ∀ k, k < base → W2.heap[k]? = W.heap[k]? := fun k hk => hg.block k (by omega) (fun e => by have := (h.hd.lt k e.symm).1; omega)
  have hset : ∀ k, k ≠ x → (W2.setCell ⟨x, 2, none⟩ hv').heap[k]? = W2.heap[k]? := fun k hk => Below.heap_setCell W2 ⟨x, 2, none⟩ hv' k hk
  have hz2 : W.heap.size ≤ W2.heap.size := hg.size
  have hlit : ∀ (b : Nat) (cur : Array Value) (T : TypeId), T ≠ 9 → base ≤ b → W.heap[b]? = some (.cells cur T (0, 0)) → (W2.setCell ⟨x, 2, none⟩ hv').heap[b]? = W.heap[b]? := by
    intro b cur T hT hb hc
    rw [hset b (by omega)]
    refine hg.block b (Array.getElem?_eq_some_iff.1 hc).1 fun e => ?_
    rcases h.hd.2 with ⟨hn, _⟩ | ⟨g', cap, cur', hvv, _, hh, _⟩
    · rw [hn] at e; cases e
    · rw [hvv] at e
      have e' : b = g' := by injection e
      rw [e', hh] at hc
      injection hc with hc
      injection hc with _ h4
      exact hT h4.symm
  refine ⟨⟨?_, ?_, ho.byBlock fun k hk => hset k (by have := (ho.lt k hk).1; omega), ?_, hgb, hx, htb, h.gx, h.tx, by rw [World.size_setCell]; omega⟩, ?_, fun k hk _ hkg hkx => (hset k hkx).trans (hlow k hk)⟩
  · exact ⟨((hset g h.gx).trans (hlow g hgb)).trans h.rd.1, h.rd.2.1.block (fun _ => (hset t h.tx).trans (hlow t htb)), h.rd.2.2⟩
  · have h1 : BoxX W2 x r hv bv := (hlow x hx).trans h.bx
    exact heap_setCell_same W2 x 2 _ _ hv' h1
  · obtain ⟨qs, h1, h2, h3⟩ := h.bd
    refine ⟨qs, h1.byBlock fun k hk => ?_, h2, fun i q y hq hy => ?_⟩
    · rcases h1.2 with ⟨hn, _⟩ | ⟨g', cap, cur', hvv, _, hh, _⟩
      · rw [hn] at hk; cases hk
      · rw [hvv] at hk
        have e' : g' = k := by injection hk
        rw [e'] at hh
        exact hlit k cur' _ (by decide) (h1.lt k (by rw [hvv]; exact hk)).1 hh
    · obtain ⟨a, b, c', d⟩ := h3 i q y hq hy
      exact ⟨a, b, c', d.byBlock fun b' cur hl hh => hlit b' cur _ (by decide) hl hh⟩
  · exact ((Below.refl 0 W).grown hg (Nat.zero_le _) (fun k _ => Nat.zero_le _)).setCell (p := ⟨x, 2, none⟩) (Nat.zero_le _) hv'
end
end
end Go.Proofs.Ythdjkagodccdbaa
namespace Go.Proofs.Ythdjkagodccdbaa
section
open Go.RowKit

theorem aggJ_hit {ls : List Tok} {s : Rst} {k : Nat} {u : List UInt8} (h1 : 1 ≤ k) (hu : aggW[k]? = some u) (hi : isR ls s u = true) (hno : ∀ (j : Nat) (v : List UInt8), 1 ≤ j → j < k → aggW[j]? = some v → isR ls s v = false) : aggJ ls s = k := by
  have hk : k < 5 := (List.getElem?_eq_some_iff.1 hu).1
  have n1 : ∀ j v, aggW[j]? = some v → 1 ≤ j → j < k → isR ls s v = false := fun j v a b c => hno j v b c a
  unfold aggJ
  match k, hk, hu with
  | 1, _, hu =>
    injection hu with hu
    subst hu
    rw [if_pos hi]
  | 2, _, hu =>
    injection hu with hu
    subst hu
    rw [if_neg (by rw [n1 1 _ rfl (by omega) (by omega)]; simp), if_pos hi]
  | 3, _, hu =>
    injection hu with hu
    subst hu
    rw [if_neg (by rw [n1 1 _ rfl (by omega) (by omega)]; simp), if_neg (by rw [n1 2 _ rfl (by omega) (by omega)]; simp), if_pos hi]
  | 4, _, hu =>
    injection hu with hu
    subst hu
    rw [if_neg (by rw [n1 1 _ rfl (by omega) (by omega)]; simp), if_neg (by rw [n1 2 _ rfl (by omega) (by omega)]; simp), if_neg (by rw [n1 3 _ rfl (by omega) (by omega)]; simp), if_pos hi]
  | 0, _, _ => omega
theorem aggJ_none {ls : List Tok} {s : Rst} (hno : ∀ (j : Nat) (v : List UInt8), 1 ≤ j → j < 5 → aggW[j]? = some v → isR ls s v = false) : aggJ ls s = 0 := by
  unfold aggJ
  rw [if_neg (by rw [hno 1 _ (by omega) (by omega) rfl]; simp), if_neg (by rw [hno 2 _ (by omega) (by omega) rfl]; simp), if_neg (by rw [hno 3 _ (by omega) (by omega) rfl]; simp), if_neg (by rw [hno 4 _ (by omega) (by omega) rfl]; simp)]

set_option maxRecDepth 100000 in
set_option maxHeartbeats 4000000 in
theorem rp_agg {W : World} {g x t c base : Nat} {ls : List Tok} {s : Rst} {r : RuP} {hv bv : Value} (h : XSt W g x t c base ls s r hv bv) :
    Calls Try.prog 40 #[.pointer (some ⟨g, 0, none⟩), .pointer (some ⟨x, 0, none⟩)] W fun e W' => e = .returned (.bool (decide (aggJ ls s ≠ 0))) ∧ XSt W' g x t c base ls (agS ls s r.k) { r with ag := agA ls s r.k r.ag, ofv := agO ls s r.k r.ofv } hv bv ∧ OnlyX g x base W W' := by
  have hon := one_new W (.cells (strs aggW) 9)
  have h0 := h.below hon
  have HC := Lib.hid (fun (k : Nat) (u : List UInt8) (hk : aggW[k]? = some u) => strs_cell W aggW 9 k u hk)
  obtain ⟨W0, hW0⟩ : ∃ W0, W0 = W.alloc (.cells (strs aggW) 9) := ⟨_, rfl⟩
  rw [← hW0] at hon h0 HC
  have HW0 : Hid (W.alloc (.cells #[.string ⟨#[]⟩, .string ⟨#[99, 111, 117, 110, 116]⟩, .string ⟨#[115, 117, 109]⟩, .string ⟨#[108, 101, 97, 115, 116]⟩, .string ⟨#[109, 111, 115, 116]⟩] 9) = W0) := Lib.hid hW0.symm
  have HON := Lib.hid hon
  have H0 := Lib.hid h0
  have hsz0 : W0.heap.size = W.heap.size + 1 := by rw [hW0, World.size_alloc]
  have HS0 := Lib.hid hsz0
  obtain ⟨J, hJ⟩ : ∃ J, J = aggJ ls s := ⟨_, rfl⟩
  obtain ⟨R, hR⟩ : ∃ R : RuP, R = { r with ag := agA ls s r.k r.ag, ofv := agO ls s r.k r.ofv } := ⟨_, rfl⟩
  obtain ⟨sE, hsE⟩ : ∃ sE, sE = agS ls s r.k := ⟨_, rfl⟩
  rw [← hJ, ← hR, ← hsE]
  have HJ := Lib.hid hJ
  have HR := Lib.hid hR
  have HSE := Lib.hid hsE
  clear h hon h0 hW0 hsz0 hJ hR hsE
  go_enter Try.func40, Try.ntmps40
  go_wp2
  rw [HW0.out]
  go_loopw [6] (fun i wr => ∃ k : Nat, 1 ≤ k ∧ k ≤ 5 ∧ i = .int .i64 k ∧ Hid (∀ (j : Nat) (v : List UInt8), 1 ≤ j → j < k → aggW[j]? = some v → isR ls s v = false) ∧ Below W0.heap.size W0 wr) (fun i _ => 5 - (intOf i).toNat)
  case atStart => exact ⟨1, by omega, by omega, rfl, Lib.hid (fun j v h1 h2 => by omega), Below.refl _ _⟩
  case round =>
    obtain ⟨k, hk1, hk5, rfl, HNO, hb⟩ := hrel
    have HB := Lib.hid hb
    have hr := Lib.hid (H0.out.below hb)
    have hsz := hb.size
    by_cases hlt : k < 5
    · obtain ⟨u, hu⟩ : ∃ u, aggW[k]? = some u := ⟨_, List.getElem?_eq_getElem hlt⟩
      have hc := (hb.cell (p := ⟨W.heap.size, k, none⟩) (by rw [HS0.out]; simp)).trans (HC.out k u hu)
      have HU := Lib.hid hu
      have HI := Lib.hid (rp_is hr.out.rd ⟨u.toArray⟩)
      have hut : (⟨u.toArray⟩ : ByteArray).data.toList = u := rfl
      rw [hut] at HI
      have HXO := Lib.hid (OnlyX.of (x := x) (base := base) (OnlyR.of (g := g) (HON.out.trans (hb.mono (by have := HON.out.size; exact this)))))
      obtain ⟨q, hq⟩ : ∃ q, isR ls s u = q := ⟨_, rfl⟩
      rw [hq] at HI
      have HQ := Lib.hid hq
      clear hb hu hut hq
      go_wp2_with fail
      refine HI.out.mono ?_
      rintro e w2 ⟨rfl, hb2⟩
      have HB2 := Lib.hid (HB.out.trans (hb2.mono hsz))
      have H2 := Lib.hid (hr.out.below hb2)
      have HX2 := Lib.hid (HXO.out.trans (OnlyX.of (OnlyR.of hb2)))
      clear hb2 HI hc HXO
      cases q with
      | false =>
        go_wp2
        go_roundw
        case rel =>
          refine ⟨k + 1, by omega, by omega, by go_num, Lib.hid (fun j v h1 h2 h3 => ?_), HB2.out⟩
          by_cases hj : j = k
          · subst hj
            rw [HU.out] at h3
            injection h3 with h3
            rw [← h3]
            exact HQ.out
          · exact HNO.out j v h1 (by omega) h3
        case measure => simp [intOf]; omega
      | true =>
        have hk0 : ¬ k = 0 := by omega
        have hjk : aggJ ls s = k := aggJ_hit hk1 HU.out HQ.out HNO.out
        have hJk : J = k := by rw [HJ.out, hjk]
        obtain ⟨d0, _, _, d3, d4, _, _⟩ := H2.out.bx.cell
        have f3 := H2.out.bx.frozen 3
        have HJK := Lib.hid hjk
        obtain ⟨⟨yk, yb, ⟨zk, zf, zn, zt⟩, ya⟩, hX⟩ : ∃ y, nowR ls s = y := ⟨_, rfl⟩
        have HX := Lib.hid hX
        have r3 := field_at3 yk yb zk zf zn zt ya
        have HRT : Hid (decide (J ≠ 0) = true) := Lib.hid (by rw [hJk]; simp; omega)
        have hagS : sE = if aggBad r.k k = true then failR s 7 ya else if 1 < k then nmS ls (stepR ls s) else stepR ls s := by rw [HSE.out]; unfold agS; rw [hjk, if_neg hk0, hX]
        have hR2 : R = { r with ag := if aggBad r.k k = true then r.ag else (k : Int), ofv := if aggBad r.k k = true then r.ofv else if 1 < k then nmV ls (stepR ls s) else r.ofv } := by rw [HR.out]; unfold agA agO; rw [hjk]; simp only [if_neg hk0]
        have HAS := Lib.hid hagS
        have HR2 := Lib.hid hR2
        clear hjk hJk hX hagS hR2 hr HB2 HR HSE
        obtain ⟨bad, hbad⟩ : ∃ bad, aggBad r.k k = bad := ⟨_, rfl⟩
        rw [hbad] at HAS HR2
        cases bad with
        | true =>
          rw [if_pos rfl] at HAS HR2
          rw [if_pos rfl] at HR2
          have HNW := Lib.hid (rp_now' H2.out.rd HX.out)
          have hcs : r.k = 1 ∨ (¬ r.k = 1 ∧ r.k = 3 ∧ 2 < k) := by
            unfold aggBad at hbad
            by_cases h1 : r.k = 1
            · exact .inl h1
            · rw [decide_eq_false h1, Bool.false_or, Bool.and_eq_true, decide_eq_true_eq, decide_eq_true_eq] at hbad
              exact .inr ⟨h1, hbad.1, hbad.2⟩
          clear hbad
          rcases hcs with h1 | ⟨h1, h3, h2⟩
          · have b1 : (r.k == 1) = true := by simpa using h1
            clear h1
            go_wp2_with fail
            refine HNW.out.mono ?_
            rintro e w3 ⟨rfl, hb3⟩
            have HF := Lib.hid (rp_fail (H2.out.below hb3).rd 7 ya)
            have H3 := Lib.hid (H2.out.below hb3)
            have HX3 := Lib.hid (HX2.out.trans (OnlyX.of (OnlyR.of hb3)))
            clear hb3 HNW
            go_wp2_with fail
            refine HF.out.mono ?_
            rintro e w4 ⟨rfl, hr4, ho4⟩
            have H4 := Lib.hid (H3.out.call hr4 ho4)
            have HX4 := Lib.hid (HX3.out.trans (OnlyX.of ho4))
            clear hr4 ho4
            go_wp2
            go_ret
            exact ⟨by rw [HRT.out]; rfl, by rw [HAS.out, HR2.out]; exact H4.out, HX4.out⟩
          · have b1 : (r.k == 1) = false := by simpa using h1
            have b3 : (r.k == 3) = true := by simpa using h3
            have b2 : decide ((2 : Int) < (k : Int)) = true := by rw [decide_eq_true_eq]; omega
            clear h1 h3 h2
            go_wp2_with fail
            refine HNW.out.mono ?_
            rintro e w3 ⟨rfl, hb3⟩
            have HF := Lib.hid (rp_fail (H2.out.below hb3).rd 7 ya)
            have H3 := Lib.hid (H2.out.below hb3)
            have HX3 := Lib.hid (HX2.out.trans (OnlyX.of (OnlyR.of hb3)))
            clear hb3 HNW
            go_wp2_with fail
            refine HF.out.mono ?_
            rintro e w4 ⟨rfl, hr4, ho4⟩
            have H4 := Lib.hid (H3.out.call hr4 ho4)
            have HX4 := Lib.hid (HX3.out.trans (OnlyX.of ho4))
            clear hr4 ho4
            go_wp2
            go_ret
            exact ⟨by rw [HRT.out]; rfl, by rw [HAS.out, HR2.out]; exact H4.out, HX4.out⟩
        | false =>
          have hk1' : ¬ r.k = 1 := by
            intro h1
            unfold aggBad at hbad
            rw [decide_eq_true h1] at hbad
            cases hbad
          have hk3' : ¬ (r.k = 3 ∧ 2 < k) := by
            rintro ⟨h1, h2⟩
            unfold aggBad at hbad
            rw [decide_eq_true h1, decide_eq_true h2, Bool.and_self, Bool.or_true] at hbad
            cases hbad
          have b1 : (r.k == 1) = false := by simpa using hk1'
          simp only [if_neg Bool.false_ne_true] at HAS HR2
          clear hbad hk1'
          by_cases h3 : r.k = 3
          · have b3 : (r.k == 3) = true := by simpa using h3
            have b2 : decide ((2 : Int) < (k : Int)) = false := by rw [decide_eq_false_iff_not]; intro h; exact hk3' ⟨h3, by omega⟩
            clear h3 hk3'
            have HSP := Lib.hid (rp_step H2.out.rd)
            by_cases hk2 : 1 < k
            · have b5 : decide ((1 : Int) < (k : Int)) = true := by rw [decide_eq_true_eq]; omega
              simp only [if_pos hk2] at HAS HR2
              go_wp2_with fail
              refine HSP.out.mono ?_
              rintro e w3 ⟨rfl, hr3, ho3⟩
              have h3 := H2.out.call hr3 ho3
              have H4 := Lib.hid (h3.set3 (k : Int))
              have HX4 := Lib.hid ((HX2.out.trans (OnlyX.of ho3)).trans (OnlyX.set g x base 3 w3 (.int .i64 k)))
              obtain ⟨d0, _, _, d3, d4, _, _⟩ := h3.bx.cell
              have f3 := h3.bx.frozen 3
              have HN := Lib.hid (rp_name H4.out.rd)
              clear hr3 ho3 HSP h3
              go_wp2_with fail
              refine HN.out.mono ?_
              rintro e w5 ⟨rfl, hr5, ho5⟩
              have h5 := H4.out.call hr5 ho5
              have H6 := Lib.hid (h5.set4 (nmV ls (stepR ls s)))
              have HX6 := Lib.hid ((HX4.out.trans (OnlyX.of ho5)).trans (OnlyX.set g x base 4 w5 (.string (nmV ls (stepR ls s)))))
              obtain ⟨d0, _, _, d3, d4, _, _⟩ := h5.bx.cell
              have f4 := h5.bx.frozen 4
              clear hr5 ho5 HN h5
              go_wp2
              go_ret
              exact ⟨by rw [HRT.out]; rfl, by rw [HAS.out, HR2.out]; exact H6.out, HX6.out⟩
            · have b5 : decide ((1 : Int) < (k : Int)) = false := by rw [decide_eq_false_iff_not]; omega
              simp only [if_neg hk2] at HAS HR2
              go_wp2_with fail
              refine HSP.out.mono ?_
              rintro e w3 ⟨rfl, hr3, ho3⟩
              have h3 := H2.out.call hr3 ho3
              have H4 := Lib.hid (h3.set3 (k : Int))
              have HX4 := Lib.hid ((HX2.out.trans (OnlyX.of ho3)).trans (OnlyX.set g x base 3 w3 (.int .i64 k)))
              obtain ⟨d0, _, _, d3, d4, _, _⟩ := h3.bx.cell
              have f3 := h3.bx.frozen 3
              clear hr3 ho3 HSP h3
              go_wp2
              go_ret
              exact ⟨by rw [HRT.out]; rfl, by rw [HAS.out, HR2.out]; exact H4.out, HX4.out⟩
          · have b3 : (r.k == 3) = false := by simpa using h3
            clear h3 hk3'
            have HSP := Lib.hid (rp_step H2.out.rd)
            by_cases hk2 : 1 < k
            · have b5 : decide ((1 : Int) < (k : Int)) = true := by rw [decide_eq_true_eq]; omega
              simp only [if_pos hk2] at HAS HR2
              go_wp2_with fail
              refine HSP.out.mono ?_
              rintro e w3 ⟨rfl, hr3, ho3⟩
              have h3 := H2.out.call hr3 ho3
              have H4 := Lib.hid (h3.set3 (k : Int))
              have HX4 := Lib.hid ((HX2.out.trans (OnlyX.of ho3)).trans (OnlyX.set g x base 3 w3 (.int .i64 k)))
              obtain ⟨d0, _, _, d3, d4, _, _⟩ := h3.bx.cell
              have f3 := h3.bx.frozen 3
              have HN := Lib.hid (rp_name H4.out.rd)
              clear hr3 ho3 HSP h3
              go_wp2_with fail
              refine HN.out.mono ?_
              rintro e w5 ⟨rfl, hr5, ho5⟩
              have h5 := H4.out.call hr5 ho5
              have H6 := Lib.hid (h5.set4 (nmV ls (stepR ls s)))
              have HX6 := Lib.hid ((HX4.out.trans (OnlyX.of ho5)).trans (OnlyX.set g x base 4 w5 (.string (nmV ls (stepR ls s)))))
              obtain ⟨d0, _, _, d3, d4, _, _⟩ := h5.bx.cell
              have f4 := h5.bx.frozen 4
              clear hr5 ho5 HN h5
              go_wp2
              go_ret
              exact ⟨by rw [HRT.out]; rfl, by rw [HAS.out, HR2.out]; exact H6.out, HX6.out⟩
            · have b5 : decide ((1 : Int) < (k : Int)) = false := by rw [decide_eq_false_iff_not]; omega
              simp only [if_neg hk2] at HAS HR2
              go_wp2_with fail
              refine HSP.out.mono ?_
              rintro e w3 ⟨rfl, hr3, ho3⟩
              have h3 := H2.out.call hr3 ho3
              have H4 := Lib.hid (h3.set3 (k : Int))
              have HX4 := Lib.hid ((HX2.out.trans (OnlyX.of ho3)).trans (OnlyX.set g x base 3 w3 (.int .i64 k)))
              obtain ⟨d0, _, _, d3, d4, _, _⟩ := h3.bx.cell
              have f3 := h3.bx.frozen 3
              clear hr3 ho3 HSP h3
              go_wp2
              go_ret
              exact ⟨by rw [HRT.out]; rfl, by rw [HAS.out, HR2.out]; exact H4.out, HX4.out⟩
    · obtain rfl : k = 5 := by omega
      have hj : aggJ ls s = 0 := aggJ_none HNO.out
      have hJ0 : J = 0 := by rw [HJ.out, hj]
      have hsE : sE = s := by rw [HSE.out]; unfold agS; rw [hj]; rfl
      have hR : R = r := by rw [HR.out]; unfold agA agO; rw [hj]; rfl
      have HH := Lib.hid hJ0
      have HSS := Lib.hid hsE
      have HRR := Lib.hid hR
      have HXO := Lib.hid (OnlyX.of (x := x) (base := base) (OnlyR.of (g := g) (HON.out.trans (hb.mono (by have := HON.out.size; exact this)))))
      clear hj hJ0 hsE hR hb
      go_wp2
      go_ret
      exact ⟨by rw [HH.out]; rfl, by rw [HSS.out, HRR.out]; exact hr.out, HXO.out⟩
end
end Go.Proofs.Ythdjkagodccdbaa
