/-
  The iterator of package lex over a text's tokens: the tokens come one by one, up to the end, or the first one that is wrong, or till the loop's body has enough.
  Condition: the library's variables are as the program's text lays them; the text has at most 300 bytes; the loop's body changes no block of cells but the box of one list, and that list's row.
  Lists of tokens in memory: seven cells a token; what append leaves behind it.
  No condition but that a list is short.
  Read of package lex answers the tokens of every text, or where, and why, it has none; nothing that was there is changed.
  Condition: the library's variables are as the program's text lays them.
-/
import Derived.RangeFuncNested
import Derived.RangeFuncBound
import Derived.RangeFuncCalls
import Derived.RangeFuncLeaves
import Derived.Shelf.Abstract
import Derived.Shelf.RegionOpen
import Derived.WalkKit
import Derived.OwnWalkIn
import Derived.TacticsInMore
import Derived.LoopNIn
import Derived.LoopIn
import Derived.Maps.AppendAt
import Derived.Test.YthdjkagodccdbaaM10
import Derived.Test.YthdjkagodccdbaaM9
namespace Go.Proofs.Ythdjkagodccdbaa
section
open Go.RowKit Go.Shelf

attribute [local go_sem] Oper.semAt_some

/-- Of what was there, a round changes one box, and the row that it points to, alone; that row lies at or beyond n0. -/
def KB (n0 bo : Nat) (T : TypeId) (W W' : World) : Prop :=
  Below n0 W W' ∧ ∀ v, Boxed W bo T v → (∀ k o, W.heap[k]? = some o → o.isCells = true → k ≠ bo → v.ownBlock ≠ some k → W'.heap[k]? = some o) ∧
    ∃ v', Boxed W' bo T v' ∧ ∀ k, v'.ownBlock = some k → v.ownBlock = some k ∨ (W.heap.size ≤ k ∧ k < W'.heap.size)
theorem KB.trans {n0 bo : Nat} {T : TypeId} {A B C : World} (h1 : KB n0 bo T A B) (h2 : KB n0 bo T B C) : KB n0 bo T A C := by
  refine ⟨h1.1.trans h2.1, fun v hv => ?_⟩
  obtain ⟨hk, v', hv', ho⟩ := h1.2 v hv
  obtain ⟨hk2, v2, hv2, ho2⟩ := h2.2 v' hv'
  have hs1 := h1.1.size
  have hs2 := h2.1.size
  refine ⟨fun k o h hc hb hn => ?_, v2, hv2, fun k h => ?_⟩
  · have hlt : k < A.heap.size := (Array.getElem?_eq_some_iff.1 h).1
    refine hk2 k o (hk k o h hc hb hn) hc hb (fun e => ?_)
    rcases ho k e with e1 | ⟨e1, _⟩
    · exact hn e1
    · omega
  · rcases ho2 k h with e | ⟨e1, e2⟩
    · rcases ho k e with e1 | ⟨e1, e2⟩
      · exact .inl e1
      · exact .inr ⟨e1, by omega⟩
    · exact .inr ⟨by omega, e2⟩
theorem KB.turn {n0 bo : Nat} {T : TypeId} {W0 : World} (h0 : n0 ≤ W0.heap.size) (W : World) (l : Nat) (o o' : Obj) (hl : W0.heap.size ≤ l) (h : W.heap[l]? = some o) (hc : o.isCells = false) (hw : o.isWalk = false) : KB n0 bo T W (W.putObj l o') := by
  have hb : Below n0 W (W.putObj l o') := belowK_b h0 W l o o' hl h hc hw
  have hk : ∀ k, k ≠ l → (W.putObj l o').heap[k]? = W.heap[k]? := fun k hne => by
    simp [World.putObj, Ne.symm hne]
  refine ⟨hb, fun v hv => ⟨fun k o2 h2 hc2 _ _ => ?_, v, ?_, fun k h => .inl h⟩⟩
  · have hne : k ≠ l := by
      intro e
      subst e
      rw [h] at h2
      cases h2
      rw [hc] at hc2
      cases hc2
    rw [hk k hne]
    exact h2
  · have hne : bo ≠ l := by
      intro e
      subst e
      have h3 : W.heap[bo]? = some (.cells #[v] T (0, 0)) := hv
      rw [h] at h3
      cases h3
      cases hc
    exact (hk bo hne).trans hv
/-- The box lies there; the row that it points to is there, and is not this block. -/
def RowOk (W : World) (bo : Nat) (T : TypeId) (b : Nat) : Prop := ∃ v, Boxed W bo T v ∧ ∀ k, v.ownBlock = some k → k < W.heap.size ∧ k ≠ b
theorem RowOk.below {W W' : World} {bo : Nat} {T : TypeId} {b : Nat} (h : RowOk W bo T b) (hb : Below W.heap.size W W') : RowOk W' bo T b := by
  obtain ⟨v, h1, h2⟩ := h
  exact ⟨v, (hb.block bo h1.lt).trans h1, fun k e => ⟨Nat.lt_of_lt_of_le (h2 k e).1 hb.size, (h2 k e).2⟩⟩
theorem RowOk.kb {n0 : Nat} {W W' : World} {bo : Nat} {T : TypeId} {b : Nat} (h : RowOk W bo T b) (hb : KB n0 bo T W W') (hlt : b < W.heap.size) : RowOk W' bo T b := by
  obtain ⟨v, h1, h2⟩ := h
  obtain ⟨_, v', h3, h4⟩ := hb.2 v h1
  have hs := hb.1.size
  refine ⟨v', h3, fun k e => ?_⟩
  rcases h4 k e with e1 | ⟨e1, e2⟩
  · exact ⟨Nat.lt_of_lt_of_le (h2 k e1).1 hs, (h2 k e1).2⟩
  · exact ⟨e2, by omega⟩
theorem grown_of_below {W W' : World} (h : Below W.heap.size W W') : W.grownBy W' none := ⟨h.os, h.tape, h.output, h.size, fun k hk _ => h.block k hk⟩
end
end Go.Proofs.Ythdjkagodccdbaa
namespace Go.Proofs.Ythdjkagodccdbaa
section
open Go.RowKit Go.Shelf

/-- The cells of a token. -/
abbrev Tok.cells (x : Tok) : List Value := [.int .i64 x.k, .string x.t, .int .i64 x.v.k, .bool x.v.f, .int .i64 x.v.n, .string x.v.t, .int .i64 x.a]
def flatT (ls : List Tok) : List Value := ls.flatMap Tok.cells
theorem flatT_cons (x : Tok) (xs : List Tok) : flatT (x :: xs) = x.cells ++ flatT xs := rfl
theorem flatT_append (a b : List Tok) : flatT (a ++ b) = flatT a ++ flatT b := by simp [flatT]
theorem flatT_len : ∀ (ls : List Tok), (flatT ls).length = ls.length * 7
  | [] => rfl
  | x :: xs => by
    rw [flatT_cons, List.length_append, flatT_len xs]
    have h1 : x.cells.length = 7 := rfl
    have h2 : (x :: xs).length = xs.length + 1 := rfl
    omega
theorem flatT_at : ∀ (ls : List Tok) (i : Nat) (x : Tok) (r : Nat), ls[i]? = some x → r < 7 → (flatT ls)[i * 7 + r]? = x.cells[r]?
  | [], _, _, _, h, _ => by simp at h
  | y :: ys, 0, x, r, h, hr => by
    have h' : y = x := by simpa using h
    subst h'
    rw [flatT_cons, Nat.zero_mul, Nat.zero_add, List.getElem?_append_left (by show r < 7; exact hr)]
  | y :: ys, i + 1, x, r, h, hr => by
    have ih := flatT_at ys i x r (by simpa using h) hr
    rw [flatT_cons, List.getElem?_append_right (by show 7 ≤ _; omega), ← ih]
    congr 1
    show _ - 7 = _
    omega
theorem flatT_one (ls : List Tok) : ∀ u ∈ flatT ls, u.oneCell' = true := by
  intro u hu
  unfold flatT at hu
  rw [List.mem_flatMap] at hu
  obtain ⟨x, _, hx⟩ := hu
  simp only [List.mem_cons, List.not_mem_nil, or_false] at hx
  rcases hx with rfl | rfl | rfl | rfl | rfl | rfl | rfl <;> rfl

/-- v is a list of tokens of the call's own. -/
def OwnT (E : TypeId) (w : World) (base : Nat) (v : Value) (ls : List Tok) : Prop := w.ownsRow base E 7 v ls.length (flatT ls)
theorem OwnT.nil (E : TypeId) (w : World) (base : Nat) : OwnT E w base (.slice none 0 0) [] := World.ownsRow_nil w base _ _
theorem OwnT.alloc {E : TypeId} {w : World} {base : Nat} {v : Value} {ls : List Tok} (h : OwnT E w base v ls) (o : Obj) : OwnT E (w.alloc o) base v ls := World.ownsRow.alloc h o
theorem OwnT.lt {E : TypeId} {w : World} {base : Nat} {v : Value} {ls : List Tok} (h : OwnT E w base v ls) : ∀ k, v.ownBlock = some k → base ≤ k ∧ k < w.heap.size := fun k hk => World.ownsRow.lt h k hk
theorem OwnT.below {E : TypeId} {w w' : World} {base : Nat} {v : Value} {ls : List Tok} (h : OwnT E w base v ls) (hb : Below w.heap.size w w') : OwnT E w' base v ls := by
  refine ⟨h.1, ?_⟩
  rcases h.2 with hn | ⟨g, cap, cur, hv, hg, hh, r⟩
  · exact Or.inl hn
  · have hlt : g < w.heap.size := (Array.getElem?_eq_some_iff.1 hh).1
    exact Or.inr ⟨g, cap, cur, hv, hg, (hb.block g hlt).trans hh, r⟩
/-- The tokens lie at A. -/
def ToksAt (w : World) (A : Option Addr) (ls : List Tok) : Prop := ∀ (j : Nat) (u : Value), (flatT ls)[j]? = some u → ∃ a : Addr, A = some a ∧ w.cell? (a.add j) = some u
theorem ToksAt.below {w w' : World} {A : Option Addr} {ls : List Tok} (h : ToksAt w A ls) (hb : Below w.heap.size w w') : ToksAt w' A ls := by
  intro j u hj
  obtain ⟨a, ha, hc⟩ := h j u hj
  exact ⟨a, ha, (hb.cell (World.block_lt_of_cell? w _ hc)).trans hc⟩
theorem OwnT.slice {E : TypeId} {w : World} {base : Nat} {v : Value} {ls : List Tok} (h : OwnT E w base v ls) : ∃ A c, v = .slice A ls.length c ∧ (A = none → c = 0) ∧ ls.length ≤ c ∧ ToksAt w A ls ∧ ∀ a, A = some a → ∃ g, a = ⟨g, 0, none⟩ := by
  rcases h.2 with ⟨rfl, hn⟩ | ⟨g, cap, cur, rfl, hb, hg, hcap, _⟩
  · refine ⟨none, 0, by rw [hn], fun _ => rfl, by omega, fun j u hj => ?_, fun a h => by cases h⟩
    have h1 := (List.getElem?_eq_some_iff.1 hj).1
    rw [flatT_len] at h1
    omega
  · exact ⟨_, _, rfl, fun h => by simp at h, hcap, fun j u hj => ⟨_, rfl, World.ownsRow.cells h (g := g) rfl _ _ hj⟩, fun a h => by cases h; exact ⟨_, rfl⟩⟩
theorem OwnT.succ {E : TypeId} {w : World} {base : Nat} {v : Value} {ls : List Tok} {x : Tok} (h : OwnT E w base v (ls ++ [x])) : ∃ g cap, v = .slice (some ⟨g, 0, none⟩) (ls.length + 1) cap := by
  rcases h.2 with ⟨_, h0⟩ | ⟨g, cap, _, hv, _⟩
  · simp at h0
  · exact ⟨g, cap, by rw [hv, List.length_append]; rfl⟩

/-- A token's cell, in tokens at the head of a block. -/
theorem ToksAt.at {w : World} {g : Nat} {ls : List Tok} (h : ToksAt w (some ⟨g, 0, none⟩) ls) (i r : Nat) (x : Tok) (u : Value) (hx : ls[i]? = some x) (hr : r < 7) (hu : x.cells[r]? = some u) : w.cell? ⟨g, i * 7 + r, none⟩ = some u := by
  obtain ⟨a, ha, hc⟩ := h (i * 7 + r) u ((flatT_at ls i x r hx hr).trans hu)
  injection ha with ha
  subst ha
  have e : (⟨g, 0, none⟩ : Addr).add (i * 7 + r) = ⟨g, i * 7 + r, none⟩ := by unfold Addr.add; split <;> simp_all
  rw [e] at hc
  exact hc
/-- A type of tokens: seven cells. -/
def IsTok (S E : TypeId) : Prop := Try.prog.underlying S = some (.slice E) ∧ (Try.prog.info? E).map (fun i => (i.zero, i.size, i.bytes)) = some (some (.agg #[.int .i64 0, .string ⟨#[]⟩, .int .i64 0, .bool false, .int .i64 0, .string ⟨#[]⟩, .int .i64 0]), 7, 72)
theorem isTok_ref : IsTok 50 61 := ⟨Try.underlying50, by kernel_rfl⟩

set_option maxRecDepth 10000 in
theorem append_T {S E : TypeId} (hT : IsTok S E) (w : World) (ty : TypeId) (base : Nat) (v : Value) (xs ys : List Tok) (hown : OwnT E w base v xs) (ad : Addr) (m c : Nat) (hm : m = ys.length) (hc : ∀ j u, (flatT ys)[j]? = some u → w.cell? (ad.add j) = some u)
    (hroom : xs.length + ys.length ≤ 3000000) (hbase : base ≤ w.heap.size) :
    ∃ v' w', (Builtin.append_ #[S, S] ty #[v, .slice (some ad) m c]).run Try.prog w = .ok v' w' ∧ OwnT E w' base v' (xs ++ ys) ∧ w.grownBy w' v.ownBlock ∧ (v'.ownBlock = v.ownBlock ∨ v'.ownBlock = some w.heap.size) := by
  obtain ⟨i, hi, hz, hsize, hby⟩ := info_parts hT.2
  obtain ⟨v', w', h2, h3, h4, _, h5⟩ := run_append_own_at (P := Try.prog) w base S ty E i _ 7 72 hT.1 hi hz hsize hby rfl (by omega) v xs.length (flatT xs) hown ad m c (flatT ys)
    (by rw [flatT_len, hm]) hc (flatT_one ys) (by unfold maxLen; omega) (by omega) hbase
  refine ⟨v', w', h2, ?_, h4, h5⟩
  unfold OwnT
  rw [flatT_append, List.length_append, ← hm]
  exact h3
theorem wpIn_append_T {S E : TypeId} (hT : IsTok S E) {F : Fence} {n : Nat} {ops : Array Oper} {rest : List Oper} {o : Oper} {a : Act} {Q : Exit → Act → World → Prop} (w : World) (hg : o.guard = none) (s x : Operand)
    (ho : o.op = .call { callee := .builtin .append, args := #[s, x], argTypes := #[S, S] })
    (base : Nat) (v : Value) (xs ys : List Tok) (hs : a.eval s = v) (hown : OwnT E w base v xs) (ad : Addr) (m c : Nat) (hx : a.eval x = .slice (some ad) m c) (hm : m = ys.length) (hc : ∀ j u, (flatT ys)[j]? = some u → w.cell? (ad.add j) = some u)
    (hroom : xs.length + ys.length ≤ 3000000) (hbase : base ≤ w.heap.size)
    (h : ∀ v' w', OwnT E w' base v' (xs ++ ys) → w.grownBy w' v.ownBlock → (v'.ownBlock = v.ownBlock ∨ v'.ownBlock = some w.heap.size) → wpListIn F n Try.prog ops Q rest (a.put o.dst v') w') : wpListIn F n Try.prog ops Q (o :: rest) a w := by
  refine wpListIn_plain hg fun K hK' => ?_
  obtain ⟨v', w', hrun, r1, r2, r3⟩ := append_T hT w o.type base v xs ys hown ad m c hm hc hroom hbase
  unfold Oper.wpIn
  refine ⟨?_, ?_⟩
  · simp [Oper.about, ho, resolve, Target.leads, Sem.run_pure]
  · rw [Oper.semAt_plain F _ _ (by rw [ho]; intro c hc'; cases hc')]
    simp [execOp, ho, resolve, invoke, builtin, hs, hx, hrun, Result.andThen]
    exact hK' _ _ (h v' w' r1 r2 r3)
theorem wp_append_T {S E : TypeId} (hT : IsTok S E) {ops : Array Oper} {rest : List Oper} {o : Oper} {a : Act} {Q : Exit → Act → World → Prop} (w : World) (hg : o.guard = none) (s x : Operand)
    (ho : o.op = .call { callee := .builtin .append, args := #[s, x], argTypes := #[S, S] })
    (base : Nat) (v : Value) (xs ys : List Tok) (hs : a.eval s = v) (hown : OwnT E w base v xs) (ad : Addr) (m c : Nat) (hx : a.eval x = .slice (some ad) m c) (hm : m = ys.length) (hc : ∀ j u, (flatT ys)[j]? = some u → w.cell? (ad.add j) = some u)
    (hroom : xs.length + ys.length ≤ 3000000) (hbase : base ≤ w.heap.size)
    (h : ∀ v' w', OwnT E w' base v' (xs ++ ys) → Below base w w' → w.grownBy w' v.ownBlock → (v'.ownBlock = v.ownBlock ∨ v'.ownBlock = some w.heap.size) → wpList Try.prog ops Q rest (a.put o.dst v') w') : wpList Try.prog ops Q (o :: rest) a w := by
  refine wpList_plain hg fun K hK => ?_
  obtain ⟨v', w', hrun, h2, h3, h4⟩ := append_T hT w o.type base v xs ys hown ad m c hm hc hroom hbase
  unfold Oper.wp execOp
  simp only [ho, resolve, invoke, builtin, Sem.run_bind, Sem.run_pure, Result.andThen_ok, List.map_toArray, List.map_cons, List.map_nil, hs, hx, hrun]
  exact hK _ _ (h v' w' h2 ((Below.refl _ _).grown h3 hbase (fun k hk => (hown.lt k hk).1)) h3 h4)
/-- The cells of one token that was just laid. -/
theorem lit_T (w : World) (x : Tok) (T : TypeId) : ∀ j u, (flatT [x])[j]? = some u → (w.alloc (.cells #[.int .i64 x.k, .string x.t, .int .i64 x.v.k, .bool x.v.f, .int .i64 x.v.n, .string x.v.t, .int .i64 x.a] T)).cell? ((⟨w.heap.size, 0, none⟩ : Addr).add j) = some u := by
  intro j u hj
  have hn := heap_alloc_new w (.cells #[.int .i64 x.k, .string x.t, .int .i64 x.v.k, .bool x.v.f, .int .i64 x.v.n, .string x.v.t, .int .i64 x.a] T)
  have e : (⟨w.heap.size, 0, none⟩ : Addr).add j = ⟨w.heap.size, j, none⟩ := by unfold Addr.add; split <;> simp_all
  rw [e, cell_of_row _ w.heap.size j _ T (0, 0) hn, ← hj]
  simp [flatT]
end
end Go.Proofs.Ythdjkagodccdbaa
namespace Go.Proofs.Ythdjkagodccdbaa
section
open Go.RowKit Go.Shelf

attribute [local go_sem] Oper.semAt_some

theorem blk_kept {W W' : World} {row : Option Nat} {B : Nat} {cs : Array Value} {t : TypeId} {f : Nat × Nat} (h : W.heap[B]? = some (.cells cs t f)) (hg : W.grownBy W' row) (hr : ∀ r, row = some r → ∃ o : Obj, W.heap[r]? = some o ∧ o.isCells = false) : W'.heap[B]? = some (.cells cs t f) := by
  refine (hg.block B (Array.getElem?_eq_some_iff.1 h).1 (fun e => ?_)).trans h
  obtain ⟨o, ho, hc⟩ := hr B e.symm
  rw [h] at ho
  cases ho
  cases hc
theorem OwnT.kept {E : TypeId} {w w' : World} {base : Nat} {v : Value} {ls : List Tok} {row : Option Nat} (h : OwnT E w base v ls) (hg : w.grownBy w' row) (hr : ∀ r, row = some r → ∃ o : Obj, w.heap[r]? = some o ∧ o.isCells = false) : OwnT E w' base v ls := by
  refine World.ownsRow.kept h hg ?_
  rcases h.2 with ⟨rfl, _⟩ | ⟨g, cap, cur, rfl, _, hgb, _⟩
  · exact .inl rfl
  · refine .inr fun e' => ?_
    obtain ⟨o, ho, hc⟩ := hr g (by simpa [Value.ownBlock] using e'.symm)
    rw [hgb] at ho
    cases ho
    cases hc

theorem cell_other (w : World) {b b' : Nat} (h : b ≠ b') (o : Nat) (v : Value) : (w.setCell ⟨b', 0, none⟩ v).cell? ⟨b, o, none⟩ = w.cell? ⟨b, o, none⟩ := World.cell?_of_block (w := w) (Below.heap_setCell _ _ _ b h)
theorem Boxed.drew' {W : World} {B : Nat} {t : TypeId} {v : Value} (hv : Boxed W B t v) : Boxed W.drew B t v := hv
theorem KB.of_below {n0 bo : Nat} {T : TypeId} {W W' : World} (h0 : n0 ≤ W.heap.size) (h : Below W.heap.size W W') : KB n0 bo T W W' :=
  ⟨h.mono h0, fun v hv => ⟨fun k _ hk _ _ _ => (h.block k (Array.getElem?_eq_some_iff.1 hk).1).trans hk, v, (h.block bo hv.lt).trans hv, fun _ e => .inl e⟩⟩

theorem KB.append {n0 bo : Nat} {T : TypeId} {W w1 : World} {v v' : Value} {tmp : Obj} (hv : Boxed W bo T v) (hg : (W.alloc tmp).grownBy w1 v.ownBlock) (hor : v'.ownBlock = v.ownBlock ∨ v'.ownBlock = some (W.alloc tmp).heap.size) (h2 : Boxed (w1.setCell ⟨bo, 0, none⟩ v') bo T v')
    (h5 : Below n0 W (w1.setCell ⟨bo, 0, none⟩ v')) (hlt : ∀ k, v'.ownBlock = some k → k < (w1.setCell ⟨bo, 0, none⟩ v').heap.size) : KB n0 bo T W (w1.setCell ⟨bo, 0, none⟩ v') := by
  refine ⟨h5, fun u hu => ?_⟩
  have e : u = v := by
    have e1 : some (Obj.cells #[u] T (0, 0)) = some (Obj.cells #[v] T (0, 0)) := (show W.heap[bo]? = _ from hu).symm.trans hv
    injection e1 with e1
    injection e1 with e1
    simpa using e1
  subst e
  refine ⟨fun k o hk _ hb hn => ?_, v', h2, fun k hk => ?_⟩
  · have hlt : k < W.heap.size := (Array.getElem?_eq_some_iff.1 hk).1
    rw [Below.heap_setCell _ _ _ k hb, hg.block k (by simp; omega) (fun e => hn e.symm), Below.heap_alloc _ _ _ hlt]
    exact hk
  · rcases hor with h | h
    · exact .inl (h ▸ hk)
    · refine .inr ⟨?_, hlt k hk⟩
      rw [h, World.size_alloc] at hk
      injection hk with hk
      omega
end
end Go.Proofs.Ythdjkagodccdbaa
