/-
  Lists of one's own, of things of so many cells each: what append leaves behind it. Generic.
  No condition but that a list is short.
-/
import Derived.Test.YthdjkagodccdbaaProg
import Derived.Maps.AppendAt
import Derived.OwnWalk
import Derived.Below
import Derived.WalkKit
namespace Go.Proofs.Ythdjkagodccdbaa
open Go.RowKit

theorem add_zero_g (g i : Nat) : (⟨g, 0, none⟩ : Addr).add i = ⟨g, i, none⟩ := by unfold Addr.add; split <;> simp_all
theorem add_add (g i j : Nat) : ((⟨g, 0, none⟩ : Addr).add i).add j = ⟨g, i + j, none⟩ := by
  rw [add_zero_g]
  unfold Addr.add
  split
  · simp_all
  · rfl
/-- A type of lists of things of n cells: its element's type, zero, bytes. -/
structure IsEl {α : Type} (S E : TypeId) (f : α → List Value) (n b : Nat) : Prop where
  under : Try.prog.underlying S = some (.slice E)
  info : ∃ z : Value, (Try.prog.info? E).map (fun i => (i.zero, i.size, i.bytes)) = some (some z, n, b) ∧ z.cells.size = n
  pos : 0 < n
  len : ∀ x, (f x).length = n
  one : ∀ x, ∀ u ∈ f x, u.oneCell' = true
  few : b ≤ 100

theorem flatF_len {α : Type} {f : α → List Value} {n : Nat} (hf : ∀ x, (f x).length = n) : ∀ (ls : List α), (ls.flatMap f).length = ls.length * n
  | [] => by simp
  | x :: xs => by
    rw [List.flatMap_cons, List.length_append, flatF_len hf xs, hf x, List.length_cons, Nat.add_mul]
    omega
theorem flatF_at {α : Type} {f : α → List Value} {n : Nat} (hf : ∀ x, (f x).length = n) : ∀ (ls : List α) (i : Nat) (x : α), ls[i]? = some x → ∀ j u, (f x)[j]? = some u → (ls.flatMap f)[i * n + j]? = some u
  | [], _, _, h, _, _, _ => by simp at h
  | y :: ys, 0, x, h, j, u, hj => by
    have h' : y = x := by simpa using h
    subst h'
    rw [List.flatMap_cons, Nat.zero_mul, Nat.zero_add, List.getElem?_append_left (List.getElem?_eq_some_iff.1 hj).1]
    exact hj
  | y :: ys, i + 1, x, h, j, u, hj => by
    have ih := flatF_at hf ys i x (by simpa using h) j u hj
    have e : (i + 1) * n + j - n = i * n + j := by rw [Nat.add_mul]; omega
    rw [List.flatMap_cons, List.getElem?_append_right (by rw [hf y, Nat.add_mul]; omega), hf y, e]
    exact ih

/-- v is a list of things of the call's own. -/
def OwnF {α : Type} (E : TypeId) (f : α → List Value) (n : Nat) (w : World) (base : Nat) (v : Value) (ls : List α) : Prop := w.ownsRow base E n v ls.length (ls.flatMap f)
/-- Things lie at A. -/
def ElsAt {α : Type} (f : α → List Value) (n : Nat) (w : World) (A : Option Addr) (ls : List α) : Prop := ∀ (i : Nat) (x : α), ls[i]? = some x → ∃ a : Addr, A = some a ∧ ∀ j u, (f x)[j]? = some u → w.cell? ((a.add (i * n)).add j) = some u
section
variable {α : Type} {S E : TypeId} {f : α → List Value} {n b : Nat}
theorem ElsAt.below {w w' : World} {A : Option Addr} {ls : List α} (h : ElsAt f n w A ls) (hb : Below w.heap.size w w') : ElsAt f n w' A ls := by
  intro i x hi
  obtain ⟨a, ha, hc⟩ := h i x hi
  exact ⟨a, ha, fun j u hj => (hb.cell (World.block_lt_of_cell? w _ (hc j u hj))).trans (hc j u hj)⟩
theorem ElsAt.block {w w' : World} {g : Nat} {ls : List α} (h : ElsAt f n w (some ⟨g, 0, none⟩) ls) (hk : w'.heap[g]? = w.heap[g]?) : ElsAt f n w' (some ⟨g, 0, none⟩) ls := by
  intro i x hi
  obtain ⟨a, ha, hc⟩ := h i x hi
  injection ha with ha
  subst ha
  have e : ∀ j, ((⟨g, 0, none⟩ : Addr).add (i * n)).add j = ⟨g, i * n + j, none⟩ := fun j => add_add _ _ _
  refine ⟨_, rfl, fun j u hj => ?_⟩
  have h1 := hc j u hj
  rw [e] at h1 ⊢
  exact (World.cell?_of_block (w := w) hk).trans h1
theorem OwnF.nil (w : World) (base : Nat) : OwnF E f n w base (.slice none 0 0) [] := World.ownsRow_nil w base _ _
theorem OwnF.alloc {w : World} {base : Nat} {v : Value} {ls : List α} (h : OwnF E f n w base v ls) (o : Obj) : OwnF E f n (w.alloc o) base v ls := World.ownsRow.alloc h o
theorem OwnF.lt {w : World} {base : Nat} {v : Value} {ls : List α} (h : OwnF E f n w base v ls) : ∀ k, v.ownBlock = some k → base ≤ k ∧ k < w.heap.size := fun k hk => World.ownsRow.lt h k hk
theorem OwnF.byBlock {w w' : World} {base : Nat} {v : Value} {ls : List α} (h : OwnF E f n w base v ls) (hb : ∀ k, v.ownBlock = some k → w'.heap[k]? = w.heap[k]?) : OwnF E f n w' base v ls := by
  refine ⟨h.1, ?_⟩
  rcases h.2 with hn | ⟨g, cap, cur, hv, hg, hh, r⟩
  · exact Or.inl hn
  · exact Or.inr ⟨g, cap, cur, hv, hg, (hb g (by rw [hv]; rfl)).trans hh, r⟩
theorem OwnF.below {w w' : World} {base : Nat} {v : Value} {ls : List α} (h : OwnF E f n w base v ls) (hb : Below w.heap.size w w') : OwnF E f n w' base v ls := h.byBlock fun k hk => hb.block k (h.lt k hk).2
theorem OwnF.lower {w : World} {base b2 : Nat} {v : Value} {ls : List α} (h : OwnF E f n w base v ls) (hb : b2 ≤ base) : OwnF E f n w b2 v ls := by
  refine ⟨h.1, ?_⟩
  rcases h.2 with hn | ⟨g, cap, cur, hv, hg, hh, r⟩
  · exact Or.inl hn
  · exact Or.inr ⟨g, cap, cur, hv, Nat.le_trans hb hg, hh, r⟩
theorem OwnF.slice (hI : IsEl S E f n b) {w : World} {base : Nat} {v : Value} {ls : List α} (h : OwnF E f n w base v ls) : (v = .slice none 0 0 ∧ ls = []) ∨ ∃ g c, v = .slice (some ⟨g, 0, none⟩) ls.length c ∧ base ≤ g ∧ g < w.heap.size ∧ ls.length ≤ c ∧ ElsAt f n w (some ⟨g, 0, none⟩) ls := by
  rcases h.2 with ⟨rfl, hn⟩ | ⟨g, cap, cur, rfl, hb, hg, hcap, _⟩
  · exact .inl ⟨rfl, List.eq_nil_of_length_eq_zero (by first | omega | simpa using hn)⟩
  · refine .inr ⟨g, cap, rfl, hb, (Array.getElem?_eq_some_iff.1 hg).1, hcap, fun i x hi => ⟨_, rfl, fun j u hj => ?_⟩⟩
    have := World.ownsRow.cells h (g := g) rfl _ _ (flatF_at hI.len ls i x hi j u hj)
    rw [add_add, ← add_zero_g]
    exact this
theorem OwnF.shape {w : World} {base : Nat} {v : Value} {ls : List α} (h : OwnF E f n w base v ls) : ∃ A c, v = .slice A ls.length c := by
  rcases h.2 with ⟨rfl, hn⟩ | ⟨g, cap, cur, rfl, _, _, _, _⟩
  · have hl : ls.length = 0 := by first | omega | simpa using hn
    exact ⟨none, 0, by rw [hl]⟩
  · exact ⟨_, cap, rfl⟩

set_option maxRecDepth 10000 in
theorem append_F (hI : IsEl S E f n b) (w : World) (ty : TypeId) (base : Nat) (v : Value) (xs : List α) (y : α) (hown : OwnF E f n w base v xs) (ad : Addr) (c : Nat) (hc : ∀ j u, (f y)[j]? = some u → w.cell? (ad.add j) = some u)
    (hroom : xs.length ≤ 1000000) (hbase : base ≤ w.heap.size) :
    ∃ v' w', (Builtin.append_ #[S, S] ty #[v, .slice (some ad) 1 c]).run Try.prog w = .ok v' w' ∧ OwnF E f n w' base v' (xs ++ [y]) ∧ w.grownBy w' v.ownBlock ∧ (v'.ownBlock = v.ownBlock ∨ v'.ownBlock = some w.heap.size) := by
  obtain ⟨z, hz0, hzc⟩ := hI.info
  obtain ⟨i, hi, hz, hsize, hby⟩ := info_parts hz0
  have hfew := hI.few
  obtain ⟨v', w', h2, h3, h4, _, h5⟩ := run_append_own_at (P := Try.prog) w base S ty E i _ n b hI.under hi hz hsize hby hzc hI.pos v xs.length (xs.flatMap f) hown ad 1 c (f y)
    (by rw [hI.len, Nat.one_mul]) hc (hI.one y) (by unfold maxLen; omega) (Nat.le_trans (Nat.mul_le_mul_left _ hfew) (by omega)) hbase
  refine ⟨v', w', h2, ?_, h4, h5⟩
  unfold OwnF
  rw [List.flatMap_append, List.length_append]
  simpa using h3
theorem wp_append_F (hI : IsEl S E f n b) {ops : Array Oper} {rest : List Oper} {o : Oper} {a : Act} {Q : Exit → Act → World → Prop} (w : World) (hg : o.guard = none) (s x : Operand)
    (ho : o.op = .call { callee := .builtin .append, args := #[s, x], argTypes := #[S, S] })
    (base : Nat) (v : Value) (xs : List α) (y : α) (hs : a.eval s = v) (hown : OwnF E f n w base v xs) (ad : Addr) (c : Nat) (hx : a.eval x = .slice (some ad) 1 c) (hc : ∀ j u, (f y)[j]? = some u → w.cell? (ad.add j) = some u)
    (hroom : xs.length ≤ 1000000) (hbase : base ≤ w.heap.size)
    (h : ∀ v' w', OwnF E f n w' base v' (xs ++ [y]) → Below base w w' → w.grownBy w' v.ownBlock → (v'.ownBlock = v.ownBlock ∨ v'.ownBlock = some w.heap.size) → wpList Try.prog ops Q rest (a.put o.dst v') w') : wpList Try.prog ops Q (o :: rest) a w := by
  refine wpList_plain hg fun K hK => ?_
  obtain ⟨v', w', hrun, h2, h3, h4⟩ := append_F hI w o.type base v xs y hown ad c hc hroom hbase
  unfold Oper.wp execOp
  simp only [ho, resolve, invoke, builtin, Sem.run_bind, Sem.run_pure, Result.andThen_ok, List.map_toArray, List.map_cons, List.map_nil, hs, hx, hrun]
  exact hK _ _ (h v' w' h2 ((Below.refl _ _).grown h3 hbase (fun k hk => (hown.lt k hk).1)) h3 h4)
theorem step_append_F (hI : IsEl S E f n b) {ops : Array Oper} {o : Oper} {a : Act} {K : Act → World → Prop} {Q : Exit → Act → World → Prop} {X : Prop} (w : World) (hgd : o.guard = none) (s x : Operand)
    (ho : o.op = .call { callee := .builtin .append, args := #[s, x], argTypes := #[S, S] })
    (base : Nat) (v : Value) (xs : List α) (y : α) (hs : a.eval s = v) (hown : OwnF E f n w base v xs) (ad : Addr) (c : Nat) (hx : a.eval x = .slice (some ad) 1 c) (hc : ∀ j u, (f y)[j]? = some u → w.cell? (ad.add j) = some u)
    (hroom : xs.length ≤ 1000000) (hbase : base ≤ w.heap.size)
    (h : ∀ v' w', OwnF E f n w' base v' (xs ++ [y]) → Below base w w' → w.grownBy w' v.ownBlock → (v'.ownBlock = v.ownBlock ∨ v'.ownBlock = some w.heap.size) → K (a.put o.dst v') w') :
    if Region.wanted o (yielded ops a.tmps) = true then Oper.wp Try.prog o a w K Q else X := by
  have hw : Region.wanted o (yielded ops a.tmps) = true := by simp [Region.wanted, hgd]
  rw [if_pos hw]
  obtain ⟨v', w', hrun, h2, h3, h4⟩ := append_F hI w o.type base v xs y hown ad c hc hroom hbase
  unfold Oper.wp execOp
  simp only [ho, resolve, invoke, builtin, Sem.run_bind, Sem.run_pure, Result.andThen_ok, List.map_toArray, List.map_cons, List.map_nil, hs, hx, hrun]
  exact h v' w' h2 ((Below.refl _ _).grown h3 hbase (fun k hk => (hown.lt k hk).1)) h3 h4
end
end Go.Proofs.Ythdjkagodccdbaa
