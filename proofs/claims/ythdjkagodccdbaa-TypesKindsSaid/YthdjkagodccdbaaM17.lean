/-
  Rows of values that a call makes itself: what append leaves behind it, cell by cell, whatever room there was.
  No condition but that a row is no longer than it can be.
  Lists of texts in memory: of one's own, and any; two that are one are alike to the document.
-/
import Derived.Maps.AppendAt
import Derived.Deep.AppendLies
import Derived.OwnWalk
import Derived.RangeFuncBox
import Derived.OwnWalkIn
import Derived.Test.YthdjkagodccdbaaM2
namespace Go.Proofs.Ythdjkagodccdbaa
section
open Go.RowKit

/-- The four cells of a value. -/
def V.cells (v : V) : List Value := [.int .i64 v.k, .bool v.f, .int .i64 v.n, .string v.t]
/-- The cells of a row. -/
def flat (xs : List V) : List Value := xs.flatMap V.cells

theorem flat_length (xs : List V) : (flat xs).length = xs.length * 4 := by
  induction xs with
  | nil => rfl
  | cons x xs ih =>
    have h : (flat (x :: xs)).length = 4 + (flat xs).length := by simp [flat, V.cells]; omega
    rw [h, ih, List.length_cons]
    omega
theorem flat_append (xs ys : List V) : flat (xs ++ ys) = flat xs ++ flat ys := by simp [flat]
theorem flat_cons (x : V) (xs : List V) : flat (x :: xs) = .int .i64 x.k :: .bool x.f :: .int .i64 x.n :: .string x.t :: flat xs := rfl
theorem flat_at : ∀ (xs : List V) (i : Nat) (v : V), xs[i]? = some v → (flat xs)[i * 4]? = some (.int .i64 v.k) ∧ (flat xs)[i * 4 + 1]? = some (.bool v.f) ∧ (flat xs)[i * 4 + 2]? = some (.int .i64 v.n) ∧ (flat xs)[i * 4 + 3]? = some (.string v.t)
  | [], _, _, h => by simp at h
  | x :: xs, 0, v, h => by
    have h' : x = v := by simpa using h
    subst h'
    exact ⟨rfl, rfl, rfl, rfl⟩
  | x :: xs, i + 1, v, h => by
    have ih := flat_at xs i v (by simpa using h)
    rw [flat_cons, show (i + 1) * 4 = i * 4 + 4 from by omega]
    exact ih
theorem flat_one (xs : List V) : ∀ u ∈ flat xs, u.oneCell' = true := by
  intro u hu
  obtain ⟨x, _, hx⟩ := List.mem_flatMap.1 hu
  simp only [V.cells, List.mem_cons, List.not_mem_nil, or_false] at hx
  rcases hx with rfl | rfl | rfl | rfl <;> rfl

theorem add_off (a : Addr) (m r : Nat) (hr : 0 < r) : ({ block := (a.add m).block, off := (a.add m).off + r } : Addr) = a.add (m + r) := by
  unfold Addr.add
  by_cases hm : m = 0
  · subst hm
    simp [Nat.ne_of_gt hr]
  · simp [hm, Nat.add_assoc]

theorem RowAt.cells {w : World} {B : Nat} {a : Addr} {xs : List V} (h : RowAt w B (some a) xs) : ∀ j u, (flat xs)[j]? = some u → w.cell? (a.add j) = some u := by
  intro j u hu
  have hj : j < xs.length * 4 := by
    rw [← flat_length]
    exact (List.getElem?_eq_some_iff.1 hu).1
  have hi : j / 4 < xs.length := by omega
  obtain ⟨v, hv⟩ : ∃ v, xs[j / 4]? = some v := ⟨_, List.getElem?_eq_getElem hi⟩
  obtain ⟨a', ha, _, h0, h1, h2, h3⟩ := h _ _ hv
  injection ha with ha
  subst ha
  obtain ⟨f0, f1, f2, f3⟩ := flat_at xs _ _ hv
  rw [add_off _ _ _ (by omega)] at h1 h2 h3
  rcases (show j = j / 4 * 4 ∨ j = j / 4 * 4 + 1 ∨ j = j / 4 * 4 + 2 ∨ j = j / 4 * 4 + 3 from by omega) with hq | hq | hq | hq
  · rw [hq, f0] at hu
    injection hu with hu
    rw [hq, ← hu]
    rw [← hq]
    rw [← hq] at h0
    exact h0
  · rw [hq, f1] at hu
    injection hu with hu
    rw [hq, ← hu]
    exact h1
  · rw [hq, f2] at hu
    injection hu with hu
    rw [hq, ← hu]
    exact h2
  · rw [hq, f3] at hu
    injection hu with hu
    rw [hq, ← hu]
    exact h3

/-- v is a row of the call's own (from block base on), and holds xs. -/
def Own (w : World) (base : Nat) (v : Value) (xs : List V) : Prop := w.ownsRow base 59 4 v xs.length (flat xs)

theorem Own.row {w : World} {base : Nat} {v : Value} {xs : List V} (h : Own w base v xs) : ∃ A c, v = .slice A xs.length c ∧ (A = none → c = 0) ∧ RowAt w w.heap.size A xs := by
  rcases h.2 with ⟨rfl, hn⟩ | ⟨g, cap, cur, rfl, hb, hg, _⟩
  · refine ⟨none, 0, by rw [hn], fun _ => rfl, fun i v hi => ?_⟩
    have := (List.getElem?_eq_some_iff.1 hi).1
    omega
  · refine ⟨_, _, rfl, fun h => by simp at h, fun i v hi => ⟨_, rfl, ?_, ?_⟩⟩
    · rw [show ((⟨g, 0, none⟩ : Addr).add (i * 4)).block = g from by unfold Addr.add; split <;> rfl]
      exact (Array.getElem?_eq_some_iff.1 hg).1
    · obtain ⟨f0, f1, f2, f3⟩ := flat_at xs i v hi
      have hc := World.ownsRow.cells h (g := g) rfl
      refine ⟨hc _ _ f0, ?_, ?_, ?_⟩
      · rw [add_off _ _ _ (by omega)]
        exact hc _ _ f1
      · rw [add_off _ _ _ (by omega)]
        exact hc _ _ f2
      · rw [add_off _ _ _ (by omega)]
        exact hc _ _ f3

theorem Own.base_le {w : World} {base : Nat} {v : Value} {xs : List V} (h : Own w base v xs) : ∀ k, v.ownBlock = some k → base ≤ k := fun k hk => (World.ownsRow.lt h k hk).1
theorem Own.nil (w : World) (base : Nat) : Own w base (.slice none 0 0) [] := World.ownsRow_nil w base _ _
theorem Own.alloc {w : World} {base : Nat} {v : Value} {xs : List V} (h : Own w base v xs) (o : Obj) : Own (w.alloc o) base v xs := World.ownsRow.alloc h o
theorem Own.drewN {w : World} {base : Nat} {v : Value} {xs : List V} (h : Own w base v xs) (n : Nat) : Own (w.drewN n) base v xs := h
/-- A row stays one's own while only later blocks change. -/
theorem Own.below {w w' : World} {base : Nat} {v : Value} {xs : List V} (h : Own w base v xs) {B : Nat} (hb : Below B w w') (hB : w.heap.size ≤ B) : Own w' base v xs := by
  refine ⟨h.1, ?_⟩
  rcases h.2 with hn | ⟨g, cap, cur, hv, hg, hh, r⟩
  · exact Or.inl hn
  · have hlt : g < w.heap.size := (Array.getElem?_eq_some_iff.1 hh).1
    exact Or.inr ⟨g, cap, cur, hv, hg, (hb.block g (by omega)).trans hh, r⟩

theorem info_V : (Try.prog.info? 59).map (fun i => (i.zero, i.size, i.bytes)) = some (some (.agg #[.int .i64 0, .bool false, .int .i64 0, .string ⟨#[]⟩]), 4, 40) := by kernel_rfl

/-- A block of one value's four cells is a row of that value. -/
theorem row_lit1 (w : World) (v : V) : RowAt (w.alloc (.cells #[.int .i64 v.k, .bool v.f, .int .i64 v.n, .string v.t] 59)) (w.heap.size + 1) (some ⟨w.heap.size, 0, none⟩) [v] := by
  have h : Own (w.alloc (.cells #[.int .i64 v.k, .bool v.f, .int .i64 v.n, .string v.t] 59)) w.heap.size (.slice (some ⟨w.heap.size, 0, none⟩) 1 1) [v] :=
    World.ownsRow_lit w #[.int .i64 v.k, .bool v.f, .int .i64 v.n, .string v.t] 1 (Nat.le_refl _) (by unfold maxLen; omega) rfl
  obtain ⟨A, c, hv, _, hr⟩ := h.row
  injection hv with hA _ _
  subst hA
  simpa using hr
end
end Go.Proofs.Ythdjkagodccdbaa
namespace Go.Proofs.Ythdjkagodccdbaa
section
open Go.RowKit Go.Maps

theorem new_cellT (w : World) (cs : Array Value) (t : TypeId) (i : Nat) : (w.alloc (.cells cs t)).cell? ⟨w.heap.size, i, none⟩ = cs[i]? := by
  unfold World.cell?
  rw [(Go.MapKept.heap_alloc w (.cells cs t)).1]
  rfl
theorem cell_rowT (w : World) (b : Nat) (v : Value) (t : TypeId) (h : w.heap[b]? = some (.cells #[v] t (0, 0))) : w.cell? ⟨b, 0, none⟩ = some v := by
  unfold World.cell?
  simp [h]
/-- v is a list of texts of the call's own. -/
def OwnL (w : World) (base : Nat) (v : Value) (ss : List ByteArray) : Prop := w.ownsRow base 9 1 v ss.length (ss.map Value.string)
theorem OwnL.nil (w : World) (base : Nat) : OwnL w base (.slice none 0 0) [] := World.ownsRow_nil w base _ _
theorem OwnL.kept {w w' : World} {base : Nat} {v : Value} {ss : List ByteArray} {row : Option Nat} (h : OwnL w base v ss) (hg : w.grownBy w' row) (hr : ∀ r, row = some r → ∃ o : Obj, w.heap[r]? = some o ∧ o.isCells = false) : OwnL w' base v ss := by
  refine World.ownsRow.kept h hg ?_
  rcases h.2 with ⟨rfl, _⟩ | ⟨g, cap, cur, rfl, _, hgb, _⟩
  · exact .inl rfl
  · refine .inr fun e' => ?_
    obtain ⟨o, ho, hc⟩ := hr g (by simpa [Value.ownBlock] using e'.symm)
    rw [hgb] at ho
    cases ho
    cases hc
theorem OwnL.lower {w : World} {base b2 : Nat} {v : Value} {ss : List ByteArray} (h : OwnL w base v ss) (hb : b2 ≤ base) : OwnL w b2 v ss := by
  refine ⟨h.1, ?_⟩
  rcases h.2 with hn | ⟨g, cap, cur, hv, hg, hh, r⟩
  · exact Or.inl hn
  · exact Or.inr ⟨g, cap, cur, hv, Nat.le_trans hb hg, hh, r⟩
theorem info_X : (Try.prog.info? 9).map (fun i => (i.zero, i.size, i.bytes)) = some (some (.string ⟨#[]⟩), 1, 16) := by kernel_rfl
theorem lit_X (w : World) (v : Value) (ty : TypeId) : ∀ j u, [v][j]? = some u → (w.alloc (.cells #[v] ty)).cell? ((⟨w.heap.size, 0, none⟩ : Addr).add j) = some u := by
  intro j u hj
  cases j with
  | zero =>
    have e : v = u := by simpa using hj
    subst e
    exact new_cellT _ _ _ 0
  | succ j => simp at hj
theorem OwnL.form {w : World} {base : Nat} {v : Value} {ss : List ByteArray} (h : OwnL w base v ss) : ∃ A c, v = .slice A ss.length c := by
  rcases h.2 with ⟨rfl, hn⟩ | ⟨g, cap, cur, rfl, _, _, _, _⟩
  · have hl : ss.length = 0 := by first | omega | simpa using hn
    exact ⟨none, 0, by rw [hl]⟩
  · exact ⟨_, cap, rfl⟩
/-- Texts lie at A. -/
def TxsAt (w : World) (A : Option Addr) (ss : List ByteArray) : Prop := ∀ (j : Nat) (s : ByteArray), ss[j]? = some s → ∃ a : Addr, A = some a ∧ w.cell? (a.add j) = some (.string s)
theorem TxsAt.below {w w' : World} {A : Option Addr} {ss : List ByteArray} (h : TxsAt w A ss) (hb : Below w.heap.size w w') : TxsAt w' A ss := by
  intro j u hj
  obtain ⟨a, ha, hc⟩ := h j u hj
  exact ⟨a, ha, (hb.cell (World.block_lt_of_cell? w _ hc)).trans hc⟩
theorem OwnL.slice {w : World} {base : Nat} {v : Value} {ss : List ByteArray} (h : OwnL w base v ss) : ∃ A c, v = .slice A ss.length c ∧ (A = none → c = 0) ∧ ss.length ≤ c ∧ TxsAt w A ss ∧ ∀ a, A = some a → ∃ g, a = ⟨g, 0, none⟩ := by
  rcases h.2 with ⟨rfl, hn⟩ | ⟨g, cap, cur, rfl, hb, hg, hcap, _⟩
  · refine ⟨none, 0, by rw [hn], fun _ => rfl, by omega, fun j u hj => ?_, fun a h => by cases h⟩
    have h1 := (List.getElem?_eq_some_iff.1 hj).1
    omega
  · exact ⟨_, _, rfl, fun h => by simp at h, hcap, fun j s hj => ⟨_, rfl, World.ownsRow.cells h (g := g) rfl _ _ (by rw [List.getElem?_map, hj]; rfl)⟩, fun a h => by cases h; exact ⟨_, rfl⟩⟩
theorem TxsAt.head {w : World} {A : Option Addr} {ss : List ByteArray} (h : TxsAt w A ss) (hag : ∀ a, A = some a → ∃ g, a = ⟨g, 0, none⟩) (hne : 0 < ss.length) : ∃ g, A = some ⟨g, 0, none⟩ := by
  obtain ⟨a, ha, _⟩ := h 0 _ (List.getElem?_eq_getElem hne)
  obtain ⟨g, rfl⟩ := hag a ha
  exact ⟨g, ha⟩
theorem TxsAt.at {w : World} {g : Nat} {ss : List ByteArray} (h : TxsAt w (some ⟨g, 0, none⟩) ss) (i : Nat) (s : ByteArray) (hx : ss[i]? = some s) : w.cell? ⟨g, i, none⟩ = some (.string s) := by
  obtain ⟨a, ha, hc⟩ := h i s hx
  injection ha with ha
  subst ha
  have e : (⟨g, 0, none⟩ : Addr).add i = ⟨g, i, none⟩ := by unfold Addr.add; split <;> simp_all
  rw [e] at hc
  exact hc
theorem OwnL.below {w w' : World} {base B : Nat} {v : Value} {zs : List ByteArray} (h : OwnL w base v zs) (hb : Below B w w') (hB : w.heap.size ≤ B) : OwnL w' base v zs := by
  refine ⟨h.1, ?_⟩
  rcases h.2 with hn | ⟨g, cap, cur, hv, hg, hh, r⟩
  · exact Or.inl hn
  · have hlt : g < w.heap.size := (Array.getElem?_eq_some_iff.1 hh).1
    exact Or.inr ⟨g, cap, cur, hv, hg, (hb.block g (by omega)).trans hh, r⟩
theorem wp_append_L {ops : Array Oper} {rest : List Oper} {o : Oper} {a : Act} {Q : Exit → Act → World → Prop} (w : World) (hgd : o.guard = none) (s x : Operand)
    (ho : o.op = .call { callee := .builtin .append, args := #[s, x], argTypes := #[24, 24] })
    (base : Nat) (v : Value) (xs : List ByteArray) (p : ByteArray) (hs : a.eval s = v) (hown : OwnL w base v xs) (ad : Addr) (c : Nat) (hx : a.eval x = .slice (some ad) 1 c) (hr : w.cell? ad = some (.string p))
    (hroom : xs.length ≤ 3000000) (hbase : base ≤ w.heap.size)
    (h : ∀ v' w', OwnL w' base v' (xs ++ [p]) → Below base w w' → wpList Try.prog ops Q rest (a.put o.dst v') w') : wpList Try.prog ops Q (o :: rest) a w := by
  refine wpList_plain hgd fun K hK => ?_
  obtain ⟨i, hi, hz, hsize, hby⟩ := info_parts info_X
  obtain ⟨v', w', hrun, h3, h4, _, _⟩ := run_append_own_at (P := Try.prog) w base 24 o.type 9 i _ 1 16 Try.underlying24 hi hz hsize hby rfl (by omega) v xs.length (xs.map Value.string) hown ad 1 c [.string p]
      rfl (fun j u hj => by
        cases j with
        | zero =>
          have e : Value.string p = u := by simpa using hj
          subst e
          rw [show ad.add 0 = ad from by simp [Addr.add]]
          exact hr
        | succ j => simp at hj) (by intro u hu; rw [List.mem_singleton.1 hu]; rfl) (by unfold maxLen; omega) (by omega) hbase
  unfold Oper.wp execOp
  simp only [ho, resolve, invoke, builtin, Sem.run_bind, Sem.run_pure, Result.andThen_ok, List.map_toArray, List.map_cons, List.map_nil, hs, hx, hrun]
  refine hK _ _ (h v' w' ?_ ((Below.refl _ _).grown h4 hbase (fun k hk => (World.ownsRow.lt hown k hk).1)))
  unfold OwnL
  rw [List.length_append, List.map_append]
  exact h3
theorem lit_texts (w : World) (cs : Array Value) (ss : List ByteArray) (g : Nat) (hg : g = w.heap.size) (h : cs.toList = ss.map Value.string) : TxsAt (w.alloc (.cells cs 9)) (some ⟨g, 0, none⟩) ss := by
  subst hg
  intro i z hi
  have ha : (⟨w.heap.size, 0, none⟩ : Addr).add i = ⟨w.heap.size, i, none⟩ := by unfold Addr.add; split <;> simp_all
  refine ⟨_, rfl, ?_⟩
  rw [ha, new_cellT, ← Array.getElem?_toList, h, List.getElem?_map, hi]
  rfl
end
end Go.Proofs.Ythdjkagodccdbaa
