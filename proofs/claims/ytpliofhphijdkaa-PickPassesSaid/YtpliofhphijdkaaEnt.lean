/-
  Lists of rows, each so many times, in memory: two cells an entry, the row's slice and the number; what append leaves behind it.
  No condition but that a list is no longer than it can be.
-/
import Derived.Test.YtpliofhphijdkaaBag
import Derived.Test.YtpliofhphijdkaaOwn
import Derived.Test.YtpliofhphijdkaaCq
namespace Go.Proofs.Ytpliofhphijdkaa
open Go.RowKit

/-- An entry as it lies: the row's slice, how often. -/
abbrev RE := Value × Int
def flatE (ls : List RE) : List Value := ls.flatMap fun e => [e.1, .int .i64 e.2]
theorem flatE_len (ls : List RE) : (flatE ls).length = ls.length * 2 := by
  induction ls with
  | nil => rfl
  | cons x xs ih =>
    have h : (flatE (x :: xs)).length = 2 + (flatE xs).length := by simp [flatE]; omega
    rw [h, ih, List.length_cons]
    omega
theorem flatE_append (a b : List RE) : flatE (a ++ b) = flatE a ++ flatE b := by simp [flatE]
theorem flatE_cons (x : RE) (xs : List RE) : flatE (x :: xs) = x.1 :: .int .i64 x.2 :: flatE xs := rfl
theorem flatE_at : ∀ (ls : List RE) (i : Nat) (e : RE), ls[i]? = some e → (flatE ls)[i * 2]? = some e.1 ∧ (flatE ls)[i * 2 + 1]? = some (.int .i64 e.2)
  | [], _, _, h => by simp at h
  | x :: xs, 0, e, h => by
    have h' : x = e := by simpa using h
    subst h'
    exact ⟨rfl, rfl⟩
  | x :: xs, i + 1, e, h => by
    have ih := flatE_at xs i e (by simpa using h)
    rw [flatE_cons, show (i + 1) * 2 = i * 2 + 2 from by omega]
    exact ih
theorem flatE_take : ∀ (ls : List RE) (n : Nat), flatE (ls.take n) = (flatE ls).take (n * 2)
  | [], n => by simp [flatE]
  | x :: xs, 0 => by simp [flatE]
  | x :: xs, n + 1 => by
    rw [List.take_succ_cons, flatE_cons, flatE_cons, flatE_take xs n, show (n + 1) * 2 = n * 2 + 1 + 1 from by omega]
    rfl
theorem flatE_drop : ∀ (ls : List RE) (n : Nat), flatE (ls.drop n) = (flatE ls).drop (n * 2)
  | [], n => by simp [flatE]
  | x :: xs, 0 => by simp [flatE]
  | x :: xs, n + 1 => by
    rw [List.drop_succ_cons, flatE_cons, flatE_drop xs n, show (n + 1) * 2 = n * 2 + 1 + 1 from by omega]
    rfl

/-- The entries as they lie are these rows, each so often. -/
def EnR (w : World) (Q : Nat → Prop) : List RE → List En → Prop
  | [], [] => True
  | a :: ls, b :: l => a.2 = b.2 ∧ IsRow w Q a.1 b.1 ∧ EnR w Q ls l
  | _, _ => False
theorem EnR.len {w : World} {Q : Nat → Prop} : ∀ {ls : List RE} {l : List En}, EnR w Q ls l → ls.length = l.length
  | [], [], _ => rfl
  | _ :: _, _ :: _, h => by rw [List.length_cons, List.length_cons, EnR.len h.2.2]
theorem EnR.keep {w w' : World} {Q : Nat → Prop} (hk : KeepQ Q w w') : ∀ {ls : List RE} {l : List En}, EnR w Q ls l → EnR w' Q ls l
  | [], [], _ => trivial
  | _ :: _, _ :: _, h => ⟨h.1, h.2.1.keep hk, EnR.keep hk h.2.2⟩
theorem EnR.imp {w : World} {Q Q' : Nat → Prop} (hq : ∀ k, k < w.heap.size → Q k → Q' k) : ∀ {ls : List RE} {l : List En}, EnR w Q ls l → EnR w Q' ls l
  | [], [], _ => trivial
  | _ :: _, _ :: _, h => ⟨h.1, h.2.1.imp hq, EnR.imp hq h.2.2⟩
theorem EnR.append {w : World} {Q : Nat → Prop} : ∀ {a c : List RE} {b d : List En}, EnR w Q a b → EnR w Q c d → EnR w Q (a ++ c) (b ++ d)
  | [], _, [], _, _, h => h
  | _ :: _, _, _ :: _, _, h, h' => ⟨h.1, h.2.1, EnR.append h.2.2 h'⟩
theorem EnR.take {w : World} {Q : Nat → Prop} : ∀ {a : List RE} {b : List En} (n : Nat), EnR w Q a b → EnR w Q (a.take n) (b.take n)
  | [], [], n, _ => by simp [EnR]
  | _ :: _, _ :: _, 0, _ => trivial
  | _ :: _, _ :: _, n + 1, h => ⟨h.1, h.2.1, EnR.take n h.2.2⟩
theorem EnR.drop {w : World} {Q : Nat → Prop} : ∀ {a : List RE} {b : List En} (n : Nat), EnR w Q a b → EnR w Q (a.drop n) (b.drop n)
  | [], [], n, _ => by simp [EnR]
  | _ :: _, _ :: _, 0, h => h
  | _ :: _, _ :: _, n + 1, h => EnR.drop n h.2.2
theorem EnR.get {w : World} {Q : Nat → Prop} : ∀ {a : List RE} {b : List En} (i : Nat) (e : En), EnR w Q a b → b[i]? = some e → ∃ v, a[i]? = some (v, e.2) ∧ IsRow w Q v e.1
  | [], [], _, _, _, h => by simp at h
  | x :: _, y :: _, 0, e, h, he => by
    have e1 : y = e := by simpa using he
    subst e1
    exact ⟨x.1, by rw [← h.1]; rfl, h.2.1⟩
  | _ :: _, _ :: _, i + 1, e, h, he => by
    obtain ⟨v, h1, h2⟩ := EnR.get i e h.2.2 (by simpa using he)
    exact ⟨v, by simpa using h1, h2⟩
theorem EnR.one {w : World} {Q : Nat → Prop} : ∀ {a : List RE} {b : List En}, EnR w Q a b → ∀ u ∈ flatE a, u.oneCell' = true
  | [], [], _, u, hu => by simp [flatE] at hu
  | x :: xs, _ :: _, h, u, hu => by
    rw [flatE_cons, List.mem_cons, List.mem_cons] at hu
    rcases hu with rfl | rfl | hu
    · obtain ⟨_, A, c, e, _⟩ := h.2.1
      rw [e]
      rfl
    · rfl
    · exact EnR.one h.2.2 u hu

/-- The list l lies at A, in blocks of Q. -/
def EntsQ (w : World) (Q : Nat → Prop) (A : Option Addr) (l : List En) : Prop := ∃ ls, EnR w Q ls l ∧ CellsQ w Q A (flatE ls)
theorem EntsQ.keep {w w' : World} {Q : Nat → Prop} {A : Option Addr} {l : List En} (h : EntsQ w Q A l) (hk : KeepQ Q w w') : EntsQ w' Q A l := by
  obtain ⟨ls, h1, h2⟩ := h
  exact ⟨ls, h1.keep hk, h2.keep hk⟩
theorem EntsQ.below {w w' : World} {Q : Nat → Prop} {A : Option Addr} {l : List En} (h : EntsQ w Q A l) (hb : Below w.heap.size w w') : EntsQ w' Q A l := h.keep (Below.keepQ hb Q)
theorem EntsQ.imp {w : World} {Q Q' : Nat → Prop} {A : Option Addr} {l : List En} (h : EntsQ w Q A l) (hq : ∀ k, k < w.heap.size → Q k → Q' k) : EntsQ w Q' A l := by
  obtain ⟨ls, h1, h2⟩ := h
  exact ⟨ls, h1.imp hq, h2.imp hq⟩
/-- The cells of an entry. -/
theorem EntsQ.get {w : World} {Q : Nat → Prop} {A : Option Addr} {l : List En} (h : EntsQ w Q A l) (i : Nat) (e : En) (he : l[i]? = some e) :
    ∃ a v, A = some a ∧ IsRow w Q v e.1 ∧ (a.add (i * 2)).block < w.heap.size ∧ w.cell? (a.add (i * 2)) = some v ∧ w.cell? { block := (a.add (i * 2)).block, off := (a.add (i * 2)).off + 1 } = some (.int .i64 e.2) := by
  obtain ⟨ls, h1, h2⟩ := h
  obtain ⟨v, h3, h4⟩ := h1.get i e he
  obtain ⟨f0, f1⟩ := flatE_at ls i _ h3
  obtain ⟨a, ha, _, hc⟩ := h2 _ _ f0
  obtain ⟨a', ha', _, hc'⟩ := h2 _ _ f1
  subst ha
  injection ha' with ha'
  subst ha'
  refine ⟨a, v, rfl, h4, World.block_lt_of_cell? w _ hc, hc, ?_⟩
  rw [add_off _ _ _ (by omega)]
  exact hc'

/-- v is a list of entries of the call's own. -/
def OwnE (w : World) (base : Nat) (v : Value) (ls : List RE) : Prop := w.ownsRow base 46 2 v ls.length (flatE ls)
theorem OwnE.nil (w : World) (base : Nat) : OwnE w base (.slice none 0 0) [] := World.ownsRow_nil w base _ _
theorem OwnE.base_le {w : World} {base : Nat} {v : Value} {ls : List RE} (h : OwnE w base v ls) : ∀ k, v.ownBlock = some k → base ≤ k := fun k hk => (World.ownsRow.lt h k hk).1
theorem OwnE.alloc {w : World} {base : Nat} {v : Value} {ls : List RE} (h : OwnE w base v ls) (o : Obj) : OwnE (w.alloc o) base v ls := World.ownsRow.alloc h o
theorem OwnE.below {w w' : World} {base : Nat} {v : Value} {ls : List RE} (h : OwnE w base v ls) (hb : Below w.heap.size w w') : OwnE w' base v ls := by
  refine ⟨h.1, ?_⟩
  rcases h.2 with hn | ⟨g, cap, cur, hv, hg, hh, r⟩
  · exact Or.inl hn
  · have hlt : g < w.heap.size := (Array.getElem?_eq_some_iff.1 hh).1
    exact Or.inr ⟨g, cap, cur, hv, hg, (hb.block g hlt).trans hh, r⟩
theorem OwnE.slice {w : World} {base : Nat} {v : Value} {ls : List RE} (h : OwnE w base v ls) (Q : Nat → Prop) (hQ : ∀ k, base ≤ k → Q k) : ∃ A c, v = .slice A ls.length c ∧ (A = none → c = 0) ∧ ls.length ≤ c ∧ CellsQ w Q A (flatE ls) := by
  rcases h.2 with ⟨rfl, hn⟩ | ⟨g, cap, cur, rfl, hb, hg, hcap, _⟩
  · refine ⟨none, 0, by rw [hn], fun _ => rfl, by omega, fun j u hj => ?_⟩
    have h1 := (List.getElem?_eq_some_iff.1 hj).1
    rw [flatE_len] at h1
    omega
  · refine ⟨_, _, rfl, fun h => by simp at h, hcap, fun j u hj => ⟨_, rfl, ?_, ?_⟩⟩
    · rw [show ((⟨g, 0, none⟩ : Addr).add j).block = g from by unfold Addr.add; split <;> rfl]
      exact hQ _ hb
    · exact World.ownsRow.cells h (g := g) rfl _ _ hj

theorem info_E : (Try.prog.info? 46).map (fun i => (i.zero, i.size, i.bytes)) = some (some (.agg #[.slice none 0 0, .int .i64 0]), 2, 32) := by kernel_rfl

set_option maxRecDepth 10000 in
theorem append_E (w : World) (ty : TypeId) (base : Nat) (v : Value) (xs ys : List RE) (hown : OwnE w base v xs) (A : Option Addr) (m c : Nat) (hm : m = ys.length) (Q : Nat → Prop) (hr : CellsQ w Q A (flatE ys)) (h1 : ∀ u ∈ flatE ys, u.oneCell' = true)
    (hroom : xs.length + ys.length ≤ 3000000) (hbase : base ≤ w.heap.size) :
    ∃ v' w', (Builtin.append_ #[22, 22] ty #[v, .slice A m c]).run Try.prog w = .ok v' w' ∧ OwnE w' base v' (xs ++ ys) ∧ w.grownBy w' v.ownBlock ∧ (v'.ownBlock = v.ownBlock ∨ v'.ownBlock = some w.heap.size) := by
  obtain ⟨i, hi, hz, hsize, hby⟩ := info_parts info_E
  cases A with
  | none =>
    have hy : ys = [] := by
      cases ys with
      | nil => rfl
      | cons y ys =>
        obtain ⟨a, ha, _⟩ := hr 0 _ rfl
        cases ha
    subst hy
    subst hm
    refine ⟨v, w, ?_, by simpa using hown, World.grownBy.refl _ _, Or.inl rfl⟩
    rcases hown.2 with ⟨rfl, _⟩ | ⟨g, cap, cur, rfl, _, _, hnc, _⟩
    · simp [Builtin.append_, run_underlying Try.underlying22, sizeOf, typeInfo, hi, Builtin.lenOf, Builtin.firstCells]
    · simp [Builtin.append_, run_underlying Try.underlying22, sizeOf, typeInfo, hi, Builtin.lenOf, Builtin.firstCells, hnc, storeCells]
  | some ad =>
    obtain ⟨v', w', h2, h3, h4, _, h5⟩ := run_append_own_at (P := Try.prog) w base 22 ty 46 i _ 2 32 Try.underlying22 hi hz hsize hby rfl (by omega) v xs.length (flatE xs) hown ad m c (flatE ys)
      (by rw [flatE_len, hm]) (fun j u hj => by obtain ⟨a, ha, _, hc⟩ := hr j u hj; injection ha with ha; subst ha; exact hc) h1 (by unfold maxLen; omega) (by omega) hbase
    refine ⟨v', w', h2, ?_, h4, h5⟩
    unfold OwnE
    rw [flatE_append, List.length_append, ← hm]
    exact h3

theorem wp_append_E {ops : Array Oper} {rest : List Oper} {o : Oper} {a : Act} {Q : Exit → Act → World → Prop} (w : World) (hgd : o.guard = none) (s x : Operand)
    (ho : o.op = .call { callee := .builtin .append, args := #[s, x], argTypes := #[22, 22] })
    (base : Nat) (v : Value) (xs ys : List RE) (hs : a.eval s = v) (hown : OwnE w base v xs) (A : Option Addr) (m c : Nat) (hx : a.eval x = .slice A m c) (hm : m = ys.length) (R : Nat → Prop) (hr : CellsQ w R A (flatE ys)) (h1 : ∀ u ∈ flatE ys, u.oneCell' = true)
    (hroom : xs.length + ys.length ≤ 3000000) (hbase : base ≤ w.heap.size)
    (h : ∀ v' w', OwnE w' base v' (xs ++ ys) → Below base w w' → w.grownBy w' v.ownBlock → (v'.ownBlock = v.ownBlock ∨ v'.ownBlock = some w.heap.size) → wpList Try.prog ops Q rest (a.put o.dst v') w') : wpList Try.prog ops Q (o :: rest) a w := by
  refine wpList_plain hgd fun K hK => ?_
  obtain ⟨v', w', hrun, h2, h3, h4⟩ := append_E w o.type base v xs ys hown A m c hm R hr h1 hroom hbase
  unfold Oper.wp execOp
  simp only [ho, resolve, invoke, builtin, Sem.run_bind, Sem.run_pure, Result.andThen_ok, List.map_toArray, List.map_cons, List.map_nil, hs, hx, hrun]
  exact hK _ _ (h v' w' h2 ((Below.refl _ _).grown h3 hbase (fun k hk => hown.base_le k hk)) h3 h4)
theorem op_append_E {o : Oper} {a : Act} {K : Act → World → Prop} {Q : Exit → Act → World → Prop} (w : World) (s x : Operand)
    (ho : o.op = .call { callee := .builtin .append, args := #[s, x], argTypes := #[22, 22] })
    (base : Nat) (v : Value) (xs ys : List RE) (hs : a.eval s = v) (hown : OwnE w base v xs) (A : Option Addr) (m c : Nat) (hx : a.eval x = .slice A m c) (hm : m = ys.length) (R : Nat → Prop) (hr : CellsQ w R A (flatE ys)) (h1 : ∀ u ∈ flatE ys, u.oneCell' = true)
    (hroom : xs.length + ys.length ≤ 3000000) (hbase : base ≤ w.heap.size)
    (h : ∀ v' w', OwnE w' base v' (xs ++ ys) → Below base w w' → w.grownBy w' v.ownBlock → (v'.ownBlock = v.ownBlock ∨ v'.ownBlock = some w.heap.size) → K (a.put o.dst v') w') : Oper.wp Try.prog o a w K Q := by
  obtain ⟨v', w', hrun, h2, h3, h4⟩ := append_E w o.type base v xs ys hown A m c hm R hr h1 hroom hbase
  unfold Oper.wp execOp
  simp only [ho, resolve, invoke, builtin, Sem.run_bind, Sem.run_pure, Result.andThen_ok, List.map_toArray, List.map_cons, List.map_nil, hs, hx, hrun]
  exact h v' w' h2 ((Below.refl _ _).grown h3 hbase (fun k hk => hown.base_le k hk)) h3 h4
theorem op_append_Ed {o : Oper} {a : Act} {K : Act → World → Prop} {Q : Exit → Act → World → Prop} (w : World) (s x : Operand) (d : Nat) (hd : o.dst = some d)
    (ho : o.op = .call { callee := .builtin .append, args := #[s, x], argTypes := #[22, 22] })
    (base : Nat) (v : Value) (xs ys : List RE) (hs : a.eval s = v) (hown : OwnE w base v xs) (A : Option Addr) (m c : Nat) (hx : a.eval x = .slice A m c) (hm : m = ys.length) (R : Nat → Prop) (hr : CellsQ w R A (flatE ys)) (h1 : ∀ u ∈ flatE ys, u.oneCell' = true)
    (hroom : xs.length + ys.length ≤ 3000000) (hbase : base ≤ w.heap.size)
    (h : ∀ v' w', OwnE w' base v' (xs ++ ys) → Below base w w' → w.grownBy w' v.ownBlock → (v'.ownBlock = v.ownBlock ∨ v'.ownBlock = some w.heap.size) → K { tmps := a.tmps.setIfInBounds d v', defers := a.defers } w') : Oper.wp Try.prog o a w K Q := by
  refine op_append_E w s x ho base v xs ys hs hown A m c hx hm R hr h1 hroom hbase ?_
  intro v' w' h2 h3 h4 h5
  rw [hd]
  exact h v' w' h2 h3 h4 h5
theorem OwnE.succ {w : World} {base : Nat} {v : Value} {ls : List RE} {e : RE} (h : OwnE w base v (ls ++ [e])) : ∃ g cap, v = .slice (some ⟨g, 0, none⟩) (ls.length + 1) cap := by
  rcases h.2 with ⟨_, h0⟩ | ⟨g, cap, _, hv, _⟩
  · simp at h0
  · exact ⟨g, cap, by rw [hv, List.length_append]; rfl⟩
theorem wp_make_E {ops : Array Oper} {rest : List Oper} {o : Oper} {a : Act} {Q : Exit → Act → World → Prop} (w : World) (hg : o.guard = none) (l c : Operand) (hop : o.op = Op.makeSlice 22 l c)
    (base : Nat) (n : Nat) (hl : a.eval l = .int .i64 0) (hc : a.eval c = .int .i64 (n : Int)) (hn : n ≤ 3000000) (hbase : base ≤ w.heap.size)
    (h : ∀ v' w', OwnE w' base v' [] → Below base w w' → wpList Try.prog ops Q rest (a.put o.dst v') w') : wpList Try.prog ops Q (o :: rest) a w := by
  obtain ⟨i, hi, hz, hsize, hby⟩ := info_parts info_E
  exact wpList_make_own w hg l c 22 hop base 46 i _ 2 Try.underlying22 hi hz hsize .i64 .i64 _ n hl hc rfl (by rw [hby]; omega) (by unfold maxLen; omega) hbase
    fun w' h1 h2 => h _ w' h1 ((Below.refl _ _).grown h2 hbase (fun k hk => by cases hk))
/-- A block of one entry's two cells is a list of that entry. -/
theorem ent_lit1 (w : World) (v : Value) (m : Int) (Q : Nat → Prop) (hQ : ∀ k, w.heap.size ≤ k → Q k) : CellsQ (w.alloc (.cells #[v, .int .i64 m] 46)) Q (some ⟨w.heap.size, 0, none⟩) (flatE [(v, m)]) := by
  intro j u hj
  have hj' : j < 2 := (List.getElem?_eq_some_iff.1 hj).1
  refine ⟨_, rfl, ?_, ?_⟩
  · rw [show ((⟨w.heap.size, 0, none⟩ : Addr).add j).block = w.heap.size from by unfold Addr.add; split <;> rfl]
    exact hQ _ (Nat.le_refl _)
  · rw [show ((⟨w.heap.size, 0, none⟩ : Addr).add j) = ⟨w.heap.size, j, none⟩ from by unfold Addr.add; split <;> simp_all, alloc_new_cells]
    simpa [flatE] using hj
end Go.Proofs.Ytpliofhphijdkaa
