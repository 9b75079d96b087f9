/-
  Columns and kinds that a call makes itself: what append leaves behind it.
  No condition but that a list is no longer than it can be.
-/
import Derived.Test.YtmiagdmfgebfdaaScp
namespace Go.Proofs.Ytmiagdmfgebfdaa
open Go.RowKit

/-- v is a list of entries of the call's own. -/
def OwnC (w : World) (base : Nat) (v : Value) (ls : List Co) : Prop := w.ownsRow base 105 3 v ls.length (flatC ls)
theorem OwnC.nil (w : World) (base : Nat) : OwnC w base (.slice none 0 0) [] := World.ownsRow_nil w base _ _
theorem OwnC.base_le {w : World} {base : Nat} {v : Value} {ls : List Co} (h : OwnC w base v ls) : ∀ k, v.ownBlock = some k → base ≤ k := fun k hk => (World.ownsRow.lt h k hk).1
theorem OwnC.alloc {w : World} {base : Nat} {v : Value} {ls : List Co} (h : OwnC w base v ls) (o : Obj) : OwnC (w.alloc o) base v ls := World.ownsRow.alloc h o
theorem OwnC.below {w w' : World} {base : Nat} {v : Value} {ls : List Co} (h : OwnC w base v ls) (hb : Below w.heap.size w w') : OwnC w' base v ls := by
  refine ⟨h.1, ?_⟩
  rcases h.2 with hn | ⟨g, cap, cur, hv, hg, hh, r⟩
  · exact Or.inl hn
  · have hlt : g < w.heap.size := (Array.getElem?_eq_some_iff.1 hh).1
    exact Or.inr ⟨g, cap, cur, hv, hg, (hb.block g hlt).trans hh, r⟩
theorem OwnC.slice {w : World} {base : Nat} {v : Value} {ls : List Co} (h : OwnC w base v ls) (Q : Nat → Prop) (hQ : ∀ k, base ≤ k → Q k) : ∃ A c, v = .slice A ls.length c ∧ (A = none → c = 0) ∧ ls.length ≤ c ∧ CellsQ w Q A (flatC ls) := by
  rcases h.2 with ⟨rfl, hn⟩ | ⟨g, cap, cur, rfl, hb, hg, hcap, _⟩
  · refine ⟨none, 0, by rw [hn], fun _ => rfl, by omega, fun j u hj => ?_⟩
    have h1 := (List.getElem?_eq_some_iff.1 hj).1
    rw [flatC_len] at h1
    omega
  · refine ⟨_, _, rfl, fun h => by simp at h, hcap, fun j u hj => ⟨_, rfl, ?_, ?_⟩⟩
    · rw [show ((⟨g, 0, none⟩ : Addr).add j).block = g from by unfold Addr.add; split <;> rfl]
      exact hQ _ hb
    · exact World.ownsRow.cells h (g := g) rfl _ _ hj

theorem info_C : (Try.prog.info? 105).map (fun i => (i.zero, i.size, i.bytes)) = some (some (.agg #[.string ⟨#[]⟩, .int .i64 0, .bool false]), 3, 32) := by kernel_rfl

set_option maxRecDepth 10000 in
theorem append_C (w : World) (ty : TypeId) (base : Nat) (v : Value) (xs ys : List Co) (hown : OwnC w base v xs) (A : Option Addr) (m c : Nat) (hm : m = ys.length) (Q : Nat → Prop) (hr : CellsQ w Q A (flatC ys)) (h1 : ∀ u ∈ flatC ys, u.oneCell' = true)
    (hroom : xs.length + ys.length ≤ 3000000) (hbase : base ≤ w.heap.size) :
    ∃ v' w', (Builtin.append_ #[87, 87] ty #[v, .slice A m c]).run Try.prog w = .ok v' w' ∧ OwnC w' base v' (xs ++ ys) ∧ w.grownBy w' v.ownBlock ∧ (v'.ownBlock = v.ownBlock ∨ v'.ownBlock = some w.heap.size) := by
  obtain ⟨i, hi, hz, hsize, hby⟩ := info_parts info_C
  cases A with
  | none =>
    have hy : ys = [] := by
      cases ys with
      | nil => rfl
      | cons y ys =>
        obtain ⟨a, ha, _⟩ := hr 0 _ rfl
        cases ha
    subst hy
    subst hm
    refine ⟨v, w, ?_, by simpa using hown, World.grownBy.refl _ _, Or.inl rfl⟩
    rcases hown.2 with ⟨rfl, _⟩ | ⟨g, cap, cur, rfl, _, _, hnc, _⟩
    · simp [Builtin.append_, run_underlying Try.underlying87, sizeOf, typeInfo, hi, Builtin.lenOf, Builtin.firstCells]
    · simp [Builtin.append_, run_underlying Try.underlying87, sizeOf, typeInfo, hi, Builtin.lenOf, Builtin.firstCells, hnc, storeCells]
  | some ad =>
    obtain ⟨v', w', h2, h3, h4, _, h5⟩ := run_append_own_at (P := Try.prog) w base 87 ty 105 i _ 3 32 Try.underlying87 hi hz hsize hby rfl (by omega) v xs.length (flatC xs) hown ad m c (flatC ys)
      (by rw [flatC_len, hm]) (fun j u hj => by obtain ⟨a, ha, _, hc⟩ := hr j u hj; injection ha with ha; subst ha; exact hc) h1 (by unfold maxLen; omega) (by omega) hbase
    refine ⟨v', w', h2, ?_, h4, h5⟩
    unfold OwnC
    rw [flatC_append, List.length_append, ← hm]
    exact h3

theorem wp_append_C {ops : Array Oper} {rest : List Oper} {o : Oper} {a : Act} {Q : Exit → Act → World → Prop} (w : World) (hgd : o.guard = none) (s x : Operand)
    (ho : o.op = .call { callee := .builtin .append, args := #[s, x], argTypes := #[87, 87] })
    (base : Nat) (v : Value) (xs ys : List Co) (hs : a.eval s = v) (hown : OwnC w base v xs) (A : Option Addr) (m c : Nat) (hx : a.eval x = .slice A m c) (hm : m = ys.length) (R : Nat → Prop) (hr : CellsQ w R A (flatC ys)) (h1 : ∀ u ∈ flatC ys, u.oneCell' = true)
    (hroom : xs.length + ys.length ≤ 3000000) (hbase : base ≤ w.heap.size)
    (h : ∀ v' w', OwnC w' base v' (xs ++ ys) → Below base w w' → w.grownBy w' v.ownBlock → (v'.ownBlock = v.ownBlock ∨ v'.ownBlock = some w.heap.size) → wpList Try.prog ops Q rest (a.put o.dst v') w') : wpList Try.prog ops Q (o :: rest) a w := by
  refine wpList_plain hgd fun K hK => ?_
  obtain ⟨v', w', hrun, h2, h3, h4⟩ := append_C w o.type base v xs ys hown A m c hm R hr h1 hroom hbase
  unfold Oper.wp execOp
  simp only [ho, resolve, invoke, builtin, Sem.run_bind, Sem.run_pure, Result.andThen_ok, List.map_toArray, List.map_cons, List.map_nil, hs, hx, hrun]
  exact hK _ _ (h v' w' h2 ((Below.refl _ _).grown h3 hbase (fun k hk => hown.base_le k hk)) h3 h4)
theorem op_append_C {o : Oper} {a : Act} {K : Act → World → Prop} {Q : Exit → Act → World → Prop} (w : World) (s x : Operand)
    (ho : o.op = .call { callee := .builtin .append, args := #[s, x], argTypes := #[87, 87] })
    (base : Nat) (v : Value) (xs ys : List Co) (hs : a.eval s = v) (hown : OwnC w base v xs) (A : Option Addr) (m c : Nat) (hx : a.eval x = .slice A m c) (hm : m = ys.length) (R : Nat → Prop) (hr : CellsQ w R A (flatC ys)) (h1 : ∀ u ∈ flatC ys, u.oneCell' = true)
    (hroom : xs.length + ys.length ≤ 3000000) (hbase : base ≤ w.heap.size)
    (h : ∀ v' w', OwnC w' base v' (xs ++ ys) → Below base w w' → w.grownBy w' v.ownBlock → (v'.ownBlock = v.ownBlock ∨ v'.ownBlock = some w.heap.size) → K (a.put o.dst v') w') : Oper.wp Try.prog o a w K Q := by
  obtain ⟨v', w', hrun, h2, h3, h4⟩ := append_C w o.type base v xs ys hown A m c hm R hr h1 hroom hbase
  unfold Oper.wp execOp
  simp only [ho, resolve, invoke, builtin, Sem.run_bind, Sem.run_pure, Result.andThen_ok, List.map_toArray, List.map_cons, List.map_nil, hs, hx, hrun]
  exact h v' w' h2 ((Below.refl _ _).grown h3 hbase (fun k hk => hown.base_le k hk)) h3 h4
theorem op_append_Cd {o : Oper} {a : Act} {K : Act → World → Prop} {Q : Exit → Act → World → Prop} (w : World) (s x : Operand) (d : Nat) (hd : o.dst = some d)
    (ho : o.op = .call { callee := .builtin .append, args := #[s, x], argTypes := #[87, 87] })
    (base : Nat) (v : Value) (xs ys : List Co) (hs : a.eval s = v) (hown : OwnC w base v xs) (A : Option Addr) (m c : Nat) (hx : a.eval x = .slice A m c) (hm : m = ys.length) (R : Nat → Prop) (hr : CellsQ w R A (flatC ys)) (h1 : ∀ u ∈ flatC ys, u.oneCell' = true)
    (hroom : xs.length + ys.length ≤ 3000000) (hbase : base ≤ w.heap.size)
    (h : ∀ v' w', OwnC w' base v' (xs ++ ys) → Below base w w' → w.grownBy w' v.ownBlock → (v'.ownBlock = v.ownBlock ∨ v'.ownBlock = some w.heap.size) → K { tmps := a.tmps.setIfInBounds d v', defers := a.defers } w') : Oper.wp Try.prog o a w K Q := by
  refine op_append_C w s x ho base v xs ys hs hown A m c hx hm R hr h1 hroom hbase ?_
  intro v' w' h2 h3 h4 h5
  rw [hd]
  exact h v' w' h2 h3 h4 h5
theorem OwnC.succ {w : World} {base : Nat} {v : Value} {ls : List Co} {e : Co} (h : OwnC w base v (ls ++ [e])) : ∃ g cap, v = .slice (some ⟨g, 0, none⟩) (ls.length + 1) cap := by
  rcases h.2 with ⟨_, h0⟩ | ⟨g, cap, _, hv, _⟩
  · simp at h0
  · exact ⟨g, cap, by rw [hv, List.length_append]; rfl⟩
theorem wp_make_C {ops : Array Oper} {rest : List Oper} {o : Oper} {a : Act} {Q : Exit → Act → World → Prop} (w : World) (hg : o.guard = none) (l c : Operand) (hop : o.op = Op.makeSlice 87 l c)
    (base : Nat) (n : Nat) (hl : a.eval l = .int .i64 0) (hc : a.eval c = .int .i64 (n : Int)) (hn : n ≤ 3000000) (hbase : base ≤ w.heap.size)
    (h : ∀ v' w', OwnC w' base v' [] → Below base w w' → wpList Try.prog ops Q rest (a.put o.dst v') w') : wpList Try.prog ops Q (o :: rest) a w := by
  obtain ⟨i, hi, hz, hsize, hby⟩ := info_parts info_C
  exact wpList_make_own w hg l c 87 hop base 105 i _ 3 Try.underlying87 hi hz hsize .i64 .i64 _ n hl hc rfl (by rw [hby]; omega) (by unfold maxLen; omega) hbase
    fun w' h1 h2 => h _ w' h1 ((Below.refl _ _).grown h2 hbase (fun k hk => by cases hk))

/-- v is a list of entries of the call's own. -/
def OwnS (w : World) (base : Nat) (v : Value) (ls : List RS) : Prop := w.ownsRow base 89 2 v ls.length (flatS ls)
theorem OwnS.nil (w : World) (base : Nat) : OwnS w base (.slice none 0 0) [] := World.ownsRow_nil w base _ _
theorem OwnS.base_le {w : World} {base : Nat} {v : Value} {ls : List RS} (h : OwnS w base v ls) : ∀ k, v.ownBlock = some k → base ≤ k := fun k hk => (World.ownsRow.lt h k hk).1
theorem OwnS.alloc {w : World} {base : Nat} {v : Value} {ls : List RS} (h : OwnS w base v ls) (o : Obj) : OwnS (w.alloc o) base v ls := World.ownsRow.alloc h o
theorem OwnS.below {w w' : World} {base : Nat} {v : Value} {ls : List RS} (h : OwnS w base v ls) (hb : Below w.heap.size w w') : OwnS w' base v ls := by
  refine ⟨h.1, ?_⟩
  rcases h.2 with hn | ⟨g, cap, cur, hv, hg, hh, r⟩
  · exact Or.inl hn
  · have hlt : g < w.heap.size := (Array.getElem?_eq_some_iff.1 hh).1
    exact Or.inr ⟨g, cap, cur, hv, hg, (hb.block g hlt).trans hh, r⟩
theorem OwnS.slice {w : World} {base : Nat} {v : Value} {ls : List RS} (h : OwnS w base v ls) (Q : Nat → Prop) (hQ : ∀ k, base ≤ k → Q k) : ∃ A c, v = .slice A ls.length c ∧ (A = none → c = 0) ∧ ls.length ≤ c ∧ CellsQ w Q A (flatS ls) := by
  rcases h.2 with ⟨rfl, hn⟩ | ⟨g, cap, cur, rfl, hb, hg, hcap, _⟩
  · refine ⟨none, 0, by rw [hn], fun _ => rfl, by omega, fun j u hj => ?_⟩
    have h1 := (List.getElem?_eq_some_iff.1 hj).1
    rw [flatS_len] at h1
    omega
  · refine ⟨_, _, rfl, fun h => by simp at h, hcap, fun j u hj => ⟨_, rfl, ?_, ?_⟩⟩
    · rw [show ((⟨g, 0, none⟩ : Addr).add j).block = g from by unfold Addr.add; split <;> rfl]
      exact hQ _ hb
    · exact World.ownsRow.cells h (g := g) rfl _ _ hj

theorem info_S : (Try.prog.info? 89).map (fun i => (i.zero, i.size, i.bytes)) = some (some (.agg #[.string ⟨#[]⟩, .slice none 0 0]), 2, 40) := by kernel_rfl

set_option maxRecDepth 10000 in
theorem append_S (w : World) (ty : TypeId) (base : Nat) (v : Value) (xs ys : List RS) (hown : OwnS w base v xs) (A : Option Addr) (m c : Nat) (hm : m = ys.length) (Q : Nat → Prop) (hr : CellsQ w Q A (flatS ys)) (h1 : ∀ u ∈ flatS ys, u.oneCell' = true)
    (hroom : xs.length + ys.length ≤ 3000000) (hbase : base ≤ w.heap.size) :
    ∃ v' w', (Builtin.append_ #[67, 67] ty #[v, .slice A m c]).run Try.prog w = .ok v' w' ∧ OwnS w' base v' (xs ++ ys) ∧ w.grownBy w' v.ownBlock ∧ (v'.ownBlock = v.ownBlock ∨ v'.ownBlock = some w.heap.size) := by
  obtain ⟨i, hi, hz, hsize, hby⟩ := info_parts info_S
  cases A with
  | none =>
    have hy : ys = [] := by
      cases ys with
      | nil => rfl
      | cons y ys =>
        obtain ⟨a, ha, _⟩ := hr 0 _ rfl
        cases ha
    subst hy
    subst hm
    refine ⟨v, w, ?_, by simpa using hown, World.grownBy.refl _ _, Or.inl rfl⟩
    rcases hown.2 with ⟨rfl, _⟩ | ⟨g, cap, cur, rfl, _, _, hnc, _⟩
    · simp [Builtin.append_, run_underlying Try.underlying67, sizeOf, typeInfo, hi, Builtin.lenOf, Builtin.firstCells]
    · simp [Builtin.append_, run_underlying Try.underlying67, sizeOf, typeInfo, hi, Builtin.lenOf, Builtin.firstCells, hnc, storeCells]
  | some ad =>
    obtain ⟨v', w', h2, h3, h4, _, h5⟩ := run_append_own_at (P := Try.prog) w base 67 ty 89 i _ 2 40 Try.underlying67 hi hz hsize hby rfl (by omega) v xs.length (flatS xs) hown ad m c (flatS ys)
      (by rw [flatS_len, hm]) (fun j u hj => by obtain ⟨a, ha, _, hc⟩ := hr j u hj; injection ha with ha; subst ha; exact hc) h1 (by unfold maxLen; omega) (by omega) hbase
    refine ⟨v', w', h2, ?_, h4, h5⟩
    unfold OwnS
    rw [flatS_append, List.length_append, ← hm]
    exact h3

theorem wp_append_S {ops : Array Oper} {rest : List Oper} {o : Oper} {a : Act} {Q : Exit → Act → World → Prop} (w : World) (hgd : o.guard = none) (s x : Operand)
    (ho : o.op = .call { callee := .builtin .append, args := #[s, x], argTypes := #[67, 67] })
    (base : Nat) (v : Value) (xs ys : List RS) (hs : a.eval s = v) (hown : OwnS w base v xs) (A : Option Addr) (m c : Nat) (hx : a.eval x = .slice A m c) (hm : m = ys.length) (R : Nat → Prop) (hr : CellsQ w R A (flatS ys)) (h1 : ∀ u ∈ flatS ys, u.oneCell' = true)
    (hroom : xs.length + ys.length ≤ 3000000) (hbase : base ≤ w.heap.size)
    (h : ∀ v' w', OwnS w' base v' (xs ++ ys) → Below base w w' → w.grownBy w' v.ownBlock → (v'.ownBlock = v.ownBlock ∨ v'.ownBlock = some w.heap.size) → wpList Try.prog ops Q rest (a.put o.dst v') w') : wpList Try.prog ops Q (o :: rest) a w := by
  refine wpList_plain hgd fun K hK => ?_
  obtain ⟨v', w', hrun, h2, h3, h4⟩ := append_S w o.type base v xs ys hown A m c hm R hr h1 hroom hbase
  unfold Oper.wp execOp
  simp only [ho, resolve, invoke, builtin, Sem.run_bind, Sem.run_pure, Result.andThen_ok, List.map_toArray, List.map_cons, List.map_nil, hs, hx, hrun]
  exact hK _ _ (h v' w' h2 ((Below.refl _ _).grown h3 hbase (fun k hk => hown.base_le k hk)) h3 h4)
theorem op_append_S {o : Oper} {a : Act} {K : Act → World → Prop} {Q : Exit → Act → World → Prop} (w : World) (s x : Operand)
    (ho : o.op = .call { callee := .builtin .append, args := #[s, x], argTypes := #[67, 67] })
    (base : Nat) (v : Value) (xs ys : List RS) (hs : a.eval s = v) (hown : OwnS w base v xs) (A : Option Addr) (m c : Nat) (hx : a.eval x = .slice A m c) (hm : m = ys.length) (R : Nat → Prop) (hr : CellsQ w R A (flatS ys)) (h1 : ∀ u ∈ flatS ys, u.oneCell' = true)
    (hroom : xs.length + ys.length ≤ 3000000) (hbase : base ≤ w.heap.size)
    (h : ∀ v' w', OwnS w' base v' (xs ++ ys) → Below base w w' → w.grownBy w' v.ownBlock → (v'.ownBlock = v.ownBlock ∨ v'.ownBlock = some w.heap.size) → K (a.put o.dst v') w') : Oper.wp Try.prog o a w K Q := by
  obtain ⟨v', w', hrun, h2, h3, h4⟩ := append_S w o.type base v xs ys hown A m c hm R hr h1 hroom hbase
  unfold Oper.wp execOp
  simp only [ho, resolve, invoke, builtin, Sem.run_bind, Sem.run_pure, Result.andThen_ok, List.map_toArray, List.map_cons, List.map_nil, hs, hx, hrun]
  exact h v' w' h2 ((Below.refl _ _).grown h3 hbase (fun k hk => hown.base_le k hk)) h3 h4
theorem op_append_Sd {o : Oper} {a : Act} {K : Act → World → Prop} {Q : Exit → Act → World → Prop} (w : World) (s x : Operand) (d : Nat) (hd : o.dst = some d)
    (ho : o.op = .call { callee := .builtin .append, args := #[s, x], argTypes := #[67, 67] })
    (base : Nat) (v : Value) (xs ys : List RS) (hs : a.eval s = v) (hown : OwnS w base v xs) (A : Option Addr) (m c : Nat) (hx : a.eval x = .slice A m c) (hm : m = ys.length) (R : Nat → Prop) (hr : CellsQ w R A (flatS ys)) (h1 : ∀ u ∈ flatS ys, u.oneCell' = true)
    (hroom : xs.length + ys.length ≤ 3000000) (hbase : base ≤ w.heap.size)
    (h : ∀ v' w', OwnS w' base v' (xs ++ ys) → Below base w w' → w.grownBy w' v.ownBlock → (v'.ownBlock = v.ownBlock ∨ v'.ownBlock = some w.heap.size) → K { tmps := a.tmps.setIfInBounds d v', defers := a.defers } w') : Oper.wp Try.prog o a w K Q := by
  refine op_append_S w s x ho base v xs ys hs hown A m c hx hm R hr h1 hroom hbase ?_
  intro v' w' h2 h3 h4 h5
  rw [hd]
  exact h v' w' h2 h3 h4 h5
theorem OwnS.succ {w : World} {base : Nat} {v : Value} {ls : List RS} {e : RS} (h : OwnS w base v (ls ++ [e])) : ∃ g cap, v = .slice (some ⟨g, 0, none⟩) (ls.length + 1) cap := by
  rcases h.2 with ⟨_, h0⟩ | ⟨g, cap, _, hv, _⟩
  · simp at h0
  · exact ⟨g, cap, by rw [hv, List.length_append]; rfl⟩
theorem wp_make_S {ops : Array Oper} {rest : List Oper} {o : Oper} {a : Act} {Q : Exit → Act → World → Prop} (w : World) (hg : o.guard = none) (l c : Operand) (hop : o.op = Op.makeSlice 67 l c)
    (base : Nat) (n : Nat) (hl : a.eval l = .int .i64 0) (hc : a.eval c = .int .i64 (n : Int)) (hn : n ≤ 3000000) (hbase : base ≤ w.heap.size)
    (h : ∀ v' w', OwnS w' base v' [] → Below base w w' → wpList Try.prog ops Q rest (a.put o.dst v') w') : wpList Try.prog ops Q (o :: rest) a w := by
  obtain ⟨i, hi, hz, hsize, hby⟩ := info_parts info_S
  exact wpList_make_own w hg l c 67 hop base 89 i _ 2 Try.underlying67 hi hz hsize .i64 .i64 _ n hl hc rfl (by rw [hby]; omega) (by unfold maxLen; omega) hbase
    fun w' h1 h2 => h _ w' h1 ((Below.refl _ _).grown h2 hbase (fun k hk => by cases hk))
end Go.Proofs.Ytmiagdmfgebfdaa
