/-
  Lists of rows in memory: a slice a row; the document's Sort of rows: in order, each once.
  No condition but that lists and rows are no longer than they can be.
  The document's Sort of rows answers them in order, each once; nothing that was there is changed.
  No condition but that lists and rows are no longer than they can be.
  Pure: rows in order, of equal ones the first alone, are one list; rows that are in order already stay as they are.
-/
import Derived.Deep.RegionHeld3
import Derived.BigQuiet
import Derived.Maps.AppendAt
import Derived.Deep.Cut
import Derived.Test.YtdhpoaecedpbdaaGreatZ2
import Derived.Test.YtdhpoaecedpbdaaGreatZ3
import Derived.Test.YtdhpoaecedpbdaaGreatZ6
import Derived.Test.YtdhpoaecedpbdaaGreatZ7
namespace Go.Proofs.YtdhpoaecedpbdaaGreat
section
open Go.RowKit

/-! ### rows in order, each once -/
/-- A row set in its place, if none is there that is the same. -/
def insL (x : List V) : List (List V) → List (List V)
  | [] => [x]
  | y :: r => if cmpR y x < 0 then y :: insL x r else if cmpR y x = 0 then y :: r else x :: y :: r
def sortL (l : List (List V)) : List (List V) := l.foldl (fun out x => insL x out) []
theorem sortL_snoc (l : List (List V)) (x : List V) : sortL (l ++ [x]) = insL x (sortL l) := by unfold sortL; rw [List.foldl_append]; rfl
theorem insL_at (x : List V) : ∀ (out : List (List V)) (j : Nat), j ≤ out.length → (∀ i y, i < j → out[i]? = some y → cmpR y x < 0) → (∀ y, out[j]? = some y → ¬ cmpR y x < 0) →
    insL x out = if ∃ y, out[j]? = some y ∧ cmpR y x = 0 then out else out.take j ++ x :: out.drop j
  | [], j, hj, _, _ => by
    have : j = 0 := by simpa using hj
    subst this
    simp [insL]
  | z :: r, 0, _, _, h2 => by
    have hz := h2 z rfl
    unfold insL
    rw [if_neg hz]
    by_cases h : cmpR z x = 0
    · rw [if_pos h, if_pos ⟨z, rfl, h⟩]
    · rw [if_neg h, if_neg (by rintro ⟨y, hy, hc⟩; have : z = y := by simpa using hy
                               subst this; exact h hc)]
      rfl
  | z :: r, j + 1, hj, h1, h2 => by
    have hz := h1 0 z (by omega) rfl
    have ih := insL_at x r j (by simpa using hj) (fun i y hi hy => h1 (i + 1) y (by omega) (by simpa using hy)) (fun y hy => h2 y (by simpa using hy))
    unfold insL
    rw [if_pos hz, ih]
    by_cases h : ∃ y, r[j]? = some y ∧ cmpR y x = 0
    · rw [if_pos h, if_pos (by simpa using h)]
    · rw [if_neg h, if_neg (by simpa using h)]
      rfl
theorem insL_mem (x y : List V) : ∀ out : List (List V), y ∈ insL x out → y = x ∨ y ∈ out
  | [], h => by simp [insL] at h; exact .inl h
  | z :: r, h => by
    unfold insL at h
    split at h
    · rcases List.mem_cons.1 h with h | h
      · exact .inr (by rw [h]; simp)
      · rcases insL_mem x y r h with h | h
        · exact .inl h
        · exact .inr (by simp [h])
    · split at h
      · exact .inr h
      · rcases List.mem_cons.1 h with h | h
        · exact .inl h
        · exact .inr h
theorem insL_keep (x y : List V) : ∀ out : List (List V), y ∈ out → y ∈ insL x out
  | z :: r, h => by
    unfold insL
    split
    · rcases List.mem_cons.1 h with h | h
      · rw [h]; simp
      · exact List.mem_cons_of_mem _ (insL_keep x y r h)
    · split
      · exact h
      · exact List.mem_cons_of_mem _ h
theorem insL_has (x : List V) : ∀ out : List (List V), ∃ y ∈ insL x out, cmpR y x = 0
  | [] => ⟨x, by simp [insL], by have := cmpR_flip (a := x) (b := x); omega⟩
  | z :: r => by
    unfold insL
    split
    · obtain ⟨y, hy, hc⟩ := insL_has x r
      exact ⟨y, List.mem_cons_of_mem _ hy, hc⟩
    · split
      · rename_i h
        exact ⟨z, by simp, h⟩
      · exact ⟨x, by simp, by have := cmpR_flip (a := x) (b := x); omega⟩
theorem insL_sorted (x : List V) : ∀ out : List (List V), out.Pairwise (fun a b => cmpR a b < 0) → (insL x out).Pairwise (fun a b => cmpR a b < 0)
  | [], _ => by simp [insL]
  | z :: r, h => by
    obtain ⟨h1, h2⟩ := List.pairwise_cons.1 h
    unfold insL
    split
    · rename_i hz
      refine List.pairwise_cons.2 ⟨fun y hy => ?_, insL_sorted x r h2⟩
      rcases insL_mem x y r hy with rfl | hy
      · exact hz
      · exact h1 y hy
    · split
      · exact h
      · rename_i hz hne
        have hxz : cmpR x z < 0 := by
          have := cmpR_flip (a := x) (b := z)
          omega
        refine List.pairwise_cons.2 ⟨fun y hy => ?_, h⟩
        rcases List.mem_cons.1 hy with rfl | hy
        · exact hxz
        · exact cmpR_lt3 hxz (h1 y hy)
/-- The list out is in order, its rows are of l, each row of l is one of it. -/
def Sorts (l out : List (List V)) : Prop := out.Pairwise (fun a b => cmpR a b < 0) ∧ (∀ y ∈ out, y ∈ l) ∧ (∀ x ∈ l, ∃ y ∈ out, cmpR y x = 0) ∧ out.length ≤ l.length
theorem insL_len (x : List V) : ∀ out : List (List V), (insL x out).length ≤ out.length + 1
  | [] => by simp [insL]
  | z :: r => by
    unfold insL
    split
    · have := insL_len x r
      simp only [List.length_cons]
      omega
    · split <;> simp
theorem Sorts.step {l out : List (List V)} (h : Sorts l out) (x : List V) : Sorts (l ++ [x]) (insL x out) := by
  obtain ⟨h1, h2, h3, h4⟩ := h
  refine ⟨insL_sorted x _ h1, fun y hy => ?_, fun z hz => ?_, ?_⟩
  · rcases insL_mem x y _ hy with rfl | hy
    · simp
    · simp [h2 y hy]
  · rcases List.mem_append.1 hz with hz | hz
    · obtain ⟨y, hy, hc⟩ := h3 z hz
      exact ⟨y, insL_keep x y _ hy, hc⟩
    · rw [List.mem_singleton] at hz
      rw [hz]
      exact insL_has x _
  · have := insL_len x out
    simp
    omega
theorem sorts_fold : ∀ (l pre out : List (List V)), Sorts pre out → Sorts (pre ++ l) (l.foldl (fun out x => insL x out) out)
  | [], pre, out, h => by simpa using h
  | x :: l, pre, out, h => by
    have ih := sorts_fold l (pre ++ [x]) (insL x out) (h.step x)
    simpa using ih
theorem sortL_facts (l : List (List V)) : Sorts l (sortL l) := by
  have h := sorts_fold l [] [] ⟨List.Pairwise.nil, fun y h => (by cases h), fun x h => (by cases h), Nat.le_refl _⟩
  rw [List.nil_append] at h
  exact h

/-! ### in memory -/
def IsRw (w : World) (Q : Nat → Prop) (v : Value) (xs : List V) : Prop := xs.length ≤ 1100000 ∧ ∃ A c, v = .slice A xs.length c ∧ RowQ w Q A xs
theorem IsRw.keep {w w' : World} {Q : Nat → Prop} {v : Value} {xs : List V} (h : IsRw w Q v xs) (hk : KeepQ Q w w') : IsRw w' Q v xs := by
  obtain ⟨h0, A, c, e, hr⟩ := h
  exact ⟨h0, A, c, e, hr.keep hk⟩
theorem IsRw.imp {w : World} {Q Q' : Nat → Prop} {v : Value} {xs : List V} (h : IsRw w Q v xs) (hq : ∀ k, k < w.heap.size → Q k → Q' k) : IsRw w Q' v xs := by
  obtain ⟨h0, A, c, e, hr⟩ := h
  exact ⟨h0, A, c, e, hr.imp hq⟩
theorem IsRw.below {w w' : World} {Q : Nat → Prop} {v : Value} {xs : List V} (h : IsRw w Q v xs) (hb : Below w.heap.size w w') : IsRw w' Q v xs := h.keep (Below.keepQ hb Q)
/-- The slices as they lie are these rows. -/
def RwsQ (w : World) (Q : Nat → Prop) : List Value → List (List V) → Prop
  | [], [] => True
  | v :: vs, x :: xs => IsRw w Q v x ∧ RwsQ w Q vs xs
  | _, _ => False
theorem RwsQ.len {w : World} {Q : Nat → Prop} : ∀ {vs : List Value} {xs : List (List V)}, RwsQ w Q vs xs → vs.length = xs.length
  | [], [], _ => rfl
  | _ :: _, _ :: _, h => by rw [List.length_cons, List.length_cons, RwsQ.len h.2]
theorem RwsQ.keep {w w' : World} {Q : Nat → Prop} (hk : KeepQ Q w w') : ∀ {vs : List Value} {xs : List (List V)}, RwsQ w Q vs xs → RwsQ w' Q vs xs
  | [], [], _ => trivial
  | _ :: _, _ :: _, h => ⟨h.1.keep hk, RwsQ.keep hk h.2⟩
theorem RwsQ.imp {w : World} {Q Q' : Nat → Prop} (hq : ∀ k, k < w.heap.size → Q k → Q' k) : ∀ {vs : List Value} {xs : List (List V)}, RwsQ w Q vs xs → RwsQ w Q' vs xs
  | [], [], _ => trivial
  | _ :: _, _ :: _, h => ⟨h.1.imp hq, RwsQ.imp hq h.2⟩
theorem RwsQ.append {w : World} {Q : Nat → Prop} : ∀ {a c : List Value} {b d : List (List V)}, RwsQ w Q a b → RwsQ w Q c d → RwsQ w Q (a ++ c) (b ++ d)
  | [], _, [], _, _, h => h
  | _ :: _, _, _ :: _, _, h, h' => ⟨h.1, RwsQ.append h.2 h'⟩
theorem RwsQ.take {w : World} {Q : Nat → Prop} : ∀ {a : List Value} {b : List (List V)} (n : Nat), RwsQ w Q a b → RwsQ w Q (a.take n) (b.take n)
  | [], [], n, _ => by simp [RwsQ]
  | _ :: _, _ :: _, 0, _ => trivial
  | _ :: _, _ :: _, n + 1, h => ⟨h.1, RwsQ.take n h.2⟩
theorem RwsQ.drop {w : World} {Q : Nat → Prop} : ∀ {a : List Value} {b : List (List V)} (n : Nat), RwsQ w Q a b → RwsQ w Q (a.drop n) (b.drop n)
  | [], [], n, _ => by simp [RwsQ]
  | _ :: _, _ :: _, 0, h => h
  | _ :: _, _ :: _, n + 1, h => RwsQ.drop n h.2
theorem RwsQ.get {w : World} {Q : Nat → Prop} : ∀ {a : List Value} {b : List (List V)} (i : Nat) (x : List V), RwsQ w Q a b → b[i]? = some x → ∃ v, a[i]? = some v ∧ IsRw w Q v x
  | [], [], _, _, _, h => by simp at h
  | v :: _, y :: _, 0, x, h, he => by
    have e1 : y = x := by simpa using he
    subst e1
    exact ⟨v, rfl, h.1⟩
  | _ :: _, _ :: _, i + 1, x, h, he => by
    obtain ⟨v, h1, h2⟩ := RwsQ.get i x h.2 (by simpa using he)
    exact ⟨v, by simpa using h1, h2⟩
theorem RwsQ.one {w : World} {Q : Nat → Prop} : ∀ {a : List Value} {b : List (List V)}, RwsQ w Q a b → ∀ u ∈ a, u.oneCell' = true
  | [], [], _, u, hu => by cases hu
  | x :: _, _ :: _, h, u, hu => by
    rcases List.mem_cons.1 hu with rfl | hu
    · obtain ⟨_, A, c, e, _⟩ := h.1
      rw [e]; rfl
    · exact RwsQ.one h.2 u hu

/-- v is a list of rows of the call's own. -/
def OwnG (w : World) (base : Nat) (v : Value) (vs : List Value) : Prop := w.ownsRow base 23 1 v vs.length vs
theorem OwnG.nil (w : World) (base : Nat) : OwnG w base (.slice none 0 0) [] := World.ownsRow_nil w base _ _
theorem OwnG.lt {w : World} {base : Nat} {v : Value} {vs : List Value} (h : OwnG w base v vs) : ∀ k, v.ownBlock = some k → base ≤ k ∧ k < w.heap.size := fun k hk => World.ownsRow.lt h k hk
theorem OwnG.alloc {w : World} {base : Nat} {v : Value} {vs : List Value} (h : OwnG w base v vs) (o : Obj) : OwnG (w.alloc o) base v vs := World.ownsRow.alloc h o
theorem OwnG.below {w w' : World} {base : Nat} {v : Value} {vs : List Value} (h : OwnG w base v vs) (hb : Below w.heap.size w w') : OwnG w' base v vs := by
  refine ⟨h.1, ?_⟩
  rcases h.2 with hn | ⟨g, cap, cur, hv, hg, hh, r⟩
  · exact Or.inl hn
  · have hlt : g < w.heap.size := (Array.getElem?_eq_some_iff.1 hh).1
    exact Or.inr ⟨g, cap, cur, hv, hg, (hb.block g hlt).trans hh, r⟩
theorem OwnG.kept {w w' : World} {base : Nat} {v : Value} {vs : List Value} (h : OwnG w base v vs) (hg : ∀ g, v.ownBlock = some g → w'.heap[g]? = w.heap[g]?) : OwnG w' base v vs := by
  refine ⟨h.1, ?_⟩
  rcases h.2 with hn | ⟨g, cap, cur, hv, hgb, hh, r⟩
  · exact Or.inl hn
  · exact Or.inr ⟨g, cap, cur, hv, hgb, (hg g (by rw [hv]; rfl)).trans hh, r⟩
theorem OwnG.slice {w : World} {base : Nat} {v : Value} {vs : List Value} (h : OwnG w base v vs) : (v = .slice none 0 0 ∧ vs = []) ∨ ∃ g c, v = .slice (some ⟨g, 0, none⟩) vs.length c ∧ vs.length ≤ c ∧ base ≤ g ∧ g < w.heap.size ∧ ∀ j u, vs[j]? = some u → w.cell? ⟨g, j, none⟩ = some u := by
  rcases h.2 with ⟨rfl, hn⟩ | ⟨g, cap, cur, rfl, hb, hg, hcap, _⟩
  · exact .inl ⟨rfl, List.length_eq_zero_iff.1 hn⟩
  · refine .inr ⟨g, cap, rfl, hcap, hb, (Array.getElem?_eq_some_iff.1 hg).1, fun j u hj => ?_⟩
    have e : (⟨g, 0, none⟩ : Addr).add j = ⟨g, j, none⟩ := by unfold Addr.add; split <;> simp_all
    rw [← e]
    exact World.ownsRow.cells h (g := g) rfl _ _ hj

theorem info_G : (Tryz.prog.info? 23).map (fun i => (i.zero, i.size, i.bytes)) = some (some (.slice none 0 0), 1, 24) := by kernel_rfl

set_option maxRecDepth 10000 in
theorem append_G (w : World) (ty : TypeId) (base : Nat) (v : Value) (xs ys : List Value) (hown : OwnG w base v xs) (A : Option Addr) (m c : Nat) (hm : m = ys.length) (hr : ∀ j u, ys[j]? = some u → ∃ a, A = some a ∧ w.cell? (a.add j) = some u) (h1 : ∀ u ∈ ys, u.oneCell' = true)
    (hroom : xs.length + ys.length ≤ 3000000) (hbase : base ≤ w.heap.size) :
    ∃ v' w', (Builtin.append_ #[42, 42] ty #[v, .slice A m c]).run Tryz.prog w = .ok v' w' ∧ OwnG w' base v' (xs ++ ys) ∧ w.grownBy w' v.ownBlock ∧ (v'.ownBlock = v.ownBlock ∨ v'.ownBlock = some w.heap.size) := by
  obtain ⟨i, hi, hz, hsize, hby⟩ := info_parts info_G
  cases A with
  | none =>
    have hy : ys = [] := by
      cases ys with
      | nil => rfl
      | cons y ys =>
        obtain ⟨a, ha, _⟩ := hr 0 _ rfl
        cases ha
    subst hy
    subst hm
    refine ⟨v, w, ?_, by simpa using hown, World.grownBy.refl _ _, Or.inl rfl⟩
    rcases hown.2 with ⟨rfl, _⟩ | ⟨g, cap, cur, rfl, _, _, hnc, _⟩
    · simp [Builtin.append_, run_underlying Tryz.underlying42, sizeOf, typeInfo, hi, Builtin.lenOf, Builtin.firstCells]
    · simp [Builtin.append_, run_underlying Tryz.underlying42, sizeOf, typeInfo, hi, Builtin.lenOf, Builtin.firstCells, hnc, storeCells]
  | some ad =>
    obtain ⟨v', w', h2, h3, h4, _, h5⟩ := run_append_own_at (P := Tryz.prog) w base 42 ty 23 i _ 1 24 Tryz.underlying42 hi hz hsize hby rfl (by omega) v xs.length xs hown ad m c ys
      (by rw [hm, Nat.mul_one]) (fun j u hj => by obtain ⟨a, ha, hc⟩ := hr j u hj; injection ha with ha; subst ha; exact hc) h1 (by unfold maxLen; omega) (by omega) hbase
    refine ⟨v', w', h2, ?_, h4, h5⟩
    unfold OwnG
    rw [List.length_append, ← hm]
    exact h3
theorem wp_append_G {ops : Array Oper} {rest : List Oper} {o : Oper} {a : Act} {Q : Exit → Act → World → Prop} (w : World) (hgd : o.guard = none) (s x : Operand)
    (ho : o.op = .call { callee := .builtin .append, args := #[s, x], argTypes := #[42, 42] })
    (base : Nat) (v : Value) (xs ys : List Value) (hs : a.eval s = v) (hown : OwnG w base v xs) (A : Option Addr) (m c : Nat) (hx : a.eval x = .slice A m c) (hm : m = ys.length) (hr : ∀ j u, ys[j]? = some u → ∃ a, A = some a ∧ w.cell? (a.add j) = some u) (h1 : ∀ u ∈ ys, u.oneCell' = true)
    (hroom : xs.length + ys.length ≤ 3000000) (hbase : base ≤ w.heap.size)
    (h : ∀ v' w', OwnG w' base v' (xs ++ ys) → Below base w w' → w.grownBy w' v.ownBlock → (v'.ownBlock = v.ownBlock ∨ v'.ownBlock = some w.heap.size) → wpList Tryz.prog ops Q rest (a.put o.dst v') w') : wpList Tryz.prog ops Q (o :: rest) a w := by
  refine wpList_plain hgd fun K hK => ?_
  obtain ⟨v', w', hrun, h2, h3, h4⟩ := append_G w o.type base v xs ys hown A m c hm hr h1 hroom hbase
  unfold Oper.wp execOp
  simp only [ho, resolve, invoke, builtin, Sem.run_bind, Sem.run_pure, Result.andThen_ok, List.map_toArray, List.map_cons, List.map_nil, hs, hx, hrun]
  exact hK _ _ (h v' w' h2 ((Below.refl _ _).grown h3 hbase (fun k hk => (hown.lt k hk).1)) h3 h4)

theorem sort_take (l : List (List V)) (k : Nat) (x : List V) (h : l[k]? = some x) : sortL (l.take (k + 1)) = insL x (sortL (l.take k)) := by
  rw [List.take_add_one, h]
  exact sortL_snoc _ _

theorem OwnG.cells {w : World} {base : Nat} {v : Value} {vs : List Value} (h : OwnG w base v vs) : ∃ A c, v = .slice A vs.length c ∧ vs.length ≤ c ∧ CellsQ w (fun k => base ≤ k ∧ k < w.heap.size) A vs := by
  rcases h.slice with ⟨hv, hus⟩ | ⟨g, cg, hv, hcg, hgb, hgl, hgc⟩
  · subst hus
    exact ⟨none, 0, hv, Nat.le_refl _, fun j u hj => by simp at hj⟩
  · refine ⟨_, cg, hv, hcg, fun j u hj => ⟨_, rfl, ?_, ?_⟩⟩
    · have e : ((⟨g, 0, none⟩ : Addr).add j).block = g := by unfold Addr.add; split <;> rfl
      show base ≤ _ ∧ _
      rw [e]
      exact ⟨hgb, hgl⟩
    · have e : (⟨g, 0, none⟩ : Addr).add j = ⟨g, j, none⟩ := by unfold Addr.add; split <;> simp_all
      rw [e]
      exact hgc j u hj
theorem drop_S {w : World} {Q : Nat → Prop} {L : Option Addr} {ls : List Value} (h : CellsQ w Q L ls) (c at2 : Nat) (hc : ls.length ≤ c) (A : Option Addr) (hA : ∀ a, L = some a → A = if c = at2 then some a else some (a.add at2)) : CellsQ w Q A (ls.drop at2) := by
  cases L with
  | none =>
    have hn : ls = [] := by
      cases ls with
      | nil => rfl
      | cons y ys =>
        obtain ⟨a, ha, _⟩ := h 0 _ rfl
        cases ha
    subst hn
    intro j u hj
    simp at hj
  | some a =>
    rw [hA a rfl]
    split
    · rw [List.drop_of_length_le (by omega)]
      intro j u hj
      simp at hj
    · exact h.drop _

theorem OwnG.lower {w : World} {base b2 : Nat} {v : Value} {vs : List Value} (h : OwnG w base v vs) (hb : b2 ≤ base) : OwnG w b2 v vs := by
  refine ⟨h.1, ?_⟩
  rcases h.2 with hn | ⟨g, cap, cur, hv, hg, hh, r⟩
  · exact Or.inl hn
  · exact Or.inr ⟨g, cap, cur, hv, Nat.le_trans hb hg, hh, r⟩
theorem lit_S (w : World) (v : Value) (ty : TypeId) : ∀ j u, [v][j]? = some u → ∃ a, some (⟨w.heap.size, 0, none⟩ : Addr) = some a ∧ (w.alloc (.cells #[v] ty)).cell? (a.add j) = some u := by
  intro j u hj
  cases j with
  | zero =>
    have e : v = u := by simpa using hj
    subst e
    exact ⟨_, rfl, alloc_new_cells _ _ _ 0⟩
  | succ j => simp at hj
theorem CellsQ.src {w : World} {Q : Nat → Prop} {A : Option Addr} {vs : List Value} (h : CellsQ w Q A vs) : ∀ j u, vs[j]? = some u → ∃ a, A = some a ∧ w.cell? (a.add j) = some u := fun j u hj => by
  obtain ⟨a, h1, _, h3⟩ := h j u hj
  exact ⟨a, h1, h3⟩
theorem ext_classS (h : Nat) (w : World) (hh : h ≤ w.heap.size) : ∃ (E : Type) (X : E → World), Nonempty E ∧ (∀ e, Below h w (X e)) ∧ (∀ W, Below h w W → ∃ e, W = X e) ∧ ∀ e W, Below (X e).heap.size (X e) W → ∃ e2, W = X e2 :=
  ⟨{W : World // Below h w W}, Subtype.val, ⟨⟨w, Below.refl _ _⟩⟩, fun e => e.2, fun W hW => ⟨⟨W, hW⟩, rfl⟩, fun e W hW => ⟨⟨W, e.2.trans (hW.mono (Nat.le_trans hh e.2.size))⟩, rfl⟩⟩

set_option maxRecDepth 100000 in
set_option maxHeartbeats 4000000 in
theorem ref_sort (Q : Nat → Prop) (A : Option Addr) (c : Nat) (vs : List Value) (xs : List (List V)) (n : Nat) (w : World) (hn : n = xs.length) (hl : n ≤ 600000) (hc : CellsQ w (fun k => k < w.heap.size) A vs) (hr : RwsQ w Q vs xs) (hfit : ∀ x ∈ xs, Fit x) :
    Calls Tryz.prog 47 #[.slice A n c] w fun e w' => ∃ v us, e = .returned v ∧ OwnG w' w.heap.size v us ∧ RwsQ w' Q us (sortL xs) ∧ Below w.heap.size w w' := by
  have HC := Lib.hid hc
  have HR := Lib.hid hr
  have HF := Lib.hid hfit
  have HN := Lib.hid hn
  clear hc hr hfit hn
  go_enter Tryz.func47, Tryz.ntmps47
  go_wp2
  go_loopw [3, 4] (fun v i wr => ∃ (k : Nat) (us : List Value), k ≤ n ∧ i = .int .i64 k ∧ OwnG wr w.heap.size v us ∧ RwsQ wr Q us (sortL (xs.take k)) ∧ Below w.heap.size w wr) (fun _ i _ => n - (intOf i).toNat)
  case atStart => exact ⟨0, [], Nat.zero_le _, rfl, OwnG.nil _ _, trivial, Below.refl _ _⟩
  case round =>
    obtain ⟨k, us, hk, rfl, hown, hrw, hb⟩ := hrel
    have HO := Lib.hid hown
    have HW := Lib.hid hrw
    have HB := Lib.hid hb
    have hsz := hb.size
    have hul : us.length ≤ k := by
      rw [hrw.len]
      have h := (sortL_facts (xs.take k)).2.2.2
      have := List.length_take_le k xs
      omega
    by_cases hlt : k < n
    · obtain ⟨x, hx⟩ : ∃ x, xs[k]? = some x := ⟨_, List.getElem?_eq_getElem (by rw [← HN.out]; exact hlt)⟩
      obtain ⟨xv, hxv, hxr⟩ := HR.out.get k x hx
      obtain ⟨a, rfl, hab, hac⟩ := HC.out k xv hxv
      have HXR := Lib.hid hxr
      obtain ⟨hxl, Ax, cx, rfl, hxq⟩ := id hxr
      have HXA := Lib.hid hac
      have HXB := Lib.hid hab
      have HXQ := Lib.hid hxq.at
      have HFX := Lib.hid (HF.out x (List.mem_of_getElem? hx))
      have HSN := Lib.hid (sort_take xs k x hx)
      obtain ⟨out, hout⟩ : ∃ out, out = sortL (xs.take k) := ⟨_, rfl⟩
      rw [← hout] at HW HSN
      have HOL := Lib.hid (show us.length = out.length from HW.out.len)
      have HFO := Lib.hid (fun y (hy : y ∈ out) => HF.out y (List.mem_of_mem_take ((sortL_facts (xs.take k)).2.1 y (by rw [← hout]; exact hy))))
      obtain ⟨wo, hwo⟩ : ∃ wo, wo = wr := ⟨_, rfl⟩
      subst hwo
      obtain ⟨A0, cg, hv, hcg, hgc⟩ := hown.cells
      subst hv
      have HGC := Lib.hid hgc
      clear hown hrw hb hx hxv hxr hxq hout hac hab hgc
      have HBO := HB.out
      go_wp2
      go_loopw [5] (fun p wr => ∃ j : Nat, p = .int .i64 j ∧ j ≤ us.length ∧ Hid (∀ i y, i < j → out[i]? = some y → cmpR y x < 0) ∧ Below wo.heap.size wo wr) (fun p _ => us.length - (intOf p).toNat)
      case atStart => exact ⟨0, rfl, by omega, Lib.hid (fun i y h => by omega), Below.refl _ _⟩
      case round =>
        obtain ⟨j, rfl, hj, HJ, hbj⟩ := hrel
        have HBJ := Lib.hid hbj
        have hsj := hbj.size
        have e2 := ((HB.out.trans (hbj.mono hsz)).cell (p := a.add k) HXB.out).trans HXA.out
        have E2 := Lib.hid e2
        have hxb2 : (a.add k).block < wr.heap.size := Nat.lt_of_lt_of_le HXB.out (Nat.le_trans hsz hsj)
        by_cases hjl : j < us.length
        · have hd1 : decide (j < us.length) = true := decide_eq_true hjl
          have hd2 : decide ((j : Int) < (us.length : Int)) = true := by simpa using hjl
          obtain ⟨y, hy⟩ : ∃ y, out[j]? = some y := ⟨_, List.getElem?_eq_getElem (by have := HOL.out; omega)⟩
          obtain ⟨yv, hyv, hyr⟩ := HW.out.get j y hy
          obtain ⟨a0, rfl, ⟨hgb, hgl⟩, hgc⟩ := HGC.out j yv hyv
          obtain ⟨hyl, Ay, cy, rfl, hyq⟩ := id hyr
          have e1 := (hbj.cell (p := a0.add j) hgl).trans hgc
          have hd : Below wr.heap.size wr wr.drew := Below.drew (Below.refl _ _)
          have HYA := Lib.hid (hyq.at.later hbj)
          have HXA2 := Lib.hid (HXQ.out.later (HB.out.trans (hbj.mono hsz)))
          have HFY := Lib.hid (HFO.out y (List.mem_of_getElem? hy))
          have HCM := Lib.hid (fun (W : World) (hb : Below wr.heap.size wr W) => ref_cmpR Ay Ax y x y.length x.length cy cx W rfl rfl (by unfold maxLen; omega) HFY.out (HYA.out.later hb) (HXA2.out.later hb))
          have HSM := Lib.hid (fun (W : World) (hb : Below wr.heap.size wr W) => ref_sameR Ay Ax y x y.length x.length cy cx W rfl rfl (by unfold maxLen; omega) HFY.out (HYA.out.later hb) (HXA2.out.later hb))
          have HY := Lib.hid hy
          have E1 := Lib.hid e1
          have hgl2 : (a0.add j).block < wr.heap.size := Nat.lt_of_lt_of_le hgl hsj
          clear hbj hy hyv hyr hyq hd hgc
          obtain ⟨XE, xf, hXN, hX1, hX0, hX2⟩ := ext_classS wr.heap.size wr (Nat.le_refl _)
          have HX1 := Lib.hid hX1
          have HX2 := Lib.hid hX2
          have hin := hX0 wr.drew (Below.drew (Below.refl _ _))
          have b1 := fun e => (((HX1.out e).cell (p := a0.add j) hgl2).trans E1.out : (xf e).cell? (a0.add j) = _)
          have b2 := fun e => (((HX1.out e).cell (p := a.add k) hxb2).trans E2.out : (xf e).cell? (a.add k) = _)
          have HX0 := Lib.hid hX0
          clear hX1 hX0 hX2 e1 e2
          by_cases hcl : cmpR y x < 0
          · have hcb : decide (cmpR y x < 0) = true := decide_eq_true hcl
            go_wp2_with fail
            refine wp_region_quiet (C := fun W => ∃ e, W = xf e) (by kernel_rfl) (by kernel_rfl) hin ?_
            clear hin
            dsimp only
            repeat (go_big_quiet_step ((go_at_call 90; refine (HCM.out _ (HX1.out _)).mono ?_; rintro e w5 ⟨rfl, hb5⟩; exact ⟨rfl, HX2.out _ _ hb5⟩)))
            refine wpQuiet_nil ?_
            intro w5 hW5
            obtain ⟨ee, hW5⟩ := hW5
            have hb5 : Below wr.heap.size wr w5 := by rw [hW5]; exact HX1.out ee
            clear hW5
            clear b1 b2
            go_wp2
            refine ⟨⟨j + 1, by simp, by omega, Lib.hid (fun i z hi hz => ?_), HBJ.out.trans (hb5.mono hsj)⟩, by simp [intOf]; omega⟩
            by_cases hij : i < j
            · exact HJ.out i z hij hz
            · have : i = j := by omega
              subst this
              have e := HY.out
              rw [hz] at e
              injection e with e
              rw [e]
              exact hcl
          · have hcb : decide (cmpR y x < 0) = false := decide_eq_false hcl
            go_wp2_with fail
            refine wp_region_quiet (C := fun W => ∃ e, W = xf e) (by kernel_rfl) (by kernel_rfl) hin ?_
            clear hin
            dsimp only
            repeat (go_big_quiet_step ((go_at_call 90; refine (HCM.out _ (HX1.out _)).mono ?_; rintro e w5 ⟨rfl, hb5⟩; exact ⟨rfl, HX2.out _ _ hb5⟩)))
            refine wpQuiet_nil ?_
            intro w5 hW5
            obtain ⟨ee, hW5⟩ := hW5
            have hb5 : Below wr.heap.size wr w5 := by rw [hW5]; exact HX1.out ee
            clear hW5
            have hin2 := HX0.out w5.drew (hb5.drew)
            by_cases hce : cmpR y x = 0
            · have hcc : (cmpR y x == 0) = true := by simpa using hce
              rw [hcc] at HSM
              go_wp2_with fail
              refine wp_region_quiet (C := fun W => ∃ e, W = xf e) (by kernel_rfl) (by kernel_rfl) hin2 ?_
              clear hin2
              dsimp only
              repeat (go_big_quiet_step ((go_at_call 91; refine (HSM.out _ (HX1.out _)).mono ?_; rintro e w5 ⟨rfl, hb5⟩; exact ⟨rfl, HX2.out _ _ hb5⟩)))
              refine wpQuiet_nil ?_
              intro w6 hW5
              obtain ⟨ee, hW5⟩ := hW5
              have hb6 : Below wr.heap.size wr w6 := by rw [hW5]; exact HX1.out ee
              clear hW5
              clear b1 b2
              go_wp2
              go_roundw
              case rel =>
                have hb9 := HBJ.out.trans (hb6.mono hsj)
                refine ⟨k + 1, us, by omega, by go_num, HO.out.below hb9, ?_, HB.out.trans (hb9.mono hsz)⟩
                rw [HSN.out, insL_at x out j (by have := HOL.out; omega) HJ.out (fun z hz => by rw [HY.out] at hz; injection hz with hz; rw [← hz]; omega), if_pos ⟨y, HY.out, hce⟩]
                exact HW.out.keep (Below.keepQ hb9 Q)
              case measure => simp [intOf]; omega
            · have hcc : (cmpR y x == 0) = false := by simpa using hce
              have HINS := Lib.hid (show insL x out = out.take j ++ x :: out.drop j by rw [insL_at x out j (by have := HOL.out; omega) HJ.out (fun z hz => by rw [HY.out] at hz; injection hz with hz; rw [← hz]; omega), if_neg (by rintro ⟨z, hz, hc⟩; rw [HY.out] at hz; injection hz with hz; rw [← hz] at hc; exact hce hc)])
              rw [hcc] at HSM
              go_wp2_with fail
              refine wp_region_quiet (C := fun W => ∃ e, W = xf e) (by kernel_rfl) (by kernel_rfl) hin2 ?_
              clear hin2
              dsimp only
              repeat (go_big_quiet_step ((go_at_call 91; refine (HSM.out _ (HX1.out _)).mono ?_; rintro e w5 ⟨rfl, hb5⟩; exact ⟨rfl, HX2.out _ _ hb5⟩)))
              refine wpQuiet_nil ?_
              intro w6 hW5
              obtain ⟨ee, hW5⟩ := hW5
              have hb6 : Below wr.heap.size wr w6 := by rw [hW5]; exact HX1.out ee
              clear hW5
              clear b1 b2
              have hbw : Below wo.heap.size wo w6 := HBJ.out.trans (hb6.mono hsj)
              have HBW := Lib.hid hbw
              have hsw := hbw.size
              have hc6 := HGC.out.keep (Below.keepQ hbw _)
              have HS1 := Lib.hid (hc6.take j).src
              have HO1 := Lib.hid (HW.out.take j).one
              have HO3 := Lib.hid (HW.out.drop j).one
              have HTL := Lib.hid (show j = (us.take j).length by rw [List.length_take]; omega)
              have HDL := Lib.hid (show us.length - j = (us.drop j).length by rw [List.length_drop])
              have HC6 := Lib.hid hc6
              have E6 := Lib.hid ((hb6.cell (p := a.add k) hxb2).trans E2.out)
              have hxb6 : (a.add k).block < w6.heap.size := Nat.lt_of_lt_of_le hxb2 hb6.size
              clear hbw hc6
              go_upto_region 11 with (at_builtin; go_must (refine wp_append_G _ rfl (.tmp 46) (.tmp 49) rfl w6.heap.size _ [] (us.take j) rfl (OwnG.nil _ _) (some a0) j _ rfl HTL.out HS1.out HO1.out (by rw [← HTL.out]; simp; omega) (Nat.le_refl _) ?_; intro v7 w7 hown7 hb7 _ _; rw [List.nil_append] at hown7; obtain ⟨A7, c7, hv7, _, _⟩ := hown7.cells; rw [← HTL.out] at hv7; subst hv7; have HOW7 := Lib.hid hown7; have HB7 := Lib.hid hb7; have e7 := (hb7.cell (p := a.add k) hxb6).trans E6.out; have hs7 := hb7.size; clear hown7 hb7))
              go_upto_region 12 with (at_builtin; go_must (refine wp_append_G _ rfl (.tmp 51) (.tmp 56) rfl w6.heap.size _ (us.take j) [Value.slice Ax x.length cx] rfl (HOW7.out.alloc _) _ 1 _ rfl rfl (lit_S w7 _ _) (by simp [Value.oneCell']) (by rw [← HTL.out]; simp; omega) (by simp; omega) ?_; intro v8 w8 hown8 hb8 _ _; obtain ⟨A8, c8, hv8, _, _⟩ := hown8.cells; rw [List.length_append, ← HTL.out, List.length_singleton] at hv8; subst hv8; have HOW8 := Lib.hid hown8; have HB8 := Lib.hid (HB7.out.trans (((one_new w7 _).mono hs7).trans hb8)); clear hown8 hb8))
              have HC8 : CellsQ w8 _ (some a0) us := HC6.out.keep (Below.keepQ HB8.out _)
              have HS3 := Lib.hid (fun A hA => (drop_S HC8 cg j hcg A hA).src)
              have hs8 := HB8.out.size
              clear HC8
              go_wp2_with (at_builtin; go_must (refine wp_append_G _ rfl (.tmp 58) (.tmp 61) rfl w6.heap.size _ (us.take j ++ [Value.slice Ax x.length cx]) (us.drop j) rfl HOW8.out _ _ _ rfl HDL.out (HS3.out _ (by intro b hb; injection hb with hb; subst hb; first | rfl | rw [if_neg (by omega)])) HO3.out (by rw [List.length_append, ← HTL.out, ← HDL.out]; simp; omega) (by omega) ?_; intro v9 w9 hown9 hb9 _ _; have HOW9 := Lib.hid hown9; have HB9 := Lib.hid (HBW.out.trans ((HB8.out.trans hb9).mono hsw)); clear hown9 hb9))
              all_goals
                go_roundw
                case rel =>
                  have hb9 := HB9.out
                  have hkq : KeepQ Q wo w9 := Below.keepQ hb9 Q
                  have hrw := ((HW.out.keep hkq).take j).append (show RwsQ w9 Q [Value.slice Ax x.length cx] [x] from ⟨HXR.out.keep (Below.keepQ (HB.out.trans (hb9.mono hsz)) Q), trivial⟩)
                  have hrw2 := hrw.append ((HW.out.keep hkq).drop j)
                  refine ⟨k + 1, _, by omega, by go_num, HOW9.out.lower (Nat.le_trans hsz hsw), ?_, HB.out.trans (hb9.mono hsz)⟩
                  rw [HSN.out, HINS.out]
                  simpa using hrw2
                case measure => simp [intOf]; omega
        · have hd1 : decide (j < us.length) = false := decide_eq_false hjl
          have hd2 : decide ((j : Int) < (us.length : Int)) = false := by simpa using hjl
          have hje : j = us.length := by omega
          have HINS := Lib.hid (show insL x out = out.take j ++ x :: out.drop j by rw [insL_at x out j (by have := HOL.out; omega) HJ.out (fun z hz => by have := (List.getElem?_eq_some_iff.1 hz).1; have := HOL.out; omega), if_neg (by rintro ⟨z, hz, hc⟩; have := (List.getElem?_eq_some_iff.1 hz).1; have := HOL.out; omega)])
          have HJE := Lib.hid hje
          clear hje
          obtain ⟨XE, xf, hXN, hX1, hX0, hX2⟩ := ext_classS wr.heap.size wr (Nat.le_refl _)
          have HX1 := Lib.hid hX1
          have HX0 := Lib.hid hX0
          have hin := hX0 wr.drew (Below.drew (Below.refl _ _))
          clear hX1 hX0 hX2 e2 hbj
          go_wp2_with fail
          refine wp_region_quiet (C := fun W => ∃ e, W = xf e) (by kernel_rfl) (by kernel_rfl) hin ?_
          clear hin
          dsimp only
          repeat (go_big_quiet_step (fail))
          refine wpQuiet_nil ?_
          intro w5 hW5
          obtain ⟨ee, hW5⟩ := hW5
          have hb5 : Below wr.heap.size wr w5 := by rw [hW5]; exact HX1.out ee
          clear hW5
          have hin2 := HX0.out w5.drew (hb5.drew)
          go_wp2_with fail
          refine wp_region_quiet (C := fun W => ∃ e, W = xf e) (by kernel_rfl) (by kernel_rfl) hin2 ?_
          clear hin2
          dsimp only
          repeat (go_big_quiet_step (fail))
          refine wpQuiet_nil ?_
          intro w6 hW5
          obtain ⟨ee, hW5⟩ := hW5
          have hb6 : Below wr.heap.size wr w6 := by rw [hW5]; exact HX1.out ee
          clear hW5
          have hbw : Below wo.heap.size wo w6 := HBJ.out.trans (hb6.mono hsj)
          have HBW := Lib.hid hbw
          have hsw := hbw.size
          have hc6 := HGC.out.keep (Below.keepQ hbw _)
          have HS1 := Lib.hid (hc6.take j).src
          have HO1 := Lib.hid (HW.out.take j).one
          have HO3 := Lib.hid (HW.out.drop j).one
          have HTL := Lib.hid (show j = (us.take j).length by rw [List.length_take]; omega)
          have HDL := Lib.hid (show us.length - j = (us.drop j).length by rw [List.length_drop])
          have HC6 := Lib.hid hc6
          have E6 := Lib.hid ((hb6.cell (p := a.add k) hxb2).trans E2.out)
          have hxb6 : (a.add k).block < w6.heap.size := Nat.lt_of_lt_of_le hxb2 hb6.size
          clear hbw hc6
          go_upto_region 11 with (at_builtin; go_must (refine wp_append_G _ rfl (.tmp 46) (.tmp 49) rfl w6.heap.size _ [] (us.take j) rfl (OwnG.nil _ _) A0 j _ rfl HTL.out HS1.out HO1.out (by rw [← HTL.out]; simp; omega) (Nat.le_refl _) ?_; intro v7 w7 hown7 hb7 _ _; rw [List.nil_append] at hown7; obtain ⟨A7, c7, hv7, _, _⟩ := hown7.cells; rw [← HTL.out] at hv7; subst hv7; have HOW7 := Lib.hid hown7; have HB7 := Lib.hid hb7; have e7 := (hb7.cell (p := a.add k) hxb6).trans E6.out; have hs7 := hb7.size; clear hown7 hb7))
          go_upto_region 12 with (at_builtin; go_must (refine wp_append_G _ rfl (.tmp 51) (.tmp 56) rfl w6.heap.size _ (us.take j) [Value.slice Ax x.length cx] rfl (HOW7.out.alloc _) _ 1 _ rfl rfl (lit_S w7 _ _) (by simp [Value.oneCell']) (by rw [← HTL.out]; simp; omega) (by simp; omega) ?_; intro v8 w8 hown8 hb8 _ _; obtain ⟨A8, c8, hv8, _, _⟩ := hown8.cells; rw [List.length_append, ← HTL.out, List.length_singleton] at hv8; subst hv8; have HOW8 := Lib.hid hown8; have HB8 := Lib.hid (HB7.out.trans (((one_new w7 _).mono hs7).trans hb8)); clear hown8 hb8))
          have HC8 : CellsQ w8 _ A0 us := HC6.out.keep (Below.keepQ HB8.out _)
          have HS3 := Lib.hid (fun A hA => (drop_S HC8 cg j hcg A hA).src)
          have hs8 := HB8.out.size
          clear HC8
          go_wp2_with (at_builtin; go_must (refine wp_append_G _ rfl (.tmp 58) (.tmp 61) rfl w6.heap.size _ (us.take j ++ [Value.slice Ax x.length cx]) (us.drop j) rfl HOW8.out _ _ _ rfl HDL.out (HS3.out _ (by intro b hb; subst hb; rfl)) HO3.out (by rw [List.length_append, ← HTL.out, ← HDL.out]; simp; omega) (by omega) ?_; intro v9 w9 hown9 hb9 _ _; have HOW9 := Lib.hid hown9; have HB9 := Lib.hid (HBW.out.trans ((HB8.out.trans hb9).mono hsw)); clear hown9 hb9))
          all_goals
            go_roundw
            case rel =>
              have hb9 := HB9.out
              have hkq : KeepQ Q wo w9 := Below.keepQ hb9 Q
              have hrw := ((HW.out.keep hkq).take j).append (show RwsQ w9 Q [Value.slice Ax x.length cx] [x] from ⟨HXR.out.keep (Below.keepQ (HB.out.trans (hb9.mono hsz)) Q), trivial⟩)
              have hrw2 := hrw.append ((HW.out.keep hkq).drop j)
              refine ⟨k + 1, _, by omega, by go_num, HOW9.out.lower (Nat.le_trans hsz hsw), ?_, HB.out.trans (hb9.mono hsz)⟩
              rw [HSN.out, HINS.out]
              simpa using hrw2
            case measure => simp [intOf]; omega
    · go_wp2
      have hke : k = n := by omega
      subst hke
      rw [List.take_of_length_le (by rw [HN.out]; exact Nat.le_refl _)] at HW
      go_ret
      exact ⟨_, us, rfl, HO.out, HW.out, HB.out⟩
end
end Go.Proofs.YtdhpoaecedpbdaaGreat
namespace Go.Proofs.YtdhpoaecedpbdaaGreat
section
open Go.RowKit

/-- Rows in order, of equal ones the first alone. -/
def Fsts (R : List (List V)) (out : List (List V)) : Prop := out.Pairwise (fun a b => cmpR a b < 0) ∧ (∀ y : List V, y ∈ out → ∃ i : Nat, R[i]? = some y ∧ ∀ (k : Nat) (z : List V), k < i → R[k]? = some z → cmpR z y ≠ 0) ∧ (∀ x : List V, x ∈ R → ∃ y : List V, y ∈ out ∧ cmpR y x = 0)
theorem fsts_mem {R a b : List (List V)} (ha : Fsts R a) (hb : Fsts R b) : ∀ y ∈ a, y ∈ b := by
  intro y hy
  obtain ⟨i, h1, h2⟩ := ha.2.1 y hy
  obtain ⟨z, hz, h3⟩ := hb.2.2 y (List.mem_of_getElem? h1)
  obtain ⟨j, h4, h5⟩ := hb.2.1 z hz
  rcases Nat.lt_trichotomy i j with h | h | h
  · have := h5 i y h h1
    have := cmpR_ordered.anti y z
    omega
  · subst h
    rw [h1] at h4
    injection h4 with h4
    rw [h4]
    exact hz
  · exact absurd h3 (h2 j z h h4)
theorem sorted_one : ∀ (a b : List (List V)), a.Pairwise (fun a b => cmpR a b < 0) → b.Pairwise (fun a b => cmpR a b < 0) → (∀ y ∈ a, y ∈ b) → (∀ y ∈ b, y ∈ a) → a = b
  | [], [], _, _, _, _ => rfl
  | [], y :: b, _, _, _, h => by have := h y (by simp); cases this
  | x :: a, [], _, _, h, _ => by have := h x (by simp); cases this
  | x :: a, y :: b, ha, hb, h1, h2 => by
    rw [List.pairwise_cons] at ha hb
    have hxy : x = y := by
      rcases List.mem_cons.1 (h1 x (by simp)) with h | h
      · exact h
      · rcases List.mem_cons.1 (h2 y (by simp)) with h' | h'
        · exact h'.symm
        · have e1 := hb.1 x h
          have e2 := ha.1 y h'
          have := cmpR_ordered.anti x y
          omega
    subst hxy
    rw [sorted_one a b ha.2 hb.2 (fun z hz => ?_) (fun z hz => ?_)]
    · rcases List.mem_cons.1 (h1 z (List.mem_cons_of_mem _ hz)) with h | h
      · subst h
        have := ha.1 z hz
        have := cmpR_ordered.self z
        omega
      · exact h
    · rcases List.mem_cons.1 (h2 z (List.mem_cons_of_mem _ hz)) with h | h
      · subst h
        have := hb.1 z hz
        have := cmpR_ordered.self z
        omega
      · exact h
theorem fsts_one {R a b : List (List V)} (ha : Fsts R a) (hb : Fsts R b) : a = b := sorted_one a b ha.1 hb.1 (fsts_mem ha hb) (fsts_mem hb ha)

theorem insL_new (x y : List V) : ∀ out : List (List V), out.Pairwise (fun a b => cmpR a b < 0) → y ∈ insL x out → y ∈ out ∨ (y = x ∧ ∀ z ∈ out, cmpR z x ≠ 0)
  | [], _, h => by simp [insL] at h; exact .inr ⟨h, by simp⟩
  | z :: r, hp, h => by
    rw [List.pairwise_cons] at hp
    unfold insL at h
    split at h
    · rename_i h1
      rcases List.mem_cons.1 h with h | h
      · exact .inl (by rw [h]; simp)
      · rcases insL_new x y r hp.2 h with h | ⟨h, h'⟩
        · exact .inl (by simp [h])
        · refine .inr ⟨h, fun u hu => ?_⟩
          rcases List.mem_cons.1 hu with hu | hu
          · rw [hu]; omega
          · exact h' u hu
    · rename_i h1
      split at h
      · exact .inl h
      · rename_i h2
        rcases List.mem_cons.1 h with h | h
        · refine .inr ⟨h, fun u hu => ?_⟩
          rcases List.mem_cons.1 hu with hu | hu
          · rw [hu]; exact h2
          · intro h0
            have e1 := hp.1 u hu
            have e2 := cmpR_ordered.trl z u x (by omega) (by omega) (.inl e1)
            exact h1 e2
        · exact .inl h
theorem sortL_fsts (l : List (List V)) : Fsts l (sortL l) := by
  refine ⟨(sortL_facts l).1, ?_, (sortL_facts l).2.2.1⟩
  suffices h : ∀ k, k ≤ l.length → ∀ y ∈ sortL (l.take k), ∃ i : Nat, l[i]? = some y ∧ ∀ (j : Nat) (z : List V), j < i → l[j]? = some z → cmpR z y ≠ 0 by
    have := h l.length (Nat.le_refl _)
    rw [List.take_length] at this
    exact this
  intro k
  induction k with
  | zero => intro _ y hy; simp [sortL] at hy
  | succ k ih =>
    intro hk y hy
    obtain ⟨x, hx⟩ : ∃ x, l[k]? = some x := ⟨_, List.getElem?_eq_getElem (by omega)⟩
    rw [sort_take l k x hx] at hy
    rcases insL_new x y _ (sortL_facts (l.take k)).1 hy with h | ⟨rfl, h⟩
    · exact ih (by omega) y h
    · refine ⟨k, hx, fun j z hj hz h0 => ?_⟩
      have hzm : z ∈ l.take k := by
        refine List.mem_of_getElem? (i := j) ?_
        rw [List.getElem?_take_of_lt hj]
        exact hz
      obtain ⟨u, hu, hu0⟩ := (sortL_facts (l.take k)).2.2.1 z hzm
      exact h u hu (cmpR_ordered.tr0 _ _ _ hu0 h0)
theorem sortL_id {l : List (List V)} (h : l.Pairwise (fun a b => cmpR a b < 0)) : sortL l = l := by
  refine fsts_one (sortL_fsts l) ⟨h, fun y hy => ?_, fun x hx => ⟨x, hx, cmpR_ordered.self x⟩⟩
  obtain ⟨i, hi⟩ := List.getElem?_of_mem hy
  obtain ⟨hil, hie⟩ := List.getElem?_eq_some_iff.1 hi
  refine ⟨i, hi, fun k z hk hz h0 => ?_⟩
  obtain ⟨hkl, hke⟩ := List.getElem?_eq_some_iff.1 hz
  have := (List.pairwise_iff_getElem.1 h) k i hkl hil hk
  rw [hke, hie] at this
  omega
end
end Go.Proofs.YtdhpoaecedpbdaaGreat
