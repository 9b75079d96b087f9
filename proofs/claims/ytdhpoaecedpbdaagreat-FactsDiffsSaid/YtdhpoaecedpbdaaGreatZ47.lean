/-
  Lists of changes in memory: three cells a change, the relation, the row's slice and the number; what append leaves behind it.
  No condition but that a list is no longer than it can be.
-/
import Derived.Test.YtdhpoaecedpbdaaGreatZ26
import Derived.Test.YtdhpoaecedpbdaaGreatZ43
import Derived.Test.YtdhpoaecedpbdaaGreatZ9
namespace Go.Proofs.YtdhpoaecedpbdaaGreat
open Go.RowKit

/-- A change as it lies; a change. -/
abbrev CE := ByteArray × (Value × Int)
abbrev Ch := ByteArray × En
def flatH (ls : List CE) : List Value := ls.flatMap fun e => [.string e.1, e.2.1, .int .i64 e.2.2]
theorem flatH_cons (x : CE) (xs : List CE) : flatH (x :: xs) = .string x.1 :: x.2.1 :: .int .i64 x.2.2 :: flatH xs := rfl
theorem flatH_len : ∀ (ls : List CE), (flatH ls).length = ls.length * 3
  | [] => rfl
  | x :: xs => by
    rw [flatH_cons, List.length_cons, List.length_cons, List.length_cons, flatH_len xs, List.length_cons]
    omega
theorem flatH_append (a b : List CE) : flatH (a ++ b) = flatH a ++ flatH b := by simp [flatH]
theorem flatH_at : ∀ (ls : List CE) (i : Nat) (e : CE), ls[i]? = some e → (flatH ls)[i * 3]? = some (.string e.1) ∧ (flatH ls)[i * 3 + 1]? = some e.2.1 ∧ (flatH ls)[i * 3 + 2]? = some (.int .i64 e.2.2)
  | [], _, _, h => by simp at h
  | x :: xs, 0, e, h => by
    have h' : x = e := by simpa using h
    subst h'
    exact ⟨rfl, rfl, rfl⟩
  | x :: xs, i + 1, e, h => by
    have ih := flatH_at xs i e (by simpa using h)
    rw [flatH_cons, show (i + 1) * 3 = i * 3 + 3 from by omega]
    exact ih
/-- The changes as they lie are these. -/
def ChR (w : World) (Q : Nat → Prop) : List CE → List Ch → Prop
  | [], [] => True
  | a :: ls, b :: l => a.1 = b.1 ∧ a.2.2 = b.2.2 ∧ IsRw w Q a.2.1 b.2.1 ∧ ChR w Q ls l
  | _, _ => False
theorem ChR.len {w : World} {Q : Nat → Prop} : ∀ {ls : List CE} {l : List Ch}, ChR w Q ls l → ls.length = l.length
  | [], [], _ => rfl
  | _ :: _, _ :: _, h => by rw [List.length_cons, List.length_cons, ChR.len h.2.2.2]
theorem ChR.keep {w w' : World} {Q : Nat → Prop} (hk : KeepQ Q w w') : ∀ {ls : List CE} {l : List Ch}, ChR w Q ls l → ChR w' Q ls l
  | [], [], _ => trivial
  | _ :: _, _ :: _, h => ⟨h.1, h.2.1, h.2.2.1.keep hk, ChR.keep hk h.2.2.2⟩
theorem ChR.imp {w : World} {Q Q' : Nat → Prop} (hq : ∀ k, k < w.heap.size → Q k → Q' k) : ∀ {ls : List CE} {l : List Ch}, ChR w Q ls l → ChR w Q' ls l
  | [], [], _ => trivial
  | _ :: _, _ :: _, h => ⟨h.1, h.2.1, h.2.2.1.imp hq, ChR.imp hq h.2.2.2⟩
theorem ChR.append {w : World} {Q : Nat → Prop} : ∀ {a c : List CE} {b d : List Ch}, ChR w Q a b → ChR w Q c d → ChR w Q (a ++ c) (b ++ d)
  | [], _, [], _, _, h => h
  | _ :: _, _, _ :: _, _, h, h' => ⟨h.1, h.2.1, h.2.2.1, ChR.append h.2.2.2 h'⟩
theorem ChR.get {w : World} {Q : Nat → Prop} : ∀ {a : List CE} {b : List Ch} (i : Nat) (e : Ch), ChR w Q a b → b[i]? = some e → ∃ v, a[i]? = some (e.1, v, e.2.2) ∧ IsRw w Q v e.2.1
  | [], [], _, _, _, h => by simp at h
  | x :: _, y :: _, 0, e, h, he => by
    have e1 : y = e := by simpa using he
    subst e1
    obtain ⟨x1, x2, x3⟩ := x
    have h1 : x1 = y.1 := h.1
    have h2 : x3 = y.2.2 := h.2.1
    exact ⟨x2, by rw [← h1, ← h2]; rfl, h.2.2.1⟩
  | _ :: _, _ :: _, i + 1, e, h, he => ChR.get i e h.2.2.2 (by simpa using he)
/-- Changes at A. -/
def ChsQ (w : World) (Q : Nat → Prop) (A : Option Addr) (l : List Ch) : Prop := ∃ ls, ChR w Q ls l ∧ CellsQ w Q A (flatH ls)
theorem ChsQ.keep {w w' : World} {Q : Nat → Prop} {A : Option Addr} {l : List Ch} (h : ChsQ w Q A l) (hk : KeepQ Q w w') : ChsQ w' Q A l := by
  obtain ⟨ls, h1, h2⟩ := h
  exact ⟨ls, h1.keep hk, h2.keep hk⟩
theorem ChsQ.below {w w' : World} {Q : Nat → Prop} {A : Option Addr} {l : List Ch} (h : ChsQ w Q A l) (hb : Below w.heap.size w w') : ChsQ w' Q A l := h.keep (Below.keepQ hb Q)
theorem ChsQ.imp {w : World} {Q Q' : Nat → Prop} {A : Option Addr} {l : List Ch} (h : ChsQ w Q A l) (hq : ∀ k, k < w.heap.size → Q k → Q' k) : ChsQ w Q' A l := by
  obtain ⟨ls, h1, h2⟩ := h
  exact ⟨ls, h1.imp hq, h2.imp hq⟩
theorem ChsQ.get {w : World} {Q : Nat → Prop} {A : Option Addr} {l : List Ch} (h : ChsQ w Q A l) (i : Nat) (e : Ch) (he : l[i]? = some e) :
    ∃ a v, A = some a ∧ IsRw w Q v e.2.1 ∧ (a.add (i * 3)).block < w.heap.size ∧ w.cell? (a.add (i * 3)) = some (.string e.1) ∧ w.cell? { block := (a.add (i * 3)).block, off := (a.add (i * 3)).off + 1 } = some v ∧ w.cell? { block := (a.add (i * 3)).block, off := (a.add (i * 3)).off + 2 } = some (.int .i64 e.2.2) := by
  obtain ⟨ls, h1, h2⟩ := h
  obtain ⟨v, h3, h4⟩ := h1.get i e he
  obtain ⟨f0, f1, f2⟩ := flatH_at ls i _ h3
  obtain ⟨a, ha, _, hc⟩ := h2 _ _ f0
  obtain ⟨a', ha', _, hc'⟩ := h2 _ _ f1
  obtain ⟨a'', ha'', _, hc''⟩ := h2 _ _ f2
  subst ha
  injection ha' with ha'
  subst ha'
  injection ha'' with ha''
  subst ha''
  refine ⟨a, v, rfl, h4, World.block_lt_of_cell? w _ hc, hc, ?_, ?_⟩
  · rw [add_off _ _ _ (by omega)]
    exact hc'
  · rw [add_off _ _ _ (by omega)]
    exact hc''
/-- A change in a block of its own, as cells. -/
theorem lit_H (w : World) (e : CE) (ty : TypeId) : CellsQ (w.alloc (.cells #[.string e.1, e.2.1, .int .i64 e.2.2] ty)) (fun k => k = w.heap.size) (some ⟨w.heap.size, 0, none⟩) (flatH [e]) :=
  lit_cellsQ w #[.string e.1, e.2.1, .int .i64 e.2.2] ty (fun k => k = w.heap.size) rfl
theorem lit_Hg (w : World) (s : ByteArray) (u : Value) (m : Int) (ty : TypeId) (g : Nat) (hg : g = w.heap.size) : CellsQ (w.alloc (.cells #[.string s, u, .int .i64 m] ty)) (fun k => k = w.heap.size) (some ⟨g, 0, none⟩) (flatH [(s, u, m)]) := by
  subst hg
  exact lit_H w (s, u, m) ty
theorem flatH_one {e : CE} (h : e.2.1.oneCell' = true) : ∀ u ∈ flatH [e], u.oneCell' = true := by
  intro u hu
  simp only [flatH, List.flatMap_cons, List.flatMap_nil, List.append_nil, List.mem_cons, List.not_mem_nil, or_false] at hu
  rcases hu with rfl | rfl | rfl
  · rfl
  · exact h
  · rfl

/-- v is a list of changes of the call's own. -/
def OwnH (w : World) (base : Nat) (v : Value) (zs : List CE) : Prop := w.ownsRow base 65 3 v zs.length (flatH zs)
theorem OwnH.nil (w : World) (base : Nat) : OwnH w base (.slice none 0 0) [] := World.ownsRow_nil w base _ _
theorem OwnH.lt {w : World} {base : Nat} {v : Value} {xs : List CE} (h : OwnH w base v xs) (k : Nat) (hk : v.ownBlock = some k) : base ≤ k ∧ k < w.heap.size := World.ownsRow.lt h k hk
theorem OwnH.alloc {w : World} {base : Nat} {v : Value} {xs : List CE} (h : OwnH w base v xs) (o : Obj) : OwnH (w.alloc o) base v xs := World.ownsRow.alloc h o
theorem OwnH.below {w w' : World} {base : Nat} {v : Value} {xs : List CE} (h : OwnH w base v xs) (hb : Below w.heap.size w w') : OwnH w' base v xs := by
  refine ⟨h.1, ?_⟩
  rcases h.2 with hn | ⟨g, cap, cur, rfl, hg, hh, r⟩
  · exact Or.inl hn
  · exact Or.inr ⟨g, cap, cur, rfl, hg, (hb.block g (Array.getElem?_eq_some_iff.1 hh).1).trans hh, r⟩
theorem OwnH.same {w w' : World} {base : Nat} {v : Value} {xs : List CE} (h : OwnH w base v xs) (he : ∀ k, v.ownBlock = some k → w'.heap[k]? = w.heap[k]?) : OwnH w' base v xs := by
  refine ⟨h.1, ?_⟩
  rcases h.2 with hn | ⟨g, cap, cur, rfl, hg, hh, r⟩
  · exact Or.inl hn
  · exact Or.inr ⟨g, cap, cur, rfl, hg, (he g rfl).trans hh, r⟩
theorem OwnH.cells {w : World} {base : Nat} {v : Value} {zs : List CE} (h : OwnH w base v zs) : ∃ A c, v = .slice A zs.length c ∧ (A = none → c = 0) ∧ zs.length ≤ c ∧ CellsQ w (fun k => base ≤ k ∧ v.ownBlock = some k) A (flatH zs) := by
  rcases h.2 with ⟨rfl, hn⟩ | ⟨g, cap, cur, rfl, hg, hh, hc, _⟩
  · have hl : zs = [] := List.eq_nil_of_length_eq_zero (by first | omega | simpa using hn)
    subst hl
    exact ⟨none, 0, rfl, fun _ => rfl, Nat.le_refl _, fun j u hj => by simp [flatH] at hj⟩
  · refine ⟨_, cap, rfl, fun h => (by cases h), hc, fun j u hj => ⟨_, rfl, ⟨?_, ?_⟩, ?_⟩⟩
    · rw [show ((⟨g, 0, none⟩ : Addr).add j).block = g from by unfold Addr.add; split <;> rfl]
      exact hg
    · rw [show ((⟨g, 0, none⟩ : Addr).add j).block = g from by unfold Addr.add; split <;> rfl]
      rfl
    · exact World.ownsRow.cells h (g := g) rfl j u hj
theorem info_H : (Tryz.prog.info? 65).map (fun i => (i.zero, i.size, i.bytes)) = some (some (.agg #[.string ⟨#[]⟩, .slice none 0 0, .int .i64 0]), 3, 48) := by kernel_rfl
set_option maxRecDepth 10000 in
theorem append_H (w : World) (ty : TypeId) (base : Nat) (v : Value) (xs : List CE) (hown : OwnH w base v xs) (e : CE) (ad : Addr) (c : Nat) (Q : Nat → Prop) (hr : CellsQ w Q (some ad) (flatH [e])) (h1 : e.2.1.oneCell' = true)
    (hroom : xs.length ≤ 1000000) (hbase : base ≤ w.heap.size) :
    ∃ v' w', (Builtin.append_ #[53, 53] ty #[v, .slice (some ad) 1 c]).run Tryz.prog w = .ok v' w' ∧ OwnH w' base v' (xs ++ [e]) ∧ w.grownBy w' v.ownBlock ∧ (v'.ownBlock = v.ownBlock ∨ v'.ownBlock = some w.heap.size) := by
  obtain ⟨i, hi, hz, hsize, hby⟩ := info_parts info_H
  obtain ⟨v', w', h2, h3, h4, _, h5⟩ := run_append_own_at (P := Tryz.prog) w base 53 ty 65 i _ 3 48 Tryz.underlying53 hi hz hsize hby rfl (by omega) v xs.length (flatH xs) hown ad 1 c (flatH [e])
      (by rw [flatH_len]; rfl) (fun j u hj => by obtain ⟨a, ha, _, hc⟩ := hr j u hj; injection ha with ha; subst ha; exact hc) (flatH_one h1) (by unfold maxLen; omega) (by omega) hbase
  refine ⟨v', w', h2, ?_, h4, h5⟩
  unfold OwnH
  rw [flatH_append, List.length_append]
  exact h3
theorem wp_append_H {ops : Array Oper} {rest : List Oper} {o : Oper} {a : Act} {Q : Exit → Act → World → Prop} (w : World) (hgd : o.guard = none) (s x : Operand)
    (ho : o.op = .call { callee := .builtin .append, args := #[s, x], argTypes := #[53, 53] })
    (base : Nat) (v : Value) (xs : List CE) (hs : a.eval s = v) (hown : OwnH w base v xs) (e : CE) (ad : Addr) (c : Nat) (hx : a.eval x = .slice (some ad) 1 c) (R : Nat → Prop) (hr : CellsQ w R (some ad) (flatH [e])) (h1 : e.2.1.oneCell' = true)
    (hroom : xs.length ≤ 1000000) (hbase : base ≤ w.heap.size)
    (h : ∀ v' w', OwnH w' base v' (xs ++ [e]) → Below base w w' → w.grownBy w' v.ownBlock → (v'.ownBlock = v.ownBlock ∨ v'.ownBlock = some w.heap.size) → wpList Tryz.prog ops Q rest (a.put o.dst v') w') : wpList Tryz.prog ops Q (o :: rest) a w := by
  refine wpList_plain hgd fun K hK => ?_
  obtain ⟨v', w', hrun, h2, h3, h5⟩ := append_H w o.type base v xs hown e ad c R hr h1 hroom hbase
  unfold Oper.wp execOp
  simp only [ho, resolve, invoke, builtin, Sem.run_bind, Sem.run_pure, Result.andThen_ok, List.map_toArray, List.map_cons, List.map_nil, hs, hx, hrun]
  exact hK _ _ (h v' w' h2 ((Below.refl _ _).grown h3 hbase (fun k hk => (hown.lt k hk).1)) h3 h5)

/-- v is a list of changes of the call's own. -/
def OwnK (w : World) (base : Nat) (v : Value) (zs : List CE) : Prop := w.ownsRow base 114 3 v zs.length (flatH zs)
theorem OwnK.nil (w : World) (base : Nat) : OwnK w base (.slice none 0 0) [] := World.ownsRow_nil w base _ _
theorem OwnK.lt {w : World} {base : Nat} {v : Value} {xs : List CE} (h : OwnK w base v xs) (k : Nat) (hk : v.ownBlock = some k) : base ≤ k ∧ k < w.heap.size := World.ownsRow.lt h k hk
theorem OwnK.alloc {w : World} {base : Nat} {v : Value} {xs : List CE} (h : OwnK w base v xs) (o : Obj) : OwnK (w.alloc o) base v xs := World.ownsRow.alloc h o
theorem OwnK.below {w w' : World} {base : Nat} {v : Value} {xs : List CE} (h : OwnK w base v xs) (hb : Below w.heap.size w w') : OwnK w' base v xs := by
  refine ⟨h.1, ?_⟩
  rcases h.2 with hn | ⟨g, cap, cur, rfl, hg, hh, r⟩
  · exact Or.inl hn
  · exact Or.inr ⟨g, cap, cur, rfl, hg, (hb.block g (Array.getElem?_eq_some_iff.1 hh).1).trans hh, r⟩
theorem OwnK.same {w w' : World} {base : Nat} {v : Value} {xs : List CE} (h : OwnK w base v xs) (he : ∀ k, v.ownBlock = some k → w'.heap[k]? = w.heap[k]?) : OwnK w' base v xs := by
  refine ⟨h.1, ?_⟩
  rcases h.2 with hn | ⟨g, cap, cur, rfl, hg, hh, r⟩
  · exact Or.inl hn
  · exact Or.inr ⟨g, cap, cur, rfl, hg, (he g rfl).trans hh, r⟩
theorem OwnK.cells {w : World} {base : Nat} {v : Value} {zs : List CE} (h : OwnK w base v zs) : ∃ A c, v = .slice A zs.length c ∧ (A = none → c = 0) ∧ zs.length ≤ c ∧ CellsQ w (fun k => base ≤ k ∧ v.ownBlock = some k) A (flatH zs) := by
  rcases h.2 with ⟨rfl, hn⟩ | ⟨g, cap, cur, rfl, hg, hh, hc, _⟩
  · have hl : zs = [] := List.eq_nil_of_length_eq_zero (by first | omega | simpa using hn)
    subst hl
    exact ⟨none, 0, rfl, fun _ => rfl, Nat.le_refl _, fun j u hj => by simp [flatH] at hj⟩
  · refine ⟨_, cap, rfl, fun h => (by cases h), hc, fun j u hj => ⟨_, rfl, ⟨?_, ?_⟩, ?_⟩⟩
    · rw [show ((⟨g, 0, none⟩ : Addr).add j).block = g from by unfold Addr.add; split <;> rfl]
      exact hg
    · rw [show ((⟨g, 0, none⟩ : Addr).add j).block = g from by unfold Addr.add; split <;> rfl]
      rfl
    · exact World.ownsRow.cells h (g := g) rfl j u hj
theorem info_K : (Tryz.prog.info? 114).map (fun i => (i.zero, i.size, i.bytes)) = some (some (.agg #[.string ⟨#[]⟩, .slice none 0 0, .int .i64 0]), 3, 48) := by kernel_rfl
set_option maxRecDepth 10000 in
theorem append_K (w : World) (ty : TypeId) (base : Nat) (v : Value) (xs : List CE) (hown : OwnK w base v xs) (e : CE) (ad : Addr) (c : Nat) (Q : Nat → Prop) (hr : CellsQ w Q (some ad) (flatH [e])) (h1 : e.2.1.oneCell' = true)
    (hroom : xs.length ≤ 1000000) (hbase : base ≤ w.heap.size) :
    ∃ v' w', (Builtin.append_ #[56, 56] ty #[v, .slice (some ad) 1 c]).run Tryz.prog w = .ok v' w' ∧ OwnK w' base v' (xs ++ [e]) ∧ w.grownBy w' v.ownBlock ∧ (v'.ownBlock = v.ownBlock ∨ v'.ownBlock = some w.heap.size) := by
  obtain ⟨i, hi, hz, hsize, hby⟩ := info_parts info_K
  obtain ⟨v', w', h2, h3, h4, _, h5⟩ := run_append_own_at (P := Tryz.prog) w base 56 ty 114 i _ 3 48 Tryz.underlying56 hi hz hsize hby rfl (by omega) v xs.length (flatH xs) hown ad 1 c (flatH [e])
      (by rw [flatH_len]; rfl) (fun j u hj => by obtain ⟨a, ha, _, hc⟩ := hr j u hj; injection ha with ha; subst ha; exact hc) (flatH_one h1) (by unfold maxLen; omega) (by omega) hbase
  refine ⟨v', w', h2, ?_, h4, h5⟩
  unfold OwnK
  rw [flatH_append, List.length_append]
  exact h3
theorem wp_append_K {ops : Array Oper} {rest : List Oper} {o : Oper} {a : Act} {Q : Exit → Act → World → Prop} (w : World) (hgd : o.guard = none) (s x : Operand)
    (ho : o.op = .call { callee := .builtin .append, args := #[s, x], argTypes := #[56, 56] })
    (base : Nat) (v : Value) (xs : List CE) (hs : a.eval s = v) (hown : OwnK w base v xs) (e : CE) (ad : Addr) (c : Nat) (hx : a.eval x = .slice (some ad) 1 c) (R : Nat → Prop) (hr : CellsQ w R (some ad) (flatH [e])) (h1 : e.2.1.oneCell' = true)
    (hroom : xs.length ≤ 1000000) (hbase : base ≤ w.heap.size)
    (h : ∀ v' w', OwnK w' base v' (xs ++ [e]) → Below base w w' → w.grownBy w' v.ownBlock → (v'.ownBlock = v.ownBlock ∨ v'.ownBlock = some w.heap.size) → wpList Tryz.prog ops Q rest (a.put o.dst v') w') : wpList Tryz.prog ops Q (o :: rest) a w := by
  refine wpList_plain hgd fun K hK => ?_
  obtain ⟨v', w', hrun, h2, h3, h5⟩ := append_K w o.type base v xs hown e ad c R hr h1 hroom hbase
  unfold Oper.wp execOp
  simp only [ho, resolve, invoke, builtin, Sem.run_bind, Sem.run_pure, Result.andThen_ok, List.map_toArray, List.map_cons, List.map_nil, hs, hx, hrun]
  exact hK _ _ (h v' w' h2 ((Below.refl _ _).grown h3 hbase (fun k hk => (hown.lt k hk).1)) h3 h5)
end Go.Proofs.YtdhpoaecedpbdaaGreat
