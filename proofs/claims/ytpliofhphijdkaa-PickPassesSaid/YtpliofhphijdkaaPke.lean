/-
  How an argument that is a list of lists of entries reads in memory; append of one entry within a region that draws its order; what the law of sums has in memory.
  No condition.
-/
import Derived.Test.YtpliofhphijdkaaPkd
import Derived.Test.YtpliofhphijdkaaBopen
import Derived.Deep.RegionLaw
namespace Go.Proofs.Ytpliofhphijdkaa
open Go.ChangeShapes Go.WideShapes Go.ChangeAt Go.RowKit Go.Deep

/-- A list of entries as it was given: where it lies, of which capacity. -/
structure WLs where
  at' : Option Addr
  cap : Nat
  es : List WE
instance : Inhabited WLs := ⟨⟨none, 0, []⟩⟩
def WLs.v (x : WLs) : Value := .slice x.at' x.es.length x.cap
def WLs.Ok (w : World) (x : WLs) : Prop := x.es.length ≤ maxLen ∧ (x.at' = none → x.cap = 0) ∧ WeakE w x.at' x.es
def WeakL (w : World) (A : Option Addr) (ls : List WLs) : Prop := ∀ (i : Nat) (x : WLs), ls[i]? = some x → WLs.Ok w x ∧ ∃ a : Addr, A = some a ∧ (a.add i).block < w.heap.size ∧ w.cell? (a.add i) = some x.v
theorem cells_Ls : Try.prog.cellsOf 22 = 1 := by kernel_rfl

section
variable {H : Type} {enc : TypeId × Value → H}

set_option maxRecDepth 10000 in
theorem trod_Ls {W : World} {base fuel : Nat} {v : List Value} {x : DataW H × List MemPlace} (hf : DataW.trod enc Try.prog W base (fun _ => true) true fuel 22 v = some x) :
    ∃ z : WLs, v = [z.v] ∧ WLs.Ok W z := by
  rcases open_slice Try.underlying22 hf with ⟨hcs, _⟩ | ⟨a, len, cap, m, k, D, Pl, hcs, _, hl, hm, hmm, _, hel⟩
  · exact ⟨⟨none, 0, []⟩, hcs, Nat.zero_le _, fun _ => rfl, fun i v hi => by simp at hi⟩
  · rw [cells_En] at hel
    have hex : ∀ i, i < len → ∃ z : WE, WE.Ok W z ∧ W.cell? (a.add (i * 2)) = some z.v ∧ W.cell? { block := (a.add (i * 2)).block, off := (a.add (i * 2)).off + 1 } = some (.int .i64 z.many) ∧ (a.add (i * 2)).block < W.heap.size := by
      intro i hi
      have him : i < m := by
        rw [hmm, if_pos rfl]
        omega
      obtain ⟨cs', hc, ht⟩ := hel i him
      obtain ⟨z, rfl, hz⟩ := trod_En ht
      obtain ⟨_, _, hat⟩ := World.cells?_some hc
      have h0 := hat 0 (by omega)
      have h1 := hat 1 (by omega)
      have e : (a.add (i * 2)).add 0 = a.add (i * 2) := by simp [Addr.add]
      rw [e] at h0
      have h0' : W.cell? (a.add (i * 2)) = some z.v := h0
      exact ⟨z, hz, h0', by simpa [Addr.add] using h1, World.block_lt_of_cell? W _ h0'⟩
    obtain ⟨g, hg⟩ := choose_lt hex
    refine ⟨⟨some a, cap, (List.range len).map g⟩, by simpa [WLs.v] using hcs, by simp; omega, (fun h => by cases h), ?_⟩
    intro i v hi
    have hil : i < len := by
      have := (List.getElem?_eq_some_iff.1 hi).1
      simpa using this
    rw [List.getElem?_map, List.getElem?_range hil] at hi
    have hv : g i = v := by simpa using hi
    subst hv
    exact ⟨(hg i hil).1, a, rfl, (hg i hil).2.2.2, (hg i hil).2.1, (hg i hil).2.2.1⟩

set_option maxRecDepth 10000 in
theorem open_lists {W : World} {base : Nat} {v : Value} {d : DataW H} {p : List MemPlace} {r : Reach} {b0 : Nat} (h : DataW.Trod enc Try.prog W base (fun _ => true) true 37 v d p) (hok : Value.okWide Try.prog W r b0 37 v) :
    ∃ (A : Option Addr) (c : Nat) (ls : List WLs), v = .slice A ls.length c ∧ ls.length ≤ maxLen ∧ WeakL W A ls := by
  obtain ⟨a0, len, cap, rfl⟩ := okWide_slice Try.underlying37 hok
  obtain ⟨fuel, hf⟩ := h
  rcases open_slice1 Try.underlying37 cells_Ls hf with ⟨hcs, _⟩ | ⟨a, len', cap', m, k, V, D, Pl, hcs, _, hl, hm, hmm, _, hel⟩
  · simp [Value.cells] at hcs
    obtain ⟨rfl, rfl, rfl⟩ := hcs
    exact ⟨none, 0, [], rfl, Nat.zero_le _, fun i v hi => by simp at hi⟩
  · simp [Value.cells] at hcs
    obtain ⟨rfl, rfl, rfl⟩ := hcs
    have hex : ∀ i, i < len → ∃ z : WLs, WLs.Ok W z ∧ W.cell? (a.add i) = some z.v ∧ (a.add i).block < W.heap.size := by
      intro i hi
      have him : i < m := by
        rw [hmm, if_pos rfl]
        omega
      obtain ⟨hc, ht⟩ := hel i him
      obtain ⟨z, hz1, hz⟩ := trod_Ls ht
      have hz2 : V i = z.v := by simpa using hz1
      rw [hz2] at hc
      exact ⟨z, hz, hc, World.block_lt_of_cell? W _ hc⟩
    obtain ⟨g, hg⟩ := choose_lt hex
    refine ⟨some a, cap, (List.range len).map g, by simp, by simp; omega, ?_⟩
    intro i v hi
    have hil : i < len := by
      have := (List.getElem?_eq_some_iff.1 hi).1
      simpa using this
    rw [List.getElem?_map, List.getElem?_range hil] at hi
    have hv : g i = v := by simpa using hi
    subst hv
    exact ⟨(hg i hil).1, a, rfl, (hg i hil).2.2, (hg i hil).2.1⟩
end
theorem readable_L (t : TypeId) (h : t ∈ [37, 22]) : Try.prog.readableRec t = true ∧ t < Try.prog.types.size := by
  simp only [List.mem_cons, List.not_mem_nil, or_false] at h
  rcases h with rfl | rfl <;> exact ⟨by kernel_rfl, of_decide_eq_true (by kernel_rfl)⟩

theorem entsp_many {w : World} {A : Option Addr} {es : List WE} (h : WeakE w A es) (i : Nat) (e : En) (he : (ents es)[i]? = some e) : -9223372036854775808 ≤ e.2 ∧ e.2 ≤ 9223372036854775807 := by
  unfold ents at he
  rw [List.getElem?_map] at he
  cases hx : es[i]? with
  | none => rw [hx] at he; cases he
  | some x =>
    rw [hx] at he
    have he2 : (x.row, x.many) = e := by simpa using he
    subst he2
    exact (h i x hx).1.2.2.2
theorem WeakE.below {w wr : World} {A : Option Addr} {es : List WE} (h : WeakE w A es) (hb : Below w.heap.size w wr) : WeakE wr A es := fun i e he => by
  obtain ⟨⟨q1, q2, q3, q4⟩, a2, q5, q6, q7, q8⟩ := h i e he
  exact ⟨⟨q1, q2, (RowQ.of q3 (fun k hk => hk) |>.keep (Below.keepQ hb (fun k => k < w.heap.size))).at, q4⟩, a2, q5, Nat.lt_of_lt_of_le q6 hb.size, (hb.cell q6).trans q7, (hb.cell (p := { block := (a2.add (i * 2)).block, off := (a2.add (i * 2)).off + 1 }) q6).trans q8⟩
theorem EntsQ.inQ {w : World} {Q : Nat → Prop} {a : Addr} {l : List En} (h : EntsQ w Q (some a) l) (i : Nat) (e : En) (he : l[i]? = some e) : Q (a.add (i * 2)).block := by
  obtain ⟨ls, h1, h2⟩ := h
  obtain ⟨v, h3, h4⟩ := h1.get i e he
  obtain ⟨f0, f1⟩ := flatE_at ls i _ h3
  obtain ⟨a2, ha, hq, _⟩ := h2 _ _ f0
  injection ha with ha
  subst ha
  exact hq
theorem few_many {l : List En} (h : Good l) (i : Nat) (e : En) (he : l[i]? = some e) : -9223372036854775808 ≤ e.2 ∧ e.2 ≤ 9223372036854775807 := by
  have := (fewN_iff _).1 (h.2 e (List.mem_of_getElem? he)).2.1
  omega

theorem step_append_E {ops : Array Oper} {o : Oper} {a : Act} {K : Act → World → Prop} {Q : Exit → Act → World → Prop} {E : Prop} (w : World) (hgd : o.guard = none) (s x : Operand)
    (ho : o.op = .call { callee := .builtin .append, args := #[s, x], argTypes := #[22, 22] })
    (base : Nat) (v : Value) (xs ys : List RE) (hs : a.eval s = v) (hown : OwnE w base v xs) (A : Option Addr) (m c : Nat) (hx : a.eval x = .slice A m c) (hm : m = ys.length) (R : Nat → Prop) (hr : CellsQ w R A (flatE ys)) (h1 : ∀ u ∈ flatE ys, u.oneCell' = true)
    (hroom : xs.length + ys.length ≤ 3000000) (hbase : base ≤ w.heap.size)
    (h : ∀ v' w', OwnE w' base v' (xs ++ ys) → Below base w w' → w.grownBy w' v.ownBlock → (v'.ownBlock = v.ownBlock ∨ v'.ownBlock = some w.heap.size) → K (a.put o.dst v') w') : if Region.wanted o (yielded ops a.tmps) = true then Oper.wp Try.prog o a w K Q else E := by
  rw [if_pos (by unfold Region.wanted; rw [hgd])]
  exact op_append_E w s x ho base v xs ys hs hown A m c hx hm R hr h1 hroom hbase h

/-- The Once at block s and the document's bag in the next one: how often rows came, and what was told. -/
def Q2p (s : Nat) : Nat → Prop := fun j => j ≠ s ∧ j ≠ s + 1
structure PsAt (w wr : World) (B : List En) : Prop where
  below : Below w.heap.size w wr
  size : w.heap.size + 2 ≤ wr.heap.size
  bag : BagL wr (Q2p w.heap.size) w.heap.size B
  ref : RefL wr (Q2p w.heap.size) (w.heap.size + 1) (onceOf B)
  pos : Pos B
  len : B.length ≤ 1500
theorem onceOf_len (B : List En) : (onceOf B).length = B.length := List.length_map _
theorem ps_new (w : World) : PsAt w ((w.alloc (.cells #[.pointer none] 69)).alloc (.cells #[.slice none 0 0] 42)) [] := by
  refine ⟨(one_new _ _).trans ((one_new _ _).mono (by simp)), by simp, (once_new _ w).below (one_new _ _), ?_, Pos.nil, Nat.zero_le _⟩
  have h := new_ref (w.alloc (.cells #[.pointer none] 69))
  rw [World.size_alloc] at h
  exact h.imp fun k _ hk => by
    show k ≠ w.heap.size ∧ k ≠ w.heap.size + 1
    omega
theorem PsAt.q {w wr : World} {B : List En} (h : PsAt w wr B) : ∀ k, wr.heap.size ≤ k → Q2p w.heap.size k := fun k hk => by
  have := h.size
  show k ≠ w.heap.size ∧ k ≠ w.heap.size + 1
  omega
theorem nq0 (s : Nat) : ¬ Q2p s s := fun h => h.1 rfl
theorem nq1 (s : Nat) : ¬ Q2p s (s + 1) := fun h => h.2 rfl
theorem PsAt.later {w wr W : World} {B : List En} (h : PsAt w wr B) (hb : Below wr.heap.size wr W) : PsAt w W B :=
  ⟨h.below.trans (hb.mono h.below.size), Nat.le_trans h.size hb.size, h.bag.below hb, h.ref.below hb, h.pos, h.len⟩
end Go.Proofs.Ytpliofhphijdkaa
