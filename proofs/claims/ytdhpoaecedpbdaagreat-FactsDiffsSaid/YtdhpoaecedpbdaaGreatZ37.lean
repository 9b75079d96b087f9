/-
  How an argument that is a list of acts with objects reads in memory: six cells an act, texts and numbers no longer than they can be.
  No condition.
-/
import Derived.Test.YtdhpoaecedpbdaaGreatZ21
import Derived.Test.YtdhpoaecedpbdaaGreatZ24
namespace Go.Proofs.YtdhpoaecedpbdaaGreat
open Go.ChangeShapes Go.WideShapes Go.ChangeAt Go.RowKit Go.Deep

/-- An act: its kind, an object. -/
structure Oa where
  k : Int
  o : WO
instance : Inhabited Oa := ⟨⟨0, default⟩⟩
def Oa.cells (x : Oa) : List Value := .int .i64 x.k :: x.o.cells
def OaAt (w : World) (q : Addr) (x : Oa) : Prop := w.cell? q = some (.int .i64 x.k) ∧ ∀ j v, x.o.cells[j]? = some v → w.cell? { block := q.block, off := q.off + 1 + j } = some v
/-- Acts lie at A, their objects' cells with them. -/
def OasAt (w : World) (A : Option Addr) (xs : List Oa) : Prop :=
  ∀ (i : Nat) (x : Oa), xs[i]? = some x → ∃ a : Addr, A = some a ∧ (a.add (i * 6)).block < w.heap.size ∧ OaAt w (a.add (i * 6)) x ∧ WO.Ok w x.o

theorem fields_Oa : Tryz.prog.underlying 37 = some (.struct (Tryz.prog.fieldsOf 37)) := by kernel_rfl
theorem types_Oa : (Tryz.prog.fieldsOf 37).toList.map (fun f => (f.type, f.offset)) = [(3, 0), (25, 1)] := by kernel_rfl
theorem cells_Oa : Tryz.prog.cellsOf 37 = 6 := by kernel_rfl
theorem cells_int8 : Tryz.prog.cellsOf 3 = 1 := by kernel_rfl

section
variable {H : Type} {enc : TypeId × Value → H}

set_option maxRecDepth 10000 in
theorem trod_Oa {w : World} {base fuel : Nat} {cs : List Value} {x : DataW H × List MemPlace} (h : DataW.trod enc Tryz.prog w base (fun _ => true) true fuel 37 cs = some x) :
    ∃ v : Oa, cs = v.cells ∧ WO.Ok w v.o := by
  have hty := types_Oa
  have hfd := fields_Oa
  generalize Tryz.prog.fieldsOf 37 = fs at *
  obtain ⟨l⟩ := fs
  have hll : l.length = 2 := by
    have := congrArg List.length hty
    simpa using this
  match l, hll, hty with
  | [f0, f1], _, hty =>
    simp only [List.map_cons, List.map_nil, List.cons.injEq, and_true, Prod.mk.injEq] at hty
    obtain ⟨⟨t0, p0⟩, ⟨t1, p1⟩⟩ := hty
    obtain ⟨y0, y1, n, _, hlen, g0, g1⟩ := trod_struct2 hfd h
    rw [cells_Oa] at hlen
    rw [t0, p0, cells_int8] at g0
    rw [t1, p1, cells_Ob] at g1
    match cs, hlen with
    | [c0, c1, c2, c3, c4, c5], _ =>
      obtain ⟨k, e0, _⟩ := DataW.trod_int Tryz.underlying3 g0
      obtain ⟨o, e1, ho⟩ := trod_Ob g1
      simp only [List.drop_zero, List.take_succ_cons, List.take_zero, List.cons.injEq, and_true, List.drop_succ_cons] at e0 e1
      subst e0
      exact ⟨⟨k, o⟩, by unfold Oa.cells; rw [← e1], ho⟩

set_option maxRecDepth 10000 in
theorem open_acts8 {W : World} {base : Nat} {v : Value} {d : DataW H} {p : List MemPlace} {r : Reach} {b0 : Nat} (h : DataW.Trod enc Tryz.prog W base (fun _ => true) true 22 v d p) (hok : Value.okWide Tryz.prog W r b0 22 v) :
    ∃ (A : Option Addr) (n c : Nat) (xs : List Oa), v = .slice A n c ∧ n = xs.length ∧ n ≤ maxLen ∧ OasAt W A xs := by
  obtain ⟨a0, len, cap, rfl⟩ := okWide_slice Tryz.underlying22 hok
  obtain ⟨fuel, hf⟩ := h
  rcases open_slice Tryz.underlying22 hf with ⟨hcs, _⟩ | ⟨a, len', cap', m, k, D, Pl, hcs, _, hl, hm, hmm, _, hel⟩
  · simp [Value.cells] at hcs
    obtain ⟨rfl, rfl, rfl⟩ := hcs
    exact ⟨none, 0, 0, [], rfl, rfl, Nat.zero_le _, fun i v hi => by simp at hi⟩
  · simp [Value.cells] at hcs
    obtain ⟨rfl, rfl, rfl⟩ := hcs
    rw [cells_Oa] at hel
    have hex : ∀ i, i < len → ∃ v : Oa, (OaAt W (a.add (i * 6)) v ∧ WO.Ok W v.o) ∧ (a.add (i * 6)).block < W.heap.size := by
      intro i hi
      have him : i < m := by
        rw [hmm, if_pos rfl]
        omega
      obtain ⟨cs', hc, ht⟩ := hel i him
      obtain ⟨v, rfl, hs⟩ := trod_Oa ht
      obtain ⟨_, _, hat⟩ := World.cells?_some hc
      have hq0 : W.cell? (a.add (i * 6)) = some (.int .i64 v.k) := by
        have h0 := hat 0 (by omega)
        have z : (a.add (i * 6)).add 0 = a.add (i * 6) := by simp [Addr.add]
        rw [z] at h0
        exact h0
      have hA : OaAt W (a.add (i * 6)) v := by
        refine ⟨hq0, fun j u hj => ?_⟩
        have hj5 : j < 5 := by
          have := (List.getElem?_eq_some_iff.1 hj).1
          simpa [WO.cells] using this
        have h0 := hat (j + 1) (by omega)
        have hj2 : v.cells[j + 1]? = some u := by unfold Oa.cells; simpa using hj
        rw [hj2] at h0
        have z : (a.add (i * 6)).add (j + 1) = { block := (a.add (i * 6)).block, off := (a.add (i * 6)).off + 1 + j } := by
          conv => lhs; unfold Addr.add
          simp [Addr.add]
          omega
        rw [z] at h0
        exact h0
      exact ⟨v, ⟨hA, hs⟩, World.block_lt_of_cell? W _ hq0⟩
    obtain ⟨g, hg⟩ := choose_lt hex
    refine ⟨some a, len, cap, (List.range len).map g, rfl, by simp, by omega, ?_⟩
    intro i v hi
    have hil : i < len := by
      have := (List.getElem?_eq_some_iff.1 hi).1
      simpa using this
    rw [List.getElem?_map, List.getElem?_range hil] at hi
    have hv : g i = v := by simpa using hi
    subst hv
    obtain ⟨⟨h1, h2⟩, h3⟩ := hg i hil
    exact ⟨a, rfl, h3, h1, h2⟩
end
theorem readable_Oa (t : TypeId) (h : t ∈ [22, 9]) : Tryz.prog.readableRec t = true ∧ t < Tryz.prog.types.size := by
  simp only [List.mem_cons, List.not_mem_nil, or_false] at h
  rcases h with rfl | rfl <;> exact ⟨by kernel_rfl, of_decide_eq_true (by kernel_rfl)⟩
end Go.Proofs.YtdhpoaecedpbdaaGreat
