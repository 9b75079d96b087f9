/-
  How an argument that is a list of numbers, or a list of pairs of places, reads in memory.
  No condition.
-/
import Derived.Test.YtlknhlemkbdgcaaOpen
import Derived.Test.YtlknhlemkbdgcaaPairs
namespace Go.Proofs.Ytlknhlemkbdgcaa
open Go.ChangeShapes Go.WideShapes Go.ChangeAt Go.RowKit Go.Deep

theorem cells_int : Try.prog.cellsOf 3 = 1 := by kernel_rfl
theorem fields_P : Try.prog.underlying 46 = some (.struct (Try.prog.fieldsOf 46)) := by kernel_rfl
theorem one_P_fields : oneCellFields Try.prog (Try.prog.fieldsOf 46) = true := by kernel_rfl
theorem types_P : (Try.prog.fieldsOf 46).toList.map (·.type) = [3, 3] := by kernel_rfl
theorem cells_P : Try.prog.cellsOf 46 = 2 := by kernel_rfl

theorem IntsAt.more {w : World} {B B' : Nat} {A : Option Addr} {zs : List Int} (h : IntsAt w B A zs) (hB : B ≤ B') : IntsAt w B' A zs := by
  intro i z hi
  obtain ⟨a, ha, hlt, hc⟩ := h i z hi
  exact ⟨a, ha, by omega, hc⟩
theorem PairsAt.more {w : World} {B B' : Nat} {L : Option Addr} {ps : List (Int × Int)} (h : PairsAt w B L ps) (hB : B ≤ B') : PairsAt w B' L ps := by
  intro i p hi
  obtain ⟨a, ha, hlt, hc⟩ := h i p hi
  exact ⟨a, ha, by omega, hc⟩

section
variable {H : Type} {enc : TypeId × Value → H}

theorem open_intsI {W : World} {base : Nat} {v : Value} {d : DataW H} {p : List MemPlace} {r : Reach} {b0 : Nat} (h : DataW.Trod enc Try.prog W base (fun _ => true) true 28 v d p) (hok : Value.okWide Try.prog W r b0 28 v) :
    ∃ (A : Option Addr) (n c : Nat) (zs : List Int), v = .slice A n c ∧ n = zs.length ∧ n ≤ maxLen ∧ IntsAt W W.heap.size A zs := by
  obtain ⟨a0, len, cap, rfl⟩ := okWide_slice Try.underlying28 hok
  obtain ⟨fuel, hf⟩ := h
  rcases open_slice Try.underlying28 hf with ⟨hcs, _⟩ | ⟨a, len', cap', m, k, D, Pl, hcs, _, hl, hm, hmm, _, hel⟩
  · simp [Value.cells] at hcs
    obtain ⟨rfl, rfl, rfl⟩ := hcs
    exact ⟨none, 0, 0, [], rfl, rfl, Nat.zero_le _, fun i v hi => by simp at hi⟩
  · simp [Value.cells] at hcs
    obtain ⟨rfl, rfl, rfl⟩ := hcs
    rw [cells_int] at hel
    have hex : ∀ i, i < len → ∃ z : Int, W.cell? (a.add i) = some (.int .i64 z) ∧ (a.add i).block < W.heap.size := by
      intro i hi
      have him : i < m := by
        rw [hmm, if_pos rfl]
        omega
      obtain ⟨cs', hc, ht⟩ := hel i him
      obtain ⟨z, rfl, _⟩ := DataW.trod_int Try.underlying3 ht
      obtain ⟨_, _, hat⟩ := World.cells?_some hc
      have h0 := hat 0 (by omega)
      have e : (a.add (i * 1)).add 0 = a.add i := by simp [Addr.add]
      rw [e] at h0
      have h0' : W.cell? (a.add i) = some (.int .i64 z) := h0
      exact ⟨z, h0', World.block_lt_of_cell? W _ h0'⟩
    obtain ⟨g, hg⟩ := choose_lt hex
    refine ⟨some a, len, cap, (List.range len).map g, rfl, by simp, by omega, ?_⟩
    intro i v hi
    have hil : i < len := by
      have := (List.getElem?_eq_some_iff.1 hi).1
      simpa using this
    rw [List.getElem?_map, List.getElem?_range hil] at hi
    have hv : g i = v := by simpa using hi
    subst hv
    exact ⟨a, rfl, (hg i hil).2, (hg i hil).1⟩

theorem trod_P {w : World} {base fuel : Nat} {spare : Nat → Bool} {held : Bool} {cs : List Value} {x : DataW H × List MemPlace} (h : DataW.trod enc Try.prog w base spare held fuel 46 cs = some x) :
    ∃ v : Int × Int, cs = [.int .i64 v.1, .int .i64 v.2] := by
  obtain ⟨ys, n, _, _, hlen, hyl, hf⟩ := DataW.trod_struct fields_P h
  rw [cells_P] at hlen
  have hty := types_P
  have hone := hone_of one_P_fields
  generalize Try.prog.fieldsOf 46 = fs at *
  obtain ⟨l⟩ := fs
  have hll : l.length = 2 := by
    have := congrArg List.length hty
    simpa using this
  match l, hll, hty with
  | [f0, f1], _, hty =>
    simp only [List.map_cons, List.map_nil, List.cons.injEq, and_true] at hty
    obtain ⟨t0, t1⟩ := hty
    have hy2 : ys.length = 2 := hyl
    match cs, hlen, ys, hy2 with
    | [c0, c1], _, [y0, y1], _ =>
      have g : ∀ (i : Nat) (f : Field) (c : Value) (y : DataW H × List MemPlace), (#[f0, f1] : Array Field)[i]? = some f → [c0, c1][i]? = some c → [y0, y1][i]? = some y → DataW.trod enc Try.prog w base spare held n f.type [c] = some y := by
        intro i f c y h1 h2 h3
        have h4 := hf i f h1
        obtain ⟨ho, hc⟩ := hone i f h1
        rw [ho, hc, h3] at h4
        have h5 : (List.drop i [c0, c1]).take 1 = [c] := by
          match i, h2 with
          | 0, h2 => simpa using h2
          | 1, h2 => simpa using h2
          | k + 2, h2 => simp at h2
        rw [h5] at h4
        exact h4
      have g0 := g 0 f0 c0 y0 rfl rfl rfl
      have g1 := g 1 f1 c1 y1 rfl rfl rfl
      rw [t0] at g0
      rw [t1] at g1
      obtain ⟨k, e0, _⟩ := DataW.trod_int Try.underlying3 g0
      obtain ⟨q, e1, _⟩ := DataW.trod_int Try.underlying3 g1
      simp only [List.cons.injEq, and_true] at e0 e1
      subst e0 e1
      exact ⟨(k, q), rfl⟩

theorem open_pairsP {W : World} {base : Nat} {v : Value} {d : DataW H} {p : List MemPlace} {r : Reach} {b0 : Nat} (h : DataW.Trod enc Try.prog W base (fun _ => true) true 29 v d p) (hok : Value.okWide Try.prog W r b0 29 v) :
    ∃ (A : Option Addr) (n c : Nat) (ps : List (Int × Int)), v = .slice A n c ∧ n = ps.length ∧ n ≤ maxLen ∧ PairsAt W W.heap.size A ps := by
  obtain ⟨a0, len, cap, rfl⟩ := okWide_slice Try.underlying29 hok
  obtain ⟨fuel, hf⟩ := h
  rcases open_slice Try.underlying29 hf with ⟨hcs, _⟩ | ⟨a, len', cap', m, k, D, Pl, hcs, _, hl, hm, hmm, _, hel⟩
  · simp [Value.cells] at hcs
    obtain ⟨rfl, rfl, rfl⟩ := hcs
    exact ⟨none, 0, 0, [], rfl, rfl, Nat.zero_le _, fun i v hi => by simp at hi⟩
  · simp [Value.cells] at hcs
    obtain ⟨rfl, rfl, rfl⟩ := hcs
    rw [cells_P] at hel
    have hex : ∀ i, i < len → ∃ z : Int × Int, W.cell? (a.add (i * 2)) = some (.int .i64 z.1) ∧ W.cell? { block := (a.add (i * 2)).block, off := (a.add (i * 2)).off + 1 } = some (.int .i64 z.2) ∧ (a.add (i * 2)).block < W.heap.size := by
      intro i hi
      have him : i < m := by
        rw [hmm, if_pos rfl]
        omega
      obtain ⟨cs', hc, ht⟩ := hel i him
      obtain ⟨z, rfl⟩ := trod_P ht
      obtain ⟨_, _, hat⟩ := World.cells?_some hc
      have h0 := hat 0 (by omega)
      have h1 := hat 1 (by omega)
      have e : (a.add (i * 2)).add 0 = a.add (i * 2) := by simp [Addr.add]
      rw [e] at h0
      have h0' : W.cell? (a.add (i * 2)) = some (.int .i64 z.1) := h0
      exact ⟨z, h0', by simpa [Addr.add] using h1, World.block_lt_of_cell? W _ h0'⟩
    obtain ⟨g, hg⟩ := choose_lt hex
    refine ⟨some a, len, cap, (List.range len).map g, rfl, by simp, by omega, ?_⟩
    intro i v hi
    have hil : i < len := by
      have := (List.getElem?_eq_some_iff.1 hi).1
      simpa using this
    rw [List.getElem?_map, List.getElem?_range hil] at hi
    have hv : g i = v := by simpa using hi
    subst hv
    exact ⟨a, rfl, (hg i hil).2.2, (hg i hil).1, (hg i hil).2.1⟩
end

theorem readable_P (t : TypeId) (h : t ∈ [22, 28, 29]) : Try.prog.readableRec t = true ∧ t < Try.prog.types.size := by
  simp only [List.mem_cons, List.not_mem_nil, or_false] at h
  rcases h with rfl | rfl | rfl <;> exact ⟨by kernel_rfl, of_decide_eq_true (by kernel_rfl)⟩
end Go.Proofs.Ytlknhlemkbdgcaa
