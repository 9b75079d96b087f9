/-
  How an argument that is a list of acts with tenants reads in memory: three cells an act, no text longer than a text can be.
  No condition.
-/
import Derived.Test.YtoeggpoeongnhaaTnr
import Derived.Test.YtoeggpoeongnhaaLaw
import Derived.Test.YtoeggpoeongnhaaBopen
namespace Go.Proofs.Ytoeggpoeongnhaa
open Go.ChangeShapes Go.WideShapes Go.ChangeAt Go.RowKit Go.Deep

theorem fields_Ta : Try.prog.underlying 69 = some (.struct (Try.prog.fieldsOf 69)) := by kernel_rfl
theorem one_Ta_fields : oneCellFields Try.prog (Try.prog.fieldsOf 69) = true := by kernel_rfl
theorem types_Ta : (Try.prog.fieldsOf 69).toList.map (·.type) = [3, 9, 9] := by kernel_rfl
theorem cells_Ta : Try.prog.cellsOf 69 = 3 := by kernel_rfl

section
variable {H : Type} {enc : TypeId × Value → H}

set_option maxRecDepth 10000 in
theorem trod_Ta {w : World} {base fuel : Nat} {spare : Nat → Bool} {held : Bool} {cs : List Value} {x : DataW H × List MemPlace} (h : DataW.trod enc Try.prog w base spare held fuel 69 cs = some x) :
    ∃ v : Ta, cs = [.int .i64 v.k, .string v.n, .string v.p] ∧ v.n.size ≤ maxLen ∧ v.p.size ≤ maxLen := by
  obtain ⟨ys, n, _, _, hlen, hyl, hf⟩ := DataW.trod_struct fields_Ta h
  rw [cells_Ta] at hlen
  have hty := types_Ta
  have hone := hone_of one_Ta_fields
  generalize Try.prog.fieldsOf 69 = fs at *
  obtain ⟨l⟩ := fs
  have hll : l.length = 3 := by
    have := congrArg List.length hty
    simpa using this
  match l, hll, hty with
  | [f0, f1, f2], _, hty =>
    simp only [List.map_cons, List.map_nil, List.cons.injEq, and_true] at hty
    obtain ⟨t0, t1, t2⟩ := hty
    have hy3 : ys.length = 3 := hyl
    match cs, hlen, ys, hy3 with
    | [c0, c1, c2], _, [y0, y1, y2], _ =>
      have g : ∀ (i : Nat) (f : Field) (c : Value) (y : DataW H × List MemPlace), (#[f0, f1, f2] : Array Field)[i]? = some f → [c0, c1, c2][i]? = some c → [y0, y1, y2][i]? = some y → DataW.trod enc Try.prog w base spare held n f.type [c] = some y := by
        intro i f c y h1 h2 h3
        have h4 := hf i f h1
        obtain ⟨ho, hc⟩ := hone i f h1
        rw [ho, hc, h3] at h4
        have h5 : (List.drop i [c0, c1, c2]).take 1 = [c] := by
          match i, h2 with
          | 0, h2 => simpa using h2
          | 1, h2 => simpa using h2
          | 2, h2 => simpa using h2
          | k + 3, h2 => simp at h2
        rw [h5] at h4
        exact h4
      have g0 := g 0 f0 c0 y0 rfl rfl rfl
      have g1 := g 1 f1 c1 y1 rfl rfl rfl
      have g2 := g 2 f2 c2 y2 rfl rfl rfl
      rw [t0] at g0
      rw [t1] at g1
      rw [t2] at g2
      obtain ⟨k, e0, _⟩ := DataW.trod_int Try.underlying3 g0
      obtain ⟨s, e1, _, hs⟩ := DataW.trod_string Try.underlying9 g1
      obtain ⟨s2, e2, _, hs2⟩ := DataW.trod_string Try.underlying9 g2
      simp only [List.cons.injEq, and_true] at e0 e1 e2
      subst e0 e1 e2
      exact ⟨⟨k, s, s2⟩, rfl, hs, hs2⟩

set_option maxRecDepth 10000 in
theorem open_acts {W : World} {base : Nat} {v : Value} {d : DataW H} {p : List MemPlace} {r : Reach} {b0 : Nat} (h : DataW.Trod enc Try.prog W base (fun _ => true) true 60 v d p) (hok : Value.okWide Try.prog W r b0 60 v) :
    ∃ (A : Option Addr) (n c : Nat) (xs : List Ta), v = .slice A n c ∧ n = xs.length ∧ n ≤ maxLen ∧ TasAt W A xs ∧ (∀ x ∈ xs, x.n.size ≤ maxLen ∧ x.p.size ≤ maxLen) := by
  obtain ⟨a0, len, cap, rfl⟩ := okWide_slice Try.underlying60 hok
  obtain ⟨fuel, hf⟩ := h
  rcases open_slice Try.underlying60 hf with ⟨hcs, _⟩ | ⟨a, len', cap', m, k, D, Pl, hcs, _, hl, hm, hmm, _, hel⟩
  · simp [Value.cells] at hcs
    obtain ⟨rfl, rfl, rfl⟩ := hcs
    exact ⟨none, 0, 0, [], rfl, rfl, Nat.zero_le _, fun i v hi => by simp at hi, fun v hv => by simp at hv⟩
  · simp [Value.cells] at hcs
    obtain ⟨rfl, rfl, rfl⟩ := hcs
    rw [cells_Ta] at hel
    have hex : ∀ i, i < len → ∃ v : Ta, TaAt W (a.add (i * 3)) v ∧ (v.n.size ≤ maxLen ∧ v.p.size ≤ maxLen) ∧ (a.add (i * 3)).block < W.heap.size := by
      intro i hi
      have him : i < m := by
        rw [hmm, if_pos rfl]
        omega
      obtain ⟨cs', hc, ht⟩ := hel i him
      obtain ⟨v, rfl, hs, hw⟩ := trod_Ta ht
      obtain ⟨_, _, hat⟩ := World.cells?_some hc
      have h0 := hat 0 (by omega)
      have h1 := hat 1 (by omega)
      have h2 := hat 2 (by omega)
      have z : (a.add (i * 3)).add 0 = a.add (i * 3) := by simp [Addr.add]
      rw [z] at h0
      have h0' : W.cell? (a.add (i * 3)) = some (.int .i64 v.k) := h0
      refine ⟨v, ⟨h0', ?_, ?_⟩, ⟨hs, hw⟩, World.block_lt_of_cell? W _ h0'⟩
      · simpa [Addr.add] using h1
      · simpa [Addr.add] using h2
    obtain ⟨g, hg⟩ := choose_lt hex
    refine ⟨some a, len, cap, (List.range len).map g, rfl, by simp, by omega, ?_, ?_⟩
    · intro i v hi
      have hil : i < len := by
        have := (List.getElem?_eq_some_iff.1 hi).1
        simpa using this
      rw [List.getElem?_map, List.getElem?_range hil] at hi
      have hv : g i = v := by simpa using hi
      subst hv
      obtain ⟨h1, _, h3⟩ := hg i hil
      exact ⟨a, rfl, h3, h1⟩
    · intro v hv
      obtain ⟨i, hi, rfl⟩ := List.mem_map.1 hv
      exact (hg i (by simpa using hi)).2.1
end
theorem readable_Ta (t : TypeId) (h : t ∈ [60, 9]) : Try.prog.readableRec t = true ∧ t < Try.prog.types.size := by
  simp only [List.mem_cons, List.not_mem_nil, or_false] at h
  rcases h with rfl | rfl <;> exact ⟨by kernel_rfl, of_decide_eq_true (by kernel_rfl)⟩
end Go.Proofs.Ytoeggpoeongnhaa
