/-
  How an argument that is a row of values reads in memory: four cells a value, each number of 64 bits, no text longer than a text can be.
  No condition.
-/
import Derived.Test.YtpliofhphijdkaaLaw
import Derived.Test.YtpliofhphijdkaaPpure
namespace Go.Proofs.Ytpliofhphijdkaa
open Go.ChangeShapes Go.WideShapes Go.ChangeAt Go.RowKit Go.Deep

theorem wide_wf {k : Int} {f : Bool} {n : Int} {t : ByteArray} (h : (Lit.int .i64 n).wf = true) : Wide ⟨k, f, n, t⟩ := by
  simp [Lit.wf, IntKind.min, IntKind.max, IntKind.bits, IntKind.signed] at h
  show -9223372036854775808 ≤ n ∧ n ≤ 9223372036854775807
  omega
theorem fields_V : Try.prog.underlying 52 = some (.struct (Try.prog.fieldsOf 52)) := by kernel_rfl
theorem one_V_fields : oneCellFields Try.prog (Try.prog.fieldsOf 52) = true := by kernel_rfl
theorem types_V : (Try.prog.fieldsOf 52).toList.map (·.type) = [3, 4, 2, 9] := by kernel_rfl
theorem cells_V : Try.prog.cellsOf 52 = 4 := by kernel_rfl

section
variable {H : Type} {enc : TypeId × Value → H}

set_option maxRecDepth 10000 in
theorem trod_V {w : World} {base fuel : Nat} {spare : Nat → Bool} {held : Bool} {cs : List Value} {x : DataW H × List MemPlace} (h : DataW.trod enc Try.prog w base spare held fuel 52 cs = some x) :
    ∃ v : V, cs = [.int .i64 v.k, .bool v.f, .int .i64 v.n, .string v.t] ∧ v.t.size ≤ maxLen ∧ Wide v := by
  obtain ⟨ys, n, _, _, hlen, hyl, hf⟩ := DataW.trod_struct fields_V h
  rw [cells_V] at hlen
  have hty := types_V
  have hone := hone_of one_V_fields
  generalize Try.prog.fieldsOf 52 = fs at *
  obtain ⟨l⟩ := fs
  have hll : l.length = 4 := by
    have := congrArg List.length hty
    simpa using this
  match l, hll, hty with
  | [f0, f1, f2, f3], _, hty =>
    simp only [List.map_cons, List.map_nil, List.cons.injEq, and_true] at hty
    obtain ⟨t0, t1, t2, t3⟩ := hty
    have hy4 : ys.length = 4 := hyl
    match cs, hlen, ys, hy4 with
    | [c0, c1, c2, c3], _, [y0, y1, y2, y3], _ =>
      have g : ∀ (i : Nat) (f : Field) (c : Value) (y : DataW H × List MemPlace), (#[f0, f1, f2, f3] : Array Field)[i]? = some f → [c0, c1, c2, c3][i]? = some c → [y0, y1, y2, y3][i]? = some y → DataW.trod enc Try.prog w base spare held n f.type [c] = some y := by
        intro i f c y h1 h2 h3
        have h4 := hf i f h1
        obtain ⟨ho, hc⟩ := hone i f h1
        rw [ho, hc, h3] at h4
        have h5 : (List.drop i [c0, c1, c2, c3]).take 1 = [c] := by
          match i, h2 with
          | 0, h2 => simpa using h2
          | 1, h2 => simpa using h2
          | 2, h2 => simpa using h2
          | 3, h2 => simpa using h2
          | k + 4, h2 => simp at h2
        rw [h5] at h4
        exact h4
      have g0 := g 0 f0 c0 y0 rfl rfl rfl
      have g1 := g 1 f1 c1 y1 rfl rfl rfl
      have g2 := g 2 f2 c2 y2 rfl rfl rfl
      have g3 := g 3 f3 c3 y3 rfl rfl rfl
      rw [t0] at g0
      rw [t1] at g1
      rw [t2] at g2
      rw [t3] at g3
      obtain ⟨k, e0, _⟩ := DataW.trod_int Try.underlying3 g0
      obtain ⟨f, e1, _⟩ := DataW.trod_bool Try.underlying4 g1
      obtain ⟨q, e2, _, hq⟩ := DataW.trod_int Try.underlying2 g2
      obtain ⟨s, e3, _, hs⟩ := DataW.trod_string Try.underlying9 g3
      simp only [List.cons.injEq, and_true] at e0 e1 e2 e3
      subst e0 e1 e2 e3
      have hw : Wide ⟨k, f, q, s⟩ := wide_wf hq
      exact ⟨⟨k, f, q, s⟩, rfl, hs, hw⟩

instance : Inhabited V := ⟨⟨0, false, 0, ⟨#[]⟩⟩⟩

set_option maxRecDepth 10000 in
theorem open_rowV {W : World} {base : Nat} {v : Value} {d : DataW H} {p : List MemPlace} {r : Reach} {b0 : Nat} (h : DataW.Trod enc Try.prog W base (fun _ => true) true 44 v d p) (hok : Value.okWide Try.prog W r b0 44 v) :
    ∃ (A : Option Addr) (n c : Nat) (xs : List V), v = .slice A n c ∧ n = xs.length ∧ n ≤ maxLen ∧ (A = none → c = 0) ∧ RowAt W W.heap.size A xs ∧ Fit xs ∧ (∀ v ∈ xs, Wide v) := by
  obtain ⟨a0, len, cap, rfl⟩ := okWide_slice Try.underlying44 hok
  obtain ⟨fuel, hf⟩ := h
  rcases open_slice Try.underlying44 hf with ⟨hcs, _⟩ | ⟨a, len', cap', m, k, D, Pl, hcs, _, hl, hm, hmm, _, hel⟩
  · simp [Value.cells] at hcs
    obtain ⟨rfl, rfl, rfl⟩ := hcs
    exact ⟨none, 0, 0, [], rfl, rfl, Nat.zero_le _, fun _ => rfl, fun i v hi => by simp at hi, fun i v hi => by simp at hi, fun v hv => by simp at hv⟩
  · simp [Value.cells] at hcs
    obtain ⟨rfl, rfl, rfl⟩ := hcs
    rw [cells_V] at hel
    have hex : ∀ i, i < len → ∃ v : V, At W (a.add (i * 4)) v ∧ v.t.size ≤ maxLen ∧ (a.add (i * 4)).block < W.heap.size ∧ Wide v := by
      intro i hi
      have him : i < m := by
        rw [hmm, if_pos rfl]
        omega
      obtain ⟨cs', hc, ht⟩ := hel i him
      obtain ⟨v, rfl, hs, hw⟩ := trod_V ht
      obtain ⟨_, _, hat⟩ := World.cells?_some hc
      have h0 := hat 0 (by omega)
      have h1 := hat 1 (by omega)
      have h2 := hat 2 (by omega)
      have h3 := hat 3 (by omega)
      have z : (a.add (i * 4)).add 0 = a.add (i * 4) := by simp [Addr.add]
      rw [z] at h0
      have h0' : W.cell? (a.add (i * 4)) = some (.int .i64 v.k) := h0
      refine ⟨v, ⟨h0', ?_, ?_, ?_⟩, hs, World.block_lt_of_cell? W _ h0', hw⟩
      · simpa [Addr.add] using h1
      · simpa [Addr.add] using h2
      · simpa [Addr.add] using h3
    obtain ⟨g, hg⟩ := choose_lt hex
    refine ⟨some a, len, cap, (List.range len).map g, rfl, by simp, by omega, (fun h => by cases h), ?_, ?_, ?_⟩
    · intro i v hi
      have hil : i < len := by
        have := (List.getElem?_eq_some_iff.1 hi).1
        simpa using this
      rw [List.getElem?_map, List.getElem?_range hil] at hi
      have hv : g i = v := by simpa using hi
      subst hv
      obtain ⟨h1, _, h3, _⟩ := hg i hil
      exact ⟨a, rfl, h3, h1⟩
    · intro i v hi
      have hil : i < len := by
        have := (List.getElem?_eq_some_iff.1 hi).1
        simpa using this
      rw [List.getElem?_map, List.getElem?_range hil] at hi
      have hv : g i = v := by simpa using hi
      subst hv
      exact (hg i hil).2.1
    · intro v hv
      obtain ⟨i, hi, rfl⟩ := List.mem_map.1 hv
      exact (hg i (by simpa using hi)).2.2.2

end

theorem readable_B (t : TypeId) (h : t ∈ [44, 2]) : Try.prog.readableRec t = true ∧ t < Try.prog.types.size := by
  simp only [List.mem_cons, List.not_mem_nil, or_false] at h
  rcases h with rfl | rfl <;> exact ⟨by kernel_rfl, of_decide_eq_true (by kernel_rfl)⟩
end Go.Proofs.Ytpliofhphijdkaa
