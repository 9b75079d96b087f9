/-
  How an argument that is an object, or a list of acts with objects, reads in memory.
  No condition.
-/
import Derived.Test.YtmiagdmfgebfdaaBopen
namespace Go.Proofs.Ytmiagdmfgebfdaa
open Go.ChangeShapes Go.WideShapes Go.ChangeAt Go.RowKit Go.Deep

theorem fields_Ob : Try.prog.underlying 36 = some (.struct (Try.prog.fieldsOf 36)) := by kernel_rfl
theorem one_Ob_fields : oneCellFields Try.prog (Try.prog.fieldsOf 36) = true := by kernel_rfl
theorem types_Ob : (Try.prog.fieldsOf 36).toList.map (·.type) = [9, 9, 9, 2, 34] := by kernel_rfl
theorem cells_Ob : Try.prog.cellsOf 36 = 5 := by kernel_rfl
/-- An object as it was given. -/
structure WO where
  k : ByteArray
  s : ByteArray
  n : ByteArray
  v : Int
  at' : Option Addr
  cap : Nat
  row : List V
instance : Inhabited WO := ⟨⟨⟨#[]⟩, ⟨#[]⟩, ⟨#[]⟩, 0, none, 0, []⟩⟩
def WO.cells (o : WO) : List Value := [.string o.k, .string o.s, .string o.n, .int .i64 o.v, .slice o.at' o.row.length o.cap]
def WO.Ok (w : World) (o : WO) : Prop := o.k.size ≤ maxLen ∧ o.s.size ≤ maxLen ∧ o.n.size ≤ maxLen ∧ o.row.length ≤ maxLen ∧ (o.at' = none → o.cap = 0) ∧ RowAt w w.heap.size o.at' o.row ∧ (-9223372036854775808 ≤ o.v ∧ o.v ≤ 9223372036854775807)

section
variable {H : Type} {enc : TypeId × Value → H}

set_option maxRecDepth 10000 in
theorem trod_row8 {W : World} {base fuel : Nat} {v : List Value} {x : DataW H × List MemPlace} (hf : DataW.trod enc Try.prog W base (fun _ => true) true fuel 34 v = some x) :
    ∃ (A : Option Addr) (c : Nat) (xs : List V), v = [.slice A xs.length c] ∧ xs.length ≤ maxLen ∧ (A = none → c = 0) ∧ RowAt W W.heap.size A xs := by
  rcases open_slice Try.underlying34 hf with ⟨hcs, _⟩ | ⟨a, len, cap, m, k, D, Pl, hcs, _, hl, hm, hmm, _, hel⟩
  · exact ⟨none, 0, [], hcs, Nat.zero_le _, fun _ => rfl, fun i v hi => by simp at hi⟩
  · rw [cells_V] at hel
    have hex : ∀ i, i < len → ∃ v : V, At W (a.add (i * 4)) v ∧ (a.add (i * 4)).block < W.heap.size := by
      intro i hi
      have him : i < m := by
        rw [hmm, if_pos rfl]
        omega
      obtain ⟨cs', hc, ht⟩ := hel i him
      obtain ⟨v, rfl, hs, hw⟩ := trod_V ht
      obtain ⟨_, _, hat⟩ := World.cells?_some hc
      have h0 := hat 0 (by omega)
      have h1 := hat 1 (by omega)
      have h2 := hat 2 (by omega)
      have h3 := hat 3 (by omega)
      have z : (a.add (i * 4)).add 0 = a.add (i * 4) := by simp [Addr.add]
      rw [z] at h0
      have h0' : W.cell? (a.add (i * 4)) = some (.int .i64 v.k) := h0
      refine ⟨v, ⟨h0', ?_, ?_, ?_⟩, World.block_lt_of_cell? W _ h0'⟩
      · simpa [Addr.add] using h1
      · simpa [Addr.add] using h2
      · simpa [Addr.add] using h3
    obtain ⟨g, hg⟩ := choose_lt hex
    refine ⟨some a, cap, (List.range len).map g, by simpa using hcs, by simp; omega, (fun h => by cases h), ?_⟩
    intro i v hi
    have hil : i < len := by
      have := (List.getElem?_eq_some_iff.1 hi).1
      simpa using this
    rw [List.getElem?_map, List.getElem?_range hil] at hi
    have hv : g i = v := by simpa using hi
    subst hv
    exact ⟨a, rfl, (hg i hil).2, (hg i hil).1⟩


set_option maxRecDepth 10000 in
theorem trod_Ob {w : World} {base fuel : Nat} {cs : List Value} {x : DataW H × List MemPlace} (h : DataW.trod enc Try.prog w base (fun _ => true) true fuel 36 cs = some x) :
    ∃ o : WO, cs = o.cells ∧ WO.Ok w o := by
  obtain ⟨ys, n, _, _, hlen, hyl, hf⟩ := DataW.trod_struct fields_Ob h
  rw [cells_Ob] at hlen
  have hty := types_Ob
  have hone := hone_of one_Ob_fields
  generalize Try.prog.fieldsOf 36 = fs at *
  obtain ⟨l⟩ := fs
  have hll : l.length = 5 := by
    have := congrArg List.length hty
    simpa using this
  match l, hll, hty with
  | [f0, f1, f2, f3, f4], _, hty =>
    simp only [List.map_cons, List.map_nil, List.cons.injEq, and_true] at hty
    obtain ⟨t0, t1, t2, t3, t4⟩ := hty
    have hy2 : ys.length = 5 := hyl
    match cs, hlen, ys, hy2 with
    | [c0, c1, c2, c3, c4], _, [y0, y1, y2, y3, y4], _ =>
      have g : ∀ (i : Nat) (f : Field) (c : Value) (y : DataW H × List MemPlace), (#[f0, f1, f2, f3, f4] : Array Field)[i]? = some f → [c0, c1, c2, c3, c4][i]? = some c → [y0, y1, y2, y3, y4][i]? = some y → DataW.trod enc Try.prog w base (fun _ => true) true n f.type [c] = some y := by
        intro i f c y h1 h2 h3
        have h4 := hf i f h1
        obtain ⟨ho, hc⟩ := hone i f h1
        rw [ho, hc, h3] at h4
        have h5 : (List.drop i [c0, c1, c2, c3, c4]).take 1 = [c] := by
          match i, h2 with
          | 0, h2 => simpa using h2
          | 1, h2 => simpa using h2
          | 2, h2 => simpa using h2
          | 3, h2 => simpa using h2
          | 4, h2 => simpa using h2
          | k + 5, h2 => simp at h2
        rw [h5] at h4
        exact h4
      have g0 := g 0 f0 c0 y0 rfl rfl rfl
      have g1 := g 1 f1 c1 y1 rfl rfl rfl
      have g2 := g 2 f2 c2 y2 rfl rfl rfl
      have g3 := g 3 f3 c3 y3 rfl rfl rfl
      have g4 := g 4 f4 c4 y4 rfl rfl rfl
      rw [t0] at g0
      rw [t1] at g1
      rw [t2] at g2
      rw [t3] at g3
      rw [t4] at g4
      obtain ⟨s0, e0, _, z0⟩ := DataW.trod_string Try.underlying9 g0
      obtain ⟨s1, e1, _, z1⟩ := DataW.trod_string Try.underlying9 g1
      obtain ⟨s2, e2, _, z2⟩ := DataW.trod_string Try.underlying9 g2
      obtain ⟨q, e3, _, hq⟩ := DataW.trod_int Try.underlying2 g3
      obtain ⟨A, c, xs, e4, hl, hn, hr⟩ := trod_row8 g4
      simp only [List.cons.injEq, and_true] at e0 e1 e2 e3 e4
      subst e0 e1 e2 e3 e4
      have hw := wide_wf (k := 0) (f := false) (t := ⟨#[]⟩) hq
      exact ⟨⟨s0, s1, s2, q, A, c, xs⟩, rfl, z0, z1, z2, hl, hn, hr, hw⟩
set_option maxRecDepth 100000 in
theorem open_Ob {W : World} {base : Nat} {v : Value} {d : DataW H} {p : List MemPlace} {r : Reach} {b0 : Nat} (h : DataW.Trod enc Try.prog W base (fun _ => true) true 36 v d p) (hok : Value.okWide Try.prog W r b0 36 v) :
    ∃ o : WO, v = .agg #[.string o.k, .string o.s, .string o.n, .int .i64 o.v, .slice o.at' o.row.length o.cap] ∧ WO.Ok W o := by
  obtain ⟨cs, rfl, hsz⟩ := okWide_struct fields_Ob hok
  obtain ⟨fuel, hf⟩ := h
  obtain ⟨u, hu, hs⟩ := trod_Ob hf
  obtain ⟨l⟩ := cs
  refine ⟨u, ?_, hs⟩
  have hl : l = u.cells := by simpa [Value.cells] using hu
  subst hl
  rfl
end
theorem readable_Ob (t : TypeId) (h : t ∈ [36, 9]) : Try.prog.readableRec t = true ∧ t < Try.prog.types.size := by
  simp only [List.mem_cons, List.not_mem_nil, or_false] at h
  rcases h with rfl | rfl <;> exact ⟨by kernel_rfl, of_decide_eq_true (by kernel_rfl)⟩
end Go.Proofs.Ytmiagdmfgebfdaa
