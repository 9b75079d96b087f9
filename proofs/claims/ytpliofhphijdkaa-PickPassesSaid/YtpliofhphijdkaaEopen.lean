/-
  How an argument that is a list of rows, each so many times, reads in memory: two cells an entry; a row is four cells a value. What law05's few answers of it.
  No condition.
-/
import Derived.Test.YtpliofhphijdkaaBopen
import Derived.Test.YtpliofhphijdkaaRadd
import Derived.Test.YtpliofhphijdkaaBrows
namespace Go.Proofs.Ytpliofhphijdkaa
open Go.ChangeShapes Go.WideShapes Go.ChangeAt Go.RowKit Go.Deep

theorem fields_En : Try.prog.underlying 46 = some (.struct (Try.prog.fieldsOf 46)) := by kernel_rfl
theorem one_En_fields : oneCellFields Try.prog (Try.prog.fieldsOf 46) = true := by kernel_rfl
theorem types_En : (Try.prog.fieldsOf 46).toList.map (·.type) = [44, 2] := by kernel_rfl
theorem cells_En : Try.prog.cellsOf 46 = 2 := by kernel_rfl

/-- An entry as it was given: where its row lies, of which capacity, the row, how often. -/
structure WE where
  at' : Option Addr
  cap : Nat
  row : List V
  many : Int
instance : Inhabited WE := ⟨⟨none, 0, [], 0⟩⟩
def WE.v (e : WE) : Value := .slice e.at' e.row.length e.cap
/-- What a given entry can be. -/
def WE.Ok (w : World) (e : WE) : Prop := e.row.length ≤ maxLen ∧ (e.at' = none → e.cap = 0) ∧ RowAt w w.heap.size e.at' e.row ∧ (-9223372036854775808 ≤ e.many ∧ e.many ≤ 9223372036854775807)
/-- Given entries, as they lie. -/
def WeakE (w : World) (A : Option Addr) (es : List WE) : Prop := ∀ (i : Nat) (e : WE), es[i]? = some e → WE.Ok w e ∧ ∃ a : Addr, A = some a ∧ (a.add (i * 2)).block < w.heap.size ∧ w.cell? (a.add (i * 2)) = some e.v ∧ w.cell? { block := (a.add (i * 2)).block, off := (a.add (i * 2)).off + 1 } = some (.int .i64 e.many)

section
variable {H : Type} {enc : TypeId × Value → H}

set_option maxRecDepth 10000 in
theorem trod_row {W : World} {base fuel : Nat} {v : List Value} {x : DataW H × List MemPlace} (hf : DataW.trod enc Try.prog W base (fun _ => true) true fuel 44 v = some x) :
    ∃ (A : Option Addr) (c : Nat) (xs : List V), v = [.slice A xs.length c] ∧ xs.length ≤ maxLen ∧ (A = none → c = 0) ∧ RowAt W W.heap.size A xs := by
  rcases open_slice Try.underlying44 hf with ⟨hcs, _⟩ | ⟨a, len, cap, m, k, D, Pl, hcs, _, hl, hm, hmm, _, hel⟩
  · exact ⟨none, 0, [], hcs, Nat.zero_le _, fun _ => rfl, fun i v hi => by simp at hi⟩
  · rw [cells_V] at hel
    have hex : ∀ i, i < len → ∃ v : V, At W (a.add (i * 4)) v ∧ (a.add (i * 4)).block < W.heap.size := by
      intro i hi
      have him : i < m := by
        rw [hmm, if_pos rfl]
        omega
      obtain ⟨cs', hc, ht⟩ := hel i him
      obtain ⟨v, rfl, hs, hw⟩ := trod_V ht
      obtain ⟨_, _, hat⟩ := World.cells?_some hc
      have h0 := hat 0 (by omega)
      have h1 := hat 1 (by omega)
      have h2 := hat 2 (by omega)
      have h3 := hat 3 (by omega)
      have z : (a.add (i * 4)).add 0 = a.add (i * 4) := by simp [Addr.add]
      rw [z] at h0
      have h0' : W.cell? (a.add (i * 4)) = some (.int .i64 v.k) := h0
      refine ⟨v, ⟨h0', ?_, ?_, ?_⟩, World.block_lt_of_cell? W _ h0'⟩
      · simpa [Addr.add] using h1
      · simpa [Addr.add] using h2
      · simpa [Addr.add] using h3
    obtain ⟨g, hg⟩ := choose_lt hex
    refine ⟨some a, cap, (List.range len).map g, by simpa using hcs, by simp; omega, (fun h => by cases h), ?_⟩
    intro i v hi
    have hil : i < len := by
      have := (List.getElem?_eq_some_iff.1 hi).1
      simpa using this
    rw [List.getElem?_map, List.getElem?_range hil] at hi
    have hv : g i = v := by simpa using hi
    subst hv
    exact ⟨a, rfl, (hg i hil).2, (hg i hil).1⟩

set_option maxRecDepth 10000 in
theorem trod_En {w : World} {base fuel : Nat} {cs : List Value} {x : DataW H × List MemPlace} (h : DataW.trod enc Try.prog w base (fun _ => true) true fuel 46 cs = some x) :
    ∃ e : WE, cs = [e.v, .int .i64 e.many] ∧ WE.Ok w e := by
  obtain ⟨ys, n, _, _, hlen, hyl, hf⟩ := DataW.trod_struct fields_En h
  rw [cells_En] at hlen
  have hty := types_En
  have hone := hone_of one_En_fields
  generalize Try.prog.fieldsOf 46 = fs at *
  obtain ⟨l⟩ := fs
  have hll : l.length = 2 := by
    have := congrArg List.length hty
    simpa using this
  match l, hll, hty with
  | [f0, f1], _, hty =>
    simp only [List.map_cons, List.map_nil, List.cons.injEq, and_true] at hty
    obtain ⟨t0, t1⟩ := hty
    have hy2 : ys.length = 2 := hyl
    match cs, hlen, ys, hy2 with
    | [c0, c1], _, [y0, y1], _ =>
      have g : ∀ (i : Nat) (f : Field) (c : Value) (y : DataW H × List MemPlace), (#[f0, f1] : Array Field)[i]? = some f → [c0, c1][i]? = some c → [y0, y1][i]? = some y → DataW.trod enc Try.prog w base (fun _ => true) true n f.type [c] = some y := by
        intro i f c y h1 h2 h3
        have h4 := hf i f h1
        obtain ⟨ho, hc⟩ := hone i f h1
        rw [ho, hc, h3] at h4
        have h5 : (List.drop i [c0, c1]).take 1 = [c] := by
          match i, h2 with
          | 0, h2 => simpa using h2
          | 1, h2 => simpa using h2
          | k + 2, h2 => simp at h2
        rw [h5] at h4
        exact h4
      have g0 := g 0 f0 c0 y0 rfl rfl rfl
      have g1 := g 1 f1 c1 y1 rfl rfl rfl
      rw [t0] at g0
      rw [t1] at g1
      obtain ⟨A, c, xs, e0, hl, hn, hr⟩ := trod_row g0
      obtain ⟨q, e1, _, hq⟩ := DataW.trod_int Try.underlying2 g1
      simp only [List.cons.injEq, and_true] at e0 e1
      subst e0 e1
      have hw := wide_wf (k := 0) (f := false) (t := ⟨#[]⟩) hq
      exact ⟨⟨A, c, xs, q⟩, rfl, hl, hn, hr, hw⟩

set_option maxRecDepth 10000 in
theorem open_ents {W : World} {base : Nat} {v : Value} {d : DataW H} {p : List MemPlace} {r : Reach} {b0 : Nat} (h : DataW.Trod enc Try.prog W base (fun _ => true) true 22 v d p) (hok : Value.okWide Try.prog W r b0 22 v) :
    ∃ (A : Option Addr) (c : Nat) (es : List WE), v = .slice A es.length c ∧ es.length ≤ maxLen ∧ (A = none → c = 0) ∧ WeakE W A es := by
  obtain ⟨a0, len, cap, rfl⟩ := okWide_slice Try.underlying22 hok
  obtain ⟨fuel, hf⟩ := h
  rcases open_slice Try.underlying22 hf with ⟨hcs, _⟩ | ⟨a, len', cap', m, k, D, Pl, hcs, _, hl, hm, hmm, _, hel⟩
  · simp [Value.cells] at hcs
    obtain ⟨rfl, rfl, rfl⟩ := hcs
    exact ⟨none, 0, [], rfl, Nat.zero_le _, fun _ => rfl, fun i v hi => by simp at hi⟩
  · simp [Value.cells] at hcs
    obtain ⟨rfl, rfl, rfl⟩ := hcs
    rw [cells_En] at hel
    have hex : ∀ i, i < len → ∃ z : WE, WE.Ok W z ∧ W.cell? (a.add (i * 2)) = some z.v ∧ W.cell? { block := (a.add (i * 2)).block, off := (a.add (i * 2)).off + 1 } = some (.int .i64 z.many) ∧ (a.add (i * 2)).block < W.heap.size := by
      intro i hi
      have him : i < m := by
        rw [hmm, if_pos rfl]
        omega
      obtain ⟨cs', hc, ht⟩ := hel i him
      obtain ⟨z, rfl, hz⟩ := trod_En ht
      obtain ⟨_, _, hat⟩ := World.cells?_some hc
      have h0 := hat 0 (by omega)
      have h1 := hat 1 (by omega)
      have e : (a.add (i * 2)).add 0 = a.add (i * 2) := by simp [Addr.add]
      rw [e] at h0
      have h0' : W.cell? (a.add (i * 2)) = some z.v := h0
      exact ⟨z, hz, h0', by simpa [Addr.add] using h1, World.block_lt_of_cell? W _ h0'⟩
    obtain ⟨g, hg⟩ := choose_lt hex
    refine ⟨some a, cap, (List.range len).map g, by simp, by simp; omega, (fun h => by cases h), ?_⟩
    intro i v hi
    have hil : i < len := by
      have := (List.getElem?_eq_some_iff.1 hi).1
      simpa using this
    rw [List.getElem?_map, List.getElem?_range hil] at hi
    have hv : g i = v := by simpa using hi
    subst hv
    exact ⟨(hg i hil).1, a, rfl, (hg i hil).2.2.2, (hg i hil).2.1, (hg i hil).2.2.1⟩
end

/-- Few entries, of short rows. -/
def fewW (es : List WE) : Bool := decide (es.length ≤ 120) && es.all fun e => decide (e.row.length ≤ 50)
def ents (es : List WE) : List En := es.map fun e => (e.row, e.many)
theorem ents_len (es : List WE) : (ents es).length = es.length := by simp [ents]

theorem add_odd (a : Addr) (k : Nat) : a.add (k * 2 + 1) = { block := (a.add (k * 2)).block, off := (a.add (k * 2)).off + 1 } := by
  unfold Addr.add
  by_cases h : k * 2 = 0
  · simp [h]
  · simp [h, Nat.add_assoc]
theorem WeakE.ents {w : World} {A : Option Addr} {es : List WE} (h : WeakE w A es) (hs : ∀ e ∈ es, e.row.length ≤ 50) : EntsQ w (fun k => k < w.heap.size) A (ents es) := by
  have h1 : ∀ e ∈ es, WE.Ok w e := by
    intro e he
    obtain ⟨i, hi⟩ := List.mem_iff_getElem?.1 he
    exact (h i e hi).1
  refine ⟨es.map fun e => (e.v, e.many), ?_, ?_⟩
  · clear h
    induction es with
    | nil => trivial
    | cons e es ih =>
      have ho := h1 e (by simp)
      have hl := hs e (by simp)
      exact ⟨rfl, ⟨Nat.le_trans hl (by decide), e.at', e.cap, rfl, ho.2.1, RowQ.of ho.2.2.1 fun k hk => hk⟩, ih (fun e he => hs e (by simp [he])) fun e he => h1 e (by simp [he])⟩
  · intro j u hj
    have hj2 : j / 2 < es.length := by
      have h2 := (List.getElem?_eq_some_iff.1 hj).1
      rw [flatE_len, List.length_map] at h2
      omega
    have he := List.getElem?_eq_getElem hj2
    obtain ⟨_, a, ha, hb, hc0, hc1⟩ := h _ _ he
    obtain ⟨f0, f1⟩ := flatE_at (es.map fun e => (e.v, e.many)) (j / 2) _ (by rw [List.getElem?_map, he]; rfl)
    refine ⟨a, ha, ?_⟩
    rcases Nat.mod_two_eq_zero_or_one j with hm | hm
    · have e : j = j / 2 * 2 := by omega
      rw [← e] at f0 hb hc0
      have hu : u = es[j / 2].v := by
        rw [f0] at hj
        injection hj with hj
        exact hj.symm
      subst hu
      exact ⟨hb, hc0⟩
    · have e : j = j / 2 * 2 + 1 := by omega
      have e2 : a.add j = { block := (a.add (j / 2 * 2)).block, off := (a.add (j / 2 * 2)).off + 1 } := (congrArg a.add e).trans (add_odd a (j / 2))
      rw [← e] at f1
      have hu : u = .int .i64 es[j / 2].many := by
        rw [f1] at hj
        injection hj with hj
        exact hj.symm
      subst hu
      rw [e2]
      exact ⟨hb, hc1⟩
theorem fewW_iff (es : List WE) : fewW es = true ↔ es.length ≤ 120 ∧ ∀ e ∈ es, e.row.length ≤ 50 := by
  simp [fewW]

theorem readable_E (t : TypeId) (h : t ∈ [22, 44, 2]) : Try.prog.readableRec t = true ∧ t < Try.prog.types.size := by
  simp only [List.mem_cons, List.not_mem_nil, or_false] at h
  rcases h with rfl | rfl | rfl <;> exact ⟨by kernel_rfl, of_decide_eq_true (by kernel_rfl)⟩
end Go.Proofs.Ytpliofhphijdkaa
