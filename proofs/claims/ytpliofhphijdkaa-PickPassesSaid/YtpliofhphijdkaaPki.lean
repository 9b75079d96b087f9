/-
  How arguments that are entries (texts no longer than they can be), conditions, and numbers read in memory.
  No condition.
-/
import Derived.Test.YtpliofhphijdkaaPkh
namespace Go.Proofs.Ytpliofhphijdkaa
open Go.ChangeShapes Go.WideShapes Go.ChangeAt Go.RowKit Go.Deep

theorem cells_intP : Try.prog.cellsOf 3 = 1 := by kernel_rfl
theorem fields_Cn : Try.prog.underlying 84 = some (.struct (Try.prog.fieldsOf 84)) := by kernel_rfl
theorem types_Cn : (Try.prog.fieldsOf 84).toList.map (fun f => (f.type, f.offset)) = [(3, 0), (3, 1), (3, 2), (52, 3)] := by kernel_rfl
theorem cells_Cn : Try.prog.cellsOf 84 = 7 := by kernel_rfl
section
variable {H : Type} {enc : TypeId × Value → H}

set_option maxRecDepth 10000 in
theorem trod_rowF {W : World} {base fuel : Nat} {v : List Value} {x : DataW H × List MemPlace} (hf : DataW.trod enc Try.prog W base (fun _ => true) true fuel 44 v = some x) :
    ∃ (A : Option Addr) (c : Nat) (xs : List V), v = [.slice A xs.length c] ∧ xs.length ≤ maxLen ∧ (A = none → c = 0) ∧ RowAt W W.heap.size A xs ∧ Fit xs := by
  rcases open_slice Try.underlying44 hf with ⟨hcs, _⟩ | ⟨a, len, cap, m, k, D, Pl, hcs, _, hl, hm, hmm, _, hel⟩
  · exact ⟨none, 0, [], hcs, Nat.zero_le _, fun _ => rfl, (fun i v hi => by simp at hi), fun i v hi => by simp at hi⟩
  · rw [cells_V] at hel
    have hex : ∀ i, i < len → ∃ v : V, At W (a.add (i * 4)) v ∧ (a.add (i * 4)).block < W.heap.size ∧ v.t.size ≤ maxLen := by
      intro i hi
      have him : i < m := by
        rw [hmm, if_pos rfl]
        omega
      obtain ⟨cs', hc, ht⟩ := hel i him
      obtain ⟨v, rfl, hs, hw⟩ := trod_V ht
      obtain ⟨_, _, hat⟩ := World.cells?_some hc
      have h0 := hat 0 (by omega)
      have h1 := hat 1 (by omega)
      have h2 := hat 2 (by omega)
      have h3 := hat 3 (by omega)
      have z : (a.add (i * 4)).add 0 = a.add (i * 4) := by simp [Addr.add]
      rw [z] at h0
      have h0' : W.cell? (a.add (i * 4)) = some (.int .i64 v.k) := h0
      refine ⟨v, ⟨h0', ?_, ?_, ?_⟩, World.block_lt_of_cell? W _ h0', hs⟩
      · simpa [Addr.add] using h1
      · simpa [Addr.add] using h2
      · simpa [Addr.add] using h3
    obtain ⟨g, hg⟩ := choose_lt hex
    refine ⟨some a, cap, (List.range len).map g, by simpa using hcs, by simp; omega, (fun h => by cases h), ?_, ?_⟩
    · intro i v hi
      have hil : i < len := by
        have := (List.getElem?_eq_some_iff.1 hi).1
        simpa using this
      rw [List.getElem?_map, List.getElem?_range hil] at hi
      have hv : g i = v := by simpa using hi
      subst hv
      exact ⟨a, rfl, (hg i hil).2.1, (hg i hil).1⟩
    · intro i v hi
      have hil : i < len := by
        have := (List.getElem?_eq_some_iff.1 hi).1
        simpa using this
      rw [List.getElem?_map, List.getElem?_range hil] at hi
      have hv : g i = v := by simpa using hi
      subst hv
      exact (hg i hil).2.2

set_option maxRecDepth 10000 in
theorem trod_EnF {w : World} {base fuel : Nat} {cs : List Value} {x : DataW H × List MemPlace} (h : DataW.trod enc Try.prog w base (fun _ => true) true fuel 46 cs = some x) :
    ∃ e : WE, cs = [e.v, .int .i64 e.many] ∧ WE.Ok w e ∧ Fit e.row := by
  obtain ⟨ys, n, _, _, hlen, hyl, hf⟩ := DataW.trod_struct fields_En h
  rw [cells_En] at hlen
  have hty := types_En
  have hone := hone_of one_En_fields
  generalize Try.prog.fieldsOf 46 = fs at *
  obtain ⟨l⟩ := fs
  have hll : l.length = 2 := by
    have := congrArg List.length hty
    simpa using this
  match l, hll, hty with
  | [f0, f1], _, hty =>
    simp only [List.map_cons, List.map_nil, List.cons.injEq, and_true] at hty
    obtain ⟨t0, t1⟩ := hty
    have hy2 : ys.length = 2 := hyl
    match cs, hlen, ys, hy2 with
    | [c0, c1], _, [y0, y1], _ =>
      have g : ∀ (i : Nat) (f : Field) (c : Value) (y : DataW H × List MemPlace), (#[f0, f1] : Array Field)[i]? = some f → [c0, c1][i]? = some c → [y0, y1][i]? = some y → DataW.trod enc Try.prog w base (fun _ => true) true n f.type [c] = some y := by
        intro i f c y h1 h2 h3
        have h4 := hf i f h1
        obtain ⟨ho, hc⟩ := hone i f h1
        rw [ho, hc, h3] at h4
        have h5 : (List.drop i [c0, c1]).take 1 = [c] := by
          match i, h2 with
          | 0, h2 => simpa using h2
          | 1, h2 => simpa using h2
          | k + 2, h2 => simp at h2
        rw [h5] at h4
        exact h4
      have g0 := g 0 f0 c0 y0 rfl rfl rfl
      have g1 := g 1 f1 c1 y1 rfl rfl rfl
      rw [t0] at g0
      rw [t1] at g1
      obtain ⟨A, c, xs, e0, hl, hn, hr, hft⟩ := trod_rowF g0
      obtain ⟨q, e1, _, hq⟩ := DataW.trod_int Try.underlying2 g1
      simp only [List.cons.injEq, and_true] at e0 e1
      subst e0 e1
      have hw := wide_wf (k := 0) (f := false) (t := ⟨#[]⟩) hq
      exact ⟨⟨A, c, xs, q⟩, rfl, ⟨hl, hn, hr, hw⟩, hft⟩

set_option maxRecDepth 10000 in
theorem open_entsF {W : World} {base : Nat} {v : Value} {d : DataW H} {p : List MemPlace} {r : Reach} {b0 : Nat} (h : DataW.Trod enc Try.prog W base (fun _ => true) true 22 v d p) (hok : Value.okWide Try.prog W r b0 22 v) :
    ∃ (A : Option Addr) (c : Nat) (es : List WE), v = .slice A es.length c ∧ es.length ≤ maxLen ∧ (A = none → c = 0) ∧ WeakE W A es ∧ ∀ e ∈ es, Fit e.row := by
  obtain ⟨a0, len, cap, rfl⟩ := okWide_slice Try.underlying22 hok
  obtain ⟨fuel, hf⟩ := h
  rcases open_slice Try.underlying22 hf with ⟨hcs, _⟩ | ⟨a, len', cap', m, k, D, Pl, hcs, _, hl, hm, hmm, _, hel⟩
  · simp [Value.cells] at hcs
    obtain ⟨rfl, rfl, rfl⟩ := hcs
    exact ⟨none, 0, [], rfl, Nat.zero_le _, fun _ => rfl, (fun i v hi => by simp at hi), fun e he => by simp at he⟩
  · simp [Value.cells] at hcs
    obtain ⟨rfl, rfl, rfl⟩ := hcs
    rw [cells_En] at hel
    have hex : ∀ i, i < len → ∃ z : WE, (WE.Ok W z ∧ Fit z.row) ∧ W.cell? (a.add (i * 2)) = some z.v ∧ W.cell? { block := (a.add (i * 2)).block, off := (a.add (i * 2)).off + 1 } = some (.int .i64 z.many) ∧ (a.add (i * 2)).block < W.heap.size := by
      intro i hi
      have him : i < m := by
        rw [hmm, if_pos rfl]
        omega
      obtain ⟨cs', hc, ht⟩ := hel i him
      obtain ⟨z, rfl, hz⟩ := trod_EnF ht
      obtain ⟨_, _, hat⟩ := World.cells?_some hc
      have h0 := hat 0 (by omega)
      have h1 := hat 1 (by omega)
      have e : (a.add (i * 2)).add 0 = a.add (i * 2) := by simp [Addr.add]
      rw [e] at h0
      have h0' : W.cell? (a.add (i * 2)) = some z.v := h0
      exact ⟨z, hz, h0', by simpa [Addr.add] using h1, World.block_lt_of_cell? W _ h0'⟩
    obtain ⟨g, hg⟩ := choose_lt hex
    refine ⟨some a, cap, (List.range len).map g, by simp, by simp; omega, (fun h => by cases h), ?_, ?_⟩
    · intro i v hi
      have hil : i < len := by
        have := (List.getElem?_eq_some_iff.1 hi).1
        simpa using this
      rw [List.getElem?_map, List.getElem?_range hil] at hi
      have hv : g i = v := by simpa using hi
      subst hv
      exact ⟨(hg i hil).1.1, a, rfl, (hg i hil).2.2.2, (hg i hil).2.1, (hg i hil).2.2.1⟩
    · intro e he
      obtain ⟨i, hi, rfl⟩ := List.mem_map.1 he
      exact (hg i (by simpa using hi)).1.2

set_option maxRecDepth 10000 in
theorem trod_Cn {w : World} {base fuel : Nat} {cs : List Value} {x : DataW H × List MemPlace} (h : DataW.trod enc Try.prog w base (fun _ => true) true fuel 84 cs = some x) :
    ∃ c : Cn, cs = c.cells ∧ c.v.t.size ≤ maxLen := by
  obtain ⟨ys, n, _, _, hlen, hyl, hf⟩ := DataW.trod_struct fields_Cn h
  rw [cells_Cn] at hlen
  have hty := types_Cn
  generalize Try.prog.fieldsOf 84 = fs at *
  obtain ⟨l⟩ := fs
  have hll : l.length = 4 := by
    have := congrArg List.length hty
    simpa using this
  match l, hll, hty with
  | [f0, f1, f2, f3], _, hty =>
    simp only [List.map_cons, List.map_nil, List.cons.injEq, and_true, Prod.mk.injEq] at hty
    obtain ⟨⟨t0, p0⟩, ⟨t1, p1⟩, ⟨t2, p2⟩, ⟨t3, p3⟩⟩ := hty
    have hy4 : ys.length = 4 := hyl
    match cs, hlen, ys, hy4 with
    | [c0, c1, c2, c3, c4, c5, c6], _, [y0, y1, y2, y3], _ =>
      have g0 := hf 0 f0 rfl
      have g1 := hf 1 f1 rfl
      have g2 := hf 2 f2 rfl
      have g3 := hf 3 f3 rfl
      rw [t0, p0, cells_intP] at g0
      rw [t1, p1, cells_intP] at g1
      rw [t2, p2, cells_intP] at g2
      rw [t3, p3, cells_V] at g3
      obtain ⟨z0, e0, _⟩ := DataW.trod_int Try.underlying3 g0
      obtain ⟨z1, e1, _⟩ := DataW.trod_int Try.underlying3 g1
      obtain ⟨z2, e2, _⟩ := DataW.trod_int Try.underlying3 g2
      obtain ⟨v, e3, hs, _⟩ := trod_V g3
      simp only [List.drop_zero, List.take_succ_cons, List.take_zero, List.cons.injEq, and_true, List.drop_succ_cons] at e0 e1 e2 e3
      subst e0 e1 e2
      obtain ⟨rfl, rfl, rfl, rfl⟩ := e3
      exact ⟨⟨z0, z1, z2, v⟩, rfl, hs⟩

set_option maxRecDepth 10000 in
theorem open_conds {W : World} {base : Nat} {v : Value} {d : DataW H} {p : List MemPlace} {r : Reach} {b0 : Nat} (h : DataW.Trod enc Try.prog W base (fun _ => true) true 23 v d p) (hok : Value.okWide Try.prog W r b0 23 v) :
    ∃ (A : Option Addr) (c : Nat) (cs : List Cn), v = .slice A cs.length c ∧ cs.length ≤ maxLen ∧ CnsAt W A cs := by
  obtain ⟨a0, len, cap, rfl⟩ := okWide_slice Try.underlying23 hok
  obtain ⟨fuel, hf⟩ := h
  rcases open_slice Try.underlying23 hf with ⟨hcs, _⟩ | ⟨a, len', cap', m, k, D, Pl, hcs, _, hl, hm, hmm, _, hel⟩
  · simp [Value.cells] at hcs
    obtain ⟨rfl, rfl, rfl⟩ := hcs
    exact ⟨none, 0, [], rfl, Nat.zero_le _, fun i v hi => by simp at hi⟩
  · simp [Value.cells] at hcs
    obtain ⟨rfl, rfl, rfl⟩ := hcs
    rw [cells_Cn] at hel
    have hex : ∀ i, i < len → ∃ z : Cn, (CnAt W (a.add (i * 7)) z ∧ z.v.t.size ≤ maxLen) ∧ (a.add (i * 7)).block < W.heap.size := by
      intro i hi
      have him : i < m := by
        rw [hmm, if_pos rfl]
        omega
      obtain ⟨cs', hc, ht⟩ := hel i him
      obtain ⟨z, rfl, hz⟩ := trod_Cn ht
      obtain ⟨_, _, hat⟩ := World.cells?_some hc
      have h0 := hat 0 (by omega)
      have h1 := hat 1 (by omega)
      have h2 := hat 2 (by omega)
      have h3 := hat 3 (by omega)
      have h4 := hat 4 (by omega)
      have h5 := hat 5 (by omega)
      have h6 := hat 6 (by omega)
      have e : (a.add (i * 7)).add 0 = a.add (i * 7) := by simp [Addr.add]
      rw [e] at h0
      have h0' : W.cell? (a.add (i * 7)) = some (.int .i64 z.l) := h0
      exact ⟨z, ⟨⟨h0', by simpa [Addr.add, Cn.cells] using h1, by simpa [Addr.add, Cn.cells] using h2, by simpa [Addr.add, Cn.cells] using h3, by simpa [Addr.add, Cn.cells] using h4, by simpa [Addr.add, Cn.cells] using h5, by simpa [Addr.add, Cn.cells] using h6⟩, hz⟩, World.block_lt_of_cell? W _ h0'⟩
    obtain ⟨g, hg⟩ := choose_lt hex
    refine ⟨some a, cap, (List.range len).map g, by simp, by simp; omega, ?_⟩
    intro i v hi
    have hil : i < len := by
      have := (List.getElem?_eq_some_iff.1 hi).1
      simpa using this
    rw [List.getElem?_map, List.getElem?_range hil] at hi
    have hv : g i = v := by simpa using hi
    subst hv
    exact ⟨a, rfl, (hg i hil).2, (hg i hil).1.1, (hg i hil).1.2⟩

set_option maxRecDepth 10000 in
theorem open_intsP {W : World} {base : Nat} {v : Value} {d : DataW H} {p : List MemPlace} {r : Reach} {b0 : Nat} (h : DataW.Trod enc Try.prog W base (fun _ => true) true 24 v d p) (hok : Value.okWide Try.prog W r b0 24 v) :
    ∃ (A : Option Addr) (n c : Nat) (zs : List Int), v = .slice A n c ∧ n = zs.length ∧ n ≤ maxLen ∧ IntsAt W W.heap.size A zs := by
  obtain ⟨a0, len, cap, rfl⟩ := okWide_slice Try.underlying24 hok
  obtain ⟨fuel, hf⟩ := h
  rcases open_slice Try.underlying24 hf with ⟨hcs, _⟩ | ⟨a, len', cap', m, k, D, Pl, hcs, _, hl, hm, hmm, _, hel⟩
  · simp [Value.cells] at hcs
    obtain ⟨rfl, rfl, rfl⟩ := hcs
    exact ⟨none, 0, 0, [], rfl, rfl, Nat.zero_le _, fun i v hi => by simp at hi⟩
  · simp [Value.cells] at hcs
    obtain ⟨rfl, rfl, rfl⟩ := hcs
    rw [cells_intP] at hel
    have hex : ∀ i, i < len → ∃ z : Int, W.cell? (a.add i) = some (.int .i64 z) ∧ (a.add i).block < W.heap.size := by
      intro i hi
      have him : i < m := by
        rw [hmm, if_pos rfl]
        omega
      obtain ⟨cs', hc, ht⟩ := hel i him
      obtain ⟨z, rfl, _⟩ := DataW.trod_int Try.underlying3 ht
      obtain ⟨_, _, hat⟩ := World.cells?_some hc
      have h0 := hat 0 (by omega)
      have e : (a.add (i * 1)).add 0 = a.add i := by simp [Addr.add]
      rw [e] at h0
      have h0' : W.cell? (a.add i) = some (.int .i64 z) := h0
      exact ⟨z, h0', World.block_lt_of_cell? W _ h0'⟩
    obtain ⟨g, hg⟩ := choose_lt hex
    refine ⟨some a, len, cap, (List.range len).map g, rfl, by simp, by omega, ?_⟩
    intro i v hi
    have hil : i < len := by
      have := (List.getElem?_eq_some_iff.1 hi).1
      simpa using this
    rw [List.getElem?_map, List.getElem?_range hil] at hi
    have hv : g i = v := by simpa using hi
    subst hv
    exact ⟨a, rfl, (hg i hil).2, (hg i hil).1⟩
end
theorem readable_K (t : TypeId) (h : t ∈ [22, 23, 24]) : Try.prog.readableRec t = true ∧ t < Try.prog.types.size := by
  simp only [List.mem_cons, List.not_mem_nil, or_false] at h
  rcases h with rfl | rfl | rfl <;> exact ⟨by kernel_rfl, of_decide_eq_true (by kernel_rfl)⟩
end Go.Proofs.Ytpliofhphijdkaa
