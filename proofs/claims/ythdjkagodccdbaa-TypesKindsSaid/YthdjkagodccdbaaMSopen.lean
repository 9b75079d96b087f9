/-
  How an argument that is a list of kinds, and one that is a row of values, reads in memory; what law07's few answers of it.
  No condition.
-/
import Derived.Test.YthdjkagodccdbaaM33
import Derived.Test.YthdjkagodccdbaaM44
namespace Go.Proofs.Ythdjkagodccdbaa
open Go.ChangeShapes Go.WideShapes Go.ChangeAt Go.RowKit Go.Deep

theorem fields_Co : Try.prog.underlying 49 = some (.struct (Try.prog.fieldsOf 49)) := by kernel_rfl
theorem one_Co_fields : oneCellFields Try.prog (Try.prog.fieldsOf 49) = true := by kernel_rfl
theorem types_Co : (Try.prog.fieldsOf 49).toList.map (·.type) = [9, 3, 4] := by kernel_rfl
theorem cells_Co : Try.prog.cellsOf 49 = 3 := by kernel_rfl
theorem fields_Sc : Try.prog.underlying 71 = some (.struct (Try.prog.fieldsOf 71)) := by kernel_rfl
theorem one_Sc_fields : oneCellFields Try.prog (Try.prog.fieldsOf 71) = true := by kernel_rfl
theorem types_Sc : (Try.prog.fieldsOf 71).toList.map (·.type) = [9, 35] := by kernel_rfl
theorem cells_Sc : Try.prog.cellsOf 71 = 2 := by kernel_rfl
theorem choose_lt' {α : Type} [Inhabited α] {n : Nat} {p : Nat → α → Prop} (h : ∀ i, i < n → ∃ x, p i x) : ∃ g : Nat → α, ∀ i, i < n → p i (g i) := by
  refine ⟨fun i => if hi : i < n then Classical.choose (h i hi) else default, fun i hi => ?_⟩
  simp only [dif_pos hi]
  exact Classical.choose_spec (h i hi)
instance : Inhabited Co := ⟨⟨⟨#[]⟩, 0, false⟩⟩
instance : Inhabited V := ⟨⟨0, false, 0, ⟨#[]⟩⟩⟩

/-- A kind as it was given: where its columns lie, of which capacity. -/
structure WS where
  nm : ByteArray
  at' : Option Addr
  cap : Nat
  cols : List Co
instance : Inhabited WS := ⟨⟨⟨#[]⟩, none, 0, []⟩⟩
def WS.v (e : WS) : Value := .slice e.at' e.cols.length e.cap
def ColsAt (w : World) (A : Option Addr) (cs : List Co) : Prop := CellsQ w (fun k => k < w.heap.size) A (flatC cs)
def WS.Ok (w : World) (e : WS) : Prop := e.cols.length ≤ maxLen ∧ (e.at' = none → e.cap = 0) ∧ e.cols.length ≤ e.cap ∧ ColsAt w e.at' e.cols
def WeakS (w : World) (A : Option Addr) (es : List WS) : Prop := ∀ (i : Nat) (e : WS), es[i]? = some e → WS.Ok w e ∧ ∃ a : Addr, A = some a ∧ (a.add (i * 2)).block < w.heap.size ∧ w.cell? (a.add (i * 2)) = some (.string e.nm) ∧ w.cell? { block := (a.add (i * 2)).block, off := (a.add (i * 2)).off + 1 } = some e.v

section
variable {H : Type} {enc : TypeId × Value → H}

set_option maxRecDepth 10000 in
theorem trod_Co {w : World} {base fuel : Nat} {cs : List Value} {x : DataW H × List MemPlace} (h : DataW.trod enc Try.prog w base (fun _ => true) true fuel 49 cs = some x) : ∃ c : Co, cs = c.cells := by
  obtain ⟨ys, n, _, _, hlen, hyl, hf⟩ := DataW.trod_struct fields_Co h
  rw [cells_Co] at hlen
  have hty := types_Co
  have hone := hone_of one_Co_fields
  generalize Try.prog.fieldsOf 49 = fs at *
  obtain ⟨l⟩ := fs
  have hll : l.length = 3 := by
    have := congrArg List.length hty
    simpa using this
  match l, hll, hty with
  | [f0, f1, f2], _, hty =>
    simp only [List.map_cons, List.map_nil, List.cons.injEq, and_true] at hty
    obtain ⟨t0, t1, t2⟩ := hty
    have hy3 : ys.length = 3 := hyl
    match cs, hlen, ys, hy3 with
    | [c0, c1, c2], _, [y0, y1, y2], _ =>
      have g : ∀ (i : Nat) (f : Field) (c : Value) (y : DataW H × List MemPlace), (#[f0, f1, f2] : Array Field)[i]? = some f → [c0, c1, c2][i]? = some c → [y0, y1, y2][i]? = some y → DataW.trod enc Try.prog w base (fun _ => true) true n f.type [c] = some y := by
        intro i f c y h1 h2 h3
        have h4 := hf i f h1
        obtain ⟨ho, hc⟩ := hone i f h1
        rw [ho, hc, h3] at h4
        have h5 : (List.drop i [c0, c1, c2]).take 1 = [c] := by
          match i, h2 with
          | 0, h2 => simpa using h2
          | 1, h2 => simpa using h2
          | 2, h2 => simpa using h2
          | k + 3, h2 => simp at h2
        rw [h5] at h4
        exact h4
      have g0 := g 0 f0 c0 y0 rfl rfl rfl
      have g1 := g 1 f1 c1 y1 rfl rfl rfl
      have g2 := g 2 f2 c2 y2 rfl rfl rfl
      rw [t0] at g0
      rw [t1] at g1
      rw [t2] at g2
      obtain ⟨s, e0, _, hs⟩ := DataW.trod_string Try.underlying9 g0
      obtain ⟨k, e1, _⟩ := DataW.trod_int Try.underlying3 g1
      obtain ⟨f, e2, _⟩ := DataW.trod_bool Try.underlying4 g2
      simp only [List.cons.injEq, and_true] at e0 e1 e2
      subst e0 e1 e2
      exact ⟨⟨s, k, f⟩, rfl⟩

set_option maxRecDepth 10000 in
theorem trod_cols {W : World} {base fuel : Nat} {v : List Value} {x : DataW H × List MemPlace} (hf : DataW.trod enc Try.prog W base (fun _ => true) true fuel 35 v = some x) :
    ∃ (A : Option Addr) (c : Nat) (xs : List Co), v = [.slice A xs.length c] ∧ xs.length ≤ maxLen ∧ (A = none → c = 0) ∧ xs.length ≤ c ∧ ColsAt W A xs := by
  rcases open_slice Try.underlying35 hf with ⟨hcs, _⟩ | ⟨a, len, cap, m, k, D, Pl, hcs, _, hl, hm, hmm, _, hel⟩
  · exact ⟨none, 0, [], hcs, Nat.zero_le _, fun _ => rfl, Nat.le_refl _, fun j u hj => by simp [flatC] at hj⟩
  · rw [cells_Co] at hel
    have hex : ∀ i, i < len → ∃ c : Co, (a.add (i * 3)).block < W.heap.size ∧ W.cell? (a.add (i * 3)) = some (.string c.nm) ∧ W.cell? (a.add (i * 3 + 1)) = some (.int .i64 c.k) ∧ W.cell? (a.add (i * 3 + 2)) = some (.bool c.nl) := by
      intro i hi
      have him : i < m := by
        rw [hmm, if_pos rfl]
        omega
      obtain ⟨cs', hc, ht⟩ := hel i him
      obtain ⟨c, rfl⟩ := trod_Co ht
      obtain ⟨_, _, hat⟩ := World.cells?_some hc
      have h0 := hat 0 (by omega)
      have h1 := hat 1 (by omega)
      have h2 := hat 2 (by omega)
      have z : (a.add (i * 3)).add 0 = a.add (i * 3) := by simp [Addr.add]
      have z1 : (a.add (i * 3)).add 1 = a.add (i * 3 + 1) := by rw [← add_off a (i * 3) 1 (by omega)]; simp [Addr.add]
      have z2 : (a.add (i * 3)).add 2 = a.add (i * 3 + 2) := by rw [← add_off a (i * 3) 2 (by omega)]; simp [Addr.add]
      rw [z] at h0
      rw [z1] at h1
      rw [z2] at h2
      have h0' : W.cell? (a.add (i * 3)) = some (.string c.nm) := h0
      exact ⟨c, World.block_lt_of_cell? W _ h0', h0', h1, h2⟩
    obtain ⟨g, hg⟩ := choose_lt' hex
    refine ⟨some a, cap, (List.range len).map g, by simpa using hcs, by simp; omega, (fun h => by cases h), by simp; omega, ?_⟩
    intro j u hj
    obtain ⟨q, hq⟩ : ∃ q, q = j / 3 := ⟨_, rfl⟩
    have hql : q < len := by
      have := (List.getElem?_eq_some_iff.1 hj).1
      rw [flatC_len] at this
      simp at this
      omega
    obtain ⟨f0, f1, f2⟩ := flatC_at ((List.range len).map g) q (g q) (by rw [List.getElem?_map, List.getElem?_range hql]; rfl)
    obtain ⟨hb, k0, k1, k2⟩ := hg q hql
    refine ⟨a, rfl, ?_⟩
    have hbl : ∀ r, (a.add (q * 3 + r)).block = (a.add (q * 3)).block := by intro r; unfold Addr.add; split <;> split <;> rfl
    rcases (show j = q * 3 ∨ j = q * 3 + 1 ∨ j = q * 3 + 2 by omega) with e | e | e
    · subst e
      rw [f0] at hj
      injection hj with hj
      subst hj
      exact ⟨hb, k0⟩
    · subst e
      rw [f1] at hj
      injection hj with hj
      subst hj
      exact ⟨by show (a.add _).block < _; rw [hbl 1]; exact hb, k1⟩
    · subst e
      rw [f2] at hj
      injection hj with hj
      subst hj
      exact ⟨by show (a.add _).block < _; rw [hbl 2]; exact hb, k2⟩

set_option maxRecDepth 10000 in
theorem trod_Sc {w : World} {base fuel : Nat} {cs : List Value} {x : DataW H × List MemPlace} (h : DataW.trod enc Try.prog w base (fun _ => true) true fuel 71 cs = some x) :
    ∃ e : WS, cs = [.string e.nm, e.v] ∧ WS.Ok w e := by
  obtain ⟨ys, n, _, _, hlen, hyl, hf⟩ := DataW.trod_struct fields_Sc h
  rw [cells_Sc] at hlen
  have hty := types_Sc
  have hone := hone_of one_Sc_fields
  generalize Try.prog.fieldsOf 71 = fs at *
  obtain ⟨l⟩ := fs
  have hll : l.length = 2 := by
    have := congrArg List.length hty
    simpa using this
  match l, hll, hty with
  | [f0, f1], _, hty =>
    simp only [List.map_cons, List.map_nil, List.cons.injEq, and_true] at hty
    obtain ⟨t0, t1⟩ := hty
    have hy2 : ys.length = 2 := hyl
    match cs, hlen, ys, hy2 with
    | [c0, c1], _, [y0, y1], _ =>
      have g : ∀ (i : Nat) (f : Field) (c : Value) (y : DataW H × List MemPlace), (#[f0, f1] : Array Field)[i]? = some f → [c0, c1][i]? = some c → [y0, y1][i]? = some y → DataW.trod enc Try.prog w base (fun _ => true) true n f.type [c] = some y := by
        intro i f c y h1 h2 h3
        have h4 := hf i f h1
        obtain ⟨ho, hc⟩ := hone i f h1
        rw [ho, hc, h3] at h4
        have h5 : (List.drop i [c0, c1]).take 1 = [c] := by
          match i, h2 with
          | 0, h2 => simpa using h2
          | 1, h2 => simpa using h2
          | k + 2, h2 => simp at h2
        rw [h5] at h4
        exact h4
      have g0 := g 0 f0 c0 y0 rfl rfl rfl
      have g1 := g 1 f1 c1 y1 rfl rfl rfl
      rw [t0] at g0
      rw [t1] at g1
      obtain ⟨s, e0, _, hs⟩ := DataW.trod_string Try.underlying9 g0
      obtain ⟨A, c, xs, e1, hl, hn, hcap, hr⟩ := trod_cols g1
      simp only [List.cons.injEq, and_true] at e0 e1
      subst e0 e1
      exact ⟨⟨s, A, c, xs⟩, rfl, hl, hn, hcap, hr⟩

set_option maxRecDepth 10000 in
theorem open_scs {W : World} {base : Nat} {v : Value} {d : DataW H} {p : List MemPlace} {r : Reach} {b0 : Nat} (h : DataW.Trod enc Try.prog W base (fun _ => true) true 22 v d p) (hok : Value.okWide Try.prog W r b0 22 v) :
    ∃ (A : Option Addr) (c : Nat) (es : List WS), v = .slice A es.length c ∧ es.length ≤ maxLen ∧ (A = none → c = 0) ∧ es.length ≤ c ∧ WeakS W A es := by
  obtain ⟨a0, len, cap, rfl⟩ := okWide_slice Try.underlying22 hok
  obtain ⟨fuel, hf⟩ := h
  rcases open_slice Try.underlying22 hf with ⟨hcs, _⟩ | ⟨a, len', cap', m, k, D, Pl, hcs, _, hl, hm, hmm, _, hel⟩
  · simp [Value.cells] at hcs
    obtain ⟨rfl, rfl, rfl⟩ := hcs
    exact ⟨none, 0, [], rfl, Nat.zero_le _, fun _ => rfl, Nat.le_refl _, fun i v hi => by simp at hi⟩
  · simp [Value.cells] at hcs
    obtain ⟨rfl, rfl, rfl⟩ := hcs
    rw [cells_Sc] at hel
    have hex : ∀ i, i < len → ∃ z : WS, WS.Ok W z ∧ W.cell? (a.add (i * 2)) = some (.string z.nm) ∧ W.cell? { block := (a.add (i * 2)).block, off := (a.add (i * 2)).off + 1 } = some z.v ∧ (a.add (i * 2)).block < W.heap.size := by
      intro i hi
      have him : i < m := by
        rw [hmm, if_pos rfl]
        omega
      obtain ⟨cs', hc, ht⟩ := hel i him
      obtain ⟨z, rfl, hz⟩ := trod_Sc ht
      obtain ⟨_, _, hat⟩ := World.cells?_some hc
      have h0 := hat 0 (by omega)
      have h1 := hat 1 (by omega)
      have e : (a.add (i * 2)).add 0 = a.add (i * 2) := by simp [Addr.add]
      rw [e] at h0
      have h0' : W.cell? (a.add (i * 2)) = some (.string z.nm) := h0
      exact ⟨z, hz, h0', by simpa [Addr.add] using h1, World.block_lt_of_cell? W _ h0'⟩
    obtain ⟨g, hg⟩ := choose_lt' hex
    refine ⟨some a, cap, (List.range len).map g, by simp, by simp; omega, (fun h => by cases h), by simp; omega, ?_⟩
    intro i v hi
    have hil : i < len := by
      have := (List.getElem?_eq_some_iff.1 hi).1
      simpa using this
    rw [List.getElem?_map, List.getElem?_range hil] at hi
    have hv : g i = v := by simpa using hi
    subst hv
    exact ⟨(hg i hil).1, a, rfl, (hg i hil).2.2.2, (hg i hil).2.1, (hg i hil).2.2.1⟩
end
end Go.Proofs.Ythdjkagodccdbaa
