/-
  What every statement's proof ends with: a call that answers true and changes nothing that was there meets 'for every input true, each argument reads as it did'; and how an argument that is a value or a row is opened.
  No condition.
  How an argument that is a row of values reads in memory: four cells a value, each number of 64 bits, no text longer than a text can be.
  No condition.
  How an argument that is an object, or a list of acts with objects, reads in memory.
  No condition.
-/
import Derived.Test.YtdhpoaecedpbdaaGreatRows
import Derived.ProofKit
import Derived.Carry
import Derived.Deep.Slices
import Derived.Deep.Fields
import Derived.Lib.SmallJoins
import Derived.Test.YtdhpoaecedpbdaaGreatZ3
namespace Go.Proofs.YtdhpoaecedpbdaaGreat
section
open Go.ChangeShapes Go.WideShapes Go.ChangeAt Go.RowKit Go.Deep

theorem Tryz.own : ownKnob Tryz.prog.godebug = none := by kernel_rfl
theorem Tryz.laidOut : laidOutB Tryz.prog = true := by kernel_rfl

section
variable {H : Type} {enc : TypeId × Value → H} {P : Program}

theorem trodAll_kept (hl : laidOutB P = true) {W W' : World} (hb : Below W.heap.size W W') : ∀ (ts : List TypeId) (vs : List Value) (ds : List (DataW H)) (p : List MemPlace), (∀ t ∈ ts, P.readableRec t = true ∧ t < P.types.size) →
    DataW.TrodAll enc P W 0 (fun _ => true) true ts vs ds p → (∀ x ∈ p, x.block < W.heap.size) → DataW.TrodAll enc P W' 0 (fun b => decide (b < W.heap.size)) true ts vs ds p
  | [], vs, ds, p, _, h, _ => by
    cases vs <;> cases ds <;> simp [DataW.TrodAll] at h ⊢
    exact h
  | t :: ts, vs, ds, p, hr, h, hlt => by
    obtain ⟨v, vs', d, ds', p1, q1, rfl, rfl, rfl, h1, h2⟩ := trodAll_cons h
    have ht := hr t (by simp)
    have ih := trodAll_kept hl hb ts vs' ds' q1 (fun t' h' => hr t' (by simp [h'])) h2 (fun x hx => hlt x (by simp [hx]))
    exact ⟨p1, q1, Below.trod hl ht.1 ht.2 h1 hb (fun x hx => hlt x (by simp [hx])), ih, rfl⟩

/-- The end of a law's proof. -/
theorem law_post (hl : laidOutB P = true) {f : Func} {s : ChangeSpec} {W W' : World} {args : Array Value} {ds gs : List (DataW H)} {before : List MemPlace} {tb : TypeId} (hv : s.vars = [])
    (hW : DataW.Whole enc P f.params.toList s.vars false W args.toList ds gs before) (hr : ∀ t ∈ f.params.toList, P.readableRec t = true ∧ t < P.types.size)
    (hrt : f.resultTypes = #[tb]) (htb : P.underlying tb = some .bool)
    (hres : (s.fn H (ds ++ gs)).results = [.lit (.bool true)]) (hargs : (s.fn H (ds ++ gs)).args = ds) (hvars : (s.fn H (ds ++ gs)).vars = []) (hb : Below W.heap.size W W') :
    s.post enc P f false true false false W args (.bool true) W' := by
  have hlt : ∀ x ∈ before, x.block < W.heap.size := fun x hx => hW.lt x hx
  have hW2 := hW
  obtain ⟨p, q, hA, hV, rfl, _, _⟩ := hW
  rw [hv] at hV
  have hq : q = [] := by
    cases gs with
    | nil => simpa [DataW.TrodVars] using hV
    | cons g gs => simp [DataW.TrodVars] at hV
  subst hq
  refine ⟨ds, gs, _, [], p, [], hW2, ?_, ?_, ?_, hb.frame _, fun h => by cases h⟩
  · rw [hres, hrt]
    exact trodAll_mk1 (shut_bool htb true)
  · rw [hargs]
    exact trodAll_kept hl hb _ _ _ _ hr hA (fun x hx => hlt x (by simp [hx]))
  · rw [hvars, hv]
    exact rfl
end

theorem readable_V (t : TypeId) (h : t ∈ [23]) : Tryz.prog.readableRec t = true ∧ t < Tryz.prog.types.size := by
  simp only [List.mem_cons, List.not_mem_nil, or_false] at h
  subst h
  exact ⟨by kernel_rfl, of_decide_eq_true (by kernel_rfl)⟩
end
end Go.Proofs.YtdhpoaecedpbdaaGreat
namespace Go.Proofs.YtdhpoaecedpbdaaGreat
section
open Go.ChangeShapes Go.WideShapes Go.ChangeAt Go.RowKit Go.Deep

theorem wide_wf {k : Int} {f : Bool} {n : Int} {t : ByteArray} (h : (Lit.int .i64 n).wf = true) : Wide ⟨k, f, n, t⟩ := by
  simp [Lit.wf, IntKind.min, IntKind.max, IntKind.bits, IntKind.signed] at h
  show -9223372036854775808 ≤ n ∧ n ≤ 9223372036854775807
  omega
theorem fields_V : Tryz.prog.underlying 83 = some (.struct (Tryz.prog.fieldsOf 83)) := by kernel_rfl
theorem one_V_fields : oneCellFields Tryz.prog (Tryz.prog.fieldsOf 83) = true := by kernel_rfl
theorem types_V : (Tryz.prog.fieldsOf 83).toList.map (·.type) = [3, 4, 2, 9] := by kernel_rfl
theorem cells_V : Tryz.prog.cellsOf 83 = 4 := by kernel_rfl

section
variable {H : Type} {enc : TypeId × Value → H}

set_option maxRecDepth 10000 in
theorem trod_V {w : World} {base fuel : Nat} {spare : Nat → Bool} {held : Bool} {cs : List Value} {x : DataW H × List MemPlace} (h : DataW.trod enc Tryz.prog w base spare held fuel 83 cs = some x) :
    ∃ v : V, cs = [.int .i64 v.k, .bool v.f, .int .i64 v.n, .string v.t] ∧ v.t.size ≤ maxLen ∧ Wide v := by
  obtain ⟨ys, n, _, _, hlen, hyl, hf⟩ := DataW.trod_struct fields_V h
  rw [cells_V] at hlen
  have hty := types_V
  have hone := hone_of one_V_fields
  generalize Tryz.prog.fieldsOf 83 = fs at *
  obtain ⟨l⟩ := fs
  have hll : l.length = 4 := by
    have := congrArg List.length hty
    simpa using this
  match l, hll, hty with
  | [f0, f1, f2, f3], _, hty =>
    simp only [List.map_cons, List.map_nil, List.cons.injEq, and_true] at hty
    obtain ⟨t0, t1, t2, t3⟩ := hty
    have hy4 : ys.length = 4 := hyl
    match cs, hlen, ys, hy4 with
    | [c0, c1, c2, c3], _, [y0, y1, y2, y3], _ =>
      have g : ∀ (i : Nat) (f : Field) (c : Value) (y : DataW H × List MemPlace), (#[f0, f1, f2, f3] : Array Field)[i]? = some f → [c0, c1, c2, c3][i]? = some c → [y0, y1, y2, y3][i]? = some y → DataW.trod enc Tryz.prog w base spare held n f.type [c] = some y := by
        intro i f c y h1 h2 h3
        have h4 := hf i f h1
        obtain ⟨ho, hc⟩ := hone i f h1
        rw [ho, hc, h3] at h4
        have h5 : (List.drop i [c0, c1, c2, c3]).take 1 = [c] := by
          match i, h2 with
          | 0, h2 => simpa using h2
          | 1, h2 => simpa using h2
          | 2, h2 => simpa using h2
          | 3, h2 => simpa using h2
          | k + 4, h2 => simp at h2
        rw [h5] at h4
        exact h4
      have g0 := g 0 f0 c0 y0 rfl rfl rfl
      have g1 := g 1 f1 c1 y1 rfl rfl rfl
      have g2 := g 2 f2 c2 y2 rfl rfl rfl
      have g3 := g 3 f3 c3 y3 rfl rfl rfl
      rw [t0] at g0
      rw [t1] at g1
      rw [t2] at g2
      rw [t3] at g3
      obtain ⟨k, e0, _⟩ := DataW.trod_int Tryz.underlying3 g0
      obtain ⟨f, e1, _⟩ := DataW.trod_bool Tryz.underlying4 g1
      obtain ⟨q, e2, _, hq⟩ := DataW.trod_int Tryz.underlying2 g2
      obtain ⟨s, e3, _, hs⟩ := DataW.trod_string Tryz.underlying9 g3
      simp only [List.cons.injEq, and_true] at e0 e1 e2 e3
      subst e0 e1 e2 e3
      have hw : Wide ⟨k, f, q, s⟩ := wide_wf hq
      exact ⟨⟨k, f, q, s⟩, rfl, hs, hw⟩

instance : Inhabited V := ⟨⟨0, false, 0, ⟨#[]⟩⟩⟩

set_option maxRecDepth 10000 in
theorem open_rowV {W : World} {base : Nat} {v : Value} {d : DataW H} {p : List MemPlace} {r : Reach} {b0 : Nat} (h : DataW.Trod enc Tryz.prog W base (fun _ => true) true 23 v d p) (hok : Value.okWide Tryz.prog W r b0 23 v) :
    ∃ (A : Option Addr) (n c : Nat) (xs : List V), v = .slice A n c ∧ n = xs.length ∧ n ≤ maxLen ∧ (A = none → c = 0) ∧ RowAt W W.heap.size A xs ∧ Fit xs ∧ (∀ v ∈ xs, Wide v) := by
  obtain ⟨a0, len, cap, rfl⟩ := okWide_slice Tryz.underlying23 hok
  obtain ⟨fuel, hf⟩ := h
  rcases open_slice Tryz.underlying23 hf with ⟨hcs, _⟩ | ⟨a, len', cap', m, k, D, Pl, hcs, _, hl, hm, hmm, _, hel⟩
  · simp [Value.cells] at hcs
    obtain ⟨rfl, rfl, rfl⟩ := hcs
    exact ⟨none, 0, 0, [], rfl, rfl, Nat.zero_le _, fun _ => rfl, fun i v hi => by simp at hi, fun i v hi => by simp at hi, fun v hv => by simp at hv⟩
  · simp [Value.cells] at hcs
    obtain ⟨rfl, rfl, rfl⟩ := hcs
    rw [cells_V] at hel
    have hex : ∀ i, i < len → ∃ v : V, At W (a.add (i * 4)) v ∧ v.t.size ≤ maxLen ∧ (a.add (i * 4)).block < W.heap.size ∧ Wide v := by
      intro i hi
      have him : i < m := by
        rw [hmm, if_pos rfl]
        omega
      obtain ⟨cs', hc, ht⟩ := hel i him
      obtain ⟨v, rfl, hs, hw⟩ := trod_V ht
      obtain ⟨_, _, hat⟩ := World.cells?_some hc
      have h0 := hat 0 (by omega)
      have h1 := hat 1 (by omega)
      have h2 := hat 2 (by omega)
      have h3 := hat 3 (by omega)
      have z : (a.add (i * 4)).add 0 = a.add (i * 4) := by simp [Addr.add]
      rw [z] at h0
      have h0' : W.cell? (a.add (i * 4)) = some (.int .i64 v.k) := h0
      refine ⟨v, ⟨h0', ?_, ?_, ?_⟩, hs, World.block_lt_of_cell? W _ h0', hw⟩
      · simpa [Addr.add] using h1
      · simpa [Addr.add] using h2
      · simpa [Addr.add] using h3
    obtain ⟨g, hg⟩ := choose_lt hex
    refine ⟨some a, len, cap, (List.range len).map g, rfl, by simp, by omega, (fun h => by cases h), ?_, ?_, ?_⟩
    · intro i v hi
      have hil : i < len := by
        have := (List.getElem?_eq_some_iff.1 hi).1
        simpa using this
      rw [List.getElem?_map, List.getElem?_range hil] at hi
      have hv : g i = v := by simpa using hi
      subst hv
      obtain ⟨h1, _, h3, _⟩ := hg i hil
      exact ⟨a, rfl, h3, h1⟩
    · intro i v hi
      have hil : i < len := by
        have := (List.getElem?_eq_some_iff.1 hi).1
        simpa using this
      rw [List.getElem?_map, List.getElem?_range hil] at hi
      have hv : g i = v := by simpa using hi
      subst hv
      exact (hg i hil).2.1
    · intro v hv
      obtain ⟨i, hi, rfl⟩ := List.mem_map.1 hv
      exact (hg i (by simpa using hi)).2.2.2

end

theorem readable_B (t : TypeId) (h : t ∈ [23, 2]) : Tryz.prog.readableRec t = true ∧ t < Tryz.prog.types.size := by
  simp only [List.mem_cons, List.not_mem_nil, or_false] at h
  rcases h with rfl | rfl <;> exact ⟨by kernel_rfl, of_decide_eq_true (by kernel_rfl)⟩
end
end Go.Proofs.YtdhpoaecedpbdaaGreat
namespace Go.Proofs.YtdhpoaecedpbdaaGreat
section
open Go.ChangeShapes Go.WideShapes Go.ChangeAt Go.RowKit Go.Deep

theorem fields_Ob : Tryz.prog.underlying 25 = some (.struct (Tryz.prog.fieldsOf 25)) := by kernel_rfl
theorem one_Ob_fields : oneCellFields Tryz.prog (Tryz.prog.fieldsOf 25) = true := by kernel_rfl
theorem types_Ob : (Tryz.prog.fieldsOf 25).toList.map (·.type) = [9, 9, 9, 2, 23] := by kernel_rfl
theorem cells_Ob : Tryz.prog.cellsOf 25 = 5 := by kernel_rfl
/-- An object as it was given. -/
structure WO where
  k : ByteArray
  s : ByteArray
  n : ByteArray
  v : Int
  at' : Option Addr
  cap : Nat
  row : List V
instance : Inhabited WO := ⟨⟨⟨#[]⟩, ⟨#[]⟩, ⟨#[]⟩, 0, none, 0, []⟩⟩
def WO.cells (o : WO) : List Value := [.string o.k, .string o.s, .string o.n, .int .i64 o.v, .slice o.at' o.row.length o.cap]
def WO.Ok (w : World) (o : WO) : Prop := o.k.size ≤ maxLen ∧ o.s.size ≤ maxLen ∧ o.n.size ≤ maxLen ∧ o.row.length ≤ maxLen ∧ (o.at' = none → o.cap = 0) ∧ RowAt w w.heap.size o.at' o.row ∧ (-9223372036854775808 ≤ o.v ∧ o.v ≤ 9223372036854775807)

section
variable {H : Type} {enc : TypeId × Value → H}

set_option maxRecDepth 10000 in
theorem trod_row8 {W : World} {base fuel : Nat} {v : List Value} {x : DataW H × List MemPlace} (hf : DataW.trod enc Tryz.prog W base (fun _ => true) true fuel 23 v = some x) :
    ∃ (A : Option Addr) (c : Nat) (xs : List V), v = [.slice A xs.length c] ∧ xs.length ≤ maxLen ∧ (A = none → c = 0) ∧ RowAt W W.heap.size A xs := by
  rcases open_slice Tryz.underlying23 hf with ⟨hcs, _⟩ | ⟨a, len, cap, m, k, D, Pl, hcs, _, hl, hm, hmm, _, hel⟩
  · exact ⟨none, 0, [], hcs, Nat.zero_le _, fun _ => rfl, fun i v hi => by simp at hi⟩
  · rw [cells_V] at hel
    have hex : ∀ i, i < len → ∃ v : V, At W (a.add (i * 4)) v ∧ (a.add (i * 4)).block < W.heap.size := by
      intro i hi
      have him : i < m := by
        rw [hmm, if_pos rfl]
        omega
      obtain ⟨cs', hc, ht⟩ := hel i him
      obtain ⟨v, rfl, hs, hw⟩ := trod_V ht
      obtain ⟨_, _, hat⟩ := World.cells?_some hc
      have h0 := hat 0 (by omega)
      have h1 := hat 1 (by omega)
      have h2 := hat 2 (by omega)
      have h3 := hat 3 (by omega)
      have z : (a.add (i * 4)).add 0 = a.add (i * 4) := by simp [Addr.add]
      rw [z] at h0
      have h0' : W.cell? (a.add (i * 4)) = some (.int .i64 v.k) := h0
      refine ⟨v, ⟨h0', ?_, ?_, ?_⟩, World.block_lt_of_cell? W _ h0'⟩
      · simpa [Addr.add] using h1
      · simpa [Addr.add] using h2
      · simpa [Addr.add] using h3
    obtain ⟨g, hg⟩ := choose_lt hex
    refine ⟨some a, cap, (List.range len).map g, by simpa using hcs, by simp; omega, (fun h => by cases h), ?_⟩
    intro i v hi
    have hil : i < len := by
      have := (List.getElem?_eq_some_iff.1 hi).1
      simpa using this
    rw [List.getElem?_map, List.getElem?_range hil] at hi
    have hv : g i = v := by simpa using hi
    subst hv
    exact ⟨a, rfl, (hg i hil).2, (hg i hil).1⟩


set_option maxRecDepth 10000 in
theorem trod_Ob {w : World} {base fuel : Nat} {cs : List Value} {x : DataW H × List MemPlace} (h : DataW.trod enc Tryz.prog w base (fun _ => true) true fuel 25 cs = some x) :
    ∃ o : WO, cs = o.cells ∧ WO.Ok w o := by
  obtain ⟨ys, n, _, _, hlen, hyl, hf⟩ := DataW.trod_struct fields_Ob h
  rw [cells_Ob] at hlen
  have hty := types_Ob
  have hone := hone_of one_Ob_fields
  generalize Tryz.prog.fieldsOf 25 = fs at *
  obtain ⟨l⟩ := fs
  have hll : l.length = 5 := by
    have := congrArg List.length hty
    simpa using this
  match l, hll, hty with
  | [f0, f1, f2, f3, f4], _, hty =>
    simp only [List.map_cons, List.map_nil, List.cons.injEq, and_true] at hty
    obtain ⟨t0, t1, t2, t3, t4⟩ := hty
    have hy2 : ys.length = 5 := hyl
    match cs, hlen, ys, hy2 with
    | [c0, c1, c2, c3, c4], _, [y0, y1, y2, y3, y4], _ =>
      have g : ∀ (i : Nat) (f : Field) (c : Value) (y : DataW H × List MemPlace), (#[f0, f1, f2, f3, f4] : Array Field)[i]? = some f → [c0, c1, c2, c3, c4][i]? = some c → [y0, y1, y2, y3, y4][i]? = some y → DataW.trod enc Tryz.prog w base (fun _ => true) true n f.type [c] = some y := by
        intro i f c y h1 h2 h3
        have h4 := hf i f h1
        obtain ⟨ho, hc⟩ := hone i f h1
        rw [ho, hc, h3] at h4
        have h5 : (List.drop i [c0, c1, c2, c3, c4]).take 1 = [c] := by
          match i, h2 with
          | 0, h2 => simpa using h2
          | 1, h2 => simpa using h2
          | 2, h2 => simpa using h2
          | 3, h2 => simpa using h2
          | 4, h2 => simpa using h2
          | k + 5, h2 => simp at h2
        rw [h5] at h4
        exact h4
      have g0 := g 0 f0 c0 y0 rfl rfl rfl
      have g1 := g 1 f1 c1 y1 rfl rfl rfl
      have g2 := g 2 f2 c2 y2 rfl rfl rfl
      have g3 := g 3 f3 c3 y3 rfl rfl rfl
      have g4 := g 4 f4 c4 y4 rfl rfl rfl
      rw [t0] at g0
      rw [t1] at g1
      rw [t2] at g2
      rw [t3] at g3
      rw [t4] at g4
      obtain ⟨s0, e0, _, z0⟩ := DataW.trod_string Tryz.underlying9 g0
      obtain ⟨s1, e1, _, z1⟩ := DataW.trod_string Tryz.underlying9 g1
      obtain ⟨s2, e2, _, z2⟩ := DataW.trod_string Tryz.underlying9 g2
      obtain ⟨q, e3, _, hq⟩ := DataW.trod_int Tryz.underlying2 g3
      obtain ⟨A, c, xs, e4, hl, hn, hr⟩ := trod_row8 g4
      simp only [List.cons.injEq, and_true] at e0 e1 e2 e3 e4
      subst e0 e1 e2 e3 e4
      have hw := wide_wf (k := 0) (f := false) (t := ⟨#[]⟩) hq
      exact ⟨⟨s0, s1, s2, q, A, c, xs⟩, rfl, z0, z1, z2, hl, hn, hr, hw⟩
set_option maxRecDepth 100000 in
theorem open_Ob {W : World} {base : Nat} {v : Value} {d : DataW H} {p : List MemPlace} {r : Reach} {b0 : Nat} (h : DataW.Trod enc Tryz.prog W base (fun _ => true) true 25 v d p) (hok : Value.okWide Tryz.prog W r b0 25 v) :
    ∃ o : WO, v = .agg #[.string o.k, .string o.s, .string o.n, .int .i64 o.v, .slice o.at' o.row.length o.cap] ∧ WO.Ok W o := by
  obtain ⟨cs, rfl, hsz⟩ := okWide_struct fields_Ob hok
  obtain ⟨fuel, hf⟩ := h
  obtain ⟨u, hu, hs⟩ := trod_Ob hf
  obtain ⟨l⟩ := cs
  refine ⟨u, ?_, hs⟩
  have hl : l = u.cells := by simpa [Value.cells] using hu
  subst hl
  rfl
end
theorem readable_Ob (t : TypeId) (h : t ∈ [25, 9]) : Tryz.prog.readableRec t = true ∧ t < Tryz.prog.types.size := by
  simp only [List.mem_cons, List.not_mem_nil, or_false] at h
  rcases h with rfl | rfl <;> exact ⟨by kernel_rfl, of_decide_eq_true (by kernel_rfl)⟩
end
end Go.Proofs.YtdhpoaecedpbdaaGreat
