/-
  How an argument that is a rule reads in memory, with all its terms: seven cells a rule, four a literal, six a term.
  No condition.
-/
import Derived.Test.YthdjkagodccdbaaM41
import Derived.Test.YthdjkagodccdbaaM44
namespace Go.Proofs.Ythdjkagodccdbaa
open Go.ChangeShapes Go.WideShapes Go.ChangeAt Go.RowKit Go.Deep

instance : Inhabited TmP := ⟨⟨⟨#[]⟩, false, ⟨0, false, 0, ⟨#[]⟩⟩⟩⟩
instance : Inhabited LmG := ⟨⟨false, ⟨#[]⟩, none, 0, [], 0⟩⟩
section
variable {H : Type} {enc : TypeId × Value → H}

set_option maxRecDepth 10000 in
theorem open_listT {α : Type} [Inhabited α] {W : World} {base fuel : Nat} {T E : TypeId} {cs : List Value} {x : DataW H × List MemPlace} (hT : Try.prog.underlying T = some (.slice E)) (f : α → List Value) (Q : α → Prop)
    (hP : ∀ (fuel : Nat) (cs : List Value) (x : DataW H × List MemPlace), DataW.trod enc Try.prog W base (fun _ => true) true fuel E cs = some x → ∃ v : α, cs = f v ∧ Q v)
    (h : DataW.trod enc Try.prog W base (fun _ => true) true fuel T cs = some x) :
    ∃ (A : Option Addr) (c : Nat) (xs : List α), cs = [.slice A xs.length c] ∧ xs.length ≤ maxLen ∧ ∀ (i : Nat) (v : α), xs[i]? = some v → Q v ∧ ∃ a : Addr, A = some a ∧ ∀ (j : Nat) (u : Value), (f v)[j]? = some u → W.cell? ((a.add (i * Try.prog.cellsOf E)).add j) = some u := by
  rcases open_slice hT h with ⟨hcs, _⟩ | ⟨a, len, cap, m, k, D, Pl, hcs, _, hl, hm, hmm, _, hel⟩
  · exact ⟨none, 0, [], hcs, Nat.zero_le _, fun i v hi => by simp at hi⟩
  · have hex : ∀ i, i < len → ∃ v : α, Q v ∧ ∀ (j : Nat) (u : Value), (f v)[j]? = some u → W.cell? ((a.add (i * Try.prog.cellsOf E)).add j) = some u := by
      intro i hi
      have him : i < m := by
        rw [hmm, if_pos rfl]
        omega
      obtain ⟨cs', hc, ht⟩ := hel i him
      obtain ⟨v, rfl, hq⟩ := hP _ _ _ ht
      obtain ⟨_, hlen, hat⟩ := World.cells?_some hc
      refine ⟨v, hq, fun j u hj => ?_⟩
      have hjl := (List.getElem?_eq_some_iff.1 hj).1
      rw [hat j (by omega)]
      exact hj
    obtain ⟨g, hg⟩ := choose_lt hex
    refine ⟨some a, cap, (List.range len).map g, by simpa using hcs, by simp; omega, fun i v hi => ?_⟩
    have hil : i < len := by
      have := (List.getElem?_eq_some_iff.1 hi).1
      simpa using this
    rw [List.getElem?_map, List.getElem?_range hil] at hi
    have hv : g i = v := by simpa using hi
    subst hv
    exact ⟨(hg i hil).1, a, rfl, (hg i hil).2⟩

theorem trod_field {W : World} {base fuel : Nat} {t : TypeId} {fs : Array Field} {ts : List TypeId} {cs : List Value} {x : DataW H × List MemPlace} (ht : Try.prog.underlying t = some (.struct fs)) (hone : oneCellFields Try.prog fs = true) (hty : fs.toList.map (·.type) = ts)
    (h : DataW.trod enc Try.prog W base (fun _ => true) true fuel t cs = some x) :
    cs.length = Try.prog.cellsOf t ∧ ∀ (i : Nat) (ti : TypeId) (c : Value), ts[i]? = some ti → cs[i]? = some c → ∃ (y : DataW H × List MemPlace) (n : Nat), DataW.trod enc Try.prog W base (fun _ => true) true n ti [c] = some y := by
  obtain ⟨ys, n, _, _, hlen, hyl, hf⟩ := DataW.trod_struct ht h
  refine ⟨hlen, fun i ti c h1 h2 => ?_⟩
  rw [← hty, List.getElem?_map] at h1
  obtain ⟨f, hf1, rfl⟩ := Option.map_eq_some_iff.1 h1
  rw [Array.getElem?_toList] at hf1
  have h4 := hf i f hf1
  obtain ⟨ho, hc⟩ := hone_of hone i f hf1
  obtain ⟨hil, hie⟩ := List.getElem?_eq_some_iff.1 h2
  have h5 : (cs.drop i).take 1 = [c] := by
    rw [List.drop_eq_getElem_cons hil, hie]
    rfl
  rw [ho, hc, h5] at h4
  have hi : i < fs.size := (Array.getElem?_eq_some_iff.1 hf1).1
  exact ⟨ys[i]'(by omega), n, by rw [h4, List.getElem?_eq_getElem (by omega)]⟩

theorem fields_Tm : Try.prog.underlying 84 = some (.struct (Try.prog.fieldsOf 84)) := by kernel_rfl
theorem types_Tm : (Try.prog.fieldsOf 84).toList.map (fun f => (f.type, f.offset)) = [(9, 0), (4, 1), (59, 2)] := by kernel_rfl
theorem cells_Tm : Try.prog.cellsOf 84 = 6 := by kernel_rfl
theorem cells_boolG : Try.prog.cellsOf 4 = 1 := by kernel_rfl
theorem cells_str : Try.prog.cellsOf 9 = 1 := by kernel_rfl
theorem fields_Lt : Try.prog.underlying 46 = some (.struct (Try.prog.fieldsOf 46)) := by kernel_rfl
theorem one_Lt : oneCellFields Try.prog (Try.prog.fieldsOf 46) = true := by kernel_rfl
theorem types_Lt : (Try.prog.fieldsOf 46).toList.map (·.type) = [4, 9, 44, 3] := by kernel_rfl
theorem cells_Lt : Try.prog.cellsOf 46 = 4 := by kernel_rfl
theorem fields_Ru : Try.prog.underlying 27 = some (.struct (Try.prog.fieldsOf 27)) := by kernel_rfl
theorem one_Ru : oneCellFields Try.prog (Try.prog.fieldsOf 27) = true := by kernel_rfl
theorem types_Ru : (Try.prog.fieldsOf 27).toList.map (·.type) = [3, 9, 24, 3, 9, 2, 25] := by kernel_rfl
theorem cells_Ru : Try.prog.cellsOf 27 = 7 := by kernel_rfl


set_option maxRecDepth 100000 in
theorem trod_TmW {W : World} {base fuel : Nat} {cs : List Value} {x : DataW H × List MemPlace} (h : DataW.trod enc Try.prog W base (fun _ => true) true fuel 84 cs = some x) : ∃ v : TmP, cs = v.cells ∧ v.s.size ≤ maxLen := by
  obtain ⟨ys, n, _, _, hlen, hyl, hf⟩ := DataW.trod_struct fields_Tm h
  rw [cells_Tm] at hlen
  have hty := types_Tm
  generalize Try.prog.fieldsOf 84 = fs at *
  have hi : ∀ (i : Nat) (t : TypeId) (o : Nat), [(9, 0), (4, 1), (59, 2)][i]? = some (t, o) → ∃ y : DataW H × List MemPlace, DataW.trod enc Try.prog W base (fun _ => true) true n t ((cs.drop o).take (Try.prog.cellsOf t)) = some y := by
    intro i t o h0
    have := congrArg (·[i]?) hty
    simp only [List.getElem?_map, Array.getElem?_toList] at this
    rw [h0] at this
    obtain ⟨f, h1, h2⟩ := Option.map_eq_some_iff.1 this
    have e1 : f.type = t := congrArg Prod.fst h2
    have e2 : f.offset = o := congrArg Prod.snd h2
    have h4 := hf i f h1
    have hlt : i < fs.size := (Array.getElem?_eq_some_iff.1 h1).1
    rw [e1, e2, List.getElem?_eq_getElem (by omega)] at h4
    exact ⟨_, h4⟩
  obtain ⟨y0, g0⟩ := hi 0 _ _ rfl
  obtain ⟨y1, g1⟩ := hi 1 _ _ rfl
  obtain ⟨y2, g2⟩ := hi 2 _ _ rfl
  rw [cells_str] at g0
  rw [cells_boolG] at g1
  rw [cells_V] at g2
  match cs, hlen with
  | [c0, c1, c2, c3, c4, c5], _ =>
    obtain ⟨s, e0, _, hs⟩ := DataW.trod_string Try.underlying9 g0
    obtain ⟨b, e1, _⟩ := DataW.trod_bool Try.underlying4 g1
    obtain ⟨v, e2, _⟩ := trod_V g2
    have f0 : [c0] = [Value.string s] := e0
    have f1 : [c1] = [Value.bool b] := e1
    have f2 : [c2, c3, c4, c5] = [.int .i64 v.k, .bool v.f, .int .i64 v.n, .string v.t] := e2
    clear e0 e1 e2 g0 g1 g2 hi hf h
    simp only [List.cons.injEq, and_true] at f0 f1 f2
    obtain ⟨f2, f3, f4, f5⟩ := f2
    subst f0 f1 f2 f3 f4 f5
    exact ⟨⟨s, b, v⟩, rfl, hs⟩

set_option maxRecDepth 100000 in
theorem trod_LtW {W : World} {base fuel : Nat} {cs : List Value} {x : DataW H × List MemPlace} (h : DataW.trod enc Try.prog W base (fun _ => true) true fuel 46 cs = some x) :
    ∃ v : LmG, cs = v.cells ∧ (v.args.length ≤ maxLen ∧ (∀ t ∈ v.args, t.s.size ≤ maxLen) ∧ ElsAt TmP.cells 6 W v.A v.args) := by
  obtain ⟨hlen, hf⟩ := trod_field fields_Lt one_Lt types_Lt h
  rw [cells_Lt] at hlen
  match cs, hlen with
  | [c0, c1, c2, c3], _ =>
    obtain ⟨y0, n0, g0⟩ := hf 0 _ c0 rfl rfl
    obtain ⟨y1, n1, g1⟩ := hf 1 _ c1 rfl rfl
    obtain ⟨y2, n2, g2⟩ := hf 2 _ c2 rfl rfl
    obtain ⟨y3, n3, g3⟩ := hf 3 _ c3 rfl rfl
    obtain ⟨b, e0, _⟩ := DataW.trod_bool Try.underlying4 g0
    obtain ⟨s, e1, _, _⟩ := DataW.trod_string Try.underlying9 g1
    obtain ⟨A, c, xs, e2, hl, hx⟩ := open_listT (α := TmP) Try.underlying44 TmP.cells (fun v => v.s.size ≤ maxLen) (fun _ _ _ h => trod_TmW h) g2
    obtain ⟨o, e3, _⟩ := DataW.trod_int Try.underlying3 g3
    simp only [List.cons.injEq, and_true] at e0 e1 e2 e3
    subst e0 e1 e2 e3
    rw [cells_Tm] at hx
    refine ⟨⟨b, s, A, c, xs, o⟩, rfl, hl, fun t ht => ?_, fun i x hi => (hx i x hi).2⟩
    obtain ⟨i, hi, e⟩ := List.getElem_of_mem ht
    exact (hx i t (by rw [List.getElem?_eq_getElem hi, e])).1

set_option maxRecDepth 100000 in
theorem trod_RuW {W : World} {base fuel : Nat} {cs : List Value} {x : DataW H × List MemPlace} (h : DataW.trod enc Try.prog W base (fun _ => true) true fuel 27 cs = some x) :
    ∃ r : RuG, cs = r.cells.toList ∧ r.Ok W ∧ r.Lng := by
  obtain ⟨hlen, hf⟩ := trod_field fields_Ru one_Ru types_Ru h
  rw [cells_Ru] at hlen
  match cs, hlen with
  | [c0, c1, c2, c3, c4, c5, c6], _ =>
    obtain ⟨y0, n0, g0⟩ := hf 0 _ c0 rfl rfl
    obtain ⟨y1, n1, g1⟩ := hf 1 _ c1 rfl rfl
    obtain ⟨y2, n2, g2⟩ := hf 2 _ c2 rfl rfl
    obtain ⟨y3, n3, g3⟩ := hf 3 _ c3 rfl rfl
    obtain ⟨y4, n4, g4⟩ := hf 4 _ c4 rfl rfl
    obtain ⟨y5, n5, g5⟩ := hf 5 _ c5 rfl rfl
    obtain ⟨y6, n6, g6⟩ := hf 6 _ c6 rfl rfl
    obtain ⟨k, e0, _⟩ := DataW.trod_int Try.underlying3 g0
    obtain ⟨nm, e1, _, hnm⟩ := DataW.trod_string Try.underlying9 g1
    obtain ⟨hA, hc, hs, e2, hl2, hx2⟩ := open_listT (α := ByteArray) Try.underlying24 strC (fun s => s.size ≤ maxLen) (fun _ _ _ h => by
      obtain ⟨s, e, _, hs⟩ := DataW.trod_string Try.underlying9 h
      exact ⟨s, e, hs⟩) g2
    obtain ⟨ag, e3, _⟩ := DataW.trod_int Try.underlying3 g3
    obtain ⟨ofv, e4, _, hof⟩ := DataW.trod_string Try.underlying9 g4
    obtain ⟨lim, e5, _⟩ := DataW.trod_int Try.underlying2 g5
    obtain ⟨bA, bc, b, e6, hl6, hx6⟩ := open_listT (α := LmG) Try.underlying25 LmG.cells (fun v => v.args.length ≤ maxLen ∧ (∀ t ∈ v.args, t.s.size ≤ maxLen) ∧ ElsAt TmP.cells 6 W v.A v.args) (fun _ _ _ h => trod_LtW h) g6
    simp only [List.cons.injEq, and_true] at e0 e1 e2 e3 e4 e5 e6
    subst e0 e1 e2 e3 e4 e5 e6
    rw [cells_str] at hx2
    rw [cells_Lt] at hx6
    have hm6 : ∀ x ∈ b, x.args.length ≤ maxLen ∧ (∀ t ∈ x.args, t.s.size ≤ maxLen) ∧ ElsAt TmP.cells 6 W x.A x.args := fun x hx => by
      obtain ⟨i, hi, e⟩ := List.getElem_of_mem hx
      exact (hx6 i x (by rw [List.getElem?_eq_getElem hi, e])).1
    refine ⟨⟨k, nm, hA, hc, hs, ag, ofv, lim, bA, bc, b⟩, rfl, ⟨fun i x hi => (hx2 i x hi).2, fun i x hi => (hx6 i x hi).2, fun x hx => (hm6 x hx).2.2⟩, hl2, hl6, hnm, hof, fun s hs' => ?_, fun x hx => ⟨(hm6 x hx).1, (hm6 x hx).2.1⟩⟩
    obtain ⟨i, hi, e⟩ := List.getElem_of_mem hs'
    exact (hx2 i s (by rw [List.getElem?_eq_getElem hi, e])).1

set_option maxRecDepth 10000 in
theorem open_rule {W : World} {base : Nat} {v : Value} {d : DataW H} {p : List MemPlace} {r : Reach} {b0 : Nat} (h : DataW.Trod enc Try.prog W base (fun _ => true) true 27 v d p) (hok : Value.okWide Try.prog W r b0 27 v) :
    ∃ r : RuG, v = .agg r.cells ∧ r.Ok W ∧ r.Lng := by
  obtain ⟨cs, rfl, _⟩ := okWide_struct fields_Ru hok
  obtain ⟨fuel, hf⟩ := h
  obtain ⟨r, e, h1, h2⟩ := trod_RuW hf
  refine ⟨r, ?_, h1, h2⟩
  congr 1
  exact Array.toList_inj.1 e
end
theorem readable_RuW (t : TypeId) (h : t ∈ [27]) : Try.prog.readableRec t = true ∧ t < Try.prog.types.size := by
  simp only [List.mem_cons, List.not_mem_nil, or_false] at h
  subst h
  exact ⟨by kernel_rfl, of_decide_eq_true (by kernel_rfl)⟩
end Go.Proofs.Ythdjkagodccdbaa
