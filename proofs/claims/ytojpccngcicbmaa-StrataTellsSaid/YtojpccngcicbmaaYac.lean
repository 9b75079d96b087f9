/-
  How an argument that is a list of rules reads in memory: seven cells a rule, four a literal, six a term.
  No condition.
-/
import Derived.Test.YtojpccngcicbmaaLaw
import Derived.Test.YtojpccngcicbmaaYi
namespace Go.Proofs.Ytojpccngcicbmaa
open Go.ChangeShapes Go.WideShapes Go.ChangeAt Go.RowKit Go.Deep

section
variable {H : Type} {enc : TypeId × Value → H}

set_option maxRecDepth 10000 in
theorem open_listT {α : Type} [Inhabited α] {W : World} {base fuel : Nat} {T E : TypeId} {cs : List Value} {x : DataW H × List MemPlace} (hT : Try.prog.underlying T = some (.slice E)) (f : α → List Value) (Q : α → Prop)
    (hP : ∀ (fuel : Nat) (cs : List Value) (x : DataW H × List MemPlace), DataW.trod enc Try.prog W base (fun _ => true) true fuel E cs = some x → ∃ v : α, cs = f v ∧ Q v)
    (h : DataW.trod enc Try.prog W base (fun _ => true) true fuel T cs = some x) :
    ∃ (A : Option Addr) (c : Nat) (xs : List α), cs = [.slice A xs.length c] ∧ xs.length ≤ maxLen ∧ ∀ (i : Nat) (v : α), xs[i]? = some v → Q v ∧ ∃ a : Addr, A = some a ∧ ∀ (j : Nat) (u : Value), (f v)[j]? = some u → W.cell? ((a.add (i * Try.prog.cellsOf E)).add j) = some u := by
  rcases open_slice hT h with ⟨hcs, _⟩ | ⟨a, len, cap, m, k, D, Pl, hcs, _, hl, hm, hmm, _, hel⟩
  · exact ⟨none, 0, [], hcs, Nat.zero_le _, fun i v hi => by simp at hi⟩
  · have hex : ∀ i, i < len → ∃ v : α, Q v ∧ ∀ (j : Nat) (u : Value), (f v)[j]? = some u → W.cell? ((a.add (i * Try.prog.cellsOf E)).add j) = some u := by
      intro i hi
      have him : i < m := by
        rw [hmm, if_pos rfl]
        omega
      obtain ⟨cs', hc, ht⟩ := hel i him
      obtain ⟨v, rfl, hq⟩ := hP _ _ _ ht
      obtain ⟨_, hlen, hat⟩ := World.cells?_some hc
      refine ⟨v, hq, fun j u hj => ?_⟩
      have hjl := (List.getElem?_eq_some_iff.1 hj).1
      rw [hat j (by omega)]
      exact hj
    obtain ⟨g, hg⟩ := choose_lt hex
    refine ⟨some a, cap, (List.range len).map g, by simpa using hcs, by simp; omega, fun i v hi => ?_⟩
    have hil : i < len := by
      have := (List.getElem?_eq_some_iff.1 hi).1
      simpa using this
    rw [List.getElem?_map, List.getElem?_range hil] at hi
    have hv : g i = v := by simpa using hi
    subst hv
    exact ⟨(hg i hil).1, a, rfl, (hg i hil).2⟩

theorem trod_field {W : World} {base fuel : Nat} {t : TypeId} {fs : Array Field} {ts : List TypeId} {cs : List Value} {x : DataW H × List MemPlace} (ht : Try.prog.underlying t = some (.struct fs)) (hone : oneCellFields Try.prog fs = true) (hty : fs.toList.map (·.type) = ts)
    (h : DataW.trod enc Try.prog W base (fun _ => true) true fuel t cs = some x) :
    cs.length = Try.prog.cellsOf t ∧ ∀ (i : Nat) (ti : TypeId) (c : Value), ts[i]? = some ti → cs[i]? = some c → ∃ (y : DataW H × List MemPlace) (n : Nat), DataW.trod enc Try.prog W base (fun _ => true) true n ti [c] = some y := by
  obtain ⟨ys, n, _, _, hlen, hyl, hf⟩ := DataW.trod_struct ht h
  refine ⟨hlen, fun i ti c h1 h2 => ?_⟩
  rw [← hty, List.getElem?_map] at h1
  obtain ⟨f, hf1, rfl⟩ := Option.map_eq_some_iff.1 h1
  rw [Array.getElem?_toList] at hf1
  have h4 := hf i f hf1
  obtain ⟨ho, hc⟩ := hone_of hone i f hf1
  obtain ⟨hil, hie⟩ := List.getElem?_eq_some_iff.1 h2
  have h5 : (cs.drop i).take 1 = [c] := by
    rw [List.drop_eq_getElem_cons hil, hie]
    rfl
  rw [ho, hc, h5] at h4
  have hi : i < fs.size := (Array.getElem?_eq_some_iff.1 hf1).1
  exact ⟨ys[i]'(by omega), n, by rw [h4, List.getElem?_eq_getElem (by omega)]⟩

theorem fields_Tm : Try.prog.underlying 69 = some (.struct (Try.prog.fieldsOf 69)) := by kernel_rfl
theorem types_Tm : (Try.prog.fieldsOf 69).toList.map (fun f => (f.type, f.offset)) = [(9, 0), (4, 1), (67, 2)] := by kernel_rfl
theorem cells_Tm : Try.prog.cellsOf 69 = 6 := by kernel_rfl
theorem cells_str : Try.prog.cellsOf 9 = 1 := by kernel_rfl
theorem fields_Lt : Try.prog.underlying 45 = some (.struct (Try.prog.fieldsOf 45)) := by kernel_rfl
theorem one_Lt : oneCellFields Try.prog (Try.prog.fieldsOf 45) = true := by kernel_rfl
theorem types_Lt : (Try.prog.fieldsOf 45).toList.map (·.type) = [4, 9, 43, 3] := by kernel_rfl
theorem cells_Lt : Try.prog.cellsOf 45 = 4 := by kernel_rfl
theorem fields_Ru : Try.prog.underlying 30 = some (.struct (Try.prog.fieldsOf 30)) := by kernel_rfl
theorem one_Ru : oneCellFields Try.prog (Try.prog.fieldsOf 30) = true := by kernel_rfl
theorem types_Ru : (Try.prog.fieldsOf 30).toList.map (·.type) = [3, 9, 26, 3, 9, 2, 28] := by kernel_rfl
theorem cells_Ru : Try.prog.cellsOf 30 = 7 := by kernel_rfl

theorem trod_Tm {W : World} {base fuel : Nat} {cs : List Value} {x : DataW H × List MemPlace} (h : DataW.trod enc Try.prog W base (fun _ => true) true fuel 69 cs = some x) : ∃ v : ByteArray × List Value, cs = .string v.1 :: v.2 ∧ True := by
  obtain ⟨ys, n, _, _, hlen, hyl, hf⟩ := DataW.trod_struct fields_Tm h
  rw [cells_Tm] at hlen
  have hty := types_Tm
  generalize Try.prog.fieldsOf 69 = fs at *
  have h0 : ∃ f, fs[0]? = some f ∧ f.type = 9 ∧ f.offset = 0 := by
    have := congrArg (·[0]?) hty
    simp only [List.getElem?_map, List.getElem?_cons_zero, Array.getElem?_toList] at this
    obtain ⟨f, h1, h2⟩ := Option.map_eq_some_iff.1 this
    exact ⟨f, h1, congrArg Prod.fst h2, congrArg Prod.snd h2⟩
  obtain ⟨f, h1, h2, h3⟩ := h0
  have h4 := hf 0 f h1
  have hi : 0 < fs.size := (Array.getElem?_eq_some_iff.1 h1).1
  rw [h2, h3, cells_str, List.getElem?_eq_getElem (by omega)] at h4
  obtain ⟨s, e, _, _⟩ := DataW.trod_string Try.underlying9 h4
  match cs, hlen, e with
  | c0 :: cs, _, e =>
    simp only [List.drop_zero, List.take_succ_cons, List.take_zero, List.cons.injEq, and_true] at e
    exact ⟨(s, cs), by rw [e], trivial⟩

theorem tms_of {W : World} {A : Option Addr} {xs : List (ByteArray × List Value)} (h : ∀ (i : Nat) (v : ByteArray × List Value), xs[i]? = some v → True ∧ ∃ a : Addr, A = some a ∧ ∀ (j : Nat) (u : Value), (Value.string v.1 :: v.2)[j]? = some u → W.cell? ((a.add (i * Try.prog.cellsOf 69)).add j) = some u) : TmsAt W A (xs.map (·.1)) := by
  intro i s hi
  rw [List.getElem?_map] at hi
  obtain ⟨v, hv, rfl⟩ := Option.map_eq_some_iff.1 hi
  obtain ⟨_, a, ha, hc⟩ := h i v hv
  refine ⟨a, ha, ?_⟩
  have := hc 0 _ rfl
  rw [cells_Tm] at this
  simpa [Addr.add] using this

theorem trod_Lt {W : World} {base fuel : Nat} {cs : List Value} {x : DataW H × List MemPlace} (h : DataW.trod enc Try.prog W base (fun _ => true) true fuel 45 cs = some x) :
    ∃ v : Lm, cs = [.bool v.n, .string v.s, .slice v.A v.m v.c, .int .i64 v.o] ∧ (v.m ≤ maxLen ∧ ∃ vs : List ByteArray, vs.length = v.m ∧ TmsAt W v.A vs) := by
  obtain ⟨hlen, hf⟩ := trod_field fields_Lt one_Lt types_Lt h
  rw [cells_Lt] at hlen
  match cs, hlen with
  | [c0, c1, c2, c3], _ =>
    obtain ⟨y0, n0, g0⟩ := hf 0 _ c0 rfl rfl
    obtain ⟨y1, n1, g1⟩ := hf 1 _ c1 rfl rfl
    obtain ⟨y2, n2, g2⟩ := hf 2 _ c2 rfl rfl
    obtain ⟨y3, n3, g3⟩ := hf 3 _ c3 rfl rfl
    obtain ⟨b, e0, _⟩ := DataW.trod_bool Try.underlying4 g0
    obtain ⟨s, e1, _, _⟩ := DataW.trod_string Try.underlying9 g1
    obtain ⟨A, c, xs, e2, hl, hx⟩ := open_listT (α := ByteArray × List Value) Try.underlying43 (fun v => .string v.1 :: v.2) (fun _ => True) (fun _ _ _ h => trod_Tm h) g2
    obtain ⟨o, e3, _⟩ := DataW.trod_int Try.underlying3 g3
    simp only [List.cons.injEq, and_true] at e0 e1 e2 e3
    subst e0 e1 e2 e3
    exact ⟨⟨b, s, A, xs.length, c, o⟩, rfl, hl, xs.map (·.1), by rw [List.length_map], tms_of hx⟩
end
end Go.Proofs.Ytojpccngcicbmaa
