/-
  What every statement's proof ends with: a call that answers true and changes nothing that was there meets 'for every input true, each argument reads as it did'; and how an argument that is a value is opened.
  No condition.
-/
import Derived.Test.YthdjkagodccdbaaRows
import Derived.ProofKit
import Derived.Carry
import Derived.Deep.Slices
import Derived.Deep.Fields
import Derived.Lib.SmallJoins
import Derived.Test.YthdjkagodccdbaaM2
namespace Go.Proofs.Ythdjkagodccdbaa
open Go.ChangeShapes Go.WideShapes Go.ChangeAt Go.RowKit Go.Deep

theorem Try.own : ownKnob Try.prog.godebug = none := by kernel_rfl
theorem Try.laidOut : laidOutB Try.prog = true := by kernel_rfl

section
variable {H : Type} {enc : TypeId × Value → H} {P : Program}

theorem trodAll_kept (hl : laidOutB P = true) {W W' : World} (hb : Below W.heap.size W W') : ∀ (ts : List TypeId) (vs : List Value) (ds : List (DataW H)) (p : List MemPlace), (∀ t ∈ ts, P.readableRec t = true ∧ t < P.types.size) →
    DataW.TrodAll enc P W 0 (fun _ => true) true ts vs ds p → (∀ x ∈ p, x.block < W.heap.size) → DataW.TrodAll enc P W' 0 (fun b => decide (b < W.heap.size)) true ts vs ds p
  | [], vs, ds, p, _, h, _ => by
    cases vs <;> cases ds <;> simp [DataW.TrodAll] at h ⊢
    exact h
  | t :: ts, vs, ds, p, hr, h, hlt => by
    obtain ⟨v, vs', d, ds', p1, q1, rfl, rfl, rfl, h1, h2⟩ := trodAll_cons h
    have ht := hr t (by simp)
    have ih := trodAll_kept hl hb ts vs' ds' q1 (fun t' h' => hr t' (by simp [h'])) h2 (fun x hx => hlt x (by simp [hx]))
    exact ⟨p1, q1, Below.trod hl ht.1 ht.2 h1 hb (fun x hx => hlt x (by simp [hx])), ih, rfl⟩

/-- The end of a law's proof. -/
theorem law_post (hl : laidOutB P = true) {f : Func} {s : ChangeSpec} {W W' : World} {args : Array Value} {ds gs : List (DataW H)} {before : List MemPlace} {tb : TypeId} (hv : s.vars = [])
    (hW : DataW.Whole enc P f.params.toList s.vars false W args.toList ds gs before) (hr : ∀ t ∈ f.params.toList, P.readableRec t = true ∧ t < P.types.size)
    (hrt : f.resultTypes = #[tb]) (htb : P.underlying tb = some .bool)
    (hres : (s.fn H (ds ++ gs)).results = [.lit (.bool true)]) (hargs : (s.fn H (ds ++ gs)).args = ds) (hvars : (s.fn H (ds ++ gs)).vars = []) (hb : Below W.heap.size W W') :
    s.post enc P f false true false false W args (.bool true) W' := by
  have hlt : ∀ x ∈ before, x.block < W.heap.size := fun x hx => hW.lt x hx
  have hW2 := hW
  obtain ⟨p, q, hA, hV, rfl, _, _⟩ := hW
  rw [hv] at hV
  have hq : q = [] := by
    cases gs with
    | nil => simpa [DataW.TrodVars] using hV
    | cons g gs => simp [DataW.TrodVars] at hV
  subst hq
  refine ⟨ds, gs, _, [], p, [], hW2, ?_, ?_, ?_, hb.frame _, fun h => by cases h⟩
  · rw [hres, hrt]
    exact trodAll_mk1 (shut_bool htb true)
  · rw [hargs]
    exact trodAll_kept hl hb _ _ _ _ hr hA (fun x hx => hlt x (by simp [hx]))
  · rw [hvars, hv]
    exact rfl
end

theorem fields_V : Try.prog.underlying 59 = some (.struct (Try.prog.fieldsOf 59)) := by kernel_rfl
theorem one_V_fields : oneCellFields Try.prog (Try.prog.fieldsOf 59) = true := by kernel_rfl
theorem types_V : (Try.prog.fieldsOf 59).toList.map (·.type) = [3, 4, 2, 9] := by kernel_rfl
theorem cells_V : Try.prog.cellsOf 59 = 4 := by kernel_rfl

section
variable {H : Type} {enc : TypeId × Value → H}

set_option maxRecDepth 10000 in
/-- Four cells that read as a value are a value's. -/
theorem trod_V {w : World} {base fuel : Nat} {spare : Nat → Bool} {held : Bool} {cs : List Value} {x : DataW H × List MemPlace} (h : DataW.trod enc Try.prog w base spare held fuel 59 cs = some x) :
    ∃ v : V, cs = [.int .i64 v.k, .bool v.f, .int .i64 v.n, .string v.t] ∧ v.t.size ≤ maxLen := by
  obtain ⟨ys, n, _, _, hlen, hyl, hf⟩ := DataW.trod_struct fields_V h
  rw [cells_V] at hlen
  have hty := types_V
  have hone := hone_of one_V_fields
  generalize Try.prog.fieldsOf 59 = fs at *
  obtain ⟨l⟩ := fs
  have hll : l.length = 4 := by
    have := congrArg List.length hty
    simpa using this
  match l, hll, hty with
  | [f0, f1, f2, f3], _, hty =>
    simp only [List.map_cons, List.map_nil, List.cons.injEq, and_true] at hty
    obtain ⟨t0, t1, t2, t3⟩ := hty
    have hy4 : ys.length = 4 := hyl
    match cs, hlen, ys, hy4 with
    | [c0, c1, c2, c3], _, [y0, y1, y2, y3], _ =>
      have g : ∀ (i : Nat) (f : Field) (c : Value) (y : DataW H × List MemPlace), (#[f0, f1, f2, f3] : Array Field)[i]? = some f → [c0, c1, c2, c3][i]? = some c → [y0, y1, y2, y3][i]? = some y → DataW.trod enc Try.prog w base spare held n f.type [c] = some y := by
        intro i f c y h1 h2 h3
        have h4 := hf i f h1
        obtain ⟨ho, hc⟩ := hone i f h1
        rw [ho, hc, h3] at h4
        have h5 : (List.drop i [c0, c1, c2, c3]).take 1 = [c] := by
          match i, h2 with
          | 0, h2 => simpa using h2
          | 1, h2 => simpa using h2
          | 2, h2 => simpa using h2
          | 3, h2 => simpa using h2
          | k + 4, h2 => simp at h2
        rw [h5] at h4
        exact h4
      have g0 := g 0 f0 c0 y0 rfl rfl rfl
      have g1 := g 1 f1 c1 y1 rfl rfl rfl
      have g2 := g 2 f2 c2 y2 rfl rfl rfl
      have g3 := g 3 f3 c3 y3 rfl rfl rfl
      rw [t0] at g0
      rw [t1] at g1
      rw [t2] at g2
      rw [t3] at g3
      obtain ⟨k, e0, _⟩ := DataW.trod_int Try.underlying3 g0
      obtain ⟨f, e1, _⟩ := DataW.trod_bool Try.underlying4 g1
      obtain ⟨q, e2, _⟩ := DataW.trod_int Try.underlying2 g2
      obtain ⟨s, e3, _, hs⟩ := DataW.trod_string Try.underlying9 g3
      simp only [List.cons.injEq, and_true] at e0 e1 e2 e3
      subst e0 e1 e2 e3
      exact ⟨⟨k, f, q, s⟩, rfl, hs⟩

set_option maxRecDepth 10000 in
/-- An argument that is a value. -/
theorem open_V {W : World} {base : Nat} {v : Value} {d : DataW H} {p : List MemPlace} {r : Reach} {b0 : Nat} (h : DataW.Trod enc Try.prog W base (fun _ => true) true 59 v d p) (hok : Value.okWide Try.prog W r b0 59 v) :
    ∃ u : V, v = u.val ∧ u.t.size ≤ maxLen := by
  obtain ⟨cs, rfl, hsz⟩ := okWide_struct fields_V hok
  obtain ⟨fuel, hf⟩ := h
  obtain ⟨u, hu, hs⟩ := trod_V hf
  obtain ⟨l⟩ := cs
  refine ⟨u, ?_, hs⟩
  have hl : l = [.int .i64 u.k, .bool u.f, .int .i64 u.n, .string u.t] := by simpa [Value.cells] using hu
  subst hl
  rfl
end

theorem readable_Vs (t : TypeId) (h : t ∈ [59, 3, 4, 2, 9]) : Try.prog.readableRec t = true ∧ t < Try.prog.types.size := by
  simp only [List.mem_cons, List.not_mem_nil, or_false] at h
  rcases h with rfl | rfl | rfl | rfl | rfl <;> exact ⟨by kernel_rfl, of_decide_eq_true (by kernel_rfl)⟩
end Go.Proofs.Ythdjkagodccdbaa
