/-
  FactsRows of verdererlaw10 answers true at every list of acts, every object, every tenant and every relation, and the arguments read afterwards as they read before: an object's row, a tenant's, and all rows of any relation, are what the document says.
  No condition.
-/
import Derived.Carry
import Derived.Test.YtdhpoaecedpbdaaGreatZ49
namespace Go.Proofs.YtdhpoaecedpbdaaGreat
open Go.ChangeShapes Go.WideShapes Go.ChangeAt Go.RowKit Go.Deep

theorem fields_TnF : Tryz.prog.underlying 27 = some (.struct (Tryz.prog.fieldsOf 27)) := by kernel_rfl
theorem one_TnF_fields : oneCellFields Tryz.prog (Tryz.prog.fieldsOf 27) = true := by kernel_rfl
theorem types_TnF : (Tryz.prog.fieldsOf 27).toList.map (·.type) = [9, 9] := by kernel_rfl
theorem cells_TnF : Tryz.prog.cellsOf 27 = 2 := by kernel_rfl
section
variable {H : Type} {enc : TypeId × Value → H}
set_option maxRecDepth 10000 in
theorem trod_TnF {w : World} {base fuel : Nat} {cs : List Value} {x : DataW H × List MemPlace} (h : DataW.trod enc Tryz.prog w base (fun _ => true) true fuel 27 cs = some x) :
    ∃ a b : ByteArray, cs = [.string a, .string b] := by
  obtain ⟨ys, n, _, _, hlen, hyl, hf⟩ := DataW.trod_struct fields_TnF h
  rw [cells_TnF] at hlen
  have hty := types_TnF
  have hone := hone_of one_TnF_fields
  generalize Tryz.prog.fieldsOf 27 = fs at *
  obtain ⟨l⟩ := fs
  have hll : l.length = 2 := by
    have := congrArg List.length hty
    simpa using this
  match l, hll, hty with
  | [f0, f1], _, hty =>
    simp only [List.map_cons, List.map_nil, List.cons.injEq, and_true] at hty
    obtain ⟨t0, t1⟩ := hty
    have hy3 : ys.length = 2 := hyl
    match cs, hlen, ys, hy3 with
    | [c0, c1], _, [y0, y1], _ =>
      have g : ∀ (i : Nat) (f : Field) (c : Value) (y : DataW H × List MemPlace), (#[f0, f1] : Array Field)[i]? = some f → [c0, c1][i]? = some c → [y0, y1][i]? = some y → DataW.trod enc Tryz.prog w base (fun _ => true) true n f.type [c] = some y := by
        intro i f c y h1 h2 h3
        have h4 := hf i f h1
        obtain ⟨ho, hc⟩ := hone i f h1
        rw [ho, hc, h3] at h4
        have h5 : (List.drop i [c0, c1]).take 1 = [c] := by
          match i, h2 with
          | 0, h2 => simpa using h2
          | 1, h2 => simpa using h2
          | k + 2, h2 => simp at h2
        rw [h5] at h4
        exact h4
      have g0 := g 0 f0 c0 y0 rfl rfl rfl
      have g1 := g 1 f1 c1 y1 rfl rfl rfl
      rw [t0] at g0
      rw [t1] at g1
      obtain ⟨s, e1, _, _⟩ := DataW.trod_string Tryz.underlying9 g0
      obtain ⟨s2, e2, _, _⟩ := DataW.trod_string Tryz.underlying9 g1
      simp only [List.cons.injEq, and_true] at e1 e2
      subst e1 e2
      exact ⟨s, s2, rfl⟩
set_option maxRecDepth 100000 in
theorem open_TnF {W : World} {base : Nat} {v : Value} {d : DataW H} {p : List MemPlace} {r : Reach} {b0 : Nat} (h : DataW.Trod enc Tryz.prog W base (fun _ => true) true 27 v d p) (hok : Value.okWide Tryz.prog W r b0 27 v) :
    ∃ a b : ByteArray, v = .agg #[.string a, .string b] := by
  obtain ⟨cs, rfl, hsz⟩ := okWide_struct fields_TnF hok
  obtain ⟨fuel, hf⟩ := h
  obtain ⟨a, b, hu⟩ := trod_TnF hf
  obtain ⟨l⟩ := cs
  refine ⟨a, b, ?_⟩
  have hl : l = [.string a, .string b] := by simpa [Value.cells] using hu
  subst hl
  rfl
end
theorem readable_F (t : TypeId) (h : t ∈ [22, 25, 27, 9]) : Tryz.prog.readableRec t = true ∧ t < Tryz.prog.types.size := by
  simp only [List.mem_cons, List.not_mem_nil, or_false] at h
  rcases h with rfl | rfl | rfl | rfl <;> exact ⟨by kernel_rfl, of_decide_eq_true (by kernel_rfl)⟩

set_option maxRecDepth 100000 in
theorem factsRows_lifted (os : Os) (started : os.Started) (H : Type) (enc : TypeId × Value → H) :
    ReturnsInHanded {} Tryz.checked os 3 .any (Rows.factsRowsSpec.pre6 enc Tryz.prog Tryz.f3 Rows.factsRowsRow.domain false) (Rows.factsRowsSpec.post enc Tryz.prog Tryz.f3 false true false false) := by
  refine returnsInHanded_of_change (C := Tryz.checked) Tryz.own started (by kernel_rfl) Tryz.func3
    (ChangeSpec.witness6 (enc := enc) (C := Tryz.checked) false ⟨#[], #[.slice none 0 0, .agg #[.string ⟨#[]⟩, .string ⟨#[]⟩, .string ⟨#[]⟩, .int .i64 0, .slice none 0 0], .agg #[.string ⟨#[]⟩, .string ⟨#[]⟩], .string ⟨#[]⟩], []⟩ 8 (by kernel_rfl) (by kernel_rfl) (by kernel_rfl) (by kernel_rfl)) ?_
  intro W base args ds gs before hval0 hW hcnd _
  have hval : ∀ (j : Nat) t v, Tryz.f3.params[j]? = some t → args[j]? = some v → Value.okWide Tryz.prog W .any base t v := hval0
  have hW' := hW
  obtain ⟨p, q, hA0, hV, rfl, hfz, hnd⟩ := hW
  have hA : DataW.TrodAll enc Tryz.prog W 0 (fun _ => true) true Tryz.f3.params.toList args.toList ds p := hA0
  rw [Tryz.params3] at hA hval
  obtain ⟨v0, v1, v2, v3, d0, d1, d2, d3, p0, p1, p2, p3, rfl, rfl, rfl, h0, h1, h2, h3⟩ := trodAll_four hA
  obtain ⟨rfl, rfl⟩ := trodVars_none hV
  obtain ⟨A, n, c, xs, rfl, rfl, _, hAt⟩ := open_acts8 h0 (hval 0 22 v0 rfl rfl)
  obtain ⟨o, rfl, _, _, _, _, hoc, hor, _⟩ := open_Ob h1 (hval 1 25 v1 rfl rfl)
  obtain ⟨ta, tb, rfl⟩ := open_TnF h2 (hval 2 27 v2 rfl rfl)
  obtain ⟨s, rfl, _, _, _⟩ := Go.ChangeMaps.open_string Tryz.underlying9 (hval 3 9 v3 rfl rfl) h3
  refine (factsRows_all A o.at' c o.cap xs xs.length o.k o.s o.n o.v o.row o.row.length ta tb s W rfl hAt rfl hor hoc).mono fun e W' ⟨he, hb⟩ => ?_
  subst he
  exact ⟨_, rfl, law_post Tryz.laidOut rfl hW' (by rw [Tryz.params3]; intro t ht; exact readable_F t (by simp at ht; simp [ht])) (by kernel_rfl) Tryz.underlying4 rfl rfl rfl hb⟩

theorem factsRows_holds : Rows.FactsRowsSaid :=
  OpenClaim.holds_of_wide 3 Tryz.f3 rfl rfl rfl rfl rfl rfl rfl ⟨rfl, rfl, rfl, rfl, rfl⟩ rfl rfl rfl rfl rfl (by kernel_rfl) Tryz.func3 (by kernel_rfl)
    (of_decide_eq_true (by kernel_rfl)) (by unfold Func.isWrapper; first | (rw [if_pos (by decide +kernel)]; kernel_rfl) | (rw [if_neg (by decide +kernel)]; exact ⟨rfl, rfl⟩))
    (fun os started H enc _ => factsRows_lifted os started H enc)
end Go.Proofs.YtdhpoaecedpbdaaGreat
