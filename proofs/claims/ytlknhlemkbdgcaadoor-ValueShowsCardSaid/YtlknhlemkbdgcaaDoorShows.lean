/-
  ValueShows of verdererlaw01 answers true at every value, and its argument reads afterwards as it read before: Show of package value shows the word that the document names, and Read reads it as the value, where the value can be.
  Condition: the five listed variables of the library read as the program's text lays them; the card ties that to the text of the pruned copy of the project.
-/
import Derived.Test.YtlknhlemkbdgcaaDoorDoor
import Derived.Test.YtlknhlemkbdgcaaDoorRshow
import Derived.Test.YtlknhlemkbdgcaaDoorCards
import Derived.Test.YtlknhlemkbdgcaaDoorTie
import Derived.SevenTiedAt
namespace Go.Proofs.YtlknhlemkbdgcaaDoor
open Go.ChangeShapes Go.WideShapes Go.ChangeAt Go.RowKit Go.Deep

section
variable {H : Type} {enc : TypeId × Value → H}

/-- Four cells that read as a value are a value's. -/
theorem trod_Vw {w : World} {base fuel : Nat} {spare : Nat → Bool} {held : Bool} {cs : List Value} {x : DataW H × List MemPlace} (h : DataW.trod enc Tryd.prog w base spare held fuel 23 cs = some x) :
    ∃ v : V, cs = [.int .i64 v.k, .bool v.f, .int .i64 v.n, .string v.t] ∧ v.t.size ≤ maxLen ∧ Wide v := by
  obtain ⟨ys, n, _, _, hlen, hyl, hf⟩ := DataW.trod_struct fields_V h
  rw [cells_V] at hlen
  have hty := types_V
  have hone := hone_of one_V_fields
  generalize Tryd.prog.fieldsOf 23 = fs at *
  obtain ⟨l⟩ := fs
  have hll : l.length = 4 := by
    have := congrArg List.length hty
    simpa using this
  match l, hll, hty with
  | [f0, f1, f2, f3], _, hty =>
    simp only [List.map_cons, List.map_nil, List.cons.injEq, and_true] at hty
    obtain ⟨t0, t1, t2, t3⟩ := hty
    have hy4 : ys.length = 4 := hyl
    match cs, hlen, ys, hy4 with
    | [c0, c1, c2, c3], _, [y0, y1, y2, y3], _ =>
      have g : ∀ (i : Nat) (f : Field) (c : Value) (y : DataW H × List MemPlace), (#[f0, f1, f2, f3] : Array Field)[i]? = some f → [c0, c1, c2, c3][i]? = some c → [y0, y1, y2, y3][i]? = some y → DataW.trod enc Tryd.prog w base spare held n f.type [c] = some y := by
        intro i f c y h1 h2 h3
        have h4 := hf i f h1
        obtain ⟨ho, hc⟩ := hone i f h1
        rw [ho, hc, h3] at h4
        have h5 : (List.drop i [c0, c1, c2, c3]).take 1 = [c] := by
          match i, h2 with
          | 0, h2 => simpa using h2
          | 1, h2 => simpa using h2
          | 2, h2 => simpa using h2
          | 3, h2 => simpa using h2
          | k + 4, h2 => simp at h2
        rw [h5] at h4
        exact h4
      have g0 := g 0 f0 c0 y0 rfl rfl rfl
      have g1 := g 1 f1 c1 y1 rfl rfl rfl
      have g2 := g 2 f2 c2 y2 rfl rfl rfl
      have g3 := g 3 f3 c3 y3 rfl rfl rfl
      rw [t0] at g0
      rw [t1] at g1
      rw [t2] at g2
      rw [t3] at g3
      obtain ⟨k, e0, _⟩ := DataW.trod_int Tryd.underlying3 g0
      obtain ⟨f, e1, _⟩ := DataW.trod_bool Tryd.underlying4 g1
      obtain ⟨q, e2, _, hq⟩ := DataW.trod_int Tryd.underlying2 g2
      obtain ⟨s, e3, _, hs⟩ := DataW.trod_string Tryd.underlying9 g3
      simp only [List.cons.injEq, and_true] at e0 e1 e2 e3
      subst e0 e1 e2 e3
      refine ⟨⟨k, f, q, s⟩, rfl, hs, ?_⟩
      show -9223372036854775808 ≤ q ∧ q ≤ 9223372036854775807
      simp [Lit.wf, IntKind.min, IntKind.max, IntKind.bits, IntKind.signed] at hq
      omega

/-- An argument that is a value. -/
theorem open_Vw {W : World} {base : Nat} {v : Value} {d : DataW H} {p : List MemPlace} {r : Reach} {b0 : Nat} (h : DataW.Trod enc Tryd.prog W base (fun _ => true) true 23 v d p) (hok : Value.okWide Tryd.prog W r b0 23 v) :
    ∃ u : V, v = u.val ∧ u.t.size ≤ maxLen ∧ Wide u := by
  obtain ⟨cs, rfl, hsz⟩ := okWide_struct fields_V hok
  obtain ⟨fuel, hf⟩ := h
  obtain ⟨u, hu, hs⟩ := trod_Vw hf
  obtain ⟨l⟩ := cs
  refine ⟨u, ?_, hs⟩
  have hl : l = [.int .i64 u.k, .bool u.f, .int .i64 u.n, .string u.t] := by simpa [Value.cells] using hu
  subst hl
  rfl
end

section
attribute [local go_sem high] equal_val

set_option maxRecDepth 100000 in
set_option maxHeartbeats 2000000 in
theorem shows_all (v : V) (w : World) (hw : Wide v) (hv : Vars w) : Calls Tryd.prog 5 #[v.val] w fun e w' => e = .returned (.bool true) ∧ Below w.heap.size w w' := by
  obtain ⟨k, f, n, t⟩ := v
  show Calls Tryd.prog 5 #[.agg #[.int .i64 k, .bool f, .int .i64 n, .string t]] w _
  have HV := Lib.hid hv
  have HS := Lib.hid (fun W (h : Vars W) => show_val ⟨k, f, n, t⟩ W hw h)
  have HRS := Lib.hid (fun W => ref_show ⟨k, f, n, t⟩ W hw)
  have HRR := Lib.hid (fun W => ref_right ⟨k, f, n, t⟩ W)
  have hback := fun h => read_show ⟨k, f, n, t⟩ h hw
  have e1 : eqV ⟨k, f, n, t⟩ ⟨k, f, n, t⟩ = true := (eqV_iff _ _).2 rfl
  have HB := Lib.hid hback
  have hsize := right_size ⟨k, f, n, t⟩
  have HZ := Lib.hid hsize
  clear hv hback hsize hw
  by_cases h5 : 500 < t.size
  · have hr : rightV ⟨k, f, n, t⟩ = false := by
      rcases Bool.eq_false_or_eq_true (rightV ⟨k, f, n, t⟩) with h | h
      · have := HZ.out h
        simp only at this
        omega
      · exact h
    have hs : showV ⟨k, f, n, t⟩ = [] := by unfold showV; rw [hr]; rfl
    have HS0 := Lib.hid hs
    clear hr hs
    go_enter Tryd.func5, Tryd.ntmps5
    go_wp2_with (fail)
    refine (HS.out _ (HV.out.later (one_new _ _))).mono ?_
    rintro e w1 ⟨rfl, hb1⟩
    rw [HS0.out]
    have HB1 := Lib.hid ((one_new w (.cells #[.int .i64 k, .bool f, .int .i64 n, .string t] 23)).trans (hb1.mono (by simp)))
    clear hb1
    go_wp2_with (go_at_call 14; refine (known _ (HV.out.later HB1.out)).mono ?_; rintro e w2 ⟨rfl, hb2⟩)
    go_ret
    exact ⟨rfl, HB1.out.trans (hb2.mono HB1.out.size)⟩
  · have b5 : ¬ 500 < (t.size : Int) := by omega
    have b6 : decide (500 < (t.size : Int)) = false := by simpa using b5
    clear h5
    obtain ⟨X, hX⟩ : ∃ X, X = showV ⟨k, f, n, t⟩ := ⟨_, rfl⟩
    have HX := Lib.hid hX
    rcases Bool.eq_false_or_eq_true (rightV ⟨k, f, n, t⟩) with hr | hr
    · have HR := Lib.hid hr
      have hread : ∀ W, Vars W → Calls Tryd.prog 20 #[.string ⟨X.toArray⟩] W fun e w' => e = .returned (.tuple #[.agg #[.int .i64 k, .bool f, .int .i64 n, .string t], .int .i64 0]) ∧ Below W.heap.size W w' := by
        intro W hW
        have h := read_all ⟨X.toArray⟩ W hW
        have e9 : (⟨X.toArray⟩ : ByteArray).data.toList = X := rfl
        rw [e9, HX.out, HB.out HR.out] at h
        rw [HX.out]
        exact h
      have HRD := Lib.hid hread
      clear hr hread hX
      go_enter Tryd.func5, Tryd.ntmps5
      go_wp2_with (fail)
      refine (HS.out _ (HV.out.later (one_new _ _))).mono ?_
      rintro e w1 ⟨rfl, hb1⟩
      rw [← HX.out]
      obtain ⟨c0, c1, c2, c3, f0, f1, f2, f3, hz⟩ := box_later hb1
      have HB1 := Lib.hid hb1
      clear hb1
      go_wp2_with (fail)
      refine (HRS.out _).mono ?_
      rintro e w2 ⟨rfl, hb2⟩
      rw [← HX.out]
      have HB2 := Lib.hid (HB1.out.trans (hb2.mono HB1.out.size))
      clear c0 c1 c2 c3 f0 f1 f2 f3 hz hb2
      obtain ⟨c0, c1, c2, c3, f0, f1, f2, f3, hz⟩ := box_later HB2.out
      go_wp2_with (fail)
      refine (HRR.out _).mono ?_
      rintro e w3 ⟨rfl, hb3⟩
      rw [HR.out]
      have HB3 := Lib.hid (HB2.out.trans (hb3.mono HB2.out.size))
      clear c0 c1 c2 c3 f0 f1 f2 f3 hz hb3
      obtain ⟨c0, c1, c2, c3, f0, f1, f2, f3, hz⟩ := box_later HB3.out
      have hone := one_new w (.cells #[.int .i64 k, .bool f, .int .i64 n, .string t] 23)
      have HO := Lib.hid hone
      clear hone
      go_wp2_with (fail)
      refine (HRD.out _ (HV.out.later (HO.out.trans (HB3.out.mono HO.out.size)))).mono ?_
      rintro e w4 ⟨rfl, hb4⟩
      have HB4 := Lib.hid (HB3.out.trans (hb4.mono HB3.out.size))
      clear c0 c1 c2 c3 f0 f1 f2 f3 hz hb4
      obtain ⟨c0, c1, c2, c3, f0, f1, f2, f3, hz⟩ := box_later HB4.out
      have HO2 := Lib.hid (bnew' (HO.out.trans (HB4.out.mono HO.out.size)) (Nat.le_refl _) (.cells #[.int .i64 k, .bool f, .int .i64 n, .string t] 23))
      go_wp2_with (fail)
      refine (known _ (HV.out.later HO2.out)).mono ?_
      rintro e w5 ⟨rfl, hb5⟩
      have HB5 := Lib.hid (HO2.out.trans (hb5.mono HO2.out.size))
      clear c0 c1 c2 c3 f0 f1 f2 f3 hz hb5
      go_wp2_with (fail)
      go_ret
      exact ⟨rfl, HB5.out⟩
    · have HR := Lib.hid hr
      have hs : showV ⟨k, f, n, t⟩ = [] := by unfold showV; rw [hr]; rfl
      have HS0 := Lib.hid hs
      clear hr hs hX HX
      go_enter Tryd.func5, Tryd.ntmps5
      go_wp2_with (fail)
      refine (HS.out _ (HV.out.later (one_new _ _))).mono ?_
      rintro e w1 ⟨rfl, hb1⟩
      rw [HS0.out]
      obtain ⟨c0, c1, c2, c3, f0, f1, f2, f3, hz⟩ := box_later hb1
      have HB1 := Lib.hid hb1
      clear hb1
      go_wp2_with (fail)
      refine (HRS.out _).mono ?_
      rintro e w2 ⟨rfl, hb2⟩
      rw [HS0.out]
      have HB2 := Lib.hid (HB1.out.trans (hb2.mono HB1.out.size))
      clear c0 c1 c2 c3 f0 f1 f2 f3 hz hb2
      obtain ⟨c0, c1, c2, c3, f0, f1, f2, f3, hz⟩ := box_later HB2.out
      go_wp2_with (fail)
      refine (HRR.out _).mono ?_
      rintro e w3 ⟨rfl, hb3⟩
      rw [HR.out]
      have HB3 := Lib.hid (HB2.out.trans (hb3.mono HB2.out.size))
      clear c0 c1 c2 c3 f0 f1 f2 f3 hz hb3
      have hone := one_new w (.cells #[.int .i64 k, .bool f, .int .i64 n, .string t] 23)
      have HO := Lib.hid (hone.trans (HB3.out.mono hone.size))
      clear hone
      go_wp2_with (go_at_call 14; refine (known _ (HV.out.later HO.out)).mono ?_; rintro e w5 ⟨rfl, hb5⟩)
      go_ret
      exact ⟨rfl, HO.out.trans (hb5.mono HO.out.size)⟩
end

set_option maxRecDepth 100000 in
theorem valueShows_lifted (os : Os) (started : os.Started) (H : Type) (enc : TypeId × Value → H) :
    ReturnsInHanded {} Tryd.checked os 5 .any (fun w args => (Rows.valueShowsSpec.pre enc Tryd.prog Tryd.f5 [] false w args ∧ laidMetH Tryd.prog Rows.valueMakesRow.laid w) ∧ sizedMet enc Tryd.prog Tryd.f5 (OpenSpec.ofChange Rows.valueShowsSpec) false w args)
      (Rows.valueShowsSpec.post enc Tryd.prog Tryd.f5 false true false false) := by
  refine returnsInHanded_of_change_and (C := Tryd.checked) (X := fun w _ => laidMetH Tryd.prog Rows.valueMakesRow.laid w) (fun _ _ _ hh h => h.of_heap hh) Tryd.own started (by kernel_rfl) Tryd.func5
    (ChangeSpec.witness_shaped (enc := enc) (C := Tryd.checked) (os := os) (X := fun w _ => laidMetH Tryd.prog Rows.valueMakesRow.laid w) false (World.doorLaid Tryd.prog 400 os) #[.agg #[.int .i64 0, .bool false, .int .i64 0, .string ⟨#[]⟩]] 8 rfl (World.shaped_of_RefB (by kernel_rfl) (by kernel_rfl)) (by kernel_rfl) (by kernel_rfl) (by kernel_rfl) (door_met os _)) ?_
  intro W base args ds gs before hval0 hW _ _ hL _
  have hval : ∀ (j : Nat) t v, Tryd.f5.params[j]? = some t → args[j]? = some v → Value.okWide Tryd.prog W .any base t v := hval0
  have hW' := hW
  obtain ⟨p, q, hA0, hV, rfl, hfz, hnd⟩ := hW
  have hA : DataW.TrodAll enc Tryd.prog W 0 (fun _ => true) true Tryd.f5.params.toList args.toList ds p := hA0
  rw [Tryd.params5] at hA hval
  obtain ⟨v0, d0, rfl, rfl, h0⟩ := trodAll_one hA
  obtain ⟨rfl, rfl⟩ := trodVars_none hV
  obtain ⟨v, rfl, _, hwide⟩ := open_Vw h0 (hval 0 23 v0 rfl rfl)
  have hvars := vars_of_laid hL
  refine (shows_all v W hwide hvars).mono fun e W' ⟨he, hb⟩ => ?_
  subst he
  exact ⟨_, rfl, law_post Tryd.laidOut rfl hW' (by rw [Tryd.params5]; intro t ht; exact readable_Vs t (by simp at ht; simp [ht])) (by kernel_rfl) Tryd.underlying4 rfl rfl rfl hb⟩

theorem valueShows_holds : Rows.ValueShowsSaid :=
  OpenClaim.holds_of_wide 5 Tryd.f5 rfl rfl rfl rfl rfl rfl rfl ⟨rfl, rfl, rfl, rfl, rfl⟩ rfl rfl rfl rfl rfl (by kernel_rfl) Tryd.func5 (by kernel_rfl)
    (of_decide_eq_true (by kernel_rfl)) (by unfold Func.isWrapper; first | (rw [if_pos (by decide +kernel)]; kernel_rfl) | (rw [if_neg (by decide +kernel)]; exact ⟨rfl, rfl⟩))
    (fun os started H enc _ => valueShows_lifted os started H enc)

theorem valueShows_card : Rows.ValueShowsCardSaid :=
  Claim7.holds_tied_plain_at .later [] [.data, .data, .data, .sentinel, .sentinel] true Rows.valueShowsCard.stood.harness true
    valueShows_holds (fun _ h => by cases h) (by kernel_rfl) (fun _ h => by cases h) valueShows_row_tie rfl ⟨rfl, rfl⟩ (by kernel_rfl) rfl
    (fun f fn hf hfn => by
      obtain rfl : f = 5 := Option.some.inj ((show Tryd.prog.funcNamed "verderer/verdererlaw01.ValueShows" = some 5 by kernel_rfl).symm.trans hf) |>.symm
      obtain rfl : fn = Tryd.f5 := (Option.some.inj (Tryd.func5.symm.trans hfn)).symm
      exact ⟨by kernel_rfl, fun j t ht => by
        rw [Tryd.params5] at ht
        have hm : t ∈ [23] := by simpa using Array.mem_of_getElem? ht
        have hall : ([23].all fun u => !Tryd.prog.wantsStandIn u) = true := by kernel_rfl
        exact (show Tryd.prog.wantsStandIn t = false by simpa using List.all_eq_true.1 hall t hm)⟩)
    (by kernel_rfl)
end Go.Proofs.YtlknhlemkbdgcaaDoor
