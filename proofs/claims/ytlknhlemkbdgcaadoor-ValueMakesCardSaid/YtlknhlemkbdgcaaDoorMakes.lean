/-
  ValueMakes of verdererlaw01 answers true at every truth, number and text, and each argument reads afterwards as it read before: Bool, Int and Text of package value make the value that the document names.
  Condition: the five listed variables of the library read as the program's text lays them; the card ties that to the text of the pruned copy of the project.
-/
import Derived.Test.YtlknhlemkbdgcaaDoorDoor
import Derived.Test.YtlknhlemkbdgcaaDoorCards
import Derived.Test.YtlknhlemkbdgcaaDoorTie
import Derived.SevenTiedAt
namespace Go.Proofs.YtlknhlemkbdgcaaDoor
open Go.ChangeShapes Go.WideShapes Go.ChangeAt Go.RowKit

section
attribute [local go_sem high] equal_val

set_option maxHeartbeats 1000000 in
theorem makes_all (b : Bool) (n : Int) (s : ByteArray) (w : World) (hv : Vars w) : Calls Tryd.prog 4 #[.bool b, .int .i64 n, .string s] w fun e w' => e = .returned (.bool true) ∧ Below w.heap.size w w' := by
  have HV := Lib.hid hv
  have e1 : eqV ⟨1, b, 0, ⟨#[]⟩⟩ ⟨1, b, 0, ⟨#[]⟩⟩ = true := (eqV_iff _ _).2 rfl
  have e2 : eqV ⟨2, false, n, ⟨#[]⟩⟩ ⟨2, false, n, ⟨#[]⟩⟩ = true := (eqV_iff _ _).2 rfl
  have e3 : eqV ⟨3, false, 0, s⟩ ⟨3, false, 0, s⟩ = true := (eqV_iff _ _).2 rfl
  clear hv
  go_enter Tryd.func4, Tryd.ntmps4
  go_wp2_with (first
    | (go_at_call 17; refine (mk_text _ _).mono ?_; rintro e w4 ⟨rfl, rfl⟩)
    | (go_at_call 15; refine (mk_bool _ _).mono ?_; rintro e w7 ⟨rfl, rfl⟩)
    | (go_at_call 16; refine (mk_int _ _).mono ?_; rintro e w8 ⟨rfl, rfl⟩)
    | (go_at_call 14; fail))
  have hb3 : ∀ o1 o2 o3 : Obj, Below w.heap.size w (((w.alloc o1).alloc o2).alloc o3) := fun o1 o2 o3 => bnew' (bnew' (bnew' (Below.refl _ _) (Nat.le_refl _) _) (Nat.le_refl _) _) (Nat.le_refl _) _
  refine (known _ (by exact HV.out.later (hb3 _ _ _))).mono ?_
  rintro e w9 ⟨rfl, hb9⟩
  have HB := Lib.hid (bon' (hb3 _ _ _) (Nat.le_refl _) hb9)
  clear hb3 hb9
  go_wp2
  go_ret
  exact ⟨rfl, HB.out⟩
end

set_option maxRecDepth 100000 in
theorem valueMakes_lifted (os : Os) (started : os.Started) (H : Type) (enc : TypeId × Value → H) :
    ReturnsInHanded {} Tryd.checked os 4 .any (fun w args => (Rows.valueMakesSpec.pre enc Tryd.prog Tryd.f4 [] false w args ∧ laidMetH Tryd.prog Rows.valueMakesRow.laid w) ∧ sizedMet enc Tryd.prog Tryd.f4 (OpenSpec.ofChange Rows.valueMakesSpec) false w args)
      (Rows.valueMakesSpec.post enc Tryd.prog Tryd.f4 false true false false) := by
  refine returnsInHanded_of_change_and (C := Tryd.checked) (X := fun w _ => laidMetH Tryd.prog Rows.valueMakesRow.laid w) (fun _ _ _ hh h => h.of_heap hh) Tryd.own started (by kernel_rfl) Tryd.func4
    (ChangeSpec.witness_shaped (enc := enc) (C := Tryd.checked) (os := os) (X := fun w _ => laidMetH Tryd.prog Rows.valueMakesRow.laid w) false (World.doorLaid Tryd.prog 400 os) #[.bool false, .int .i64 0, .string ⟨#[]⟩] 8 rfl (World.shaped_of_RefB (by kernel_rfl) (by kernel_rfl)) (by kernel_rfl) (by kernel_rfl) (by kernel_rfl) (door_met os _)) ?_
  intro W base args ds gs before hval0 hW _ _ hL _
  have hval : ∀ (j : Nat) t v, Tryd.f4.params[j]? = some t → args[j]? = some v → Value.okWide Tryd.prog W .any base t v := hval0
  have hW' := hW
  obtain ⟨p, q, hA0, hV, rfl, hfz, hnd⟩ := hW
  have hA : DataW.TrodAll enc Tryd.prog W 0 (fun _ => true) true Tryd.f4.params.toList args.toList ds p := hA0
  rw [Tryd.params4] at hA hval
  obtain ⟨v0, v1, v2, d0, d1, d2, p0, p1, p2, rfl, rfl, rfl, h0, h1, h2⟩ := trodAll_three hA
  obtain ⟨rfl, rfl⟩ := trodVars_none hV
  obtain ⟨b, rfl, _, _⟩ := open_bool Tryd.underlying4 (hval 0 4 v0 rfl rfl) h0
  obtain ⟨n, rfl, _, _, _⟩ := open_int Tryd.underlying2 (hval 1 2 v1 rfl rfl) h1
  obtain ⟨s, rfl, _, _, _⟩ := Go.ChangeMaps.open_string Tryd.underlying9 (hval 2 9 v2 rfl rfl) h2
  have hvars := vars_of_laid hL
  refine (makes_all b n s W hvars).mono fun e W' ⟨he, hb⟩ => ?_
  subst he
  exact ⟨_, rfl, law_post Tryd.laidOut rfl hW' (by rw [Tryd.params4]; intro t ht; exact readable_Vs t (by simp at ht; simp [ht])) (by kernel_rfl) Tryd.underlying4 rfl rfl rfl hb⟩

theorem valueMakes_holds : Rows.ValueMakesSaid :=
  OpenClaim.holds_of_wide 4 Tryd.f4 rfl rfl rfl rfl rfl rfl rfl ⟨rfl, rfl, rfl, rfl, rfl⟩ rfl rfl rfl rfl rfl (by kernel_rfl) Tryd.func4 (by kernel_rfl)
    (of_decide_eq_true (by kernel_rfl)) (by unfold Func.isWrapper; first | (rw [if_pos (by decide +kernel)]; kernel_rfl) | (rw [if_neg (by decide +kernel)]; exact ⟨rfl, rfl⟩))
    (fun os started H enc _ => valueMakes_lifted os started H enc)

theorem valueMakes_card : Rows.ValueMakesCardSaid :=
  Claim7.holds_tied_plain_at .later [] [.data, .data, .data, .sentinel, .sentinel] true Rows.valueMakesCard.stood.harness true
    valueMakes_holds (fun _ h => by cases h) (by kernel_rfl) (fun _ h => by cases h) valueMakes_row_tie rfl ⟨rfl, rfl⟩ (by kernel_rfl) rfl
    (fun f fn hf hfn => by
      obtain rfl : f = 4 := Option.some.inj ((show Tryd.prog.funcNamed "verderer/verdererlaw01.ValueMakes" = some 4 by kernel_rfl).symm.trans hf) |>.symm
      obtain rfl : fn = Tryd.f4 := (Option.some.inj (Tryd.func4.symm.trans hfn)).symm
      exact ⟨by kernel_rfl, fun j t ht => by
        rw [Tryd.params4] at ht
        have hm : t ∈ [4, 2, 9] := by simpa using Array.mem_of_getElem? ht
        have hall : ([4, 2, 9].all fun u => !Tryd.prog.wantsStandIn u) = true := by kernel_rfl
        exact (show Tryd.prog.wantsStandIn t = false by simpa using List.all_eq_true.1 hall t hm)⟩)
    (by kernel_rfl)
end Go.Proofs.YtlknhlemkbdgcaaDoor
