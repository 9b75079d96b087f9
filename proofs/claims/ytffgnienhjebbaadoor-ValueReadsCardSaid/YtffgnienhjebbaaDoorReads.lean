/-
  ValueReads of verdererlaw01 answers true at every text, and its argument reads afterwards as it read before: Read of package value answers the value whose word the text is, or that there is none, as the document names it, and what is read is shown so.
  Condition: the five listed variables of the library read as the program's text lays them; the card ties that to the text of the pruned copy of the project.
-/
import Derived.Test.YtffgnienhjebbaaDoorDoor
import Derived.Test.YtffgnienhjebbaaDoorRrd
import Derived.Test.YtffgnienhjebbaaDoorCards
import Derived.Test.YtffgnienhjebbaaDoorTie
import Derived.SevenTiedAt
namespace Go.Proofs.YtffgnienhjebbaaDoor
open Go.ChangeShapes Go.WideShapes Go.ChangeAt Go.RowKit

section
attribute [local go_sem high] equal_val

theorem readR_cases (l : List UInt8) : ∃ (G : V) (z : Int), readR l = (G, z) ∧ ((z = 0 ∧ showV G = l ∧ Wide G) ∨ z = 7) := by
  unfold readR
  by_cases h : l.length ≤ 242 ∧ showV (guessV l) = l
  · rw [if_pos h]
    exact ⟨_, _, rfl, .inl ⟨rfl, h.2, guess_wide l⟩⟩
  · rw [if_neg h]
    exact ⟨_, _, rfl, .inr rfl⟩

set_option maxHeartbeats 2000000 in
theorem reads_all (s : ByteArray) (w : World) (hv : Vars w) : Calls Tryd.prog 8 #[.string s] w fun e w' => e = .returned (.bool true) ∧ Below w.heap.size w w' := by
  have HV := Lib.hid hv
  have htl : s.toList = s.data.toList := ByteArray.toList_eq s
  clear hv
  by_cases h1 : 1000 < s.size
  · go_enter Tryd.func8, Tryd.ntmps8
    go_wp2_with (go_at_call 27; refine (known _ HV.out).mono ?_; rintro e w1 ⟨rfl, hb1⟩)
    go_ret
    exact ⟨rfl, hb1⟩
  · have hs : s.size ≤ 1000 := by omega
    obtain ⟨⟨k, f, n, t⟩, z, hR, hz⟩ := readR_cases s.data.toList
    have HR := Lib.hid hR
    have e1 : eqV ⟨k, f, n, t⟩ ⟨k, f, n, t⟩ = true := (eqV_iff _ _).2 rfl
    clear hR
    rcases hz with ⟨rfl, hx, hw⟩ | rfl
    · obtain ⟨X, hX⟩ : ∃ X, X = showV ⟨k, f, n, t⟩ := ⟨_, rfl⟩
      have HX := Lib.hid hX
      have HW := Lib.hid hw
      have bx : (X == s.toList) = true := by rw [hX, hx, htl]; simp
      clear hx hw hX htl
      go_enter Tryd.func8, Tryd.ntmps8
      go_wp2_with (fail)
      refine (read_all s _ HV.out).mono ?_
      rintro e w1 ⟨he, hb1⟩
      rw [HR.out] at he
      have he' : e = .returned (.tuple #[.agg #[.int .i64 k, .bool f, .int .i64 n, .string t], .int .i64 0]) := he
      clear he
      subst he'
      have HB1 := Lib.hid hb1
      clear hb1
      go_wp2_with (fail)
      refine (ref_read s _ hs).mono ?_
      rintro e w2 ⟨he, hb2⟩
      rw [HR.out] at he
      have he' : e = .returned (.tuple #[.agg #[.int .i64 k, .bool f, .int .i64 n, .string t], .int .i64 0]) := he
      clear he
      subst he'
      obtain ⟨c0, c1, c2, c3, _, _, _, _, hz2⟩ := box_later hb2
      have HB2 := Lib.hid (bon' (bnew' HB1.out (Nat.le_refl _) _) (Nat.le_refl _) hb2)
      clear hb2
      go_wp2_with (fail)
      refine (show_val ⟨k, f, n, t⟩ _ HW.out (by exact HV.out.later (bnew' HB2.out (Nat.le_refl _) _))).mono ?_
      rintro e w3 ⟨rfl, hb3⟩
      rw [← HX.out]
      have HB3 := Lib.hid (bon' (bnew' HB2.out (Nat.le_refl _) _) (Nat.le_refl _) hb3)
      clear hb3
      go_wp2_with (fail)
      refine (known _ (by exact HV.out.later HB3.out)).mono ?_
      rintro e w4 ⟨rfl, hb4⟩
      go_wp2
      go_ret
      exact ⟨rfl, bon' HB3.out (Nat.le_refl _) hb4⟩
    · clear htl
      go_enter Tryd.func8, Tryd.ntmps8
      go_wp2_with (fail)
      refine (read_all s _ HV.out).mono ?_
      rintro e w1 ⟨he, hb1⟩
      rw [HR.out] at he
      have he' : e = .returned (.tuple #[.agg #[.int .i64 k, .bool f, .int .i64 n, .string t], .int .i64 7]) := he
      clear he
      subst he'
      have HB1 := Lib.hid hb1
      clear hb1
      go_wp2_with (fail)
      refine (ref_read s _ hs).mono ?_
      rintro e w2 ⟨he, hb2⟩
      rw [HR.out] at he
      have he' : e = .returned (.tuple #[.agg #[.int .i64 k, .bool f, .int .i64 n, .string t], .int .i64 7]) := he
      clear he
      subst he'
      obtain ⟨c0, c1, c2, c3, _, _, _, _, hz2⟩ := box_later hb2
      have HB2 := Lib.hid (bon' (bnew' HB1.out (Nat.le_refl _) _) (Nat.le_refl _) hb2)
      clear hb2
      go_wp2_with (fail)
      refine (known _ (by exact HV.out.later (bnew' HB2.out (Nat.le_refl _) _))).mono ?_
      rintro e w4 ⟨rfl, hb4⟩
      go_wp2
      go_ret
      exact ⟨rfl, bon' (bnew' HB2.out (Nat.le_refl _) _) (Nat.le_refl _) hb4⟩
end

set_option maxRecDepth 100000 in
theorem valueReads_lifted (os : Os) (started : os.Started) (H : Type) (enc : TypeId × Value → H) :
    ReturnsInHanded {} Tryd.checked os 8 .any (fun w args => (Rows.valueReadsSpec.pre enc Tryd.prog Tryd.f8 [] false w args ∧ laidMetH Tryd.prog Rows.valueReadsRow.laid w) ∧ sizedMet enc Tryd.prog Tryd.f8 (OpenSpec.ofChange Rows.valueReadsSpec) false w args)
      (Rows.valueReadsSpec.post enc Tryd.prog Tryd.f8 false true false false) := by
  refine returnsInHanded_of_change_and (C := Tryd.checked) (X := fun w _ => laidMetH Tryd.prog Rows.valueReadsRow.laid w) (fun _ _ _ hh h => h.of_heap hh) Tryd.own started (by kernel_rfl) Tryd.func8
    (ChangeSpec.witness_shaped (enc := enc) (C := Tryd.checked) (os := os) (X := fun w _ => laidMetH Tryd.prog Rows.valueReadsRow.laid w) false (World.doorLaid Tryd.prog 400 os) #[.string ⟨#[]⟩] 8 rfl (World.shaped_of_RefB (by kernel_rfl) (by kernel_rfl)) (by kernel_rfl) (by kernel_rfl) (by kernel_rfl) (door_met os _)) ?_
  intro W base args ds gs before hval0 hW _ _ hL _
  have hval : ∀ (j : Nat) t v, Tryd.f8.params[j]? = some t → args[j]? = some v → Value.okWide Tryd.prog W .any base t v := hval0
  have hW' := hW
  obtain ⟨p, q, hA0, hV, rfl, hfz, hnd⟩ := hW
  have hA : DataW.TrodAll enc Tryd.prog W 0 (fun _ => true) true Tryd.f8.params.toList args.toList ds p := hA0
  rw [Tryd.params8] at hA hval
  obtain ⟨v0, d0, rfl, rfl, h0⟩ := trodAll_one hA
  obtain ⟨rfl, rfl⟩ := trodVars_none hV
  obtain ⟨s, rfl, _, _, _⟩ := Go.ChangeMaps.open_string Tryd.underlying9 (hval 0 9 v0 rfl rfl) h0
  have hvars := vars_of_laid hL
  refine (reads_all s W hvars).mono fun e W' ⟨he, hb⟩ => ?_
  subst he
  exact ⟨_, rfl, law_post Tryd.laidOut rfl hW' (by rw [Tryd.params8]; intro t ht; exact readable_Vs t (by simp at ht; simp [ht])) (by kernel_rfl) Tryd.underlying4 rfl rfl rfl hb⟩

theorem valueReads_holds : Rows.ValueReadsSaid :=
  OpenClaim.holds_of_wide 8 Tryd.f8 rfl rfl rfl rfl rfl rfl rfl ⟨rfl, rfl, rfl, rfl, rfl⟩ rfl rfl rfl rfl rfl (by kernel_rfl) Tryd.func8 (by kernel_rfl)
    (of_decide_eq_true (by kernel_rfl)) (by unfold Func.isWrapper; first | (rw [if_pos (by decide +kernel)]; kernel_rfl) | (rw [if_neg (by decide +kernel)]; exact ⟨rfl, rfl⟩))
    (fun os started H enc _ => valueReads_lifted os started H enc)

theorem valueReads_card : Rows.ValueReadsCardSaid :=
  Claim7.holds_tied_plain_at .later [] [.data, .data, .data, .sentinel, .sentinel] true Rows.valueReadsCard.stood.harness true
    valueReads_holds (fun _ h => by cases h) (by kernel_rfl) (fun _ h => by cases h) valueReads_row_tie rfl ⟨rfl, rfl⟩ (by kernel_rfl) rfl
    (fun f fn hf hfn => by
      obtain rfl : f = 8 := Option.some.inj ((show Tryd.prog.funcNamed "verderer/verdererlaw01.ValueReads" = some 8 by kernel_rfl).symm.trans hf) |>.symm
      obtain rfl : fn = Tryd.f8 := (Option.some.inj (Tryd.func8.symm.trans hfn)).symm
      exact ⟨by kernel_rfl, fun j t ht => by
        rw [Tryd.params8] at ht
        have hm : t ∈ [9] := by simpa using Array.mem_of_getElem? ht
        have hall : ([9].all fun u => !Tryd.prog.wantsStandIn u) = true := by kernel_rfl
        exact (show Tryd.prog.wantsStandIn t = false by simpa using List.all_eq_true.1 hall t hm)⟩)
    (by kernel_rfl)
end Go.Proofs.YtffgnienhjebbaaDoor
