/-
  ParseTokens of verdererlaw12 answers true at any text and any truth values, and its arguments read afterwards as they read before: two texts with the same tokens' texts are the same rule, or none both, for the same reason.
  Condition: the seven listed variables of the library read as the program's text lays them; the card ties that to the text of the pruned copy of the project.
-/
import Derived.Deep.Slices
import Derived.Carry
import Derived.Test.YtkobfngnnblpeaaGreatDoorCards
import Derived.Test.YtkobfngnnblpeaaGreatDoorTie
import Derived.SevenTiedAt
import Derived.Test.YtkobfngnnblpeaaGreatDoorMPdt
import Derived.Test.YtkobfngnnblpeaaGreatDoorMPtc
namespace Go.Proofs.YtkobfngnnblpeaaGreatDoor
open Go.ChangeShapes Go.WideShapes Go.ChangeAt Go.RowKit Go.Deep

theorem cells_boolP : Tryz.prog.cellsOf 4 = 1 := by kernel_rfl
section
variable {H : Type} {enc : TypeId × Value → H}
set_option maxRecDepth 10000 in
theorem open_boolsP {W : World} {base : Nat} {v : Value} {d : DataW H} {p : List MemPlace} {r : Reach} {b0 : Nat} (h : DataW.Trod enc Tryz.prog W base (fun _ => true) true 22 v d p) (hok : Value.okWide Tryz.prog W r b0 22 v) :
    ∃ (A : Option Addr) (gl : List Bool) (c : Nat), v = .slice A gl.length c ∧ ∀ (j : Nat) (b : Bool), gl[j]? = some b → ∃ a, A = some a ∧ W.cell? (a.add j) = some (.bool b) := by
  obtain ⟨a0, len, cap, rfl⟩ := okWide_slice Tryz.underlying22 hok
  obtain ⟨fuel, hf⟩ := h
  rcases open_slice1 Tryz.underlying22 cells_boolP hf with ⟨hcs, _⟩ | ⟨a, len', cap', m, k, V, D, Pl, hcs, _, hl, hm, hmm, _, hel⟩
  · simp [Value.cells] at hcs
    obtain ⟨rfl, rfl, rfl⟩ := hcs
    exact ⟨none, [], 0, rfl, fun j b hj => by simp at hj⟩
  · simp [Value.cells] at hcs
    obtain ⟨rfl, rfl, rfl⟩ := hcs
    have hex : ∀ i, i < len → ∃ s : Bool, W.cell? (a.add i) = some (.bool s) := by
      intro i hi
      have him : i < m := by
        rw [hmm, if_pos rfl]
        omega
      obtain ⟨hc, ht⟩ := hel i him
      obtain ⟨s, e, _⟩ := DataW.trod_bool Tryz.underlying4 ht
      simp only [List.cons.injEq, and_true] at e
      rw [e] at hc
      exact ⟨s, hc⟩
    obtain ⟨g, hg⟩ := choose_lt hex
    refine ⟨some a, (List.range len).map g, cap, by simp, ?_⟩
    intro i v hi
    have hil : i < len := by
      have := (List.getElem?_eq_some_iff.1 hi).1
      simpa using this
    rw [List.getElem?_map, List.getElem?_range hil] at hi
    have hv : g i = v := by simpa using hi
    subst hv
    exact ⟨a, rfl, hg i hil⟩
end
theorem readable_PT (t : TypeId) (h : t = 9 ∨ t = 22) : Tryz.prog.readableRec t = true ∧ t < Tryz.prog.types.size := by
  rcases h with rfl | rfl <;> exact ⟨by kernel_rfl, of_decide_eq_true (by kernel_rfl)⟩

set_option maxRecDepth 100000 in
theorem parseTokens_lifted (os : Os) (started : os.Started) (H : Type) (enc : TypeId × Value → H) :
    ReturnsInHanded {} Tryz.checked os 3 .any (fun w args => (Rows.parseTokensSpec.pre enc Tryz.prog Tryz.f3 [] false w args ∧ laidMetH Tryz.prog Rows.parseTokensRow.laid w) ∧ sizedMet enc Tryz.prog Tryz.f3 (OpenSpec.ofChange Rows.parseTokensSpec) false w args)
      (Rows.parseTokensSpec.post enc Tryz.prog Tryz.f3 false true false false) := by
  refine returnsInHanded_of_change_and (C := Tryz.checked) (X := fun w _ => laidMetH Tryz.prog Rows.parseTokensRow.laid w) (fun _ _ _ hh h => h.of_heap hh) Tryz.own started (by kernel_rfl) Tryz.func3
    (ChangeSpec.witness_shaped (enc := enc) (C := Tryz.checked) (os := os) (X := fun w _ => laidMetH Tryz.prog Rows.parseTokensRow.laid w) false (wPin os) #[.string ⟨#[]⟩, .slice none 0 0] 8 rfl (World.shaped_of_RefB (by kernel_rfl) (by kernel_rfl)) (by kernel_rfl) (by kernel_rfl) (by kernel_rfl) (door_met7 os _)) ?_
  intro W base args ds gs before hval0 hW _ _ hL _
  have hval : ∀ (j : Nat) t v, Tryz.f3.params[j]? = some t → args[j]? = some v → Value.okWide Tryz.prog W .any base t v := hval0
  have hW' := hW
  obtain ⟨p, q, hA0, hV, rfl, hfz, hnd⟩ := hW
  have hA : DataW.TrodAll enc Tryz.prog W 0 (fun _ => true) true Tryz.f3.params.toList args.toList ds p := hA0
  rw [Tryz.params3] at hA hval
  obtain ⟨v0, v1, d0, d1, p0, p1, rfl, rfl, rfl, h0, h1⟩ := trodAll_two hA
  obtain ⟨rfl, rfl⟩ := trodVars_none hV
  obtain ⟨s, rfl, _, _, _⟩ := Go.ChangeMaps.open_string Tryz.underlying9 (hval 0 9 v0 rfl rfl) h0
  obtain ⟨gA, gl, gc, rfl, hg⟩ := open_boolsP h1 (hval 1 22 v1 rfl rfl)
  have hvars := vars_of_laid hL
  refine (parseTokens_all s gA gl gc W hvars hg).mono fun e W' ⟨he, hb⟩ => ?_
  subst he
  exact ⟨_, rfl, law_post Tryz.laidOut rfl hW' (by rw [Tryz.params3]; intro t ht; exact readable_PT t (by simpa using ht)) (by kernel_rfl) Tryz.underlying4 rfl rfl rfl hb⟩

theorem parseTokens_holds : Rows.ParseTokensSaid :=
  OpenClaim.holds_of_wide 3 Tryz.f3 rfl rfl rfl rfl rfl rfl rfl ⟨rfl, rfl, rfl, rfl, rfl⟩ rfl rfl rfl rfl rfl (by kernel_rfl) Tryz.func3 (by kernel_rfl)
    (of_decide_eq_true (by kernel_rfl)) (by unfold Func.isWrapper; first | (rw [if_pos (by decide +kernel)]; kernel_rfl) | (rw [if_neg (by decide +kernel)]; exact ⟨rfl, rfl⟩))
    (fun os started H enc _ => parseTokens_lifted os started H enc)

theorem parseTokens_card : Rows.ParseTokensCardSaid :=
  Claim7.holds_tied_plain_at .later [] [.data, .data, .data, .data, .sentinel, .sentinel, .pinned] true Rows.parseTokensCard.stood.harness Rows.parseTokensCard.stood.looks
    parseTokens_holds (fun _ h => by cases h) (by kernel_rfl) (fun _ h => by cases h) parseTokens_row_tie rfl ⟨rfl, rfl⟩ (by kernel_rfl) rfl
    (fun f fn hf hfn => by
      obtain rfl : f = 3 := Option.some.inj ((show Tryz.prog.funcNamed "verderer/verdererlaw12.ParseTokens" = some 3 by kernel_rfl).symm.trans hf) |>.symm
      obtain rfl : fn = Tryz.f3 := (Option.some.inj (Tryz.func3.symm.trans hfn)).symm
      exact ⟨by kernel_rfl, fun j t ht => by
        rw [Tryz.params3] at ht
        have hm : t ∈ [9, 22] := by simpa using Array.mem_of_getElem? ht
        have hall : ([9, 22].all fun u => !Tryz.prog.wantsStandIn u) = true := by kernel_rfl
        exact (show Tryz.prog.wantsStandIn t = false by simpa using List.all_eq_true.1 hall t hm)⟩)
    (by kernel_rfl)
end Go.Proofs.YtkobfngnnblpeaaGreatDoor
