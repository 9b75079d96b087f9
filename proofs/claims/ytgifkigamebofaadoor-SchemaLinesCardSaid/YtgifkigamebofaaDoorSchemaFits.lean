/-
  SchemaFits of verdererlaw07 answers true at every list of kinds, text and row, and each argument reads afterwards as it read before: whether cells may be those of an object of a kind is what the document says.
  Condition: the listed variables of the library read as the program's text lays them; the card ties that to the text of the pruned copy of the project.
-/
import Derived.Test.YtgifkigamebofaaDoorSdoor
import Derived.Test.YtgifkigamebofaaDoorSrfits
import Derived.Test.YtgifkigamebofaaDoorSfew
import Derived.Test.YtgifkigamebofaaDoorSnil
import Derived.Test.YtgifkigamebofaaDoorCards
import Derived.Test.YtgifkigamebofaaDoorTie
import Derived.SevenTiedAt
import Derived.Lib.SmallJoins
namespace Go.Proofs.YtgifkigamebofaaDoor
open Go.ChangeShapes Go.WideShapes Go.ChangeAt Go.RowKit Go.Deep

/-- A list of kinds that is given as this slice is those of the contracts. -/
theorem kinds_open {w : World} {Q : Nat → Prop} {A : Option Addr} {n c : Nat} {l : List Sc} (h : IsKinds w Q (.slice A n c) l) : n = l.length ∧ l.length ≤ 1000000 ∧ ∃ ls, ScR w Q ls l ∧ CellsQ w Q A (flatS ls) := by
  obtain ⟨hl, A2, c2, e, _, _, ls, h1, h2⟩ := h
  simp only [Value.slice.injEq] at e
  obtain ⟨rfl, e2, rfl⟩ := e
  exact ⟨by omega, hl, ls, h1, h2⟩

set_option maxRecDepth 100000 in
set_option maxHeartbeats 2000000 in
theorem schemaFits_all (A B : Option Addr) (es : List WS) (kind : ByteArray) (xs : List V) (n c m d : Nat) (w : World) (hm : MV w) (hn : n = es.length) (hl : n ≤ maxLen) (hA : A = none → c = 0) (hc : n ≤ c) (hx : WeakS w A es)
    (hmx : m = xs.length) (hml : m ≤ maxLen) (hr : RowAt w w.heap.size B xs) :
    Calls Tryd.prog 4 #[.slice A n c, .string kind, .slice B m d] w fun e w' => e = .returned (.bool true) ∧ Below w.heap.size w w' := by
  have HF := Lib.hid (s_few A es n c w hn hl hx)
  have HK := Lib.hid (fun (W : World) (hb : Below w.heap.size w W) => known7 W (hm.later hb))
  have HMX := Lib.hid hmx
  have HR := Lib.hid hr
  unfold maxLen at hml
  rcases Bool.eq_false_or_eq_true (fewS es) with hf | hf
  · have hk := hx.kinds hA (hn ▸ hc) hf
    rw [← hn] at hk
    obtain ⟨l, hl2⟩ : ∃ l, es.map scOf = l := ⟨_, rfl⟩
    rw [hl2] at hk
    have HKD := Lib.hid hk
    rw [hf] at HF
    clear hm hn hl hA hc hx hmx hr hk hl2 hf
    by_cases h50 : m ≤ 50
    · have HNEW := Lib.hid (s_new _ _ l w HKD.out)
      go_enter Tryd.func4, Tryd.ntmps4
      go_wp2_with fail
      refine HF.out.mono ?_
      rintro e w1 ⟨rfl, rfl⟩
      go_wp2_with fail
      refine HNEW.out.mono ?_
      rintro e w2 ⟨hb2, hcase⟩
      have HB2 := Lib.hid hb2
      clear hb2
      rcases hcase with ⟨h0, g, rfl, hs⟩ | ⟨h0, rfl⟩
      · have HS := Lib.hid hs
        clear hs h0
        go_wp2_with fail
        refine (s_Fits _ g l kind B xs m d w2 HS.out HMX.out (by omega) (HR.out.later HB2.out)).mono ?_
        rintro e w3 ⟨rfl, hb3⟩
        have HB3 := Lib.hid (HB2.out.trans (hb3.mono HB2.out.size))
        clear hb3
        obtain ⟨hn2, hl2, ls, hls, hcs⟩ := kinds_open (HKD.out.below HB3.out)
        have HRF := Lib.hid (ref_fitsS _ A ls l n c kind B xs m d w3 hn2 (by omega) hls hcs HMX.out (by omega) (HR.out.later HB3.out))
        clear hn2 hl2 hls hcs
        generalize fitsR (findS l kind) xs = R at *
        go_wp2_with fail
        refine HRF.out.mono ?_
        rintro e w4 ⟨rfl, hb4⟩
        have HB4 := Lib.hid (HB3.out.trans (hb4.mono HB3.out.size))
        clear hb4
        have rr : (R == R) = true := by simp
        go_wp2_with fail
        refine (HK.out _ HB4.out).mono ?_
        rintro e w5 ⟨rfl, hb5⟩
        go_wp2
        go_ret
        exact ⟨rfl, HB4.out.trans (hb5.mono HB4.out.size)⟩
      · generalize faultR l = R at *
        have b0 : (R == 0) = false := by simpa using h0
        have b1 : (R != 0) = true := by unfold bne; rw [b0]; rfl
        clear h0
        go_wp2_with fail
        refine (HK.out _ HB2.out).mono ?_
        rintro e w5 ⟨rfl, hb5⟩
        go_wp2
        go_ret
        exact ⟨rfl, HB2.out.trans (hb5.mono HB2.out.size)⟩
    · go_enter Tryd.func4, Tryd.ntmps4
      go_wp2_with fail
      refine HF.out.mono ?_
      rintro e w1 ⟨rfl, rfl⟩
      go_wp2_with fail
      refine (HK.out _ (Below.refl _ _)).mono ?_
      rintro e w5 ⟨rfl, hb5⟩
      go_wp2
      go_ret
      exact ⟨rfl, hb5⟩
  · rw [hf] at HF
    clear hm hn hl hA hc hx hmx hr hf
    go_enter Tryd.func4, Tryd.ntmps4
    go_wp2_with fail
    refine HF.out.mono ?_
    rintro e w1 ⟨rfl, rfl⟩
    go_wp2_with fail
    refine (HK.out _ (Below.refl _ _)).mono ?_
    rintro e w5 ⟨rfl, hb5⟩
    go_wp2
    go_ret
    exact ⟨rfl, hb5⟩

set_option maxRecDepth 100000 in
theorem schemaFits_lifted (os : Os) (started : os.Started) (H : Type) (enc : TypeId × Value → H) :
    ReturnsInHanded {} Tryd.checked os 4 .any (fun w args => (Rows.schemaFitsSpec.pre enc Tryd.prog Tryd.f4 [] false w args ∧ laidMetH Tryd.prog Rows.schemaFitsRow.laid w) ∧ sizedMet enc Tryd.prog Tryd.f4 (OpenSpec.ofChange Rows.schemaFitsSpec) false w args)
      (Rows.schemaFitsSpec.post enc Tryd.prog Tryd.f4 false true false false) := by
  refine ret_and_shaped (C := Tryd.checked) (X := fun w _ => laidMetH Tryd.prog Rows.schemaFitsRow.laid w) Tryd.own started (by kernel_rfl) Tryd.func4
    (ChangeSpec.witness_shaped (enc := enc) (C := Tryd.checked) (os := os) (X := fun w _ => laidMetH Tryd.prog Rows.schemaFitsRow.laid w) false (wPin os) #[.slice none 0 0, .string ⟨#[]⟩, .slice none 0 0] 8 rfl (World.shaped_of_RefB (by kernel_rfl) (by kernel_rfl)) (by kernel_rfl) (by kernel_rfl) (by kernel_rfl) (door_met7 os _)) ?_
  intro W base args ds gs before hval0 hW _ hsh
  have hval : ∀ (j : Nat) t v, Tryd.f4.params[j]? = some t → args[j]? = some v → Value.okWide Tryd.prog W .any base t v := hval0
  have hW' := hW
  obtain ⟨p, q, hA0, hV, rfl, hfz, hnd⟩ := hW
  have hA : DataW.TrodAll enc Tryd.prog W 0 (fun _ => true) true Tryd.f4.params.toList args.toList ds p := hA0
  rw [Tryd.params4] at hA hval
  obtain ⟨v0, v1, v2, d0, d1, d2, p0, p1, p2, rfl, rfl, rfl, h0, h1, h2⟩ := trodAll_three hA
  obtain ⟨rfl, rfl⟩ := trodVars_none hV
  obtain ⟨A, c, es, rfl, hl, hA2, hc, hx⟩ := open_scs h0 (hval 0 22 v0 rfl rfl)
  obtain ⟨s, rfl, _, _, _⟩ := Go.ChangeMaps.open_string Tryd.underlying9 (hval 1 9 v1 rfl rfl) h1
  obtain ⟨B, d, xs, rfl, hlx, _, hr⟩ := open_row h2 (hval 2 42 v2 rfl rfl)
  have hmv := mv_of_shaped hsh
  refine (schemaFits_all A B es s xs _ c _ d W hmv rfl hl hA2 hc hx rfl hlx hr).mono fun e W' ⟨he, hb⟩ => ?_
  subst he
  exact ⟨_, rfl, law_post Tryd.laidOut rfl hW' (by rw [Tryd.params4]; intro t ht; exact readable_F t (by simp at ht; rcases ht with rfl | rfl | rfl <;> simp)) (by kernel_rfl) Tryd.underlying4 rfl rfl rfl hb⟩

theorem schemaFits_holds : Rows.SchemaFitsSaid :=
  OpenClaim.holds_of_wide 4 Tryd.f4 rfl rfl rfl rfl rfl rfl rfl ⟨rfl, rfl, rfl, rfl, rfl⟩ rfl rfl rfl rfl rfl (by kernel_rfl) Tryd.func4 (by kernel_rfl)
    (of_decide_eq_true (by kernel_rfl)) (by unfold Func.isWrapper; first | (rw [if_pos (by decide +kernel)]; kernel_rfl) | (rw [if_neg (by decide +kernel)]; exact ⟨rfl, rfl⟩))
    (fun os started H enc _ => schemaFits_lifted os started H enc)

theorem schemaFits_card : Rows.SchemaFitsCardSaid :=
  Claim7.holds_tied_plain_at .later [] [.data, .pinned] true Rows.schemaFitsCard.stood.harness Rows.schemaFitsCard.stood.looks
    schemaFits_holds (fun _ h => by cases h) (by kernel_rfl) (fun _ h => by cases h) schemaFits_row_tie rfl ⟨rfl, rfl⟩ (by kernel_rfl) rfl
    (fun f fn hf hfn => by
      obtain rfl : f = 4 := Option.some.inj ((show Tryd.prog.funcNamed "verderer/verdererlaw07.SchemaFits" = some 4 by kernel_rfl).symm.trans hf) |>.symm
      obtain rfl : fn = Tryd.f4 := (Option.some.inj (Tryd.func4.symm.trans hfn)).symm
      exact ⟨by kernel_rfl, fun j t ht => by
        rw [Tryd.params4] at ht
        have hm : t ∈ [22, 9, 42] := by simpa using Array.mem_of_getElem? ht
        have hall : ([22, 9, 42].all fun u => !Tryd.prog.wantsStandIn u) = true := by kernel_rfl
        exact (show Tryd.prog.wantsStandIn t = false by simpa using List.all_eq_true.1 hall t hm)⟩)
    (by kernel_rfl)
end Go.Proofs.YtgifkigamebofaaDoor
