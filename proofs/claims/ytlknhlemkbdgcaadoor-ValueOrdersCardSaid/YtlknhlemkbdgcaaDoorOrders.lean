/-
  ValueOrders of verdererlaw01 answers true at every two values and every comparison, and each argument reads afterwards as it read before: Compare, Right and Test of package value answer as the document says.
  Condition: the five listed variables of the library read as the program's text lays them; the card ties that to the text of the pruned copy of the project.
-/
import Derived.Test.YtlknhlemkbdgcaaDoorDoor
import Derived.Test.YtlknhlemkbdgcaaDoorTest
import Derived.Test.YtlknhlemkbdgcaaDoorCards
import Derived.Test.YtlknhlemkbdgcaaDoorTie
import Derived.SevenTiedAt
namespace Go.Proofs.YtlknhlemkbdgcaaDoor
open Go.ChangeShapes Go.WideShapes Go.ChangeAt Go.RowKit

/-- Two boxes of four cells, made one behind the other: in every later world they hold what they held. -/
theorem keep8 {w w' : World} {a b c d a' b' c' d' : Value} {T : TypeId} (hb : Below ((w.alloc (.cells #[a, b, c, d] T)).alloc (.cells #[a', b', c', d'] T)).heap.size ((w.alloc (.cells #[a, b, c, d] T)).alloc (.cells #[a', b', c', d'] T)) w') :
    w'.cell? ⟨w.heap.size, 0, none⟩ = some a ∧ w'.cell? ⟨w.heap.size, 1, none⟩ = some b ∧ w'.cell? ⟨w.heap.size, 2, none⟩ = some c ∧ w'.cell? ⟨w.heap.size, 3, none⟩ = some d ∧
    w'.cell? ⟨w.heap.size + 1, 0, none⟩ = some a' ∧ w'.cell? ⟨w.heap.size + 1, 1, none⟩ = some b' ∧ w'.cell? ⟨w.heap.size + 1, 2, none⟩ = some c' ∧ w'.cell? ⟨w.heap.size + 1, 3, none⟩ = some d' ∧
    Below ((w.alloc (.cells #[a, b, c, d] T)).alloc (.cells #[a', b', c', d'] T)).heap.size ((w.alloc (.cells #[a, b, c, d] T)).alloc (.cells #[a', b', c', d'] T)) w' := by
  have h1 := box_later hb
  have hs : (w.alloc (.cells #[a, b, c, d] T)).heap.size = w.heap.size + 1 := by simp
  rw [hs] at h1
  obtain ⟨c0, c1, c2, c3, _, _, _, _, _⟩ := h1
  have hb2 : Below (w.alloc (.cells #[a, b, c, d] T)).heap.size (w.alloc (.cells #[a, b, c, d] T)) w' := bon' (one_new _ _) (Nat.le_refl _) hb
  obtain ⟨d0, d1, d2, d3, _, _, _, _, _⟩ := box_later hb2
  exact ⟨d0, d1, d2, d3, c0, c1, c2, c3, hb⟩

set_option maxRecDepth 100000 in
set_option maxHeartbeats 4000000 in
theorem orders_all (a b : V) (op : Int) (w : World) (ha : a.t.size ≤ maxLen) (hv : Vars w) : Calls Tryd.prog 3 #[a.val, b.val, .int .i64 op] w fun e w' => e = .returned (.bool true) ∧ Below w.heap.size w w' := by
  obtain ⟨c, hc⟩ : ∃ c, c = cmpV a b := ⟨_, rfl⟩
  obtain ⟨r, hr⟩ : ∃ r, r = rightV a := ⟨_, rfl⟩
  obtain ⟨t, ht⟩ : ∃ t, t = testI op (cmpV a b) := ⟨_, rfl⟩
  have A1 := Lib.hid (fun W => cmp_val a b W)
  have A2 := Lib.hid (fun W => ref_cmp a b W ha)
  have A3 := Lib.hid (fun W => right_val a W)
  have A4 := Lib.hid (fun W => ref_right a W)
  have A5 := Lib.hid (fun W => test_val op a b W)
  have A6 := Lib.hid (fun W => ref_test op a b W ha)
  rw [← hc] at A1 A2
  rw [← hr] at A3 A4
  rw [← ht] at A5 A6
  have HV := Lib.hid hv
  clear hv hc hr ht ha
  obtain ⟨k, f, n, s⟩ := a
  obtain ⟨k', f', n', s'⟩ := b
  show Calls Tryd.prog 3 #[.agg #[.int .i64 k, .bool f, .int .i64 n, .string s], .agg #[.int .i64 k', .bool f', .int .i64 n', .string s'], .int .i64 op] w _
  go_enter Tryd.func3, Tryd.ntmps3
  go_wp2
  go_region_held3 (fun w' => w'.cell? ⟨w.heap.size, 0, none⟩ = some (.int .i64 k) ∧ w'.cell? ⟨w.heap.size, 1, none⟩ = some (.bool f) ∧ w'.cell? ⟨w.heap.size, 2, none⟩ = some (.int .i64 n) ∧ w'.cell? ⟨w.heap.size, 3, none⟩ = some (.string s) ∧
      w'.cell? ⟨w.heap.size + 1, 0, none⟩ = some (.int .i64 k') ∧ w'.cell? ⟨w.heap.size + 1, 1, none⟩ = some (.bool f') ∧ w'.cell? ⟨w.heap.size + 1, 2, none⟩ = some (.int .i64 n') ∧ w'.cell? ⟨w.heap.size + 1, 3, none⟩ = some (.string s') ∧
      Below ((w.alloc (.cells #[.int .i64 k, .bool f, .int .i64 n, .string s] 23)).alloc (.cells #[.int .i64 k', .bool f', .int .i64 n', .string s'] 23)).heap.size ((w.alloc (.cells #[.int .i64 k, .bool f, .int .i64 n, .string s] 23)).alloc (.cells #[.int .i64 k', .bool f', .int .i64 n', .string s'] 23)) w') (((refine keep8 ?_; repeat (first | assumption | exact Below.refl _ _ | apply Below.drew | apply below_drewN' | (refine bnew' ?_ (Nat.le_refl _) _) | (refine bon' ?_ (Nat.le_refl _) (by assumption)))); done))
    (first
      | (go_at_call 8; refine (A1.out _).mono ?_; rintro e w1 ⟨rfl, hb1⟩)
      | (go_at_call 9; refine (A2.out _).mono ?_; rintro e w2 ⟨rfl, hb2⟩)
      | (go_at_call 10; refine (A3.out _).mono ?_; rintro e w3 ⟨rfl, hb3⟩)
      | (go_at_call 11; refine (A4.out _).mono ?_; rintro e w4 ⟨rfl, hb4⟩)
      | (go_at_call 12; refine (A5.out _).mono ?_; rintro e w5 ⟨rfl, hb5⟩)
      | (go_at_call 13; refine (A6.out _).mono ?_; rintro e w6 ⟨rfl, hb6⟩)
      | (go_at_call 14; refine (known _ (by exact HV.out.later (by repeat (first | assumption | exact Below.refl _ _ | apply Below.drew | apply below_drewN' | (refine bnew' ?_ (Nat.le_refl _) _) | (refine bon' ?_ (Nat.le_refl _) (by assumption)))))).mono ?_; rintro e w7 ⟨rfl, hb7⟩))
  go_wp2
  go_ret
  refine ⟨rfl, ?_⟩
  repeat (first | assumption | exact Below.refl _ _ | apply Below.drew | apply below_drewN' | (refine bnew' ?_ (Nat.le_refl _) _) | (refine bon' ?_ (Nat.le_refl _) (by assumption)))

set_option maxRecDepth 100000 in
theorem valueOrders_lifted (os : Os) (started : os.Started) (H : Type) (enc : TypeId × Value → H) :
    ReturnsInHanded {} Tryd.checked os 3 .any (fun w args => (Rows.valueOrdersSpec.pre enc Tryd.prog Tryd.f3 [] false w args ∧ laidMetH Tryd.prog Rows.valueMakesRow.laid w) ∧ sizedMet enc Tryd.prog Tryd.f3 (OpenSpec.ofChange Rows.valueOrdersSpec) false w args)
      (Rows.valueOrdersSpec.post enc Tryd.prog Tryd.f3 false true false false) := by
  refine returnsInHanded_of_change_and (C := Tryd.checked) (X := fun w _ => laidMetH Tryd.prog Rows.valueMakesRow.laid w) (fun _ _ _ hh h => h.of_heap hh) Tryd.own started (by kernel_rfl) Tryd.func3
    (ChangeSpec.witness_shaped (enc := enc) (C := Tryd.checked) (os := os) (X := fun w _ => laidMetH Tryd.prog Rows.valueMakesRow.laid w) false (World.doorLaid Tryd.prog 400 os) #[.agg #[.int .i64 0, .bool false, .int .i64 0, .string ⟨#[]⟩], .agg #[.int .i64 0, .bool false, .int .i64 0, .string ⟨#[]⟩], .int .i64 0] 8 rfl (World.shaped_of_RefB (by kernel_rfl) (by kernel_rfl)) (by kernel_rfl) (by kernel_rfl) (by kernel_rfl) (door_met os _)) ?_
  intro W base args ds gs before hval0 hW _ _ hL _
  have hval : ∀ (j : Nat) t v, Tryd.f3.params[j]? = some t → args[j]? = some v → Value.okWide Tryd.prog W .any base t v := hval0
  have hW' := hW
  obtain ⟨p, q, hA0, hV, rfl, hfz, hnd⟩ := hW
  have hA : DataW.TrodAll enc Tryd.prog W 0 (fun _ => true) true Tryd.f3.params.toList args.toList ds p := hA0
  rw [Tryd.params3] at hA hval
  obtain ⟨v0, v1, v2, d0, d1, d2, p0, p1, p2, rfl, rfl, rfl, h0, h1, h2⟩ := trodAll_three hA
  obtain ⟨rfl, rfl⟩ := trodVars_none hV
  obtain ⟨a, rfl, ha⟩ := open_V h0 (hval 0 23 v0 rfl rfl)
  obtain ⟨b, rfl, _⟩ := open_V h1 (hval 1 23 v1 rfl rfl)
  obtain ⟨op, rfl, _, _, _⟩ := open_int Tryd.underlying3 (hval 2 3 v2 rfl rfl) h2
  have hvars := vars_of_laid hL
  refine (orders_all a b op W ha hvars).mono fun e W' ⟨he, hb⟩ => ?_
  subst he
  exact ⟨_, rfl, law_post Tryd.laidOut rfl hW' (by rw [Tryd.params3]; intro t ht; simp at ht; rcases ht with rfl | rfl <;> exact readable_Vs _ (by simp)) (by kernel_rfl) Tryd.underlying4 rfl rfl rfl hb⟩

theorem valueOrders_holds : Rows.ValueOrdersSaid :=
  OpenClaim.holds_of_wide 3 Tryd.f3 rfl rfl rfl rfl rfl rfl rfl ⟨rfl, rfl, rfl, rfl, rfl⟩ rfl rfl rfl rfl rfl (by kernel_rfl) Tryd.func3 (by kernel_rfl)
    (of_decide_eq_true (by kernel_rfl)) (by unfold Func.isWrapper; first | (rw [if_pos (by decide +kernel)]; kernel_rfl) | (rw [if_neg (by decide +kernel)]; exact ⟨rfl, rfl⟩))
    (fun os started H enc _ => valueOrders_lifted os started H enc)

theorem valueOrders_card : Rows.ValueOrdersCardSaid :=
  Claim7.holds_tied_plain_at .later [] [.data, .data, .data, .sentinel, .sentinel] true Rows.valueOrdersCard.stood.harness true
    valueOrders_holds (fun _ h => by cases h) (by kernel_rfl) (fun _ h => by cases h) valueOrders_row_tie rfl ⟨rfl, rfl⟩ (by kernel_rfl) rfl
    (fun f fn hf hfn => by
      obtain rfl : f = 3 := Option.some.inj ((show Tryd.prog.funcNamed "verderer/verdererlaw01.ValueOrders" = some 3 by kernel_rfl).symm.trans hf) |>.symm
      obtain rfl : fn = Tryd.f3 := (Option.some.inj (Tryd.func3.symm.trans hfn)).symm
      exact ⟨by kernel_rfl, fun j t ht => by
        rw [Tryd.params3] at ht
        have hm : t ∈ [23, 23, 3] := by simpa using Array.mem_of_getElem? ht
        have hall : ([23, 23, 3].all fun u => !Tryd.prog.wantsStandIn u) = true := by kernel_rfl
        exact (show Tryd.prog.wantsStandIn t = false by simpa using List.all_eq_true.1 hall t hm)⟩)
    (by kernel_rfl)
end Go.Proofs.YtlknhlemkbdgcaaDoor
