/-
  ValueLine of verdererlaw01 answers true at every three values, and each argument reads afterwards as it read before: Compare of package value stands in one order, and two values that can be are one just if neither goes ahead.
  Condition: the five listed variables of the library read as the program's text lays them; the card ties that to the text of the pruned copy of the project.
-/
import Derived.Test.YtlknhlemkbdgcaaDoorDoor
import Derived.Test.YtlknhlemkbdgcaaDoorOrderv
import Derived.Test.YtlknhlemkbdgcaaDoorRref
import Derived.Test.YtlknhlemkbdgcaaDoorCards
import Derived.Test.YtlknhlemkbdgcaaDoorTie
import Derived.SevenTiedAt
namespace Go.Proofs.YtlknhlemkbdgcaaDoor
open Go.ChangeShapes Go.WideShapes Go.ChangeAt Go.RowKit

theorem cmpV_eq (a b : V) (ha : rightV a = true) (hb : rightV b = true) : (cmpV a b == 0) = eqV a b := by
  have key : cmpV a b = 0 → a = b := by
    intro h
    rw [cmpV_kind] at h
    split at h
    · omega
    · split at h
      · omega
      · have e : a.k = b.k := by omega
        obtain ⟨k, f, n, t⟩ := a
        obtain ⟨k', f', n', t'⟩ := b
        obtain rfl : k = k' := e
        have t0 : ∀ s : ByteArray, s.size = 0 → s = ⟨#[]⟩ := by
          intro s hs
          obtain ⟨⟨l⟩⟩ := s
          have : l = [] := by simpa [ByteArray.size] using hs
          rw [this]
        simp only [rightV, Bool.and_eq_true, Bool.or_eq_true, decide_eq_true_eq, beq_iff_eq, Bool.not_eq_true'] at ha hb
        obtain ⟨⟨⟨⟨⟨_, _⟩, f1⟩, n1⟩, s1⟩, _⟩ := ha
        obtain ⟨⟨⟨⟨⟨_, _⟩, f2⟩, n2⟩, s2⟩, _⟩ := hb
        unfold sameKind at h
        by_cases k1 : k = 1
        · subst k1
          rw [if_pos rfl] at h
          have e1 := cmpB_eq _ _ h
          have e2 : n = n' := by omega
          have e3 : t = t' := by rw [t0 t (by omega), t0 t' (by omega)]
          simp only at e1
          rw [e1, e2, e3]
        · have e1 : f = f' := by
            rw [f1.resolve_left k1, f2.resolve_left k1]
          rw [if_neg k1] at h
          by_cases k2 : k = 2
          · rw [if_pos k2] at h
            have e2 := cmpI_eq _ _ h
            have e3 : t = t' := by rw [t0 t (by omega), t0 t' (by omega)]
            simp only at e2
            rw [e1, e2, e3]
          · have e2 : n = n' := by
              rw [n1.resolve_left k2, n2.resolve_left k2]
            rw [if_neg k2] at h
            by_cases k3 : k = 3
            · rw [if_pos k3] at h
              have e3 := cmpS_eq _ _ h
              simp only at e3
              rw [e1, e2, e3]
            · have e3 : t = t' := by rw [t0 t (s1.resolve_left k3), t0 t' (s2.resolve_left k3)]
              rw [e1, e2, e3]
  rcases Bool.eq_false_or_eq_true (eqV a b) with h | h
  · rw [h, (eqV_iff a b).1 h, cmpV_ordered.self]
    rfl
  · rw [h, beq_eq_false_iff_ne]
    intro h0
    rw [(eqV_iff a b).2 (key h0)] at h
    cases h

/-- Three boxes of four cells, in a later world. -/
def Three (w w' : World) (a b c : V) : Prop := ∃ o1 o2 o3 : Obj, o1 = .cells #[.int .i64 a.k, .bool a.f, .int .i64 a.n, .string a.t] 23 ∧ o2 = .cells #[.int .i64 b.k, .bool b.f, .int .i64 b.n, .string b.t] 23 ∧ o3 = .cells #[.int .i64 c.k, .bool c.f, .int .i64 c.n, .string c.t] 23 ∧ Below (((w.alloc o1).alloc o2).alloc o3).heap.size (((w.alloc o1).alloc o2).alloc o3) w'
theorem Three.on {w w1 w2 : World} {a b c : V} (h : Three w w1 a b c) (hb : Below w1.heap.size w1 w2) : Three w w2 a b c := by
  obtain ⟨o1, o2, o3, h1, h2, h3, h4⟩ := h
  exact ⟨o1, o2, o3, h1, h2, h3, bon' h4 (Nat.le_refl _) hb⟩
theorem Three.below {w w1 : World} {a b c : V} (h : Three w w1 a b c) : Below w.heap.size w w1 := by
  obtain ⟨o1, o2, o3, _, _, _, h4⟩ := h
  exact bon' (bnew' (bnew' (bnew' (Below.refl _ _) (Nat.le_refl _) _) (Nat.le_refl _) _) (Nat.le_refl _) _) (Nat.le_refl _) h4
theorem Three.cells {w w1 : World} {a b c : V} (h : Three w w1 a b c) :
    w1.cell? ⟨w.heap.size, 0, none⟩ = some (.int .i64 a.k) ∧ w1.cell? ⟨w.heap.size, 1, none⟩ = some (.bool a.f) ∧ w1.cell? ⟨w.heap.size, 2, none⟩ = some (.int .i64 a.n) ∧ w1.cell? ⟨w.heap.size, 3, none⟩ = some (.string a.t) ∧
    w1.cell? ⟨w.heap.size + 1, 0, none⟩ = some (.int .i64 b.k) ∧ w1.cell? ⟨w.heap.size + 1, 1, none⟩ = some (.bool b.f) ∧ w1.cell? ⟨w.heap.size + 1, 2, none⟩ = some (.int .i64 b.n) ∧ w1.cell? ⟨w.heap.size + 1, 3, none⟩ = some (.string b.t) ∧
    w1.cell? ⟨w.heap.size + 1 + 1, 0, none⟩ = some (.int .i64 c.k) ∧ w1.cell? ⟨w.heap.size + 1 + 1, 1, none⟩ = some (.bool c.f) ∧ w1.cell? ⟨w.heap.size + 1 + 1, 2, none⟩ = some (.int .i64 c.n) ∧ w1.cell? ⟨w.heap.size + 1 + 1, 3, none⟩ = some (.string c.t) := by
  obtain ⟨o1, o2, o3, rfl, rfl, rfl, h4⟩ := h
  have c3 := box_later h4
  have c2 := box_later (bon' (one_new _ _) (Nat.le_refl _) h4)
  have c1 := box_later (bon' (one_new _ _) (Nat.le_refl _) (bon' (one_new _ _) (Nat.le_refl _) h4))
  have s1 : ∀ o : Obj, (w.alloc o).heap.size = w.heap.size + 1 := fun o => by simp
  have s2 : ∀ o o' : Obj, ((w.alloc o).alloc o').heap.size = w.heap.size + 1 + 1 := fun o o' => by simp
  rw [s2] at c3
  rw [s1] at c2
  obtain ⟨x0, x1, x2, x3, _⟩ := c1
  obtain ⟨y0, y1, y2, y3, _⟩ := c2
  obtain ⟨z0, z1, z2, z3, _⟩ := c3
  exact ⟨x0, x1, x2, x3, y0, y1, y2, y3, z0, z1, z2, z3⟩

section
attribute [local go_sem high] equal_val

set_option maxRecDepth 100000 in
set_option maxHeartbeats 2000000 in
/-- The walk, where what Compare and Right answer is known. -/
theorem line_walk (a b c : V) (x y z : Int) (ra rb q : Bool) (w : World) (hv : Vars w)
    (C1 : ∀ W : World, Calls Tryd.prog 8 #[a.val, b.val] W fun e w' => e = .returned (.int .i64 x) ∧ Below W.heap.size W w')
    (C2 : ∀ W : World, Calls Tryd.prog 8 #[b.val, c.val] W fun e w' => e = .returned (.int .i64 y) ∧ Below W.heap.size W w')
    (C3 : ∀ W : World, Calls Tryd.prog 8 #[b.val, a.val] W fun e w' => e = .returned (.int .i64 (-x)) ∧ Below W.heap.size W w')
    (C4 : ∀ W : World, Calls Tryd.prog 8 #[a.val, c.val] W fun e w' => e = .returned (.int .i64 z) ∧ Below W.heap.size W w')
    (R1 : ∀ W : World, Calls Tryd.prog 11 #[a.val] W fun e w' => e = .returned (.bool ra) ∧ Below W.heap.size W w')
    (R2 : ∀ W : World, Calls Tryd.prog 11 #[b.val] W fun e w' => e = .returned (.bool rb) ∧ Below W.heap.size W w')
    (hq : eqV a b = q)
    (hx : (x = 1) ∨ (x = -1 ∧ y = 1) ∨ (x = 0 ∧ y = 1) ∨ (x = -1 ∧ y ≤ 0 ∧ z ≤ 0) ∨ (x = 0 ∧ y = -1 ∧ z ≤ 0) ∨ (x = 0 ∧ y = 0 ∧ z = 0))
    (hr : ra = false ∨ (ra = true ∧ rb = false) ∨ (ra = true ∧ rb = true ∧ (x == 0) = q)) :
    Calls Tryd.prog 7 #[.agg #[.int .i64 a.k, .bool a.f, .int .i64 a.n, .string a.t], .agg #[.int .i64 b.k, .bool b.f, .int .i64 b.n, .string b.t], .agg #[.int .i64 c.k, .bool c.f, .int .i64 c.n, .string c.t]] w fun e w' => e = .returned (.bool true) ∧ Below w.heap.size w w' := by
  have HV := Lib.hid hv
  have H1 := Lib.hid C1
  have H2 := Lib.hid C2
  have H3 := Lib.hid C3
  have H4 := Lib.hid C4
  have G1 := Lib.hid R1
  have G2 := Lib.hid R2
  have hq' : eqV ⟨a.k, a.f, a.n, a.t⟩ ⟨b.k, b.f, b.n, b.t⟩ = q := hq
  clear hv C1 C2 C3 C4 R1 R2 hq
  have ht : Three w (((w.alloc (.cells #[.int .i64 a.k, .bool a.f, .int .i64 a.n, .string a.t] 23)).alloc (.cells #[.int .i64 b.k, .bool b.f, .int .i64 b.n, .string b.t] 23)).alloc (.cells #[.int .i64 c.k, .bool c.f, .int .i64 c.n, .string c.t] 23)) a b c := ⟨_, _, _, rfl, rfl, rfl, Below.refl _ _⟩
  rcases hr with rfl | ⟨rfl, rfl⟩ | ⟨rfl, rfl, hq9⟩
  all_goals try (have HQ9 := Lib.hid hq9; clear hq9)
  all_goals rcases hx with rfl | ⟨rfl, rfl⟩ | ⟨rfl, rfl⟩ | ⟨rfl, hy, hz⟩ | ⟨rfl, rfl, hz⟩ | ⟨rfl, rfl, rfl⟩
  all_goals try (obtain rfl := HQ9.out)
  all_goals
    go_enter Tryd.func7, Tryd.ntmps7
    go_wp2_with fail
    refine (H1.out _).mono ?_
    rintro e w1 ⟨rfl, hb1⟩
    have t1 := Three.on ht hb1
    obtain ⟨x0, x1, x2, x3, y0, y1, y2, y3, z0, z1, z2, z3⟩ := t1.cells
    clear ht hb1
    go_wp2_with fail
    refine (H2.out _).mono ?_
    rintro e w2 ⟨rfl, hb2⟩
    have t2 := Three.on t1 hb2
    clear x0 x1 x2 x3 y0 y1 y2 y3 z0 z1 z2 z3
    obtain ⟨x0, x1, x2, x3, y0, y1, y2, y3, z0, z1, z2, z3⟩ := t2.cells
    clear t1 hb2
    go_wp2_with fail
    refine (H3.out _).mono ?_
    rintro e w3 ⟨rfl, hb3⟩
    have t3 := Three.on t2 hb3
    clear x0 x1 x2 x3 y0 y1 y2 y3 z0 z1 z2 z3
    obtain ⟨x0, x1, x2, x3, y0, y1, y2, y3, z0, z1, z2, z3⟩ := t3.cells
    clear t2 hb3
    go_wp2_with (first
      | (go_at_call 8; refine (H4.out _).mono ?_; rintro e w4 ⟨rfl, hb4⟩; have t4 := Three.on (w := w) (a := a) (b := b) (c := c) (by assumption) hb4; obtain ⟨x0, x1, x2, x3, y0, y1, y2, y3, z0, z1, z2, z3⟩ := t4.cells)
      | (go_at_call 11; with_reducible refine (G1.out _).mono ?_; rintro e w5 ⟨rfl, hb5⟩; have t5 := Three.on (w := w) (a := a) (b := b) (c := c) (by assumption) hb5; obtain ⟨x0, x1, x2, x3, y0, y1, y2, y3, z0, z1, z2, z3⟩ := t5.cells)
      | (go_at_call 11; with_reducible refine (G2.out _).mono ?_; rintro e w6 ⟨rfl, hb6⟩; have t6 := Three.on (w := w) (a := a) (b := b) (c := c) (by assumption) hb6; obtain ⟨x0, x1, x2, x3, y0, y1, y2, y3, z0, z1, z2, z3⟩ := t6.cells)
      | (go_at_call 14; refine (known _ (by exact HV.out.later (Three.below (by assumption)))).mono ?_; rintro e w7 ⟨rfl, hb7⟩; have t7 := Three.on (w := w) (a := a) (b := b) (c := c) (by assumption) hb7))
    go_ret
    exact ⟨rfl, Three.below (by assumption)⟩
end

theorem line_all (a b c : V) (w : World) (hv : Vars w) : Calls Tryd.prog 7 #[a.val, b.val, c.val] w fun e w' => e = .returned (.bool true) ∧ Below w.heap.size w w' := by
  have a1 := cmpV_ordered.rng a b
  have a2 := cmpV_ordered.rng b c
  have a3 := cmpV_ordered.le a b c
  have a4 := cmpV_ordered.tr0 a b c
  refine line_walk a b c (cmpV a b) (cmpV b c) (cmpV a c) (rightV a) (rightV b) (eqV a b) w hv (fun W => cmp_val a b W) (fun W => cmp_val b c W) (fun W => ?_) (fun W => cmp_val a c W) (fun W => ref_right a W) (fun W => ref_right b W) rfl ?_ ?_
  · rw [← cmpV_ordered.anti a b]
    exact cmp_val b a W
  · rcases a1 with h1 | h1 | h1 <;> rcases a2 with h2 | h2 | h2
    · exact .inr (.inr (.inr (.inl ⟨h1, by omega, a3 (by omega) (by omega)⟩)))
    · exact .inr (.inr (.inr (.inl ⟨h1, by omega, a3 (by omega) (by omega)⟩)))
    · exact .inr (.inl ⟨h1, h2⟩)
    · exact .inr (.inr (.inr (.inr (.inl ⟨h1, h2, a3 (by omega) (by omega)⟩))))
    · exact .inr (.inr (.inr (.inr (.inr ⟨h1, h2, a4 h1 h2⟩))))
    · exact .inr (.inr (.inl ⟨h1, h2⟩))
    · exact .inl h1
    · exact .inl h1
    · exact .inl h1
  · rcases Bool.eq_false_or_eq_true (rightV a) with h1 | h1
    · rcases Bool.eq_false_or_eq_true (rightV b) with h2 | h2
      · exact .inr (.inr ⟨h1, h2, cmpV_eq a b h1 h2⟩)
      · exact .inr (.inl ⟨h1, h2⟩)
    · exact .inl h1

set_option maxRecDepth 100000 in
theorem valueLine_lifted (os : Os) (started : os.Started) (H : Type) (enc : TypeId × Value → H) :
    ReturnsInHanded {} Tryd.checked os 7 .any (fun w args => (Rows.valueLineSpec.pre enc Tryd.prog Tryd.f7 [] false w args ∧ laidMetH Tryd.prog Rows.valueMakesRow.laid w) ∧ sizedMet enc Tryd.prog Tryd.f7 (OpenSpec.ofChange Rows.valueLineSpec) false w args)
      (Rows.valueLineSpec.post enc Tryd.prog Tryd.f7 false true false false) := by
  refine returnsInHanded_of_change_and (C := Tryd.checked) (X := fun w _ => laidMetH Tryd.prog Rows.valueMakesRow.laid w) (fun _ _ _ hh h => h.of_heap hh) Tryd.own started (by kernel_rfl) Tryd.func7
    (ChangeSpec.witness_shaped (enc := enc) (C := Tryd.checked) (os := os) (X := fun w _ => laidMetH Tryd.prog Rows.valueMakesRow.laid w) false (World.doorLaid Tryd.prog 400 os) #[.agg #[.int .i64 0, .bool false, .int .i64 0, .string ⟨#[]⟩], .agg #[.int .i64 0, .bool false, .int .i64 0, .string ⟨#[]⟩], .agg #[.int .i64 0, .bool false, .int .i64 0, .string ⟨#[]⟩]] 8 rfl (World.shaped_of_RefB (by kernel_rfl) (by kernel_rfl)) (by kernel_rfl) (by kernel_rfl) (by kernel_rfl) (door_met os _)) ?_
  intro W base args ds gs before hval0 hW _ _ hL _
  have hval : ∀ (j : Nat) t v, Tryd.f7.params[j]? = some t → args[j]? = some v → Value.okWide Tryd.prog W .any base t v := hval0
  have hW' := hW
  obtain ⟨p, q, hA0, hV, rfl, hfz, hnd⟩ := hW
  have hA : DataW.TrodAll enc Tryd.prog W 0 (fun _ => true) true Tryd.f7.params.toList args.toList ds p := hA0
  rw [Tryd.params7] at hA hval
  obtain ⟨v0, v1, v2, d0, d1, d2, p0, p1, p2, rfl, rfl, rfl, h0, h1, h2⟩ := trodAll_three hA
  obtain ⟨rfl, rfl⟩ := trodVars_none hV
  obtain ⟨a, rfl, _⟩ := open_V h0 (hval 0 23 v0 rfl rfl)
  obtain ⟨b, rfl, _⟩ := open_V h1 (hval 1 23 v1 rfl rfl)
  obtain ⟨c, rfl, _⟩ := open_V h2 (hval 2 23 v2 rfl rfl)
  have hvars := vars_of_laid hL
  refine (line_all a b c W hvars).mono fun e W' ⟨he, hb⟩ => ?_
  subst he
  exact ⟨_, rfl, law_post Tryd.laidOut rfl hW' (by rw [Tryd.params7]; intro t ht; simp at ht; subst ht; exact readable_Vs _ (by simp)) (by kernel_rfl) Tryd.underlying4 rfl rfl rfl hb⟩

theorem valueLine_holds : Rows.ValueLineSaid :=
  OpenClaim.holds_of_wide 7 Tryd.f7 rfl rfl rfl rfl rfl rfl rfl ⟨rfl, rfl, rfl, rfl, rfl⟩ rfl rfl rfl rfl rfl (by kernel_rfl) Tryd.func7 (by kernel_rfl)
    (of_decide_eq_true (by kernel_rfl)) (by unfold Func.isWrapper; first | (rw [if_pos (by decide +kernel)]; kernel_rfl) | (rw [if_neg (by decide +kernel)]; exact ⟨rfl, rfl⟩))
    (fun os started H enc _ => valueLine_lifted os started H enc)

theorem valueLine_card : Rows.ValueLineCardSaid :=
  Claim7.holds_tied_plain_at .later [] [.data, .data, .data, .sentinel, .sentinel] true Rows.valueLineCard.stood.harness true
    valueLine_holds (fun _ h => by cases h) (by kernel_rfl) (fun _ h => by cases h) valueLine_row_tie rfl ⟨rfl, rfl⟩ (by kernel_rfl) rfl
    (fun f fn hf hfn => by
      obtain rfl : f = 7 := Option.some.inj ((show Tryd.prog.funcNamed "verderer/verdererlaw01.ValueLine" = some 7 by kernel_rfl).symm.trans hf) |>.symm
      obtain rfl : fn = Tryd.f7 := (Option.some.inj (Tryd.func7.symm.trans hfn)).symm
      exact ⟨by kernel_rfl, fun j t ht => by
        rw [Tryd.params7] at ht
        have hm : t ∈ [23, 23, 23] := by simpa using Array.mem_of_getElem? ht
        have hall : ([23, 23, 23].all fun u => !Tryd.prog.wantsStandIn u) = true := by kernel_rfl
        exact (show Tryd.prog.wantsStandIn t = false by simpa using List.all_eq_true.1 hall t hm)⟩)
    (by kernel_rfl)
end Go.Proofs.YtlknhlemkbdgcaaDoor
