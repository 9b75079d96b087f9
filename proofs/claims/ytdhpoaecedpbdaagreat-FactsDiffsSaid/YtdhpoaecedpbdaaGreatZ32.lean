/-
  The sort of objects by their spaces and names, of the library at this program.
  Condition: no more than a thousand objects; no two alike.
-/
import Derived.Shelf.SlSortCmp.WholeK
import Derived.Outline
import Derived.StillTailTactics
import Derived.Test.YtdhpoaecedpbdaaGreatZ16
import Derived.Test.YtdhpoaecedpbdaaGreatZ29
namespace Go.Proofs.YtdhpoaecedpbdaaGreat
open Go.RowKit Go.Maps Go.Shelf Go.Sort

set_option maxHeartbeats 1000000 in
theorem cmp_or2 (B : Nat) (a b : Int) (W : World) (h0 : W.cell? ⟨B, 0, none⟩ = some (.int .i64 a)) (h1 : W.cell? ⟨B, 1, none⟩ = some (.int .i64 b)) :
    Calls Tryz.prog 89 #[.slice (some ⟨B, 0, none⟩) 2 2] W fun e w' => e = .returned (.int .i64 (if a = 0 then b else a)) ∧ W = w' := by
  by_cases ha : a = 0
  · subst ha
    by_cases hb : b = 0
    · subst hb
      go_enter Tryz.func89, Tryz.ntmps89
      go_wp2
      go_loop [8] (fun i => ∃ k : Nat, i = .int .i64 k ∧ (k = 0 ∨ k = 1 ∨ k = 2)) (fun i => 2 - (intOf i).toNat)
      case atStart => exact ⟨0, rfl, .inl rfl⟩
      case round =>
        obtain ⟨k, rfl, rfl | rfl | rfl⟩ := hrel
        · go_wp2
          go_round
          case rel => exact ⟨1, by go_num, .inr (.inl rfl)⟩
          case measure => simp [intOf]
        · go_wp2
          go_round
          case rel => exact ⟨2, by go_num, .inr (.inr rfl)⟩
          case measure => simp [intOf]
        · go_wp2
          go_ret
          exact ⟨rfl, rfl⟩
    · have hb1 : (b != 0) = true := by simpa using hb
      go_enter Tryz.func89, Tryz.ntmps89
      go_wp2
      go_loop [8] (fun i => ∃ k : Nat, i = .int .i64 k ∧ (k = 0 ∨ k = 1)) (fun i => 2 - (intOf i).toNat)
      case atStart => exact ⟨0, rfl, .inl rfl⟩
      case round =>
        obtain ⟨k, rfl, rfl | rfl⟩ := hrel
        · go_wp2
          go_round
          case rel => exact ⟨1, by go_num, .inr rfl⟩
          case measure => simp [intOf]
        · go_wp2
          go_ret
          exact ⟨rfl, rfl⟩
  · have ha1 : (a != 0) = true := by simpa using ha
    rw [if_neg ha]
    clear ha
    go_enter Tryz.func89, Tryz.ntmps89
    go_wp2
    go_loop [8] (fun i => i = .int .i64 0) (fun i => 2 - (intOf i).toNat)
    case atStart => rfl
    case round =>
      have hr : _ = Value.int .i64 0 := hrel
      subst hr
      go_wp2
      go_ret
      exact ⟨rfl, rfl⟩
set_option maxRecDepth 100000 in
set_option maxHeartbeats 4000000 in
theorem o_cmp (x y : OE) (W : World) : Calls Tryz.prog 88 #[.agg #[.string x.key.1, .string x.key.2.1, .string x.key.2.2, .int .i64 x.v, normU x.u], .agg #[.string y.key.1, .string y.key.2.1, .string y.key.2.2, .int .i64 y.v, normU y.u]] W fun e w' => e = .returned (.int .i64 (cfO x y)) ∧ ∃ q os', w' = grow (W.drewN q) os' := by
  obtain ⟨⟨x1, x2, x3⟩, xv, xu⟩ := x
  obtain ⟨⟨y1, y2, y3⟩, yv, yu⟩ := y
  have h1x := normU_one xu
  have h1y := normU_one yu
  have HC2 := Lib.hid (fun W' => cmp_string x2 y2 W')
  have HC3 := Lib.hid (fun W' => cmp_string x3 y3 W')
  have HCF : Hid (cfO ⟨(x1, x2, x3), xv, xu⟩ ⟨(y1, y2, y3), yv, yu⟩ = if cmpS x2 y2 = 0 then cmpS x3 y3 else cmpS x2 y2) := Lib.hid rfl
  generalize cfO ⟨(x1, x2, x3), xv, xu⟩ ⟨(y1, y2, y3), yv, yu⟩ = cf at *
  generalize cmpS x2 y2 = d2 at *
  generalize cmpS x3 y3 = d3 at *
  simp only
  generalize normU xu = ux at *
  generalize normU yu = uy at *
  go_enter Tryz.func88, Tryz.ntmps88
  go_wp2_with fail
  have hxx := ((one_new (W.alloc (.cells #[.string x1, .string x2, .string x3, .int .i64 xv, ux] 25)) (.cells #[.string y1, .string y2, .string y3, .int .i64 yv, uy] 25)).block W.heap.size (by simp)).trans (World.alloc_heap_new W _)
  have hyy := alloc2_new W (.cells #[.string x1, .string x2, .string x3, .int .i64 xv, ux] 25) (.cells #[.string y1, .string y2, .string y3, .int .i64 yv, uy] 25)
  obtain ⟨a0, a1, a2, a3, a4⟩ := five_cells (W := ((W.alloc (.cells #[.string x1, .string x2, .string x3, .int .i64 xv, ux] 25)).alloc (.cells #[.string y1, .string y2, .string y3, .int .i64 yv, uy] 25)).drew) hxx
  obtain ⟨b0, b1, b2, b3, b4⟩ := five_cells (W := ((W.alloc (.cells #[.string x1, .string x2, .string x3, .int .i64 xv, ux] 25)).alloc (.cells #[.string y1, .string y2, .string y3, .int .i64 yv, uy] 25)).drew) hyy
  have HGW : Hid (((W.alloc (.cells #[.string x1, .string x2, .string x3, .int .i64 xv, ux] 25)).alloc (.cells #[.string y1, .string y2, .string y3, .int .i64 yv, uy] 25)).drew = grow (W.drewN 1) #[.cells #[.string x1, .string x2, .string x3, .int .i64 xv, ux] 25, .cells #[.string y1, .string y2, .string y3, .int .i64 yv, uy] 25]) := Lib.hid (by
    rw [alloc_eq_grow, alloc_eq_grow, grow_grow]
    rfl)
  clear hxx hyy
  refine wp_region_still_tail 10 (by kernel_rfl) (by kernel_rfl) ?_
  simp only [List.take_succ_cons, List.take_zero, List.drop_succ_cons, List.drop_zero]
  change wpStill _ _ ((W.alloc (.cells #[.string x1, .string x2, .string x3, .int .i64 xv, ux] 25)).alloc (.cells #[.string y1, .string y2, .string y3, .int .i64 yv, uy] 25)).drew (fun a' => wpList _ _ _ _ a' ((W.alloc (.cells #[.string x1, .string x2, .string x3, .int .i64 xv, ux] 25)).alloc (.cells #[.string y1, .string y2, .string y3, .int .i64 yv, uy] 25)).drew) _ _
  generalize ((W.alloc (.cells #[.string x1, .string x2, .string x3, .int .i64 xv, ux] 25)).alloc (.cells #[.string y1, .string y2, .string y3, .int .i64 yv, uy] 25)).drew = w1 at *
  still_step
  still_step
  still_step
  still_step
  still_call (HC2.out w1).mono fun e w' h => ⟨h.1, h.2.symm⟩
  still_step
  still_step
  still_step
  still_step
  still_call (HC3.out w1).mono fun e w' h => ⟨h.1, h.2.symm⟩
  refine wpStill_nil ?_
  have HOR := Lib.hid (fun B W' h0 h1 => cmp_or2 B d2 d3 W' h0 h1)
  rw [← HCF.out] at HOR
  go_wp2_with (go_at_call 89; refine (HOR.out _ _ (by go_simp) (by go_simp)).mono ?_; rintro e w' ⟨rfl, rfl⟩)
  go_ret
  exact ⟨rfl, 1, _, by rw [HGW.out, alloc_eq_grow, grow_grow]⟩
set_option maxHeartbeats 400000 in
theorem s_ins0O (fv : Value) (w : World) : Calls Tryz.prog 136 #[.slice none 0 0, .int .i64 0, .int .i64 0, fv] w fun e w' => e = .returned (.tuple #[]) ∧ w = w' := by
  go_enter Tryz.func136, Tryz.ntmps136
  go_wp2
  refine wp_loop_rounds 1 ?_
  rw [rounds_succ]
  go_wp2
  (try simp only [Exit.inBlock, Exit.then]); refine bodyPost_end (results_none rfl _ _ _) rfl ?_
  exact ⟨rfl, rfl⟩
set_option maxHeartbeats 400000 in
theorem s_pdq0O (fv : Value) (k : Int) (w : World) : Calls Tryz.prog 117 #[.slice none 0 0, .int .i64 0, .int .i64 0, .int .i64 k, fv] w fun e w' => e = .returned (.tuple #[]) ∧ w = w' := by
  go_enter Tryz.func117, Tryz.ntmps117
  go_wp2
  refine wp_loop_rounds 1 ?_
  rw [rounds_succ]
  go_wp2_with fail
  refine (s_ins0O fv _).mono ?_
  rintro e w' ⟨rfl, rfl⟩
  go_wp2
  (try simp only [Exit.inBlock, Exit.then]); refine bodyPost_ret (results_none rfl _ _ _) rfl ?_
  exact ⟨rfl, rfl⟩
set_option maxHeartbeats 400000 in
theorem s_sort0O (fv : Value) (w : World) : Calls Tryz.prog 87 #[.slice none 0 0, fv] w fun e w' => e = .returned (.tuple #[]) ∧ w = w' := by
  have hl := Any.bits_Len (SlLaysF0.n15.bits (P := Tryz.prog) (ρ := Tryz.sortOb_ren) { Tryz.sortOb with }) 0 w (by omega) (by omega)
  change Calls Tryz.prog 118 _ _ _ at hl
  go_enter Tryz.func87, Tryz.ntmps87
  go_wp2_with fail
  refine hl.mono ?_
  rintro e w' ⟨rfl, rfl⟩
  go_wp2_with fail
  refine (s_pdq0O fv _ _).mono ?_
  rintro e w' ⟨rfl, rfl⟩
  go_wp2
  go_end0
  exact ⟨rfl, rfl⟩
theorem o_sort : SortOk := by
  intro Q os ps kd zs w base v hS ha hob ho hb hl hQ
  have eg : ∀ args w, (callFunc 88 args).run Tryz.prog w = .ok (.enter 88 args) w := enters_of Tryz.func88 (by kernel_rfl) rfl
  have h1u := hob.one
  have hzl := hob.len
  have hal := ha.count hS.apart (fun x => x.key.1.toList == kd.toList)
  have hol : (ofKind os kd).length ≤ os.length := ofKind_len os kd
  have hof : (ofKind ps kd).length = (ofKind os kd).length := hal
  rcases ho.2 with ⟨rfl, hz⟩ | ⟨g, cap, cur, rfl, hg, hgb, _⟩
  · have hL : ofKind os kd = [] := List.eq_nil_of_length_eq_zero (by omega)
    refine (s_sort0O _ w).mono ?_
    rintro e w' ⟨rfl, rfl⟩
    exact ⟨rfl, ⟨[], OwnO.nil _ _, by rw [hL]; trivial⟩, Below.refl _ _⟩
  · obtain ⟨hH, hblk, hbg⟩ := holdsO ho h1u
    refine (AnyQ.slices_SortFunc Tryz.sortOb 5 (fun w => by kernel_rfl) (fun w => by kernel_rfl) encO (fun _ => rfl) encO_one cfO swoO 88 #[] g 0 cap zs.toArray w eg (fun _ _ _ _ x y => o_cmp x y _) hH hblk (by simp; omega)).mono ?_
    rintro e w' ⟨rfl, d', n, os', hp, hs, rfl⟩
    obtain ⟨hr, hlen⟩ := sortedO_is hS hob ha.1 ha.2 hp hs
    have hd' : d' = d'.toList.toArray := by simp
    rw [hd']
    refine ⟨rfl, ⟨d'.toList, ownO_sorted ho hlen hr.one, hr.keep fun k hq hk => ?_⟩, (Below.refl _ _).grown (grownBy_sortedO _) hb (fun k e => by injection e with e; omega)⟩
    exact (grownBy_sortedO (w := w) (g := g) (n := n) (os := os') d'.toList.toArray).block k hk (fun e => by injection e with e; exact hQ g rfl (e ▸ hq))
end Go.Proofs.YtdhpoaecedpbdaaGreat
