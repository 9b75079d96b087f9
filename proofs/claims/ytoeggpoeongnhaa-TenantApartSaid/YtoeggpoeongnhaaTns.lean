/-
  The sort of tenants by their names, of the library at this program.
  Condition: no more than a thousand tenants; no two of one name.
-/
import Derived.Test.YtoeggpoeongnhaaTnh
import Derived.Test.YtoeggpoeongnhaaTshelf
import Derived.Shelf.SlSortCmp.WholeK
namespace Go.Proofs.Ytoeggpoeongnhaa
open Go.RowKit Go.Maps Go.Shelf Go.Sort

set_option maxHeartbeats 400000 in
theorem s_ins0 (fv : Value) (w : World) : Calls Try.prog 142 #[.slice none 0 0, .int .i64 0, .int .i64 0, fv] w fun e w' => e = .returned (.tuple #[]) ∧ w = w' := by
  go_enter Try.func142, Try.ntmps142
  go_wp2
  refine wp_loop_rounds 1 ?_
  rw [rounds_succ]
  go_wp2
  (try simp only [Exit.inBlock, Exit.then]); refine bodyPost_end (results_none rfl _ _ _) rfl ?_
  exact ⟨rfl, rfl⟩
set_option maxHeartbeats 400000 in
theorem s_pdq0 (fv : Value) (k : Int) (w : World) : Calls Try.prog 129 #[.slice none 0 0, .int .i64 0, .int .i64 0, .int .i64 k, fv] w fun e w' => e = .returned (.tuple #[]) ∧ w = w' := by
  go_enter Try.func129, Try.ntmps129
  go_wp2
  refine wp_loop_rounds 1 ?_
  rw [rounds_succ]
  go_wp2_with fail
  refine (s_ins0 fv _).mono ?_
  rintro e w' ⟨rfl, rfl⟩
  go_wp2
  (try simp only [Exit.inBlock, Exit.then]); refine bodyPost_ret (results_none rfl _ _ _) rfl ?_
  exact ⟨rfl, rfl⟩
set_option maxHeartbeats 400000 in
theorem s_sort0 (fv : Value) (w : World) : Calls Try.prog 107 #[.slice none 0 0, fv] w fun e w' => e = .returned (.tuple #[]) ∧ w = w' := by
  have hl := Any.bits_Len (SlLaysF0.n15.bits (P := Try.prog) (ρ := Try.sortTn_ren) { Try.sortTn with }) 0 w (by omega) (by omega)
  change Calls Try.prog 96 _ _ _ at hl
  go_enter Try.func107, Try.ntmps107
  go_wp2_with fail
  refine hl.mono ?_
  rintro e w' ⟨rfl, rfl⟩
  go_wp2_with fail
  refine (s_pdq0 fv _ _).mono ?_
  rintro e w' ⟨rfl, rfl⟩
  go_wp2
  go_end0
  exact ⟨rfl, rfl⟩
theorem t_sort (L zs : List Tn) (w : World) (base : Nat) (v : Value) (hS : SrtT L) (ha : AnyT L zs) (ho : OwnN w base v zs) (hb : base ≤ w.heap.size) (hl : L.length ≤ 1000) :
    Calls Try.prog 107 #[v, .func (.func 81) #[] #[]] w fun e w' => e = .returned (.tuple #[]) ∧ OwnN w' base v L ∧ Below base w w' := by
  have hlen := ha.len hS
  have eg : ∀ args w, (callFunc 81 args).run Try.prog w = .ok (.enter 81 args) w := enters_of Try.func81 (by kernel_rfl) rfl
  rcases ho.2 with ⟨rfl, hz⟩ | ⟨g, cap, cur, rfl, hg, hgb, _⟩
  · have hL : L = [] := List.eq_nil_of_length_eq_zero (by omega)
    subst hL
    refine (s_sort0 _ w).mono ?_
    rintro e w' ⟨rfl, rfl⟩
    exact ⟨rfl, OwnN.nil _ _, Below.refl _ _⟩
  · obtain ⟨hH, hblk, hbg⟩ := holdsT ho
    refine (AnyQ.slices_SortFunc Try.sortTn 2 (fun w => by kernel_rfl) (fun w => by kernel_rfl) encT (fun _ => rfl) (fun x v hv => by simp [encT] at hv; rcases hv with rfl | rfl <;> rfl) cfT swoT 81 #[] g 0 cap zs.toArray w eg (fun _ _ _ _ x y => t_cmp x y _) hH hblk (by simp; omega)).mono ?_
    rintro e w' ⟨rfl, d', n, os, hp, hs, rfl⟩
    have hd := sorted_is hS ha hp hs
    subst hd
    have hz : L.length = zs.length := hlen.symm
    exact ⟨rfl, ownT_sorted ho hz, (Below.refl _ _).grown (grownBy_sortedT _) hb (fun k e => by injection e with e; omega)⟩
end Go.Proofs.Ytoeggpoeongnhaa
