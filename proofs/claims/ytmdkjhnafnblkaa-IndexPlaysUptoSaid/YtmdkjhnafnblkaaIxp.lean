/-
  put of package index where the rows of a key are some behind it: a shelf that comes, or one that changes.
  Condition: sums of counts have 64 bits.
-/
import Derived.Test.YtmdkjhnafnblkaaIxa
namespace Go.Proofs.Ytmdkjhnafnblkaa
open Go.RowKit Go.Maps

theorem addL_wide {x : List V} {k : Int} {l l' : List En} (hg : Good l) (h : addL x k l = (l', 0)) : -2147483648 ≤ k ∧ k ≤ 2147483648 := by
  have hm := hg.many x
  unfold addL at h
  split at h
  · simp at h
  · split at h
    · simp at h
    · omega
theorem only_cell {w : World} {g j : Nat} (v : Value) : OnlyM [g] w (w.setCell ⟨g, j, none⟩ v) :=
  ⟨(Below.refl 0 w).setCell (p := ⟨g, j, none⟩) (Nat.zero_le _) v, fun k _ hn => heap_setCell_other w ⟨g, j, none⟩ k v (by simpa using hn)⟩

set_option maxRecDepth 100000 in
set_option maxHeartbeats 4000000 in
theorem i_put_new (x b : Nat) (D : DataW Value) (A : Option Addr) (c : Nat) (cols : List Int) (S : List Sh) (key : ByteArray) (R : Nat → Prop) (v : Value) (xs : List V) (k : Int) (l' : List En) (w : World) (hks : key.size ≤ maxLen) (hI : IdxB w x b D A c cols S) (hf : findK S key = none)
    (hx : IsRow w R v xs) (ha : addL xs k [] = (l', 0)) (hne : l' ≠ []) (hS : S.length ≤ 1000000) :
    Calls Try.prog 89 #[.pointer (some ⟨x, 0, none⟩), .string key, v, .int .i64 k] w fun e w' => e = .returned (.int .i64 0) ∧ OnlyM (mus x b S) w w' ∧
      ∃ D' s g, w.heap.size ≤ s ∧ w.heap.size ≤ g ∧ IdxB w' x b D' A c cols (S ++ [⟨key, s, g, k, l'⟩]) := by
  obtain ⟨k1, k2⟩ := addL_wide Good.nil ha
  have HI := Lib.hid hI
  have HF := Lib.hid hf
  have HX := Lib.hid hx
  have HA := Lib.hid ha
  have hlk := look_S hI key hks
  rw [hf] at hlk
  have hlk2 : (Instr.lookup 127 (.map (some b)) (.string key) false).run Try.prog w = .ok (.pointer none) w := hlk
  obtain ⟨i1, -, -, -, i5, i6, -⟩ := hI
  have hxl : x < w.heap.size := i6 x (by simp [mus])
  have hbl : b < w.heap.size := i6 b (by simp [mus])
  obtain ⟨hxb, -, -⟩ := mus_x i5
  have c0 : w.cell? ⟨x, 0, none⟩ = some (.slice A cols.length c) := cell_of_row w x 0 _ _ _ i1
  have c1 : w.cell? ⟨x, 1, none⟩ = some (.map (some b)) := cell_of_row w x 1 _ _ _ i1
  have I1 := Lib.hid i1
  have I6 := Lib.hid i6
  obtain ⟨-, Av, cv, hv, -, -⟩ := hx
  have HL : Hid ((l'.length : Int) == 0) = Hid False → True := fun _ => trivial
  clear HL
  have hl0 : ((l'.length : Int) == 0) = false := by
    rw [beq_eq_false_iff_ne]
    intro e
    exact hne (List.eq_nil_of_length_eq_zero (by omega))
  have qn := fun W : World => run_eql_map_nil (P := Try.prog) W 127 9 134 (some b) Try.underlying127
  -- the blocks that come
  obtain ⟨g, hg⟩ : ∃ g, g = w.heap.size := ⟨_, rfl⟩
  obtain ⟨s, hs⟩ : ∃ s, s = w.heap.size + 1 := ⟨_, rfl⟩
  obtain ⟨W1, hW1⟩ : ∃ W1, W1 = (w.alloc (.cells #[.pointer none] 231)).alloc (.cells #[.pointer (some ⟨g, 0, none⟩), .int .i64 0] 137) := ⟨_, rfl⟩
  have hb1 : Below w.heap.size w W1 := by rw [hW1]; exact two_new _ _ _
  have hz1 : W1.heap.size = w.heap.size + 2 := by rw [hW1]; simp
  have hsh1 : W1.heap[s]? = some (.cells #[.pointer (some ⟨g, 0, none⟩), .int .i64 0] 137 (0, 0)) := by
    have h := (Go.MapKept.heap_alloc (w.alloc (.cells #[.pointer none] 231)) (.cells #[.pointer (some ⟨g, 0, none⟩), .int .i64 0] 137)).1
    rw [World.size_alloc, ← hs] at h
    rw [hW1]
    exact h
  have hq1 : ∀ j, W1.heap.size ≤ j → Qm x b (S ++ [⟨key, s, g, k, l'⟩]) j := by
    intro j hj hm
    rw [mus_snoc, List.mem_append] at hm
    rcases hm with hm | hm
    · have := I6.out j hm; omega
    · simp at hm; omega
  have hbag1 : BagL W1 (Qm x b (S ++ [⟨key, s, g, k, l'⟩])) g [] := by
    have h := (bag_new (Qm x b (S ++ [⟨key, s, g, k, l'⟩])) w).below (one_new _ (.cells #[.pointer (some ⟨g, 0, none⟩), .int .i64 0] 137))
    rw [hW1]
    rw [← hg] at h
    exact h
  have hnq : ¬ Qm x b (S ++ [⟨key, s, g, k, l'⟩]) g := fun h => h (by rw [mus_snoc]; simp)
  have hnqs : ¬ Qm x b (S ++ [⟨key, s, g, k, l'⟩]) s := fun h => h (by rw [mus_snoc]; simp)
  have hadd := b_add R v xs k (Qm x b (S ++ [⟨key, s, g, k, l'⟩])) g [] W1 ⟨by omega, by omega⟩ hq1 hnq (HX.out.below hb1) hbag1 (by simp)
  rw [ha] at hadd
  have HADD := Lib.hid hadd
  have HB1 := Lib.hid hb1
  have HSH1 := Lib.hid hsh1
  have HNS := Lib.hid hnqs
  have HW1 := Lib.hid hW1
  subst hv
  subst hg
  subst hs
  clear hq1 hbag1 hnq hnqs hadd hb1 hsh1 hW1 hf ha hlk hne i1 i5 i6
  go_enter Try.func89, Try.ntmps89
  go_wp2_with fail
  refine (b_new _).mono ?_
  rintro e w' ⟨rfl, rfl⟩
  go_wp2_with fail
  rw [← HW1.out]
  refine HADD.out.mono ?_
  rintro e w2 ⟨rfl, hbag2, ho2⟩
  dsimp only at hbag2
  have hgs : w.heap.size ≠ w.heap.size + 1 := by omega
  have hsh2 : w2.heap[w.heap.size + 1]? = some (.cells #[.pointer (some ⟨w.heap.size, 0, none⟩), .int .i64 0] 137 (0, 0)) := (ho2.2 (w.heap.size + 1) (by omega) hgs.symm).trans HSH1.out
  have s0 : w2.cell? ⟨w.heap.size + 1, 0, none⟩ = some (.pointer (some ⟨w.heap.size, 0, none⟩)) := cell_of_row w2 (w.heap.size + 1) 0 _ _ _ hsh2
  have s1 : w2.cell? ⟨w.heap.size + 1, 1, none⟩ = some (.int .i64 0) := cell_of_row w2 (w.heap.size + 1) 1 _ _ _ hsh2
  have s2 : w2.frozen? ⟨w.heap.size + 1, 1, none⟩ = false := frozen_of_row w2 (w.heap.size + 1) 1 _ _ hsh2
  obtain ⟨W3, hW3⟩ : ∃ W3, W3 = w2.setCell ⟨w.heap.size + 1, 1, none⟩ (.int .i64 k) := ⟨_, rfl⟩
  have hsh3 : W3.heap[w.heap.size + 1]? = some (.cells #[.pointer (some ⟨w.heap.size, 0, none⟩), .int .i64 k] 137 (0, 0)) := by rw [hW3]; exact heap_setCell_same w2 (w.heap.size + 1) 1 _ _ _ hsh2
  have o3 : OnlyM [w.heap.size + 1] w2 W3 := by rw [hW3]; exact only_cell _
  have OM3 := Lib.hid ((OnlyM.of_below (M := []) HB1.out).trans ((OnlyM.of_only (M := [w.heap.size, w.heap.size + 1]) ho2 (by simp)).trans o3 (fun j hj _ => by simp at hj; simp [hj])) (fun j hj hl => by simp at hj; omega))
  have hbag3 : BagL W3 (Qm x b (S ++ [⟨key, w.heap.size + 1, w.heap.size, k, l'⟩])) w.heap.size l' := hbag2.keep (o3.keepQ (fun j hq hm => HNS.out ((List.mem_singleton.1 hm) ▸ hq))) (o3.2 w.heap.size hbag2.lt (by simp))
  have HBAG3 := Lib.hid hbag3
  have HSH3 := Lib.hid hsh3
  have hz3 : W3.heap.size = w2.heap.size := by rw [hW3]; simp [World.setCell]
  have HW3 := Lib.hid hW3
  have hx3 := (OM3.out.2 x hxl (by simp)).trans (show w.heap[x]? = _ from HI.out.1)
  have d1 : W3.cell? ⟨x, 1, none⟩ = some (.map (some b)) := cell_of_row W3 x 1 _ _ _ hx3
  have d0 : W3.cell? ⟨w.heap.size + 1, 0, none⟩ = some (.pointer (some ⟨w.heap.size, 0, none⟩)) := cell_of_row W3 (w.heap.size + 1) 0 _ _ _ hsh3
  have hz2 := ho2.1.size
  clear hbag2 hsh2 hsh3 hW3 hbag3 o3 hx3
  have hown3 := ownsMap_block HI.out.2.2.1 (OM3.out.2 b hbl (by simp))
  have HOWN3 := Lib.hid hown3
  clear hown3
  go_wp2_with fail
  rw [← HW3.out]
  refine (b_len _ (some ⟨w.heap.size, 0, none⟩) l' W3 (.inr ⟨w.heap.size, rfl, HBAG3.out⟩)).mono ?_
  rintro e w' ⟨rfl, rfl⟩
  go_wp2_with (at_mapUpdate; refine wpList_mapUpdate_own _ rfl _ _ _ 127 rfl 9 134 lawK Try.underlying127 Rp b S.length D rfl HOWN3.out (by unfold maxLen; omega) _ _ (kl key) rfl rfl (Go.WideMaps.keyOf_string_mk Try.underlying9 hks) (.held (.pointer (some ⟨w.heap.size + 1, 0, none⟩))) [] rfl ?_; intro w5 hown5 hgrow5)
  go_ret
  have om5 : OnlyM [b] W3 w5 := OnlyM.grown hgrow5 (by simp)
  have hbm : b ∈ mus x b (S ++ [⟨key, w.heap.size + 1, w.heap.size, k, l'⟩]) := by simp [mus]
  have OM5 : OnlyM [b] w w5 := (show OnlyM [b] w W3 from ⟨OM3.out.1, fun j hj _ => OM3.out.2 j hj (by simp)⟩).trans om5 (fun j hj _ => hj)
  refine ⟨rfl, ⟨OM5.1, fun j hj hn => OM5.2 j hj (fun hm => hn (by rw [List.mem_singleton.1 hm]; simp [mus]))⟩, D.put (kl key) (.held (.pointer (some ⟨w.heap.size + 1, 0, none⟩))), w.heap.size + 1, w.heap.size, by omega, by omega, ?_⟩
  have hz5 := om5.1.size
  exact asm_new ⟨key, w.heap.size + 1, w.heap.size, k, l'⟩ HI.out HF.out OM5 hown5 (Nat.le_succ _) (Nat.le_refl _) (by simp) (by simp only; omega) (by simp only; omega)
    ((om5.2 (w.heap.size + 1) (by omega) (by simp; omega)).trans HSH3.out)
    (HBAG3.out.keep (om5.keepQ (fun j hq hm => hq ((List.mem_singleton.1 hm) ▸ hbm))) (om5.2 w.heap.size (by omega) (by simp; omega)))
end Go.Proofs.Ytmdkjhnafnblkaa
