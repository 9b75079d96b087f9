/-
  put of package index where a shelf is there, and has rows behind it.
  Condition: sums of counts have 64 bits.
-/
import Derived.Test.YtmdkjhnafnblkaaIxp
namespace Go.Proofs.Ytmdkjhnafnblkaa
open Go.RowKit Go.Maps

set_option maxRecDepth 100000 in
set_option maxHeartbeats 4000000 in
theorem i_put_hit (x b : Nat) (D : DataW Value) (A : Option Addr) (c : Nat) (cols : List Int) (S : List Sh) (key : ByteArray) (s g : Nat) (tog : Int) (l : List En) (R : Nat → Prop) (v : Value) (xs : List V) (k : Int) (l' : List En) (w : World) (hks : key.size ≤ maxLen) (hI : IdxB w x b D A c cols S) (hf : findK S key = some ⟨key, s, g, tog, l⟩)
    (hx : IsRow w R v xs) (ha : addL xs k l = (l', 0)) (hne : l' ≠ []) (hS : S.length ≤ 1000000) (hll : l.length ≤ 800000) (t1 : -4000000000000000000 ≤ tog) (t2 : tog ≤ 4000000000000000000) :
    Calls Try.prog 89 #[.pointer (some ⟨x, 0, none⟩), .string key, v, .int .i64 k] w fun e w' => e = .returned (.int .i64 0) ∧ OnlyM (mus x b S) w w' ∧
      ∃ D', IdxB w' x b D' A c cols (updS S ⟨key, s, g, tog + k, l'⟩) := by
  obtain ⟨hmem, _⟩ := find_mem hf
  obtain ⟨hsh, hbag⟩ := hI.2.2.2.2.2.2 _ hmem
  have hgd : Good l := hbag.1
  obtain ⟨k1, k2⟩ := addL_wide hgd ha
  have HI := Lib.hid hI
  have HF := Lib.hid hf
  have HM := Lib.hid hmem
  have hlk := look_S hI key hks
  rw [hf] at hlk
  have hlk2 : (Instr.lookup 127 (.map (some b)) (.string key) false).run Try.prog w = .ok (.pointer (some ⟨s, 0, none⟩)) w := hlk
  obtain ⟨i1, -, -, -, i5, i6, -⟩ := hI
  have hxl : x < w.heap.size := i6 x (by simp [mus])
  have hbl : b < w.heap.size := i6 b (by simp [mus])
  have hsl : s < w.heap.size := i6 s (mus_mem hmem).1
  have hgl : g < w.heap.size := i6 g (mus_mem hmem).2
  obtain ⟨hxb, hap, -⟩ := mus_x i5
  obtain ⟨n1, n2, n3, n4, n5⟩ := hap _ hmem
  dsimp only at n1 n2 n3 n4 n5 hbag
  have c1 : w.cell? ⟨x, 1, none⟩ = some (.map (some b)) := cell_of_row w x 1 _ _ _ i1
  have e0 : w.cell? ⟨s, 0, none⟩ = some (.pointer (some ⟨g, 0, none⟩)) := cell_of_row w s 0 _ _ _ hsh
  obtain ⟨-, Av, cv, hv, -, -⟩ := id hx
  have hl0 : ((l'.length : Int) == 0) = false := by
    rw [beq_eq_false_iff_ne]
    intro e
    exact hne (List.eq_nil_of_length_eq_zero (by omega))
  have qn := fun W : World => run_eql_map_nil (P := Try.prog) W 127 9 134 (some b) Try.underlying127
  have hq1 : ∀ j, w.heap.size ≤ j → Qm x b S j := fun j hj hm => by have := i6 j hm; omega
  have hnq : ¬ Qm x b S g := fun h => h (mus_mem hmem).2
  have hnqs : ¬ Qm x b S s := fun h => h (mus_mem hmem).1
  have hadd := b_add R v xs k (Qm x b S) g l w ⟨by omega, by omega⟩ hq1 hnq hx hbag hll
  rw [ha] at hadd
  have HADD := Lib.hid hadd
  have HSH := Lib.hid hsh
  have HNS := Lib.hid hnqs
  subst hv
  clear hq1 hbag hnq hnqs hadd hsh hf ha hlk hne i1 i5 i6 hap hx hmem
  go_enter Try.func89, Try.ntmps89
  go_wp2_with fail
  refine HADD.out.mono ?_
  rintro e w2 ⟨rfl, hbag2, ho2⟩
  dsimp only at hbag2
  have hsh2 : w2.heap[s]? = some (.cells #[.pointer (some ⟨g, 0, none⟩), .int .i64 tog] 137 (0, 0)) := (ho2.2 s hsl n5).trans HSH.out
  have s0 : w2.cell? ⟨s, 0, none⟩ = some (.pointer (some ⟨g, 0, none⟩)) := cell_of_row w2 s 0 _ _ _ hsh2
  have s1 : w2.cell? ⟨s, 1, none⟩ = some (.int .i64 tog) := cell_of_row w2 s 1 _ _ _ hsh2
  have s2 : w2.frozen? ⟨s, 1, none⟩ = false := frozen_of_row w2 s 1 _ _ hsh2
  obtain ⟨W3, hW3⟩ : ∃ W3, W3 = w2.setCell ⟨s, 1, none⟩ (.int .i64 (tog + k)) := ⟨_, rfl⟩
  have hsh3 : W3.heap[s]? = some (.cells #[.pointer (some ⟨g, 0, none⟩), .int .i64 (tog + k)] 137 (0, 0)) := by rw [hW3]; exact heap_setCell_same w2 s 1 _ _ _ hsh2
  have o3 : OnlyM [s] w2 W3 := by rw [hW3]; exact only_cell _
  have OM3 := Lib.hid ((OnlyM.of_only (M := [s, g]) ho2 (by simp)).trans o3 (fun j hj _ => by simp at hj; simp [hj]))
  have hbag3 : BagL W3 (Qm x b S) g l' := hbag2.keep (o3.keepQ (fun j hq hm => HNS.out ((List.mem_singleton.1 hm) ▸ hq))) (o3.2 g hbag2.lt (by simpa using n5.symm))
  have HBAG3 := Lib.hid hbag3
  have HSH3 := Lib.hid hsh3
  have HW3 := Lib.hid hW3
  have hx3 := (OM3.out.2 x hxl (by simp [n1.symm, n2.symm])).trans (show w.heap[x]? = _ from HI.out.1)
  have d1 : W3.cell? ⟨x, 1, none⟩ = some (.map (some b)) := cell_of_row W3 x 1 _ _ _ hx3
  have d0 : W3.cell? ⟨s, 0, none⟩ = some (.pointer (some ⟨g, 0, none⟩)) := cell_of_row W3 s 0 _ _ _ hsh3
  have HOWN3 := Lib.hid (ownsMap_block HI.out.2.2.1 (OM3.out.2 b hbl (by simp [n3.symm, n4.symm])))
  have hz3 := OM3.out.1.size
  clear hbag2 hsh2 hsh3 hW3 hbag3 o3 hx3
  go_wp2_with fail
  rw [← HW3.out]
  refine (b_len _ (some ⟨g, 0, none⟩) l' W3 (.inr ⟨g, rfl, HBAG3.out⟩)).mono ?_
  rintro e w' ⟨rfl, rfl⟩
  go_wp2_with (at_mapUpdate; refine wpList_mapUpdate_own _ rfl _ _ _ 127 rfl 9 134 lawK Try.underlying127 Rp b S.length D rfl HOWN3.out (by unfold maxLen; omega) _ _ (kl key) rfl rfl (Go.WideMaps.keyOf_string_mk Try.underlying9 hks) (.held (.pointer (some ⟨s, 0, none⟩))) [] rfl ?_; intro w5 hown5 hgrow5)
  go_ret
  have om5 : OnlyM [b] W3 w5 := OnlyM.grown hgrow5 (by simp)
  have hbm : b ∈ mus x b S := by simp [mus]
  have OM5 : OnlyM [s, g, b] w w5 := (show OnlyM [s, g, b] w W3 from ⟨OM3.out.1, fun j hj hn => OM3.out.2 j hj (fun hm => hn (by simp at hm; rcases hm with rfl | rfl <;> simp))⟩).trans om5 (fun j hj _ => by simp at hj; simp [hj])
  refine ⟨rfl, ⟨OM5.1, fun j hj hn => OM5.2 j hj (fun hm => hn ?_)⟩, D.put (kl key) (.held (.pointer (some ⟨s, 0, none⟩))), ?_⟩
  · simp at hm
    rcases hm with rfl | rfl | rfl
    · exact (mus_mem HM.out).1
    · exact (mus_mem HM.out).2
    · exact hbm
  · exact asm_hit ⟨key, s, g, tog, l⟩ ⟨key, s, g, tog + k, l'⟩ HI.out HF.out rfl rfl rfl OM5 hown5
      ((om5.2 s (by omega) (by simpa using n3)).trans HSH3.out)
      (HBAG3.out.keep (om5.keepQ (fun j hq hm => hq ((List.mem_singleton.1 hm) ▸ hbm))) (om5.2 g (by omega) (by simpa using n4)))
end Go.Proofs.Ytmdkjhnafnblkaa
