/-
  Two lists of tenants that are one are alike to the document; the document's copy of a tree.
  Condition: no more than a thousand tenants.
-/
import Derived.Test.YtoeggpoeongnhaaTnx
import Derived.Laws.StructEq
namespace Go.Proofs.Ytoeggpoeongnhaa
open Go.RowKit Go.Maps

theorem equal_tn (a b : ByteArray) (w : World) : (Op.equalIn 10000 71 (.agg #[.string a, .string b]) (.agg #[.string a, .string b])).run Try.prog w = .ok true w := by
  have hS : Try.prog.underlying 71 = some (.struct (Try.prog.fieldsOf 71)) := by kernel_rfl
  rw [show (10000 : Nat) = 9999 + 1 from rfl, run_equalIn_agg w 9999 71 _ _ hS (by kernel_rfl)]
  simp only [Program.fieldsOf, Try.underlying71]
  go_simp

section
attribute [local go_sem high] equal_tn
set_option maxRecDepth 100000 in
set_option maxHeartbeats 2000000 in
theorem r_sameTn (zs : List Tn) (A B : Option Addr) (c d : Nat) (w : World) (hl : zs.length ≤ 1000) (hA : TnsAt w A zs) (hag : ∀ a, A = some a → ∃ g, a = ⟨g, 0, none⟩) (hB : TnsAt w B zs) (hbg : ∀ a, B = some a → ∃ g, a = ⟨g, 0, none⟩) :
    Calls Try.prog 44 #[.slice A zs.length c, .slice B zs.length d] w fun e w' => e = .returned (.bool true) ∧ Below w.heap.size w w' := by
  have HA := Lib.hid hA
  have HAG := Lib.hid hag
  have HBT := Lib.hid hB
  have HBG := Lib.hid hbg
  clear hA hag hB hbg
  go_enter Try.func44, Try.ntmps44
  go_wp2
  go_loopw [5] (fun i wr => ∃ k : Nat, i = .int .i64 k ∧ k ≤ zs.length ∧ Below w.heap.size w wr) (fun i _ => zs.length - (intOf i).toNat)
  case atStart => exact ⟨0, rfl, by omega, Below.refl _ _⟩
  case round =>
    obtain ⟨k, rfl, hk, hb⟩ := hrel
    have HB := Lib.hid hb
    have hta := HA.out.below hb
    have htb := HBT.out.below hb
    clear hb
    by_cases hlt : k < zs.length
    · obtain ⟨g, rfl⟩ := hta.head HAG.out (by omega)
      obtain ⟨h, rfl⟩ := htb.head HBG.out (by omega)
      obtain ⟨⟨x1, x2⟩, hx⟩ : ∃ x, zs[k]? = some x := ⟨_, List.getElem?_eq_getElem hlt⟩
      obtain ⟨c0, c1⟩ := hta.at k _ hx
      obtain ⟨d0, d1⟩ := htb.at k _ hx
      simp only at c0 c1 d0 d1
      clear hta htb hx
      go_wp2
      go_quiet (fail)
      go_wp2
      go_roundw
      case rel => exact ⟨k + 1, by go_num, by omega, below_drewN' HB.out _⟩
      case measure => simp [intOf]; omega
    · go_wp2
      go_ret
      exact ⟨rfl, HB.out⟩
end

set_option maxRecDepth 100000 in
set_option maxHeartbeats 2000000 in
theorem r_copyT (q r : Nat) (v : Value) (L : List Tn) (w : World) (hR : RefB w q r v L) (hl : L.length ≤ 1000) :
    Calls Try.prog 52 #[.pointer (some ⟨r, 0, none⟩)] w fun e w' => ∃ v', e = .returned (.pointer (some ⟨w.heap.size, 0, none⟩)) ∧ RefB w' w.heap.size w.heap.size v' L ∧ Below w.heap.size w w' := by
  obtain ⟨A, c, rfl, _, _, hat, hag⟩ := hR.2.slice
  have hrl := hR.lt
  have hba := one_new w (.cells #[.slice none 0 0] 66)
  have c0 := cell_rowT _ r _ _ (hR.below hba).1
  have c1 := new_cellT w #[.slice none 0 0] 66 0
  have HAT := Lib.hid (hat.below hba)
  have HBA := Lib.hid hba
  clear hR hat hag hba
  go_enter Try.func52, Try.ntmps52
  go_wp2
  have hbx : (w.alloc (.cells #[.slice none 0 0] 66)).heap[w.heap.size]? = some (.cells #[.slice none 0 0] 66 (0, 0)) := World.alloc_heap_new w _
  have HX := Lib.hid hbx
  have hsz : w.heap.size + 1 ≤ (w.alloc (.cells #[.slice none 0 0] 66)).heap.size := by simp
  clear hbx
  go_region_law
    ((refine step_append_N _ (by rfl) _ _ (by rfl) (w.heap.size + 1) _ [] L (by rfl) (OwnN.nil _ _) A L.length c (by rfl) rfl (by exact HAT.out) (by simp; omega) (by exact hsz) ?_; intro v' w5 hown' hb5; rw [List.nil_append] at hown'; obtain ⟨A5, c5, hv5⟩ := hown'.form; subst hv5; have hx5 := (hb5.block w.heap.size (Nat.lt_succ_self _)).trans HX.out; have e5 := cell_rowT w5 _ _ _ hx5; have f5 := frozen_of_row w5 w.heap.size 0 _ _ hx5; have HO5 := Lib.hid hown'; have HB5 := Lib.hid hb5; have HX5 := Lib.hid hx5; clear hown' hb5 hx5))
  all_goals
    go_wp2
    go_ret
    refine ⟨_, rfl, ⟨heap_setCell_same w5 w.heap.size 0 _ _ _ HX5.out, OwnN.same (OwnN.lower HO5.out (Nat.le_succ _)) fun k hk => ?_⟩, ?_⟩
    · have := OwnN.base_le HO5.out k hk
      exact Below.heap_setCell w5 ⟨w.heap.size, 0, none⟩ _ k (by show k ≠ w.heap.size; omega)
    · exact ((HBA.out.drew.trans (HB5.out.mono (Nat.le_succ _)))).setCell (p := ⟨w.heap.size, 0, none⟩) (Nat.le_refl _) _
end Go.Proofs.Ytoeggpoeongnhaa
