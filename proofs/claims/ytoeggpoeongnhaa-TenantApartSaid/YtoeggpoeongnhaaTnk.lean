/-
  The fixed calls that every statement of package tenant makes answer as they must, in every world; two lists of texts that are one are alike to the document.
  No condition.
-/
import Derived.Test.YtoeggpoeongnhaaTnj
import Derived.Test.YtoeggpoeongnhaaTnf
namespace Go.Proofs.Ytoeggpoeongnhaa
open Go.RowKit Go.Maps

theorem lit_texts (w : World) (cs : Array Value) (ss : List ByteArray) (g : Nat) (hg : g = w.heap.size) (h : cs.toList = ss.map Value.string) : TxsAt (w.alloc (.cells cs 9)) (some ⟨g, 0, none⟩) ss := by
  subst hg
  intro i z hi
  have ha : (⟨w.heap.size, 0, none⟩ : Addr).add i = ⟨w.heap.size, i, none⟩ := by unfold Addr.add; split <;> simp_all
  refine ⟨_, rfl, ?_⟩
  rw [ha, new_cellT, ← Array.getElem?_toList, h, List.getElem?_map, hi]
  rfl
set_option maxRecDepth 100000 in
set_option maxHeartbeats 2000000 in
theorem r_texts (ss : List ByteArray) (A B : Option Addr) (c d : Nat) (w : World) (hl : ss.length ≤ 1000) (hA : TxsAt w A ss) (hag : ∀ a, A = some a → ∃ g, a = ⟨g, 0, none⟩) (hB : TxsAt w B ss) (hbg : ∀ a, B = some a → ∃ g, a = ⟨g, 0, none⟩) :
    Calls Try.prog 39 #[.slice A ss.length c, .slice B ss.length d] w fun e w' => e = .returned (.bool true) ∧ Below w.heap.size w w' := by
  have HA := Lib.hid hA
  have HAG := Lib.hid hag
  have HBT := Lib.hid hB
  have HBG := Lib.hid hbg
  clear hA hag hB hbg
  go_enter Try.func39, Try.ntmps39
  go_wp2
  go_loopw [5] (fun i wr => ∃ k : Nat, i = .int .i64 k ∧ k ≤ ss.length ∧ Below w.heap.size w wr) (fun i _ => ss.length - (intOf i).toNat)
  case atStart => exact ⟨0, rfl, by omega, Below.refl _ _⟩
  case round =>
    obtain ⟨k, rfl, hk, hb⟩ := hrel
    have HB := Lib.hid hb
    have hta := HA.out.below hb
    have htb := HBT.out.below hb
    clear hb
    by_cases hlt : k < ss.length
    · obtain ⟨g, rfl⟩ := hta.head HAG.out (by omega)
      obtain ⟨h, rfl⟩ := htb.head HBG.out (by omega)
      obtain ⟨x, hx⟩ : ∃ x, ss[k]? = some x := ⟨_, List.getElem?_eq_getElem hlt⟩
      have c0 := hta.at k _ hx
      have d0 := htb.at k _ hx
      clear hta htb hx
      go_wp2
      go_quiet (fail)
      go_wp2
      go_roundw
      case rel => exact ⟨k + 1, by go_num, by omega, below_drewN' HB.out _⟩
      case measure => simp [intOf]; omega
    · go_wp2
      go_ret
      exact ⟨rfl, HB.out⟩

def nmA9 : ByteArray := ⟨#[97]⟩
def nmB9 : ByteArray := ⟨#[98]⟩
def k9a : List Tn := [(nmA9, ⟨#[]⟩)]
def k9b : List Tn := [(nmA9, ⟨#[]⟩), (nmB9, nmA9)]
theorem k9_1 : addTn2 [] nmA9 ⟨#[]⟩ = k9a := by decide +kernel
theorem k9_2 : addTn2 k9a nmB9 nmA9 = k9b := by decide +kernel
theorem k9_3 : addRes [] nmA9 ⟨#[]⟩ (chn [] ⟨#[]⟩) = 0 := by decide +kernel
theorem k9_4 : addRes k9a nmB9 nmA9 (chn k9a nmA9) = 0 := by decide +kernel
theorem k9_5 : movRes k9b nmA9 nmB9 = 13 := by decide +kernel
theorem k9_6 : chn k9b nmB9 = [nmB9, nmA9] := by decide +kernel
theorem k9_7 : underL k9b nmA9 = [nmA9, nmB9] := by decide +kernel
theorem k9_8 : movTn k9b nmA9 nmB9 = k9b := by unfold movTn; rw [k9_5]; rfl
theorem k9_s : nmA9.size ≤ maxLen ∧ nmB9.size ≤ maxLen ∧ (⟨#[]⟩ : ByteArray).size ≤ maxLen := by decide +kernel

set_option maxRecDepth 100000 in
set_option maxHeartbeats 4000000 in
theorem known9 (w : World) : Calls Try.prog 46 #[] w fun e w' => e = .returned (.bool true) ∧ Below w.heap.size w w' := by
  obtain ⟨s1, s2, s3⟩ := k9_s
  have g0 := GoodT.empty
  have g1 := addTn2_good g0 nmA9 ⟨#[]⟩
  rw [k9_1] at g1
  have g2 := addTn2_good g1 nmB9 nmA9
  rw [k9_2] at g2
  have G1 := Lib.hid g1
  have G2 := Lib.hid g2
  clear g0 g1 g2
  go_enter Try.func46, Try.ntmps46
  go_wp2_with fail
  refine (t_new w).mono ?_
  rintro e w1 ⟨rfl, hb1, hT1⟩
  have HB1 := Lib.hid hb1
  have HT1 := Lib.hid hT1
  clear hb1 hT1
  go_wp2_with fail
  refine (t_add2 _ _ _ _ w1 nmA9 ⟨#[]⟩ HT1.out GoodT.empty s1 s3).mono ?_
  rintro e w2 ⟨rfl, ho2, D2, hT2⟩
  rw [k9_3]
  rw [k9_1] at hT2
  have HB2 := Lib.hid (HB1.out.trans (ho2.1.mono (Nat.le_refl _)))
  have HT2 := Lib.hid hT2
  clear ho2 hT2
  go_wp2_with fail
  refine (t_add2 _ _ _ _ w2 nmB9 nmA9 HT2.out G1.out s2 s1).mono ?_
  rintro e w3 ⟨rfl, ho3, D3, hT3⟩
  rw [k9_4]
  rw [k9_2] at hT3
  have HB3 := Lib.hid (HB2.out.trans (ho3.1.mono (Nat.le_refl _)))
  have HT3 := Lib.hid hT3
  clear ho3 hT3
  go_wp2_with fail
  refine (t_move _ _ _ _ w3 nmA9 nmB9 HT3.out G2.out s1 s2).mono ?_
  rintro e w4 ⟨rfl, ho4, D4, hT4⟩
  rw [k9_5]
  rw [k9_8] at hT4
  have HB4 := Lib.hid (HB3.out.trans (ho4.1.mono (Nat.le_refl _)))
  have HT4 := Lib.hid hT4
  clear ho4 hT4
  go_wp2_with fail
  refine (t_depth _ _ _ _ w4 nmB9 _ (G2.out.chain nmB9).1 HT4.out (fun y hy => by have := G2.out.par y hy; unfold maxLen; omega) s2 (by have := (G2.out.chain nmB9).2; omega)).mono ?_
  rintro e w5 ⟨rfl, hb5⟩
  rw [k9_6]
  have HB5 := Lib.hid (HB4.out.trans (hb5.mono HB4.out.size))
  have HT5 := Lib.hid (HT4.out.below hb5)
  clear hb5
  go_wp2_with fail
  refine (t_under _ _ _ _ w5 nmA9 HT5.out G2.out s1).mono ?_
  rintro e w6 ⟨v, rfl, hown, hb6⟩
  rw [k9_7] at hown
  obtain ⟨A, c, rfl, _, _, hat, hag⟩ := hown.slice
  have HAT := Lib.hid hat
  have HAG := Lib.hid hag
  have HB6 := Lib.hid (HB5.out.trans (hb6.mono HB5.out.size))
  have HT6 := Lib.hid (HT5.out.below hb6)
  clear hown hat hag hb6
  go_wp2_with fail
  refine (r_texts [nmA9, nmB9] A _ c _ _ (by simp) (HAT.out.below (one_new _ _)) HAG.out (lit_texts _ _ _ _ rfl rfl) (fun a h => by injection h with h; exact ⟨_, h.symm⟩)).mono ?_
  rintro e w7 ⟨rfl, hb7⟩
  have HB7 := Lib.hid (HB6.out.trans (((one_new w6 _).trans (hb7.mono (by simp))).mono HB6.out.size))
  have HT7 := Lib.hid (HT6.out.below ((one_new w6 _).trans (hb7.mono (by simp))))
  clear hb7
  go_wp2_with fail
  refine (t_above _ _ _ _ w7 nmB9 _ (G2.out.chain nmB9).1 HT7.out (fun y hy => by have := G2.out.par y hy; unfold maxLen; omega) s2 (by have := (G2.out.chain nmB9).2; omega)).mono ?_
  rintro e w8 ⟨v, rfl, hown, hb8⟩
  rw [k9_6] at hown
  obtain ⟨A', c', rfl, _, _, hat, hag⟩ := hown.slice
  have HAT2 := Lib.hid hat
  have HAG2 := Lib.hid hag
  have HB8 := Lib.hid (HB7.out.trans (hb8.mono HB7.out.size))
  clear hown hat hag hb8
  go_wp2_with fail
  refine (r_texts [nmB9, nmA9] A' _ c' _ _ (by simp) (HAT2.out.below (one_new _ _)) HAG2.out (lit_texts _ _ _ _ rfl rfl) (fun a h => by injection h with h; exact ⟨_, h.symm⟩)).mono ?_
  rintro e w9 ⟨rfl, hb9⟩
  have HB9 := Lib.hid (HB8.out.trans (((one_new w8 _).trans (hb9.mono (by simp))).mono HB8.out.size))
  clear hb9
  go_wp2
  go_ret
  exact ⟨rfl, HB9.out⟩
end Go.Proofs.Ytoeggpoeongnhaa
