/-
  The document's own Back answers the row that bytes are, or why they are none; at all bytes, in every world; nothing that was there is changed.
  No condition but that the bytes are no more than a hundred thousand.
-/
import Derived.Test.YtdlimephkjihbaaPback
namespace Go.Proofs.Ytdlimephkjihbaa
open Go.RowKit

set_option maxRecDepth 100000 in
set_option maxHeartbeats 4000000 in
theorem rpk_back (A : Option Addr) (bs : List UInt8) (n c : Nat) (w : World) (hn : n = bs.length) (hl : n ≤ 100000) (hcap : n ≤ c) (hx : BytesAt w w.heap.size A bs) :
    Calls Try.prog 40 #[.slice A n c] w (BackOf w (backR (n + 1) [] bs)) := by

  have HX := Lib.hid hx
  have HN := Lib.hid hn
  clear hx hn
  obtain ⟨R, hR⟩ : ∃ R, backR (n + 1) [] bs = R := ⟨_, rfl⟩
  rw [hR]
  have HR := Lib.hid hR
  clear hR
  go_enter Try.func40, Try.ntmps40
  go_wp2
  go_loopw [4, 5] (fun v i wr => ∃ (k f : Nat) (zs : List V), k ≤ n ∧ i = .int .i64 k ∧ n < k + (f + 1) ∧ zs.length ≤ k ∧ Own wr w.heap.size v zs ∧ backR (f + 1) zs (bs.drop k) = R ∧ Below w.heap.size w wr) (fun _ i _ => n - (intOf i).toNat)
  case atStart => exact ⟨0, n, [], Nat.zero_le _, rfl, by omega, by simp, Own.nil _ _, HR.out, Below.refl _ _⟩
  case round =>
    obtain ⟨k, f, zs, hk, rfl, hf, hzl, hown, hr, hb⟩ := hrel
    have HO := Lib.hid hown
    have HRR := Lib.hid hr
    have HB := Lib.hid hb
    have hsz : w.heap.size ≤ wr.heap.size := hb.size
    clear hown hr
    by_cases h1 : k < n
    · obtain ⟨x, hx⟩ : ∃ x, bs[k]? = some x := ⟨_, List.getElem?_eq_getElem (by rw [← HN.out]; exact h1)⟩
      obtain ⟨a, rfl, ha, a0⟩ := (HX.out.below hb) k x hx
      have a1 : wr.cell? (a.add k) = some (.int .u8 (x.toNat : Int)) := a0
      have HXK := Lib.hid hx
      clear hx a0 hb
      by_cases h2 : x.toNat = 0
      · have b2 : ((x.toNat : Int) == 0) = true := by rw [h2]; rfl
        have b2' : ((x.toNat : Int) != 0) = false := by rw [h2]; rfl
        have hx0 := Lib.hid (byte_zero h2)
        clear h2
        by_cases h3 : k + 1 = n
        · have HF : Hid (R = (zs, 0)) := Lib.hid (by rw [← HRR.out]; exact bk_last bs zs f k x HXK.out hx0.out (by rw [← HN.out]; exact h3))
          have e0 : (((n : Int) - (k : Int)) == 0) = false := by
            rw [beq_eq_false_iff_ne]
            omega
          have e1 : (((n : Int) - (k : Int)) == 1) = true := by
            rw [beq_iff_eq]
            omega
          have e2 : ¬ (k : Int) + 1 < (n : Int) := by omega
          clear h3
          go_wp2
          go_ret2
          rw [HF.out]
          exact ⟨_, rfl, HO.out, HB.out⟩
        · have HF : Hid (R = ([], 7)) := Lib.hid (by rw [← HRR.out]; exact bk_form bs zs f k x HXK.out hx0.out (by rw [← HN.out]; omega))
          have e0 : (((n : Int) - (k : Int)) == 0) = false := by
            rw [beq_eq_false_iff_ne]
            omega
          have e1 : (((n : Int) - (k : Int)) == 1) = false := by
            rw [beq_eq_false_iff_ne]
            omega
          have e2 : (k : Int) + 1 < (n : Int) := by omega
          clear h3
          go_wp2
          go_ret2
          rw [HF.out]
          exact ⟨_, rfl, Own.nil _ _, HB.out⟩
      · have b2 : ((x.toNat : Int) == 0) = false := by
          rw [beq_eq_false_iff_ne]
          omega
        have b2' : ((x.toNat : Int) != 0) = true := by
          rw [bne, b2]
          rfl
        have hx0 : Hid (¬ x = 0) := Lib.hid (fun h => h2 (by rw [h]; rfl))
        have hck : ¬ c = k := by omega
        have hkc : k ≤ c := by omega
        clear h2
        obtain ⟨⟨⟨rk, rf, rn, rt⟩, rm, re⟩, hP⟩ : ∃ P, firstR (bs.drop k) = P := ⟨_, rfl⟩
        have HC := Lib.hid (fun W (h : Below w.heap.size w W) => rpk_first (some (a.add k)) (bs.drop k) (n - k) (c - k) W (by rw [List.length_drop, ← HN.out]) (by unfold maxLen; omega) (by omega) ((HX.out.later h).drop k))
        have HP := Lib.hid hP
        clear hP
        by_cases he : re = 0
        · subst he
          have hnx := bk_next bs zs f k x HXK.out hx0.out ⟨rk, rf, rn, rt⟩ rm 0 HP.out rfl
          have HNX := Lib.hid hnx.1
          have hm1 := hnx.2.1
          have hm2 : k + rm ≤ n := by rw [HN.out]; exact hnx.2.2
          clear hnx
          go_wp2_with fail
          refine (HC.out _ (by exact HB.out)).mono ?_
          rintro e w2 ⟨rfl, hb2⟩
          rw [HP.out]
          have HB2 := Lib.hid (HB.out.trans (hb2.mono hsz))
          have HO2 := Lib.hid (HO.out.below hb2 (Nat.le_refl _))
          have hs2 := hb2.size
          have hs3 : w.heap.size ≤ w2.heap.size := by omega
          clear hb2
          go_wp2_with (at_builtin; go_must (refine wp_append_V _ rfl (.tmp 35) (.tmp 37) rfl w.heap.size _ zs [⟨rk, rf, rn, rt⟩] rfl (by exact (HO2.out.alloc _).alloc _) _ _ _ _ rfl rfl (by exact row_lit1' _ ⟨rk, rf, rn, rt⟩ _ (by simp)) (by simp; omega) (by simp; omega) ?_; intro v1 w3 ho3 hb3 _))
          go_roundw
          case rel =>
            obtain ⟨f', rfl⟩ : ∃ f', f = f' + 1 := ⟨f - 1, by omega⟩
            exact ⟨k + rm, f', zs ++ [⟨rk, rf, rn, rt⟩], hm2, by go_num, by omega, by simp; omega, ho3, by rw [← HNX.out]; exact HRR.out, (HB2.out.trans ((one_new_far _ _ hs3).trans (one_new_far _ _ (by simp; omega)))).trans hb3⟩
          case measure => simp [intOf]; omega
        · have HF : Hid (R = ([], re)) := Lib.hid (by rw [← HRR.out]; exact bk_bad bs zs f k x HXK.out hx0.out _ _ _ HP.out he)
          have e1 : (re == 0) = false := by
            rw [beq_eq_false_iff_ne]
            exact he
          have e2 : (re != 0) = true := by
            rw [bne, e1]
            rfl
          clear he
          go_wp2_with fail
          refine (HC.out _ (by exact HB.out)).mono ?_
          rintro e w2 ⟨rfl, hb2⟩
          rw [HP.out]
          have HB2 := Lib.hid (HB.out.trans (hb2.mono hsz))
          have hs3 : w.heap.size ≤ w2.heap.size := by have := hb2.size; omega
          clear hb2
          go_wp2
          go_ret2
          rw [HF.out]
          exact ⟨_, rfl, Own.nil _ _, HB2.out.trans (one_new_far _ _ hs3)⟩
    · have HF : Hid (R = ([], 8)) := Lib.hid (by rw [← HRR.out]; exact bk_end bs zs f k (by rw [← HN.out]; omega))
      have e0 : (((n : Int) - (k : Int)) == 0) = true := by
        rw [beq_iff_eq]
        omega
      go_wp2
      go_ret2
      rw [HF.out]
      exact ⟨_, rfl, Own.nil _ _, HB.out⟩

end Go.Proofs.Ytdlimephkjihbaa
