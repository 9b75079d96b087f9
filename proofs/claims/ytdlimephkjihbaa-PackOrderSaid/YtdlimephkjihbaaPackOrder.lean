/-
  PackOrder of verdererlaw04 answers true at every two rows, and each row reads afterwards as it read before: rows whose values can be are in the order of their bytes.
  No condition.
-/
import Derived.Test.YtdlimephkjihbaaPopen
import Derived.Test.YtdlimephkjihbaaPknown
namespace Go.Proofs.Ytdlimephkjihbaa
open Go.ChangeShapes Go.WideShapes Go.ChangeAt Go.RowKit Go.Deep

theorem rowB_len (xs : List V) (h : xs.length ≤ 5000) : (rowB xs).length ≤ 700000 := by
  unfold rowB
  split
  · have := flat_valB_len xs
    rw [List.length_append, List.length_cons, List.length_nil]
    omega
  · simp
theorem rowB_pos (xs : List V) : (rowB xs).length = 0 ∨ (xs.all rightV = true ∧ rowB xs = xs.flatMap valB ++ [0] ∧ 0 < (rowB xs).length) := by
  unfold rowB
  by_cases h : xs.all rightV = true
  · right
    rw [if_pos h]
    refine ⟨h, rfl, ?_⟩
    rw [List.length_append]
    simp only [List.length_cons]
    omega
  · left
    rw [if_neg h]
    rfl

/-- The bytes of two rows, as texts, stand as the rows do. -/
theorem rowB_order (xs ys : List V) (hx : WideR xs) (hy : WideR ys) (h1 : 0 < (rowB xs).length) (h2 : 0 < (rowB ys).length) : cmpS ⟨(rowB xs).toArray⟩ ⟨(rowB ys).toArray⟩ = cmpR xs ys := by
  rcases rowB_pos xs with h | ⟨ax, ex, _⟩
  · omega
  rcases rowB_pos ys with h | ⟨ay, ey, _⟩
  · omega
  rw [cmpS_list, ex, ey]
  exact cmp_rowB xs ys ax ay hx hy

set_option maxRecDepth 100000 in
set_option maxHeartbeats 2000000 in
theorem packOrder_all (A B : Option Addr) (xs ys : List V) (n m c c' : Nat) (w : World) (hn : n = xs.length) (hm : m = ys.length) (hwx : WideR xs) (hwy : WideR ys) (hfx : Fit xs) (hx : RowAt w w.heap.size A xs) (hy : RowAt w w.heap.size B ys) :
    Calls Try.prog 11 #[.slice A n c, .slice B m c'] w fun e w' => e = .returned (.bool true) ∧ Below w.heap.size w w' := by
  have F1 := Lib.hid (few_all A xs n c w hn hx)
  have F2 := Lib.hid (few_all B ys m c' w hm hy)
  rcases Bool.eq_false_or_eq_true (shortR xs) with hs1 | hs1
  · rcases Bool.eq_false_or_eq_true (shortR ys) with hs2 | hs2
    · have hl1 : n ≤ 100 := by
        unfold shortR at hs1
        simp only [Bool.and_eq_true, decide_eq_true_eq] at hs1
        omega
      have hl2 : m ≤ 100 := by
        unfold shortR at hs2
        simp only [Bool.and_eq_true, decide_eq_true_eq] at hs2
        omega
      have R1 := Lib.hid (fun W (h : Below w.heap.size w W) => pk_row A xs n c W hn (by omega) hwx (hx.later h))
      have R2 := Lib.hid (fun W (h : Below w.heap.size w W) => pk_row B ys m c' W hm (by omega) hwy (hy.later h))
      have RC := Lib.hid (fun W (h : Below w.heap.size w W) => ref_cmpR A B xs ys n m c c' W hn hm (by unfold maxLen; omega) hfx (hx.later h) (hy.later h))
      have L1 : Hid ((rowB xs).length ≤ 700000) := Lib.hid (rowB_len xs (by omega))
      have HOrd := Lib.hid (rowB_order xs ys hwx hwy)
      have S1 := Lib.hid hs1
      have S2 := Lib.hid hs2
      obtain ⟨bx, hbx⟩ : ∃ b, rowB xs = b := ⟨_, rfl⟩
      obtain ⟨by', hby⟩ : ∃ b, rowB ys = b := ⟨_, rfl⟩
      have BX := Lib.hid hbx
      have BY := Lib.hid hby
      have hz1 : (((bx.length : Nat) : Int) == 0) = true ∨ 0 < bx.length := by
        rcases Nat.eq_zero_or_pos bx.length with h | h
        · left
          rw [h]
          rfl
        · exact .inr h
      have hz2 : (((by'.length : Nat) : Int) == 0) = true ∨ 0 < by'.length := by
        rcases Nat.eq_zero_or_pos by'.length with h | h
        · left
          rw [h]
          rfl
        · exact .inr h
      clear hn hm hwx hwy hfx hx hy hs1 hs2 hl1 hl2 hbx hby
      rcases hz1 with hz1 | hz1
      · go_enter Try.func11, Try.ntmps11
        go_wp2_with fail
        refine F1.out.mono ?_
        rintro e w1 ⟨rfl, rfl⟩
        rw [S1.out]
        go_wp2_with fail
        refine F2.out.mono ?_
        rintro e w1 ⟨rfl, rfl⟩
        rw [S2.out]
        go_wp2_with fail
        refine (R1.out _ (by exact Below.refl _ _)).mono ?_
        rintro e w1 ⟨vx, rfl, hox, hb1⟩
        rw [BX.out] at hox
        obtain ⟨A1, c1, rfl, _, _, _⟩ := hox.form
        have HX1 := Lib.hid hox
        have HB1 := Lib.hid hb1
        clear hox hb1
        go_wp2_with fail
        refine (R2.out _ (by exact HB1.out)).mono ?_
        rintro e w2 ⟨vy, rfl, hoy, hb2⟩
        rw [BY.out] at hoy
        obtain ⟨A2, c2, rfl, _, _, _⟩ := hoy.form
        have HY2 := Lib.hid hoy
        have HX2 := Lib.hid (HX1.out.below hb2 (Nat.le_refl _))
        have HB2 := Lib.hid (HB1.out.trans (hb2.mono HB1.out.size))
        clear hoy hb2
        go_wp2_with (go_at_call 32; refine (known4 _).mono ?_; rintro e w6 ⟨rfl, hb6⟩)
        go_ret
        exact ⟨rfl, HB2.out.trans (hb6.mono HB2.out.size)⟩
      · have b1 : ((bx.length : Int) == 0) = false := by
          rw [beq_eq_false_iff_ne]
          omega
        rcases hz2 with hz2 | hz2
        · go_enter Try.func11, Try.ntmps11
          go_wp2_with fail
          refine F1.out.mono ?_
          rintro e w1 ⟨rfl, rfl⟩
          rw [S1.out]
          go_wp2_with fail
          refine F2.out.mono ?_
          rintro e w1 ⟨rfl, rfl⟩
          rw [S2.out]
          go_wp2_with fail
          refine (R1.out _ (by exact Below.refl _ _)).mono ?_
          rintro e w1 ⟨vx, rfl, hox, hb1⟩
          rw [BX.out] at hox
          obtain ⟨A1, c1, rfl, _, _, _⟩ := hox.form
          have HX1 := Lib.hid hox
          have HB1 := Lib.hid hb1
          clear hox hb1
          go_wp2_with fail
          refine (R2.out _ (by exact HB1.out)).mono ?_
          rintro e w2 ⟨vy, rfl, hoy, hb2⟩
          rw [BY.out] at hoy
          obtain ⟨A2, c2, rfl, _, _, _⟩ := hoy.form
          have HY2 := Lib.hid hoy
          have HX2 := Lib.hid (HX1.out.below hb2 (Nat.le_refl _))
          have HB2 := Lib.hid (HB1.out.trans (hb2.mono HB1.out.size))
          clear hoy hb2
          go_wp2_with (go_at_call 32; refine (known4 _).mono ?_; rintro e w6 ⟨rfl, hb6⟩)
          go_ret
          exact ⟨rfl, HB2.out.trans (hb6.mono HB2.out.size)⟩
        · have b2 : ((by'.length : Int) == 0) = false := by
            rw [beq_eq_false_iff_ne]
            omega
          have hord : cmpS ⟨bx.toArray⟩ ⟨by'.toArray⟩ = cmpR xs ys := by
            have h := HOrd.out
            rw [BX.out, BY.out] at h
            exact h hz1 hz2
          have hsz : (⟨bx.toArray⟩ : ByteArray).size ≤ maxLen := by
            have h := L1.out
            rw [BX.out] at h
            show bx.toArray.size ≤ maxLen
            rw [List.size_toArray]
            unfold maxLen
            omega
          have HORD := Lib.hid hord
          have HSZ := Lib.hid hsz
          clear hord hsz hz1 hz2
          go_enter Try.func11, Try.ntmps11
          go_wp2_with fail
          refine F1.out.mono ?_
          rintro e w1 ⟨rfl, rfl⟩
          rw [S1.out]
          go_wp2_with fail
          refine F2.out.mono ?_
          rintro e w1 ⟨rfl, rfl⟩
          rw [S2.out]
          go_wp2_with fail
          refine (R1.out _ (by exact Below.refl _ _)).mono ?_
          rintro e w1 ⟨vx, rfl, hox, hb1⟩
          rw [BX.out] at hox
          obtain ⟨A1, c1, rfl, _, _, _⟩ := hox.form
          have HX1 := Lib.hid hox
          have HB1 := Lib.hid hb1
          clear hox hb1
          go_wp2_with fail
          refine (R2.out _ (by exact HB1.out)).mono ?_
          rintro e w2 ⟨vy, rfl, hoy, hb2⟩
          rw [BY.out] at hoy
          obtain ⟨A2, c2, rfl, _, _, _⟩ := hoy.form
          have HY2 := Lib.hid hoy
          have HX2 := Lib.hid (HX1.out.below hb2 (Nat.le_refl _))
          have HB2 := Lib.hid (HB1.out.trans (hb2.mono HB1.out.size))
          clear hoy hb2
          obtain ⟨Ax, cx, hvx, hcx⟩ := conv_form HX2.out
          injection hvx with g1 g2 g3
          subst g1 g3
          obtain ⟨Ay, cy, hvy, hcy⟩ := conv_form HY2.out
          injection hvy with k1 k2 k3
          subst k1 k3
          clear g2 k2
          go_wp2_with fail
          refine (ref_text ⟨bx.toArray⟩ ⟨by'.toArray⟩ _ HSZ.out).mono ?_
          rintro e w3 ⟨rfl, nd, rfl⟩
          rw [HORD.out]
          have HB3 := Lib.hid (below_drewN' HB2.out nd)
          go_wp2_with fail
          refine (RC.out _ (by exact HB3.out)).mono ?_
          rintro e w4 ⟨rfl, hb4⟩
          have HB4 := Lib.hid (HB3.out.trans (hb4.mono HB3.out.size))
          clear hb4 hcx hcy
          go_wp2_with (go_at_call 32; refine (known4 _).mono ?_; rintro e w6 ⟨rfl, hb6⟩)
          go_ret
          exact ⟨rfl, HB4.out.trans (hb6.mono HB4.out.size)⟩
    · have S1 := Lib.hid hs1
      have S2 := Lib.hid hs2
      clear hn hm hwx hwy hfx hx hy hs1 hs2
      go_enter Try.func11, Try.ntmps11
      go_wp2_with fail
      refine F1.out.mono ?_
      rintro e w1 ⟨rfl, rfl⟩
      rw [S1.out]
      go_wp2_with fail
      refine F2.out.mono ?_
      rintro e w1 ⟨rfl, rfl⟩
      rw [S2.out]
      go_wp2_with (go_at_call 32; refine (known4 _).mono ?_; rintro e w6 ⟨rfl, hb6⟩)
      go_ret
      exact ⟨rfl, hb6⟩
  · have S1 := Lib.hid hs1
    clear hn hm hwx hwy hfx hx hy hs1
    go_enter Try.func11, Try.ntmps11
    go_wp2_with fail
    refine F1.out.mono ?_
    rintro e w1 ⟨rfl, rfl⟩
    rw [S1.out]
    go_wp2_with (go_at_call 32; refine (known4 _).mono ?_; rintro e w6 ⟨rfl, hb6⟩)
    go_ret
    exact ⟨rfl, hb6⟩

set_option maxRecDepth 100000 in
theorem packOrder_lifted (os : Os) (started : os.Started) (H : Type) (enc : TypeId × Value → H) :
    ReturnsInHanded {} Try.checked os 11 .any (Rows.packOrderSpec.pre6 enc Try.prog Try.f11 Rows.packOrderRow.domain false) (Rows.packOrderSpec.post enc Try.prog Try.f11 false true false false) := by
  refine returnsInHanded_of_change (C := Try.checked) Try.own started (by kernel_rfl) Try.func11
    (ChangeSpec.witness6 (enc := enc) (C := Try.checked) false ⟨#[], #[.slice none 0 0, .slice none 0 0], []⟩ 8 (by kernel_rfl) (by kernel_rfl) (by kernel_rfl) (by kernel_rfl)) ?_
  intro W base args ds gs before hval0 hW hcnd _
  have hval : ∀ (j : Nat) t v, Try.f11.params[j]? = some t → args[j]? = some v → Value.okWide Try.prog W .any base t v := hval0
  have hW' := hW
  obtain ⟨p, q, hA0, hV, rfl, hfz, hnd⟩ := hW
  have hA : DataW.TrodAll enc Try.prog W 0 (fun _ => true) true Try.f11.params.toList args.toList ds p := hA0
  rw [Try.params11] at hA hval
  obtain ⟨v0, v1, d0, d1, p0, p1, rfl, rfl, rfl, h0, h1⟩ := trodAll_two hA
  obtain ⟨rfl, rfl⟩ := trodVars_none hV
  obtain ⟨A, n, c, xs, rfl, hn, _, _, hx, hfx, hwx⟩ := open_rowV h0 (hval 0 51 v0 rfl rfl)
  obtain ⟨B, m, c1, ys, rfl, hm, _, _, hy, _, hwy⟩ := open_rowV h1 (hval 1 51 v1 rfl rfl)
  refine (packOrder_all A B xs ys n m c c1 W hn hm hwx hwy hfx hx hy).mono fun e W' ⟨he, hb⟩ => ?_
  subst he
  exact ⟨_, rfl, law_post Try.laidOut rfl hW' (by rw [Try.params11]; intro t ht; exact readable_P4 t (by simp at ht; simp [ht])) (by kernel_rfl) Try.underlying4 rfl rfl rfl hb⟩

theorem packOrder_holds : Rows.PackOrderSaid :=
  OpenClaim.holds_of_wide 11 Try.f11 rfl rfl rfl rfl rfl rfl rfl ⟨rfl, rfl, rfl, rfl, rfl⟩ rfl rfl rfl rfl rfl (by kernel_rfl) Try.func11 (by kernel_rfl)
    (of_decide_eq_true (by kernel_rfl)) (by unfold Func.isWrapper; first | (rw [if_pos (by decide +kernel)]; kernel_rfl) | (rw [if_neg (by decide +kernel)]; exact ⟨rfl, rfl⟩))
    (fun os started H enc _ => packOrder_lifted os started H enc)
end Go.Proofs.Ytdlimephkjihbaa
