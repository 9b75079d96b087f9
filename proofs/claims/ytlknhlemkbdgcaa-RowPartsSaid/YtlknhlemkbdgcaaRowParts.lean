/-
  RowParts of verdererlaw02 answers true at every two rows, every list of places and every list of pairs of places, and each argument reads afterwards as it read before: Pick, Join and Pairs of package row answer as the document says.
  No condition.
-/
import Derived.Test.YtlknhlemkbdgcaaOpen2
import Derived.Test.YtlknhlemkbdgcaaKnown2
import Derived.Test.YtlknhlemkbdgcaaRpairs
namespace Go.Proofs.Ytlknhlemkbdgcaa
open Go.ChangeShapes Go.WideShapes Go.ChangeAt Go.RowKit Go.Deep

theorem rowParts_far (A B C L : Option Addr) (n m l k c c' c'' c3 : Nat) (w : World) (h : 100 < n ∨ 100 < m ∨ 100 < l ∨ 100 < k) :
    Calls Try.prog 4 #[.slice A n c, .slice B m c', .slice C l c'', .slice L k c3] w fun e w' => e = .returned (.bool true) ∧ Below w.heap.size w w' := by
  by_cases h1 : 100 < n
  · clear h
    go_enter Try.func4, Try.ntmps4
    go_wp2_with (go_at_call 8; refine (known _).mono ?_; rintro e w' ⟨rfl, hb⟩)
    go_ret
    exact ⟨rfl, hb⟩
  · by_cases h2 : 100 < m
    · clear h
      go_enter Try.func4, Try.ntmps4
      go_wp2_with (go_at_call 8; refine (known _).mono ?_; rintro e w' ⟨rfl, hb⟩)
      go_ret
      exact ⟨rfl, hb⟩
    · by_cases h3 : 100 < l
      · clear h
        go_enter Try.func4, Try.ntmps4
        go_wp2_with (go_at_call 8; refine (known _).mono ?_; rintro e w' ⟨rfl, hb⟩)
        go_ret
        exact ⟨rfl, hb⟩
      · have h4 : 100 < k := by omega
        clear h
        go_enter Try.func4, Try.ntmps4
        go_wp2_with (go_at_call 8; refine (known _).mono ?_; rintro e w' ⟨rfl, hb⟩)
        go_ret
        exact ⟨rfl, hb⟩

/-- Join of two rows that lie in a block of the call's own. -/
theorem join_rows (W : World) (A B : Option Addr) (xs ys : List V) (n m c c' G : Nat) (hn : n = xs.length) (hm : m = ys.length) (hA : A = none → c = 0) (hB : B = none → c' = 0) (n0 : n ≤ 100) (m0 : m ≤ 100)
    (hx : RowAt W W.heap.size A xs) (hy : RowAt W W.heap.size B ys) (hG : G = W.heap.size) :
    Calls Try.prog 19 #[.slice (some ⟨G, 0, none⟩) 2 2] (W.alloc (.cells #[.slice A n c, .slice B m c'] 22)) (OwnsNew (W.alloc (.cells #[.slice A n c, .slice B m c'] 22)) (xs ++ ys)) := by
  subst hn hm
  have h3 := rows_lit2 W ⟨A, c, xs⟩ ⟨B, c', ys⟩ G hG hx hy hA hB
  have h := row_join _ [⟨A, c, xs⟩, ⟨B, c', ys⟩] 2 2 _ rfl (by decide) (by simp [sumL]; omega) h3
  simpa [catL] using h

set_option maxHeartbeats 2000000 in
theorem rowParts_near (A B C L : Option Addr) (xs ys : List V) (zs : List Int) (ps : List (Int × Int)) (n m l k c c' c'' c3 : Nat) (w : World) (hn : n = xs.length) (hm : m = ys.length) (hl : l = zs.length) (hk : k = ps.length)
    (n0 : n ≤ 100) (m0 : m ≤ 100) (l0 : l ≤ 100) (k0 : k ≤ 100) (hA : A = none → c = 0) (hB : B = none → c' = 0) (hfit : Fit xs)
    (hx : RowAt w w.heap.size A xs) (hy : RowAt w w.heap.size B ys) (hz : IntsAt w w.heap.size C zs) (hp : PairsAt w w.heap.size L ps) :
    Calls Try.prog 4 #[.slice A n c, .slice B m c', .slice C l c'', .slice L k c3] w fun e w' => e = .returned (.bool true) ∧ Below w.heap.size w w' := by
  have HX := Lib.hid hx
  have HY := Lib.hid hy
  have HZ := Lib.hid hz
  have HP := Lib.hid hp
  have HN := Lib.hid hn
  have HM := Lib.hid hm
  have HL := Lib.hid hl
  have HK := Lib.hid hk
  have HA := Lib.hid hA
  have HB := Lib.hid hB
  have HF := Lib.hid hfit
  clear hx hy hz hp hn hm hl hk hA hB hfit
  have hkl : k ≤ maxLen := by unfold maxLen; omega
  obtain ⟨r, hr⟩ : ∃ r, r = pickR xs zs := ⟨_, rfl⟩
  obtain ⟨q, hq⟩ : ∃ q, q = r.1.length := ⟨_, rfl⟩
  have HR := Lib.hid hr
  have HQ := Lib.hid hq
  have hql : q ≤ 100 := by
    rw [hq, hr]
    unfold pickR
    split
    · simp only [List.length_map]
      rw [← HL.out]
      exact l0
    · simp
  clear hr hq
  have hqm : q ≤ maxLen := by unfold maxLen; omega
  go_enter Try.func4, Try.ntmps4
  go_wp2_with fail
  refine (row_pick A C xs zs n l c c'' _ HN.out HL.out (by omega) (by exact HX.out) (by exact HZ.out)).mono ?_
  rintro e w1 ⟨v1, he1, ho1, hb1⟩
  rw [← HR.out] at he1 ho1
  subst he1
  obtain ⟨A1, c1, rfl, _, hr1⟩ := ho1.rowN q HQ.out
  have HR1 := Lib.hid hr1
  clear hr1 ho1
  go_wp2_with fail
  refine (ref_pick A C xs zs n l c c'' _ HN.out HL.out (by omega) (by exact HX.out.later hb1) (by exact (HZ.out.below hb1).more hb1.size)).mono ?_
  rintro e w2 ⟨v2, he2, ho2, hb2⟩
  rw [← HR.out] at he2 ho2
  subst he2
  obtain ⟨A2, c2, rfl, _, hr2⟩ := ho2.rowN q HQ.out
  have HR2 := Lib.hid hr2
  have HR1' := Lib.hid (HR1.out.later hb2)
  have hb12 := bon hb1 (Nat.le_refl _) hb2
  clear hr2 ho2 hb1 hb2 HR1
  go_wp2_with fail
  refine (ref_equal A1 A2 r.1 r.1 q q c1 c2 _ HQ.out HQ.out hqm HR1'.out HR2.out).mono ?_
  rintro e w3 ⟨rfl, nd, rfl⟩
  rw [eqR_self]
  have hb13 := below_drewN' hb12 nd
  clear hb12
  go_wp2_with fail
  refine (join_rows _ A B xs ys n m c c' _ HN.out HM.out HA.out HB.out n0 m0 (by exact HX.out.later hb13) (by exact HY.out.later hb13) (by simp)).mono ?_
  rintro e w4 ⟨v4, rfl, ho4, hb4⟩
  obtain ⟨A4, c4, rfl, _, hr4⟩ := ho4.rowN (n + m) (by rw [List.length_append, ← HN.out, ← HM.out])
  have hb14 := bon (bnew hb13 (Nat.le_refl _) _) (Nat.le_refl _) hb4
  have HR4 := Lib.hid hr4
  clear hr4 ho4 hb4 hb13
  go_wp2_with fail
  refine (ref_join A B xs ys n m c c' _ HN.out HM.out (by omega) (by omega) (by exact HX.out.later hb14) (by exact HY.out.later hb14)).mono ?_
  rintro e w5 ⟨v5, rfl, ho5, hb5⟩
  obtain ⟨A5, c5, rfl, _, hr5⟩ := ho5.rowN (n + m) (by rw [List.length_append, ← HN.out, ← HM.out])
  have hb15 := bon hb14 (Nat.le_refl _) hb5
  have HR4' := Lib.hid (HR4.out.later hb5)
  have HR5 := Lib.hid hr5
  clear hr5 ho5 hb5 hb14 HR4
  go_wp2_with fail
  refine (ref_equal A4 A5 (xs ++ ys) (xs ++ ys) (n + m) (n + m) c4 c5 _ (by rw [List.length_append, ← HN.out, ← HM.out]) (by rw [List.length_append, ← HN.out, ← HM.out]) (by unfold maxLen; omega) HR4'.out HR5.out).mono ?_
  rintro e w6 ⟨rfl, nd6, rfl⟩
  rw [eqR_self]
  have hb16 := below_drewN' hb15 nd6
  clear hb15
  go_wp2_with fail
  refine (row_pairs A B L xs ys ps n m k c c' c3 _ HN.out HM.out HK.out hkl (by exact HX.out.later hb16) (by exact HY.out.later hb16) (by exact (HP.out.below hb16).more hb16.size)).mono ?_
  rintro e w7 ⟨rfl, hb7⟩
  have hb17 := bon hb16 (Nat.le_refl _) hb7
  clear hb16 hb7
  go_wp2_with fail
  refine (ref_pairs A B L xs ys ps n m k c c' c3 _ HN.out HM.out HK.out hkl HF.out (by exact HX.out.later hb17) (by exact HY.out.later hb17) (by exact (HP.out.below hb17).more hb17.size)).mono ?_
  rintro e w8 ⟨rfl, hb8⟩
  have hb18 := bon hb17 (Nat.le_refl _) hb8
  clear hb17 hb8
  go_wp2_with (go_at_call 8; refine (known _).mono ?_; rintro e w9 ⟨rfl, hb9⟩)
  go_ret
  exact ⟨rfl, bon hb18 (Nat.le_refl _) hb9⟩

theorem rowParts_all (A B C L : Option Addr) (xs ys : List V) (zs : List Int) (ps : List (Int × Int)) (n m l k c c' c'' c3 : Nat) (w : World) (hn : n = xs.length) (hm : m = ys.length) (hl : l = zs.length) (hk : k = ps.length)
    (hA : A = none → c = 0) (hB : B = none → c' = 0) (hfit : Fit xs)
    (hx : RowAt w w.heap.size A xs) (hy : RowAt w w.heap.size B ys) (hz : IntsAt w w.heap.size C zs) (hp : PairsAt w w.heap.size L ps) :
    Calls Try.prog 4 #[.slice A n c, .slice B m c', .slice C l c'', .slice L k c3] w fun e w' => e = .returned (.bool true) ∧ Below w.heap.size w w' := by
  by_cases h : 100 < n ∨ 100 < m ∨ 100 < l ∨ 100 < k
  · exact rowParts_far A B C L n m l k c c' c'' c3 w h
  · exact rowParts_near A B C L xs ys zs ps n m l k c c' c'' c3 w hn hm hl hk (by omega) (by omega) (by omega) (by omega) hA hB hfit hx hy hz hp

set_option maxRecDepth 100000 in
theorem rowParts_lifted (os : Os) (started : os.Started) (H : Type) (enc : TypeId × Value → H) :
    ReturnsInHanded {} Try.checked os 4 .any (Rows.rowPartsSpec.pre6 enc Try.prog Try.f4 Rows.rowPartsRow.domain false) (Rows.rowPartsSpec.post enc Try.prog Try.f4 false true false false) := by
  refine returnsInHanded_of_change (C := Try.checked) Try.own started (by kernel_rfl) Try.func4
    (ChangeSpec.witness6 (enc := enc) (C := Try.checked) false ⟨#[], #[.slice none 0 0, .slice none 0 0, .slice none 0 0, .slice none 0 0], []⟩ 8 (by kernel_rfl) (by kernel_rfl) (by kernel_rfl) (by kernel_rfl)) ?_
  intro W base args ds gs before hval0 hW hcnd _
  have hval : ∀ (j : Nat) t v, Try.f4.params[j]? = some t → args[j]? = some v → Value.okWide Try.prog W .any base t v := hval0
  have hW' := hW
  obtain ⟨p, q, hA0, hV, rfl, hfz, hnd⟩ := hW
  have hA : DataW.TrodAll enc Try.prog W 0 (fun _ => true) true Try.f4.params.toList args.toList ds p := hA0
  rw [Try.params4] at hA hval
  obtain ⟨v0, v1, v2, v3, d0, d1, d2, d3, p0, p1, p2, p3, rfl, rfl, rfl, h0, h1, h2, h3⟩ := trodAll_four hA
  obtain ⟨rfl, rfl⟩ := trodVars_none hV
  obtain ⟨A, n, c, xs, rfl, hn, _, hAc, hx, hf⟩ := open_rowV h0 (hval 0 22 v0 rfl rfl)
  obtain ⟨B, m, c', ys, rfl, hm, _, hBc, hy, _⟩ := open_rowV h1 (hval 1 22 v1 rfl rfl)
  obtain ⟨C, l, c'', zs, rfl, hl, _, hz⟩ := open_intsI h2 (hval 2 28 v2 rfl rfl)
  obtain ⟨L, k, c3, ps, rfl, hk, _, hp⟩ := open_pairsP h3 (hval 3 29 v3 rfl rfl)
  refine (rowParts_all A B C L xs ys zs ps n m l k c c' c'' c3 W hn hm hl hk hAc hBc hf hx hy hz hp).mono fun e W' ⟨he, hb⟩ => ?_
  subst he
  exact ⟨_, rfl, law_post Try.laidOut rfl hW' (by rw [Try.params4]; intro t ht; exact readable_P t (by simpa using ht)) (by kernel_rfl) Try.underlying4 rfl rfl rfl hb⟩

theorem rowParts_holds : Rows.RowPartsSaid :=
  OpenClaim.holds_of_wide 4 Try.f4 rfl rfl rfl rfl rfl rfl rfl ⟨rfl, rfl, rfl, rfl, rfl⟩ rfl rfl rfl rfl rfl (by kernel_rfl) Try.func4 (by kernel_rfl)
    (of_decide_eq_true (by kernel_rfl)) (by unfold Func.isWrapper; first | (rw [if_pos (by decide +kernel)]; kernel_rfl) | (rw [if_neg (by decide +kernel)]; exact ⟨rfl, rfl⟩))
    (fun os started H enc _ => rowParts_lifted os started H enc)
end Go.Proofs.Ytlknhlemkbdgcaa
