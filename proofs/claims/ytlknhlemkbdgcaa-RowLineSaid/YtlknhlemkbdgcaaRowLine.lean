/-
  RowLine of verdererlaw02 answers true at every three rows, and each row reads afterwards as it read before: Compare of package row stands in one order.
  No condition.
-/
import Derived.Test.YtlknhlemkbdgcaaOpen
import Derived.Test.YtlknhlemkbdgcaaOrder
import Derived.Test.YtlknhlemkbdgcaaKnown2
namespace Go.Proofs.Ytlknhlemkbdgcaa
open Go.ChangeShapes Go.WideShapes Go.ChangeAt Go.RowKit Go.Deep

theorem rowLine_far (A B C : Option Addr) (n m l c c' c'' : Nat) (w : World) (h : 200 < n ∨ 200 < m ∨ 200 < l) :
    Calls Try.prog 6 #[.slice A n c, .slice B m c', .slice C l c''] w fun e w' => e = .returned (.bool true) ∧ Below w.heap.size w w' := by
  by_cases h1 : 200 < n
  · clear h
    go_enter Try.func6, Try.ntmps6
    go_wp2_with (go_at_call 8; refine (known _).mono ?_; rintro e w' ⟨rfl, hb⟩)
    go_ret
    exact ⟨rfl, hb⟩
  · by_cases h2 : 200 < m
    · clear h
      go_enter Try.func6, Try.ntmps6
      go_wp2_with (go_at_call 8; refine (known _).mono ?_; rintro e w' ⟨rfl, hb⟩)
      go_ret
      exact ⟨rfl, hb⟩
    · have h3 : 200 < l := by omega
      clear h
      go_enter Try.func6, Try.ntmps6
      go_wp2_with (go_at_call 8; refine (known _).mono ?_; rintro e w' ⟨rfl, hb⟩)
      go_ret
      exact ⟨rfl, hb⟩

set_option maxHeartbeats 4000000 in
theorem rowLine_near (A B C : Option Addr) (xs ys zs : List V) (n m l c c' c'' : Nat) (w : World) (hn : n = xs.length) (hm : m = ys.length) (hl : l = zs.length) (n0 : n ≤ 200) (m0 : m ≤ 200) (l0 : l ≤ 200)
    (hx : RowAt w w.heap.size A xs) (hy : RowAt w w.heap.size B ys) (hz : RowAt w w.heap.size C zs) :
    Calls Try.prog 6 #[.slice A n c, .slice B m c', .slice C l c''] w fun e w' => e = .returned (.bool true) ∧ Below w.heap.size w w' := by
  have HX := Lib.hid hx
  have HY := Lib.hid hy
  have HZ := Lib.hid hz
  have HN := Lib.hid hn
  have HM := Lib.hid hm
  have HL := Lib.hid hl
  have a1 := Lib.hid (cmpR_ordered.rng xs ys)
  have a2 := Lib.hid (cmpR_ordered.rng ys zs)
  have a3 := Lib.hid (cmpR_ordered.rng xs zs)
  have a4 := Lib.hid (cmpR_ordered.anti xs ys)
  have a5 := Lib.hid (cmpR_ordered.le xs ys zs)
  have a6 := Lib.hid (cmpR_ordered.tr0 xs ys zs)
  clear hx hy hz hn hm hl
  have hnl : n ≤ maxLen := by unfold maxLen; omega
  have hml : m ≤ maxLen := by unfold maxLen; omega
  obtain ⟨x, ex⟩ : ∃ x, cmpR xs ys = x := ⟨_, rfl⟩
  obtain ⟨y, ey⟩ : ∃ y, cmpR ys zs = y := ⟨_, rfl⟩
  obtain ⟨z, ez⟩ : ∃ z, cmpR xs zs = z := ⟨_, rfl⟩
  have EX := Lib.hid ex
  have EY := Lib.hid ey
  have EZ := Lib.hid ez
  have EV : Hid (cmpR ys xs = -x) := by rw [← ex]; exact a4
  have b1 : Hid (x = -1 ∨ x = 0 ∨ x = 1) := by rw [← ex]; exact a1
  have b2 : Hid (y = -1 ∨ y = 0 ∨ y = 1) := by rw [← ey]; exact a2
  have b3 : Hid (z = -1 ∨ z = 0 ∨ z = 1) := by rw [← ez]; exact a3
  have b5 : Hid (x ≤ 0 → y ≤ 0 → z ≤ 0) := by rw [← ex, ← ey, ← ez]; exact a5
  have b6 : Hid (x = 0 → y = 0 → z = 0) := by rw [← ex, ← ey, ← ez]; exact a6
  clear ex ey ez a1 a2 a3 a4 a5 a6
  rcases b1.out with rfl | rfl | rfl <;> rcases b2.out with rfl | rfl | rfl <;> rcases b3.out with rfl | rfl | rfl
  all_goals (first | (exfalso; have c5 := b5.out; have c6 := b6.out; revert c5 c6; decide) | skip)
  all_goals clear b1 b2 b3 b5 b6
  all_goals
    go_enter Try.func6, Try.ntmps6
    go_wp2_with fail
    refine (row_cmp A B xs ys n m c c' _ HN.out HM.out hnl (by exact HX.out) (by exact HY.out)).mono ?_
    rintro e w1 ⟨rfl, hb1⟩
    rw [EX.out]
    go_wp2_with fail
    refine (row_cmp B C ys zs m l c' c'' _ HM.out HL.out hml (by exact HY.out.later hb1) (by exact HZ.out.later hb1)).mono ?_
    rintro e w2 ⟨rfl, hb2⟩
    rw [EY.out]
    have hb12 := bon hb1 (Nat.le_refl _) hb2
    go_wp2_with fail
    refine (row_cmp B A ys xs m n c' c _ HM.out HN.out hml (by exact HY.out.later hb12) (by exact HX.out.later hb12)).mono ?_
    rintro e w3 ⟨rfl, hb3⟩
    rw [EV.out]
    have hb13 := bon hb12 (Nat.le_refl _) hb3
    go_wp2_with (first
      | (go_at_call 9; refine (row_cmp A C xs zs n l c c'' _ HN.out HL.out hnl (by exact HX.out.later (by assumption)) (by exact HZ.out.later (by assumption))).mono ?_; rintro e w4 ⟨rfl, hb4⟩; rw [EZ.out]; have hb14 := bon (B := w.heap.size) (a := w) (by assumption) (Nat.le_refl _) hb4)
      | (go_at_call 8; refine (known _).mono ?_; rintro e w5 ⟨rfl, hb5⟩; have hb15 := bon (B := w.heap.size) (a := w) (by assumption) (Nat.le_refl _) hb5))
    go_ret
    exact ⟨rfl, by assumption⟩

theorem rowLine_all (A B C : Option Addr) (xs ys zs : List V) (n m l c c' c'' : Nat) (w : World) (hn : n = xs.length) (hm : m = ys.length) (hl : l = zs.length)
    (hx : RowAt w w.heap.size A xs) (hy : RowAt w w.heap.size B ys) (hz : RowAt w w.heap.size C zs) :
    Calls Try.prog 6 #[.slice A n c, .slice B m c', .slice C l c''] w fun e w' => e = .returned (.bool true) ∧ Below w.heap.size w w' := by
  by_cases h : 200 < n ∨ 200 < m ∨ 200 < l
  · exact rowLine_far A B C n m l c c' c'' w h
  · exact rowLine_near A B C xs ys zs n m l c c' c'' w hn hm hl (by omega) (by omega) (by omega) hx hy hz

set_option maxRecDepth 100000 in
theorem rowLine_lifted (os : Os) (started : os.Started) (H : Type) (enc : TypeId × Value → H) :
    ReturnsInHanded {} Try.checked os 6 .any (Rows.rowLineSpec.pre6 enc Try.prog Try.f6 Rows.rowLineRow.domain false) (Rows.rowLineSpec.post enc Try.prog Try.f6 false true false false) := by
  refine returnsInHanded_of_change (C := Try.checked) Try.own started (by kernel_rfl) Try.func6
    (ChangeSpec.witness6 (enc := enc) (C := Try.checked) false ⟨#[], #[.slice none 0 0, .slice none 0 0, .slice none 0 0], []⟩ 8 (by kernel_rfl) (by kernel_rfl) (by kernel_rfl) (by kernel_rfl)) ?_
  intro W base args ds gs before hval0 hW hcnd _
  have hval : ∀ (j : Nat) t v, Try.f6.params[j]? = some t → args[j]? = some v → Value.okWide Try.prog W .any base t v := hval0
  have hW' := hW
  obtain ⟨p, q, hA0, hV, rfl, hfz, hnd⟩ := hW
  have hA : DataW.TrodAll enc Try.prog W 0 (fun _ => true) true Try.f6.params.toList args.toList ds p := hA0
  rw [Try.params6] at hA hval
  obtain ⟨v0, v1, v2, d0, d1, d2, p0, p1, p2, rfl, rfl, rfl, h0, h1, h2⟩ := trodAll_three hA
  obtain ⟨rfl, rfl⟩ := trodVars_none hV
  obtain ⟨A, n, c, xs, rfl, hn, _, _, hx, _⟩ := open_rowV h0 (hval 0 22 v0 rfl rfl)
  obtain ⟨B, m, c', ys, rfl, hm, _, _, hy, _⟩ := open_rowV h1 (hval 1 22 v1 rfl rfl)
  obtain ⟨C, l, c'', zs, rfl, hl, _, _, hz, _⟩ := open_rowV h2 (hval 2 22 v2 rfl rfl)
  refine (rowLine_all A B C xs ys zs n m l c c' c'' W hn hm hl hx hy hz).mono fun e W' ⟨he, hb⟩ => ?_
  subst he
  exact ⟨_, rfl, law_post Try.laidOut rfl hW' (by rw [Try.params6]; intro t ht; exact readable_V t (by simpa using ht)) (by kernel_rfl) Try.underlying4 rfl rfl rfl hb⟩

theorem rowLine_holds : Rows.RowLineSaid :=
  OpenClaim.holds_of_wide 6 Try.f6 rfl rfl rfl rfl rfl rfl rfl ⟨rfl, rfl, rfl, rfl, rfl⟩ rfl rfl rfl rfl rfl (by kernel_rfl) Try.func6 (by kernel_rfl)
    (of_decide_eq_true (by kernel_rfl)) (by unfold Func.isWrapper; first | (rw [if_pos (by decide +kernel)]; kernel_rfl) | (rw [if_neg (by decide +kernel)]; exact ⟨rfl, rfl⟩))
    (fun os started H enc _ => rowLine_lifted os started H enc)
end Go.Proofs.Ytlknhlemkbdgcaa
