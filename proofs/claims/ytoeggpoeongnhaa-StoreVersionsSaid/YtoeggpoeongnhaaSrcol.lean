/-
  columns and Check of the document's schema: why columns, and kinds, can not be; nothing that was there is changed.
  No condition but that a list has no more than a million.
-/
import Derived.Test.YtoeggpoeongnhaaRnam
import Derived.Test.YtoeggpoeongnhaaSfault
import Derived.BigQuiet
namespace Go.Proofs.Ytoeggpoeongnhaa
open Go.RowKit

theorem any_take {α : Type} (l : List α) (p : α → Bool) (m : Nat) (d : α) (h : l[m]? = some d) : (l.take (m + 1)).any p = ((l.take m).any p || p d) := by
  rw [List.take_add_one, List.any_append, h]
  simp
theorem any_take_hit {α : Type} (l : List α) (p : α → Bool) (m k : Nat) (d : α) (h : l[m]? = some d) (hmk : m < k) (hp : p d = true) : (l.take k).any p = true := by
  refine List.any_eq_true.2 ⟨d, List.mem_iff_getElem?.2 ⟨m, ?_⟩, hp⟩
  rw [List.getElem?_take, if_pos hmk]
  exact h
theorem below_dN {w w' : World} (h : Below w.heap.size w w') (n : Nat) : Below w.heap.size w (w'.drewN n) := below_drewN' h n
/-- Why columns can not be. -/
def colsR (cs : List Co) : Int := if 6 < cs.length then 9 else colsF cs cs.length 0

set_option maxRecDepth 100000 in
set_option maxHeartbeats 4000000 in
theorem ref_columns (Q : Nat → Prop) (A : Option Addr) (cs : List Co) (n c : Nat) (w : World) (hn : n = cs.length) (hl : n ≤ 1000000) (hx : CellsQ w Q A (flatC cs)) :
    Calls Try.prog 102 #[.slice A n c] w fun e w' => e = .returned (.int .i64 (colsR cs)) ∧ Below w.heap.size w w' := by
  have HX := Lib.hid hx
  have HN := Lib.hid hn
  clear hx hn
  by_cases h6 : 6 < n
  · have e : colsR cs = 9 := by unfold colsR; rw [if_pos (by rw [← HN.out]; exact h6)]
    rw [e]
    clear e
    go_enter Try.func102, Try.ntmps102
    go_wp2
    go_ret
    exact ⟨rfl, Below.refl _ _⟩
  obtain ⟨R, hR⟩ : ∃ R, colsR cs = R := ⟨_, rfl⟩
  have hR2 : colsF cs n 0 = R := by rw [← hR]; unfold colsR; rw [if_neg (by rw [← HN.out]; exact h6), HN.out]
  rw [hR]
  have HRR := Lib.hid hR2
  clear hR hR2
  have h7 : n ≤ 6 := by omega
  clear h6
  go_enter Try.func102, Try.ntmps102
  go_wp2
  go_loopw [3] (fun i wr => ∃ k : Nat, k ≤ n ∧ i = .int .i64 k ∧ colsF cs (n - k) k = R ∧ Below w.heap.size w wr) (fun i _ => n - (intOf i).toNat)
  case atStart => exact ⟨0, Nat.zero_le _, rfl, HRR.out, Below.refl _ _⟩
  case round =>
    obtain ⟨wo, hwo⟩ : ∃ wo, wo = wr := ⟨_, rfl⟩
    subst hwo
    obtain ⟨k, hk, rfl, hq, hb⟩ := hrel
    have HQ := Lib.hid hq
    have HB := Lib.hid hb
    clear hq hb
    by_cases h1 : k < n
    · obtain ⟨d, hd⟩ : ∃ d, cs[k]? = some d := ⟨_, List.getElem?_eq_getElem (by rw [← HN.out]; exact h1)⟩
      obtain ⟨a, rfl, ha, d0, d1, _⟩ := (HX.out.below HB.out).col k d hd
      have hst := colsF_step cs (n - (k + 1)) k d hd
      rw [show n - (k + 1) + 1 = n - k from by omega, HQ.out] at hst
      have HST := Lib.hid hst
      have HD := Lib.hid hd
      have D0 := Lib.hid d0
      obtain ⟨nm9, k9, nl9⟩ := d
      clear hd hst
      rcases Bool.eq_false_or_eq_true (nameR nm9.data.toList) with hn1 | hn1
      · have HNM := Lib.hid hn1
        by_cases h2 : k9 < 1 ∨ 3 < k9
        · have hz : R = 11 := by
            have hc : colF (cs.take k) ⟨nm9, k9, nl9⟩ = 11 := by unfold colF; simp only; rw [if_neg (by rw [HNM.out]; simp), if_pos h2]
            rw [HST.out, hc]
            rfl
          subst hz
          clear hn1
          rcases h2 with h3 | h3
          · have g3 : decide (k9 < 1) = true := by simpa using h3
            go_wp2_with fail
            refine (ref_name _ _).mono ?_
            rintro e w1 ⟨rfl, rfl⟩
            rw [HNM.out]
            go_wp2
            go_ret
            exact ⟨rfl, HB.out⟩
          · have g3 : decide (k9 < 1) = false := by simp; omega
            have g4 : decide (3 < k9) = true := by simpa using h3
            go_wp2_with fail
            refine (ref_name _ _).mono ?_
            rintro e w1 ⟨rfl, rfl⟩
            rw [HNM.out]
            go_wp2
            go_ret
            exact ⟨rfl, HB.out⟩
        · have g3 : decide (k9 < 1) = false := by simp; omega
          have g4 : decide (3 < k9) = false := by simp; omega
          have g5 : ¬ k9 < 1 := by omega
          have g6 : ¬ 3 < k9 := by omega
          have hcc : colF (cs.take k) ⟨nm9, k9, nl9⟩ = if (cs.take k).any (fun d => sameNm d.nm nm9) = true then 4 else 0 := by unfold colF; simp only; rw [if_neg (by rw [HNM.out]; simp), if_neg h2]
          have HCC := Lib.hid hcc
          clear hn1 h2 hcc
          go_wp2_with fail
          refine (ref_name _ _).mono ?_
          rintro e w1 ⟨rfl, rfl⟩
          rw [HNM.out]
          go_wp2
          go_loopw [4] (fun i wq => ∃ m : Nat, m ≤ k ∧ i = .int .i64 m ∧ (cs.take m).any (fun d => sameNm d.nm nm9) = false ∧ Below w.heap.size w wq) (fun i _ => k - (intOf i).toNat)
          case atStart => exact ⟨0, Nat.zero_le _, rfl, by simp, HB.out⟩
          case round =>
            obtain ⟨m, hm, rfl, hq2, hb2⟩ := hrel
            have HQ2 := Lib.hid hq2
            have HB2 := Lib.hid hb2
            clear hq2 hb2
            by_cases h8 : m < k
            · obtain ⟨d2, hd2⟩ : ∃ d2, cs[m]? = some d2 := ⟨_, List.getElem?_eq_getElem (by rw [← HN.out]; omega)⟩
              obtain ⟨a2, ha2, hb2, e0, _, _⟩ := (HX.out.below HB2.out).col m d2 hd2
              injection ha2 with ha2
              subst ha2
              obtain ⟨a3, ha3, hb3, f0, _, _⟩ := (HX.out.below HB2.out).col k _ HD.out
              injection ha3 with ha3
              subst ha3
              have HD2 := Lib.hid hd2
              have hkn : m < n := by omega
              obtain ⟨nm8, k8, nl8⟩ := d2
              clear hd2
              rcases Bool.eq_false_or_eq_true (sameNm nm8 nm9) with hz | hz
              · have bz : (nm8.toList == nm9.toList) = true := hz
                have hR4 : R = 4 := by
                  rw [HST.out, HCC.out, any_take_hit cs _ m k _ HD2.out h8 hz]
                  rfl
                subst hR4
                clear hz
                go_wp2
                go_quiet (fail)
                go_wp2
                go_ret
                exact ⟨rfl, below_dN HB2.out _⟩
              · have bz : (nm8.toList == nm9.toList) = false := hz
                have HZ := Lib.hid hz
                clear hz
                go_wp2
                go_quiet (fail)
                go_wp2
                go_roundw
                case rel => exact ⟨m + 1, by omega, by go_num, by rw [any_take _ _ _ _ HD2.out, HQ2.out, HZ.out]; rfl, below_dN HB2.out _⟩
                case measure => simp [intOf]; omega
            · obtain rfl : m = k := by omega
              have hR5 : colsF cs (n - (m + 1)) (m + 1) = R := by rw [HST.out, HCC.out, HQ2.out]; rfl
              have HR5 := Lib.hid hR5
              clear hR5
              go_wp2
              go_roundw
              case rel => exact ⟨m + 1, by omega, by go_num, HR5.out, HB2.out⟩
              case measure => simp [intOf]; omega
      · have HNM := Lib.hid hn1
        have hz : R = 3 := by
          have hc : colF (cs.take k) ⟨nm9, k9, nl9⟩ = 3 := by unfold colF; simp only; rw [if_pos HNM.out]
          rw [HST.out, hc]
          rfl
        subst hz
        clear hn1
        go_wp2_with fail
        refine (ref_name _ _).mono ?_
        rintro e w1 ⟨rfl, rfl⟩
        rw [HNM.out]
        go_wp2
        go_ret
        exact ⟨rfl, HB.out⟩
    · have hz : R = 0 := by rw [← HQ.out, colsF_end _ _ _ (by rw [← HN.out]; omega)]
      subst hz
      go_wp2
      go_ret
      exact ⟨rfl, HB.out⟩
end Go.Proofs.Ytoeggpoeongnhaa
