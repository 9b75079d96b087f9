/-
  balanced answers the plain tree in balance.
  No condition but that a tree has no more rows than fits.
-/
import Derived.Test.YtpliofhphijdkaaTbal
namespace Go.Proofs.Ytpliofhphijdkaa
open Go.RowKit

theorem two_draws (w : World) (o : Obj) : Below w.heap.size w (w.alloc o).drew.drew := (box_drew w o).trans (below_drew _ _)

set_option maxRecDepth 100000 in
set_option maxHeartbeats 2000000 in
theorem t_bal_low (v : Value) (r : List V) (m : Int) (pl ph : Option Addr) (lr : List V) (lm : Int) (ll lh h : Tr) (w : World) (Q : Nat → Prop) (hQ : ∀ k, w.heap.size ≤ k → Q k) (hx : IsRow w Q v r) (hl : TreeAt w Q pl (.node lr lm ll lh)) (hh : TreeAt w Q ph h) (hc : ll.cnt + 1 + lh.cnt + h.cnt ≤ 900000) (hA : 3 * (h.cnt + 1) < ll.cnt + 1 + lh.cnt + 1) :
    Calls Try.prog 75 #[.agg #[v, .int .i64 m], .pointer pl, .pointer ph] w (Trees w Q (Tr.raiseLow r m (Tr.leanLow (.node lr lm ll lh)) h)) := by
  obtain ⟨b, pll, plh, rfl, ⟨hb0, hb1, ⟨lv, hlv, c0⟩, c1, c2, c3, c4⟩, hll, hlh⟩ := id hl
  have hcn : (Tr.node lr lm ll lh).cnt = ll.cnt + 1 + lh.cnt := rfl
  have HWN : ∀ W, Below w.heap.size w W → Calls Try.prog 83 #[.pointer (some ⟨b, 0, none⟩)] W fun e w' => e = .returned (.int .i64 (((Tr.node lr lm ll lh).cnt : Int) + 1)) ∧ W = w' := fun W hb => t_weight Q _ _ W (hl.below hb) (by omega)
  have HWO : ∀ W, Below w.heap.size w W → Calls Try.prog 83 #[.pointer ph] W fun e w' => e = .returned (.int .i64 ((h.cnt : Int) + 1)) ∧ W = w' := fun W hb => t_weight Q ph h W (hh.below hb) (by omega)
  have HWn := Lib.hid HWN
  have HWo := Lib.hid HWO
  clear HWN HWO
  have hAi : 3 * ((h.cnt : Int) + 1) < ((Tr.node lr lm ll lh).cnt : Int) + 1 := by omega
  have hAj : ¬ 3 * (((Tr.node lr lm ll lh).cnt : Int) + 1) < (h.cnt : Int) + 1 := by omega
  have hAk : ((Tr.node lr lm ll lh).cnt : Int) ≤ 900000 := by omega
  have HX := Lib.hid hx
  have HQ := Lib.hid hQ
  have HV := Lib.hid hlv
  have HL := Lib.hid hll
  have HR := Lib.hid hlh
  have HH := Lib.hid hh
  have HT := Lib.hid hl
  have HXO : Hid (∀ W, Below w.heap.size w W → Calls Try.prog 83 #[.pointer pll] W fun e w' => e = .returned (.int .i64 ((ll.cnt : Int) + 1)) ∧ W = w') := Lib.hid fun W hb => t_weight Q pll ll W (HL.out.below hb) (by omega)
  have HXI : Hid (∀ W, Below w.heap.size w W → Calls Try.prog 83 #[.pointer plh] W fun e w' => e = .returned (.int .i64 ((lh.cnt : Int) + 1)) ∧ W = w') := Lib.hid fun W hb => t_weight Q plh lh W (HR.out.below hb) (by omega)
  obtain ⟨_, A, c, rfl, _, _⟩ := hx
  obtain ⟨_, A', c', rfl, _, _⟩ := hlv
  have hwr : IntKind.i64.wrap (2 * ((ll.cnt : Int) + 1)) = 2 * ((ll.cnt : Int) + 1) := IntWalk.i64_in _ (by omega)
  have HCN := Lib.hid hcn
  generalize hN : (Tr.node lr lm ll lh).cnt = N at *
  have HN := Lib.hid hN
  clear hN hcn
  by_cases hA2 : 2 * (ll.cnt + 1) ≤ lh.cnt + 1
  · cases lh with
    | nil => exact absurd hA2 (by show ¬ 2 * (ll.cnt + 1) ≤ 0 + 1; omega)
    | node a1 a2 a3 a4 =>
      have hia : (Tr.node a1 a2 a3 a4).cnt = a3.cnt + 1 + a4.cnt := rfl
      have hA3 : 2 * ((ll.cnt : Int) + 1) ≤ ((Tr.node a1 a2 a3 a4).cnt : Int) + 1 := by omega
      have hE : Tr.leanLow (.node lr lm ll (.node a1 a2 a3 a4)) = Tr.raiseHigh lr lm ll (.node a1 a2 a3 a4) := if_pos hA2
      have HE := Lib.hid hE
      have hcr : ll.cnt + (Tr.node a1 a2 a3 a4).cnt ≤ 900000 := by omega
      have hcl4 : ll.cnt + 1 + a3.cnt + 1 + a4.cnt + h.cnt ≤ 900000 := by omega
      have hc5 : (Tr.node a1 a2 (.node lr lm ll a3) a4).cnt + h.cnt ≤ 900000 := by
        have e1 : (Tr.node a1 a2 (.node lr lm ll a3) a4).cnt = (ll.cnt + 1 + a3.cnt) + 1 + a4.cnt := rfl
        omega
      clear hh hQ hll hlh hl hA hA2 hE hia hc
      go_enter Try.func75, Try.ntmps75
      go_wp2_with fail
      refine (HWn.out _ (one_new _ _)).mono ?_
      rintro e w1 ⟨rfl, rfl⟩
      go_wp2_with fail
      refine (HWo.out _ (one_new _ _)).mono ?_
      rintro e w1 ⟨rfl, rfl⟩
      go_wp2
      go_region_held3 (fun w' => w'.cell? { block := b, off := 3 } = some (.pointer pll) ∧ w'.cell? { block := b, off := 4 } = some (.pointer plh)) (go_keep)
        (first
        | (go_at_call_of 83 (Value.pointer plh); refine (HXI.out _ (box_drew _ _)).mono ?_; rintro e w1 ⟨rfl, rfl⟩)
        | (go_at_call_of 83 (Value.pointer pll); refine (HXO.out _ (box_drew _ _)).mono ?_; rintro e w1 ⟨rfl, rfl⟩))
      clear hwr
      go_wp2
      go_region_held3 (fun w' => w'.cell? { block := b, off := 0 } = some (.slice A' lr.length c') ∧ w'.cell? { block := b, off := 1 } = some (.int .i64 lm) ∧ w'.cell? { block := b, off := 3 } = some (.pointer pll) ∧ w'.cell? { block := b, off := 4 } = some (.pointer plh)) (go_keep)
        (first
        | (go_at_call 84; have hb2 := two_draws w (.cells #[.slice A r.length c, .int .i64 m] 46); refine (t_raiseHigh _ lr lm plh pll a1 a2 a3 a4 ll _ Q (by intro k hk; exact HQ.out k (by simp at hk; omega)) (by exact HV.out.below hb2) (by exact HR.out.below hb2) (by exact HL.out.below hb2) (by omega)).mono ?_; rintro e w1 ⟨q, rfl, hT1, hbw⟩; have hbb := hb2.trans (hbw.mono (by simp)); have hcb := fun i => cl_of hbb b i hb1; have hcz := fun i => cl_of hbw w.heap.size i (by simp)))
      go_wp2_with fail
      refine (t_raiseLow _ r m q ph a1 a2 (.node lr lm ll a3) a4 h _ Q (by intro k hk; exact HQ.out k (by have := hbb.size; omega)) (HX.out.below hbb) hT1 (HH.out.below hbb) hc5).mono ?_
      rintro e w2 ⟨q2, rfl, hT2, hbw2⟩
      go_wp2
      go_ret
      rw [HE.out]
      exact ⟨_, rfl, hT2, hbb.trans (hbw2.mono hbb.size)⟩
  · have hA3 : ¬ 2 * ((ll.cnt : Int) + 1) ≤ (lh.cnt : Int) + 1 := by omega
    have hE : Tr.leanLow (.node lr lm ll lh) = .node lr lm ll lh := if_neg hA2
    have HE := Lib.hid hE
    have hc5 : (Tr.node lr lm ll lh).cnt + h.cnt ≤ 900000 := by rw [HN.out]; have := HCN.out; omega
    clear hh hQ hll hlh hl hA hA2 hE hc
    go_enter Try.func75, Try.ntmps75
    go_wp2_with fail
    refine (HWn.out _ (one_new _ _)).mono ?_
    rintro e w1 ⟨rfl, rfl⟩
    go_wp2_with fail
    refine (HWo.out _ (one_new _ _)).mono ?_
    rintro e w1 ⟨rfl, rfl⟩
    go_wp2
    go_region_held3 (fun w' => w'.cell? { block := b, off := 3 } = some (.pointer pll) ∧ w'.cell? { block := b, off := 4 } = some (.pointer plh)) (go_keep)
      (first
      | (go_at_call_of 83 (Value.pointer plh); refine (HXI.out _ (box_drew _ _)).mono ?_; rintro e w1 ⟨rfl, rfl⟩)
      | (go_at_call_of 83 (Value.pointer pll); refine (HXO.out _ (box_drew _ _)).mono ?_; rintro e w1 ⟨rfl, rfl⟩))
    clear hwr
    go_wp2_with fail
    have hbb := box_drew w (.cells #[.slice A r.length c, .int .i64 m] 46)
    refine (t_raiseLow _ r m _ ph lr lm ll lh h _ Q (by intro k hk; exact HQ.out k (by have := hbb.size; omega)) (HX.out.below hbb) (HT.out.below hbb) (HH.out.below hbb) hc5).mono ?_
    rintro e w2 ⟨q2, rfl, hT2, hbw2⟩
    go_wp2
    go_ret
    rw [HE.out]
    exact ⟨_, rfl, hT2, hbb.trans (hbw2.mono hbb.size)⟩

set_option maxRecDepth 100000 in
set_option maxHeartbeats 2000000 in
theorem t_bal_high (v : Value) (r : List V) (m : Int) (pl ph : Option Addr) (lr : List V) (lm : Int) (ll lh h : Tr) (w : World) (Q : Nat → Prop) (hQ : ∀ k, w.heap.size ≤ k → Q k) (hx : IsRow w Q v r) (hl : TreeAt w Q pl (.node lr lm ll lh)) (hh : TreeAt w Q ph h) (hc : ll.cnt + 1 + lh.cnt + h.cnt ≤ 900000) (hA : 3 * (h.cnt + 1) < ll.cnt + 1 + lh.cnt + 1) :
    Calls Try.prog 75 #[.agg #[v, .int .i64 m], .pointer ph, .pointer pl] w (Trees w Q (Tr.raiseHigh r m h (Tr.leanHigh (.node lr lm ll lh)))) := by
  obtain ⟨b, pll, plh, rfl, ⟨hb0, hb1, ⟨lv, hlv, c0⟩, c1, c2, c3, c4⟩, hll, hlh⟩ := id hl
  have hcn : (Tr.node lr lm ll lh).cnt = ll.cnt + 1 + lh.cnt := rfl
  have HWN : ∀ W, Below w.heap.size w W → Calls Try.prog 83 #[.pointer (some ⟨b, 0, none⟩)] W fun e w' => e = .returned (.int .i64 (((Tr.node lr lm ll lh).cnt : Int) + 1)) ∧ W = w' := fun W hb => t_weight Q _ _ W (hl.below hb) (by omega)
  have HWO : ∀ W, Below w.heap.size w W → Calls Try.prog 83 #[.pointer ph] W fun e w' => e = .returned (.int .i64 ((h.cnt : Int) + 1)) ∧ W = w' := fun W hb => t_weight Q ph h W (hh.below hb) (by omega)
  have HWn := Lib.hid HWN
  have HWo := Lib.hid HWO
  clear HWN HWO
  have hAi : 3 * ((h.cnt : Int) + 1) < ((Tr.node lr lm ll lh).cnt : Int) + 1 := by omega
  have hAj : ¬ 3 * (((Tr.node lr lm ll lh).cnt : Int) + 1) < (h.cnt : Int) + 1 := by omega
  have hAk : ((Tr.node lr lm ll lh).cnt : Int) ≤ 900000 := by omega
  have HX := Lib.hid hx
  have HQ := Lib.hid hQ
  have HV := Lib.hid hlv
  have HL := Lib.hid hll
  have HR := Lib.hid hlh
  have HH := Lib.hid hh
  have HT := Lib.hid hl
  have HXO : Hid (∀ W, Below w.heap.size w W → Calls Try.prog 83 #[.pointer plh] W fun e w' => e = .returned (.int .i64 ((lh.cnt : Int) + 1)) ∧ W = w') := Lib.hid fun W hb => t_weight Q plh lh W (HR.out.below hb) (by omega)
  have HXI : Hid (∀ W, Below w.heap.size w W → Calls Try.prog 83 #[.pointer pll] W fun e w' => e = .returned (.int .i64 ((ll.cnt : Int) + 1)) ∧ W = w') := Lib.hid fun W hb => t_weight Q pll ll W (HL.out.below hb) (by omega)
  obtain ⟨_, A, c, rfl, _, _⟩ := hx
  obtain ⟨_, A', c', rfl, _, _⟩ := hlv
  have hwr : IntKind.i64.wrap (2 * ((lh.cnt : Int) + 1)) = 2 * ((lh.cnt : Int) + 1) := IntWalk.i64_in _ (by omega)
  have HCN := Lib.hid hcn
  generalize hN : (Tr.node lr lm ll lh).cnt = N at *
  have HN := Lib.hid hN
  clear hN hcn
  by_cases hA2 : 2 * (lh.cnt + 1) ≤ ll.cnt + 1
  · cases ll with
    | nil => exact absurd hA2 (by show ¬ 2 * (lh.cnt + 1) ≤ 0 + 1; omega)
    | node a1 a2 a3 a4 =>
      have hia : (Tr.node a1 a2 a3 a4).cnt = a3.cnt + 1 + a4.cnt := rfl
      have hA3 : 2 * ((lh.cnt : Int) + 1) ≤ ((Tr.node a1 a2 a3 a4).cnt : Int) + 1 := by omega
      have hE : Tr.leanHigh (.node lr lm (.node a1 a2 a3 a4) lh) = Tr.raiseLow lr lm (.node a1 a2 a3 a4) lh := if_pos hA2
      have HE := Lib.hid hE
      have hcr : lh.cnt + (Tr.node a1 a2 a3 a4).cnt ≤ 900000 := by omega
      have hcl4 : lh.cnt + 1 + a3.cnt + 1 + a4.cnt + h.cnt ≤ 900000 := by omega
      have hc5 : (Tr.node a1 a2 a3 (.node lr lm a4 lh)).cnt + h.cnt ≤ 900000 := by
        have e1 : (Tr.node a1 a2 a3 (.node lr lm a4 lh)).cnt = a3.cnt + 1 + (a4.cnt + 1 + lh.cnt) := rfl
        omega
      clear hh hQ hll hlh hl hA hA2 hE hia hc
      go_enter Try.func75, Try.ntmps75
      go_wp2_with fail
      refine (HWo.out _ (one_new _ _)).mono ?_
      rintro e w1 ⟨rfl, rfl⟩
      go_wp2_with fail
      refine (HWn.out _ (one_new _ _)).mono ?_
      rintro e w1 ⟨rfl, rfl⟩
      go_wp2_with fail
      refine (HWn.out _ (one_new _ _)).mono ?_
      rintro e w1 ⟨rfl, rfl⟩
      go_wp2_with fail
      refine (HWo.out _ (one_new _ _)).mono ?_
      rintro e w1 ⟨rfl, rfl⟩
      go_wp2
      go_region_held3 (fun w' => w'.cell? { block := b, off := 3 } = some (.pointer pll) ∧ w'.cell? { block := b, off := 4 } = some (.pointer plh)) (go_keep)
        (first
        | (go_at_call_of 83 (Value.pointer pll); refine (HXI.out _ (box_drew _ _)).mono ?_; rintro e w1 ⟨rfl, rfl⟩)
        | (go_at_call_of 83 (Value.pointer plh); refine (HXO.out _ (box_drew _ _)).mono ?_; rintro e w1 ⟨rfl, rfl⟩))
      clear hwr
      go_wp2
      go_region_held3 (fun w' => w'.cell? { block := b, off := 0 } = some (.slice A' lr.length c') ∧ w'.cell? { block := b, off := 1 } = some (.int .i64 lm) ∧ w'.cell? { block := b, off := 3 } = some (.pointer pll) ∧ w'.cell? { block := b, off := 4 } = some (.pointer plh)) (go_keep)
        (first
        | (go_at_call 85; have hb2 := two_draws w (.cells #[.slice A r.length c, .int .i64 m] 46); refine (t_raiseLow _ lr lm pll plh a1 a2 a3 a4 lh _ Q (by intro k hk; exact HQ.out k (by simp at hk; omega)) (by exact HV.out.below hb2) (by exact HL.out.below hb2) (by exact HR.out.below hb2) (by omega)).mono ?_; rintro e w1 ⟨q, rfl, hT1, hbw⟩; have hbb := hb2.trans (hbw.mono (by simp)); have hcb := fun i => cl_of hbb b i hb1; have hcz := fun i => cl_of hbw w.heap.size i (by simp)))
      go_wp2_with fail
      refine (t_raiseHigh _ r m q ph a1 a2 a3 (.node lr lm a4 lh) h _ Q (by intro k hk; exact HQ.out k (by have := hbb.size; omega)) (HX.out.below hbb) hT1 (HH.out.below hbb) hc5).mono ?_
      rintro e w2 ⟨q2, rfl, hT2, hbw2⟩
      go_wp2
      go_ret
      rw [HE.out]
      exact ⟨_, rfl, hT2, hbb.trans (hbw2.mono hbb.size)⟩
  · have hA3 : ¬ 2 * ((lh.cnt : Int) + 1) ≤ (ll.cnt : Int) + 1 := by omega
    have hE : Tr.leanHigh (.node lr lm ll lh) = .node lr lm ll lh := if_neg hA2
    have HE := Lib.hid hE
    have hc5 : (Tr.node lr lm ll lh).cnt + h.cnt ≤ 900000 := by rw [HN.out]; have := HCN.out; omega
    clear hh hQ hll hlh hl hA hA2 hE hc
    go_enter Try.func75, Try.ntmps75
    go_wp2_with fail
    refine (HWo.out _ (one_new _ _)).mono ?_
    rintro e w1 ⟨rfl, rfl⟩
    go_wp2_with fail
    refine (HWn.out _ (one_new _ _)).mono ?_
    rintro e w1 ⟨rfl, rfl⟩
    go_wp2_with fail
    refine (HWn.out _ (one_new _ _)).mono ?_
    rintro e w1 ⟨rfl, rfl⟩
    go_wp2_with fail
    refine (HWo.out _ (one_new _ _)).mono ?_
    rintro e w1 ⟨rfl, rfl⟩
    go_wp2
    go_region_held3 (fun w' => w'.cell? { block := b, off := 3 } = some (.pointer pll) ∧ w'.cell? { block := b, off := 4 } = some (.pointer plh)) (go_keep)
      (first
      | (go_at_call_of 83 (Value.pointer pll); refine (HXI.out _ (box_drew _ _)).mono ?_; rintro e w1 ⟨rfl, rfl⟩)
      | (go_at_call_of 83 (Value.pointer plh); refine (HXO.out _ (box_drew _ _)).mono ?_; rintro e w1 ⟨rfl, rfl⟩))
    clear hwr
    go_wp2_with fail
    have hbb := box_drew w (.cells #[.slice A r.length c, .int .i64 m] 46)
    refine (t_raiseHigh _ r m _ ph lr lm ll lh h _ Q (by intro k hk; exact HQ.out k (by have := hbb.size; omega)) (HX.out.below hbb) (HT.out.below hbb) (HH.out.below hbb) hc5).mono ?_
    rintro e w2 ⟨q2, rfl, hT2, hbw2⟩
    go_wp2
    go_ret
    rw [HE.out]
    exact ⟨_, rfl, hT2, hbb.trans (hbw2.mono hbb.size)⟩

set_option maxRecDepth 100000 in
set_option maxHeartbeats 2000000 in
theorem t_bal (v : Value) (r : List V) (m : Int) (pl ph : Option Addr) (l h : Tr) (w : World) (Q : Nat → Prop) (hQ : ∀ k, w.heap.size ≤ k → Q k) (hx : IsRow w Q v r) (hl : TreeAt w Q pl l) (hh : TreeAt w Q ph h) (hc : l.cnt + h.cnt ≤ 900000) :
    Calls Try.prog 75 #[.agg #[v, .int .i64 m], .pointer pl, .pointer ph] w (Trees w Q (Tr.bal r m l h)) := by
  unfold Tr.bal
  by_cases hA : 3 * (h.cnt + 1) < l.cnt + 1
  · rw [if_pos hA]
    cases l with
    | nil => exact absurd hA (by show ¬ 3 * (h.cnt + 1) < 0 + 1; omega)
    | node lr lm ll lh => exact t_bal_low v r m pl ph lr lm ll lh h w Q hQ hx hl hh hc hA
  · rw [if_neg hA]
    by_cases hB : 3 * (l.cnt + 1) < h.cnt + 1
    · rw [if_pos hB]
      cases h with
      | nil => exact absurd hB (by show ¬ 3 * (l.cnt + 1) < 0 + 1; omega)
      | node lr lm ll lh =>
        have e : (Tr.node lr lm ll lh).cnt = ll.cnt + 1 + lh.cnt := rfl
        exact t_bal_high v r m ph pl lr lm ll lh l w Q hQ hx hh hl (by omega) (by omega)
    · rw [if_neg hB]
      have HWL : ∀ W, Below w.heap.size w W → Calls Try.prog 83 #[.pointer pl] W fun e w' => e = .returned (.int .i64 ((l.cnt : Int) + 1)) ∧ W = w' := fun W hb => t_weight Q pl l W (hl.below hb) (by omega)
      have HWH : ∀ W, Below w.heap.size w W → Calls Try.prog 83 #[.pointer ph] W fun e w' => e = .returned (.int .i64 ((h.cnt : Int) + 1)) ∧ W = w' := fun W hb => t_weight Q ph h W (hh.below hb) (by omega)
      have HWl := Lib.hid HWL
      have HWh := Lib.hid HWH
      clear HWL HWH
      have HX := Lib.hid hx
      have HQ := Lib.hid hQ
      have HL := Lib.hid hl
      have HH := Lib.hid hh
      obtain ⟨_, A, c, rfl, _, _⟩ := hx
      have hAi : ¬ 3 * ((h.cnt : Int) + 1) < (l.cnt : Int) + 1 := by omega
      have hBi : ¬ 3 * ((l.cnt : Int) + 1) < (h.cnt : Int) + 1 := by omega
      have hbb := one_new w (.cells #[.slice A r.length c, .int .i64 m] 46)
      have HB := Lib.hid hbb
      clear hh hQ hl hA hB hbb
      go_enter Try.func75, Try.ntmps75
      go_wp2_with fail
      refine (HWl.out _ (one_new _ _)).mono ?_
      rintro e w1 ⟨rfl, rfl⟩
      go_wp2_with fail
      refine (HWh.out _ (one_new _ _)).mono ?_
      rintro e w1 ⟨rfl, rfl⟩
      go_wp2_with fail
      refine (HWh.out _ (one_new _ _)).mono ?_
      rintro e w1 ⟨rfl, rfl⟩
      go_wp2_with fail
      refine (HWl.out _ (one_new _ _)).mono ?_
      rintro e w1 ⟨rfl, rfl⟩
      go_wp2_with fail
      refine (t_fork _ r m pl ph l h _ Q (by intro k hk; exact HQ.out k (by have := HB.out.size; omega)) (HX.out.below HB.out) (HL.out.below HB.out) (HH.out.below HB.out) (by omega) (by omega)).mono ?_
      rintro e w2 ⟨q2, rfl, hT2, hbw2⟩
      go_wp2
      go_ret
      exact ⟨_, rfl, hT2, HB.out.trans (hbw2.mono HB.out.size)⟩
end Go.Proofs.Ytpliofhphijdkaa
