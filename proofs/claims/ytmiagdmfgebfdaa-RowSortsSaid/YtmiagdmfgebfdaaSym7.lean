/-
  few, Alike, RowSorts of verdererlaw02: true at every list of rows, in every world; nothing that was there is changed.
  No condition but that no text is longer than a text can be.
-/
import Derived.Test.YtmiagdmfgebfdaaSym6
import Derived.Test.YtmiagdmfgebfdaaKnown2
namespace Go.Proofs.Ytmiagdmfgebfdaa
open Go.RowKit

def fewB (rs : List Rw) : Bool := decide (rs.length ≤ 100) && rs.all (fun r => decide (r.xs.length ≤ 60))
theorem few_no {rs : List Rw} {k : Nat} {r : Rw} (h : rs[k]? = some r) (hr : 60 < r.xs.length) : fewB rs = false := by
  have : rs.all (fun r => decide (r.xs.length ≤ 60)) = false := by
    rw [List.all_eq_false]
    exact ⟨r, List.mem_of_getElem? h, by simp; omega⟩
  unfold fewB
  rw [this, Bool.and_false]

set_option maxRecDepth 100000 in
set_option maxHeartbeats 1000000 in
theorem l_few (rs : List Rw) (L : Option Addr) (n c : Nat) (w : World) (hn : n = rs.length) (hm : n ≤ maxLen) (hlen : ∀ r ∈ rs, r.xs.length ≤ maxLen) (hrs : RowsAt w w.heap.size L rs) :
    Calls Try.prog 6 #[.slice L n c] w fun e w' => e = .returned (.bool (fewB rs)) ∧ Below w.heap.size w w' := by
  have HRS := Lib.hid hrs
  have HN := Lib.hid hn
  have HLN := Lib.hid hlen
  unfold maxLen at hm
  clear hrs hn hlen
  go_enter Try.func6, Try.ntmps6
  by_cases h1 : 100 < n
  · have HR : Hid (fewB rs = false) := Lib.hid (by
      unfold fewB
      rw [decide_eq_false (by have := HN.out; omega), Bool.false_and])
    go_wp2
    go_ret
    exact ⟨by rw [HR.out]; rfl, Below.refl _ _⟩
  · go_wp2
    go_loopw [3] (fun i wr => ∃ (k : Nat), k ≤ n ∧ i = .int .i64 k ∧ Hid (∀ j r, j < k → rs[j]? = some r → r.xs.length ≤ 60) ∧ Below w.heap.size w wr) (fun i _ => n - (intOf i).toNat)
    case atStart => exact ⟨0, Nat.zero_le _, rfl, Lib.hid (fun j r h => by omega), Below.refl _ _⟩
    case round =>
      obtain ⟨k, hk, rfl, HK, hb⟩ := hrel
      have HB := Lib.hid hb
      by_cases hlt : k < n
      · obtain ⟨r, hr⟩ : ∃ r, rs[k]? = some r := ⟨_, List.getElem?_eq_getElem (by rw [← HN.out]; exact hlt)⟩
        obtain ⟨a, ha, hab, hac, -, -⟩ := HRS.out k r hr
        have hc := (hb.cell (p := a.add k) hab).trans hac
        have hrl := HLN.out r (List.mem_of_getElem? hr)
        unfold maxLen at hrl
        obtain ⟨A, cx, m, hm2, hc2⟩ : ∃ A cx m, m = r.xs.length ∧ wr.cell? (a.add k) = some (.slice A m cx) := ⟨_, _, _, rfl, hc⟩
        subst ha
        have HR := Lib.hid hr
        have HM := Lib.hid hm2
        rw [← hm2] at hrl
        clear hr hab hac hc hm2 hb
        by_cases hm60 : 60 < m
        · have HF := Lib.hid (few_no HR.out (by rw [← HM.out]; exact hm60))
          go_wp2
          go_ret
          exact ⟨by rw [HF.out]; rfl, HB.out⟩
        · go_wp2
          go_roundw
          case rel =>
            refine ⟨k + 1, by omega, by go_num, Lib.hid fun j s hj hs => ?_, HB.out⟩
            by_cases e : j = k
            · subst e
              have h := HR.out
              rw [hs] at h
              injection h with h
              rw [h, ← HM.out]
              omega
            · exact HK.out j s (by omega) hs
          case measure => simp [intOf]; omega
      · obtain rfl : k = n := by omega
        have HF : Hid (fewB rs = true) := Lib.hid (by
          unfold fewB
          rw [decide_eq_true (by have := HN.out; omega), Bool.true_and, List.all_eq_true]
          intro r hr
          obtain ⟨j, hj⟩ := List.getElem?_of_mem hr
          have := HK.out j r (by have := (List.getElem?_eq_some_iff.1 hj).1; have := HN.out; omega) hj
          exact decide_eq_true this)
        clear hb
        go_wp2
        go_ret
        exact ⟨by rw [HF.out]; rfl, HB.out⟩

set_option maxRecDepth 100000 in
set_option maxHeartbeats 2000000 in
theorem l_alike02 (Q R : Nat → Prop) (A B : Option Addr) (n c d : Nat) (us vs : List Value) (xs : List (List V)) (w : World) (hn : us.length = n) (hm : n ≤ 1000) (hu : CellsQ w (fun k => k < w.heap.size) A us) (hv : CellsQ w (fun k => k < w.heap.size) B vs) (hux : RwsQ w Q us xs) (hvx : RwsQ w R vs xs) :
    Calls Try.prog 8 #[.slice A n c, .slice B n d] w fun e w' => e = .returned (.bool true) ∧ Below w.heap.size w w' := by
  have HU := Lib.hid hu
  have HV := Lib.hid hv
  have HX := Lib.hid hux
  have HY := Lib.hid hvx
  have HN := Lib.hid (show n = xs.length by rw [← hn]; exact hux.len)
  clear hu hv hux hvx hn
  go_enter Try.func8, Try.ntmps8
  go_wp2
  go_loopw [5] (fun i wr => ∃ (k : Nat), k ≤ n ∧ i = .int .i64 k ∧ Below w.heap.size w wr) (fun i _ => n - (intOf i).toNat)
  case atStart => exact ⟨0, Nat.zero_le _, rfl, Below.refl _ _⟩
  case round =>
    obtain ⟨k, hk, rfl, hb⟩ := hrel
    have HB := Lib.hid hb
    have hsz := hb.size
    by_cases hlt : k < n
    · obtain ⟨x, hx⟩ : ∃ x, xs[k]? = some x := ⟨_, List.getElem?_eq_getElem (by rw [← HN.out]; exact hlt)⟩
      obtain ⟨uv, huv, hur⟩ := HX.out.get k x hx
      obtain ⟨vv, hvv, hvr⟩ := HY.out.get k x hx
      obtain ⟨a, rfl, hab, hac⟩ := HU.out k uv huv
      obtain ⟨b, rfl, hbb, hbc⟩ := HV.out k vv hvv
      obtain ⟨hl, A9, c9, rfl, hq9⟩ := id hur
      obtain ⟨_, B9, d9, rfl, hr9⟩ := id hvr
      have e1 := (hb.cell (p := a.add k) hab).trans hac
      have e2 := (hb.cell (p := b.add k) hbb).trans hbc
      have E1 := Lib.hid e1
      have E2 := Lib.hid e2
      have HA9 := Lib.hid (hq9.at.later hb)
      have HB9 := Lib.hid (hr9.at.later hb)
      have hab2 : (a.add k).block < wr.heap.size := Nat.lt_of_lt_of_le hab hsz
      have hbb2 : (b.add k).block < wr.heap.size := Nat.lt_of_lt_of_le hbb hsz
      obtain ⟨m, hmx⟩ : ∃ m, x.length = m := ⟨_, rfl⟩
      have HEQ := Lib.hid (fun (W : World) (hb : Below wr.heap.size wr W) => ref_equal A9 B9 x x m m c9 d9 W hmx.symm hmx.symm (by unfold maxLen; omega) (HA9.out.later hb) (HB9.out.later hb))
      rw [eqR_self] at HEQ
      rw [hmx] at E1 E2
      obtain ⟨XE, xf, hXN, hX1, hX0, hX2⟩ := ext_classS wr.heap.size wr (Nat.le_refl _)
      have HX1 := Lib.hid hX1
      have HX2 := Lib.hid hX2
      have hin := hX0 wr.drew (Below.drew (Below.refl _ _))
      have b1 := fun e => (((HX1.out e).cell (p := a.add k) hab2).trans E1.out : (xf e).cell? (a.add k) = _)
      have b2 := fun e => (((HX1.out e).cell (p := b.add k) hbb2).trans E2.out : (xf e).cell? (b.add k) = _)
      clear hX1 hX0 hX2 hx huv hur hvv hvr hac hbc hq9 hr9 e1 e2 hb hmx
      go_wp2_with fail
      refine wp_region_quiet (C := fun W => ∃ e, W = xf e) (by kernel_rfl) (by kernel_rfl) hin ?_
      clear hin
      dsimp only
      repeat (go_big_quiet_step ((go_at_call 28; refine (HEQ.out _ (HX1.out _)).mono ?_; rintro e w5 ⟨rfl, nd, rfl⟩; exact ⟨rfl, HX2.out _ _ (below_drewN' (Below.refl _ _) _)⟩)))
      refine wpQuiet_nil ?_
      intro w5 hW5
      obtain ⟨ee, hW5⟩ := hW5
      have hb5 : Below wr.heap.size wr w5 := by rw [hW5]; exact HX1.out ee
      clear hW5 b1 b2
      go_wp2
      go_roundw
      case rel => exact ⟨k + 1, by omega, by go_num, HB.out.trans (hb5.mono hsz)⟩
      case measure => simp [intOf]; omega
    · obtain rfl : k = n := by omega
      clear hb
      go_wp2
      go_ret
      exact ⟨rfl, HB.out⟩

def Rw.sl (r : Rw) : Value := .slice r.A r.xs.length r.c
theorem rws_of {w : World} : ∀ rs : List Rw, (∀ r ∈ rs, r.xs.length ≤ 60 ∧ RowAt w w.heap.size r.A r.xs) → RwsQ w (fun k => k < w.heap.size) (rs.map Rw.sl) (rs.map (·.xs))
  | [], _ => trivial
  | r :: rs, h => by
    obtain ⟨h1, h2⟩ := h r (by simp)
    exact ⟨⟨Nat.le_trans h1 (by omega), r.A, r.c, rfl, RowQ.of h2 (fun k hk => hk)⟩, rws_of rs (fun s hs => h s (by simp [hs]))⟩

set_option maxRecDepth 100000 in
set_option maxHeartbeats 2000000 in
theorem rowSorts_all (rs : List Rw) (L : Option Addr) (n c : Nat) (w : World) (hn : n = rs.length) (hm : n ≤ maxLen) (hlen : ∀ r ∈ rs, r.xs.length ≤ maxLen) (hfit : ∀ r ∈ rs, Fit r.xs) (hrs : RowsAt w w.heap.size L rs) :
    Calls Try.prog 3 #[.slice L n c] w fun e w' => e = .returned (.bool true) ∧ Below w.heap.size w w' := by
  have HFW := Lib.hid (l_few rs L n c w hn hm hlen hrs)
  have HRS := Lib.hid hrs
  have HN := Lib.hid hn
  have HFT := Lib.hid hfit
  clear hm hlen hrs hn hfit
  go_enter Try.func3, Try.ntmps3
  go_wp2_with fail
  refine HFW.out.mono ?_
  rintro e w1 ⟨rfl, hb1⟩
  have HB1 := Lib.hid hb1
  clear hb1 HFW
  cases hf : fewB rs with
  | false =>
    go_wp2_with fail
    refine (known _).mono ?_
    rintro e w2 ⟨rfl, hb2⟩
    have HB2 := Lib.hid (HB1.out.trans (hb2.mono HB1.out.size))
    clear hb2
    go_wp2
    go_ret
    exact ⟨rfl, HB2.out⟩
  | true =>
    unfold fewB at hf
    rw [Bool.and_eq_true, List.all_eq_true] at hf
    obtain ⟨hf1, hf2⟩ := hf
    have hl100 : n ≤ 100 := by
      have := of_decide_eq_true hf1
      have := HN.out
      omega
    have hr60 : ∀ r ∈ rs, r.xs.length ≤ 60 := fun r hr => of_decide_eq_true (hf2 r hr)
    have hrs1 := rows_later HRS.out HB1.out (HB1.out.size)
    have HSO := Lib.hid (row_sort rs L n c w1 HN.out (by omega) hrs1 (fun r hr => by have := hr60 r hr; omega))
    have HR60 := Lib.hid hr60
    have HR1 := Lib.hid hrs1
    clear hf1 hf2 hr60 hrs1
    go_wp2_with fail
    refine HSO.out.mono ?_
    rintro e w2 ⟨v2, us2, rfl, ho2, hq2, hb2⟩
    obtain ⟨A2, c2, rfl, _, hc2⟩ := ho2.cells
    have hrs2 := rows_later HR1.out hb2 hb2.size
    have HSR := Lib.hid (ref_sort (fun k => k < w2.heap.size) L c (rs.map Rw.sl) (rs.map (·.xs)) n w2 (by rw [List.length_map]; exact HN.out) (by omega) (fun j u hj => by
      rw [List.getElem?_map] at hj
      obtain ⟨r, hr, hru⟩ := Option.map_eq_some_iff.1 hj
      obtain ⟨a, ha, hab, hac, -⟩ := hrs2 j r hr
      exact ⟨a, ha, hab, by rw [hac, ← hru]; rfl⟩) (rws_of rs (fun r hr => by
      obtain ⟨j, hj⟩ := List.getElem?_of_mem hr
      obtain ⟨a, ha, hab, hac, hra, -⟩ := hrs2 j r hj
      exact ⟨HR60.out r hr, hra⟩)) (fun x hx => by
      obtain ⟨r, hr, rfl⟩ := List.mem_map.1 hx
      exact HFT.out r hr))
    have HC2 := Lib.hid hc2
    have HQ2 := Lib.hid hq2
    have HB2 := Lib.hid (HB1.out.trans (hb2.mono HB1.out.size))
    have HL2 := Lib.hid hq2.len
    clear ho2 hq2 hc2 hb2 hrs2 HSO
    go_wp2_with fail
    refine HSR.out.mono ?_
    rintro e w3 ⟨v3, us3, rfl, ho3, hq3, hb3⟩
    obtain ⟨A3, c3, rfl, _, hc3⟩ := ho3.cells
    have hl3 := hq3.len
    have hll : us3.length = us2.length := by rw [hl3, HL2.out]
    have hl100' : us2.length ≤ 1000 := by
      have h1 := HL2.out
      have h2 := (sortL_facts (rs.map (·.xs))).2.2.2
      rw [List.length_map] at h2
      have := HN.out
      omega
    rw [hll]
    obtain ⟨p, hp⟩ : ∃ p, us2.length = p := ⟨_, rfl⟩
    have HAL := Lib.hid (l_alike02 (fun _ => True) (fun k => k < w2.heap.size) A2 A3 p c2 c3 us2 us3 (sortL (rs.map (·.xs))) w3 hp (by omega) ((HC2.out.keep (Below.keepQ hb3 _)).imp (fun k hk h => hk)) (hc3.imp (fun k hk h => hk)) (HQ2.out.keep (Below.keepQ hb3 _)) hq3)
    have HB3 := Lib.hid (HB2.out.trans (hb3.mono HB2.out.size))
    rw [hp]
    clear ho3 hq3 hc3 hb3 hl3 hll HSR hp
    go_wp2_with fail
    refine HAL.out.mono ?_
    rintro e w4 ⟨rfl, hb4⟩
    have HB4 := Lib.hid (HB3.out.trans (hb4.mono HB3.out.size))
    clear hb4 HAL
    go_wp2_with fail
    refine (known _).mono ?_
    rintro e w5 ⟨rfl, hb5⟩
    have HB5 := Lib.hid (HB4.out.trans (hb5.mono HB4.out.size))
    clear hb5
    go_wp2
    go_ret
    exact ⟨rfl, HB5.out⟩
end Go.Proofs.Ytmiagdmfgebfdaa
