/-
  StorePlays of verdererlaw08 answers true at every list of acts and every kind, in every world, and changes nothing that was there.
  No condition.
-/
import Derived.Test.YtmiagdmfgebfdaaSvd
import Derived.Test.YtmiagdmfgebfdaaStp
import Derived.Test.YtmiagdmfgebfdaaSux
import Derived.Outline
namespace Go.Proofs.Ytmiagdmfgebfdaa
open Go.RowKit Go.Maps

theorem row_oldP {w : World} {A : Option Addr} {xs : List V} {c : Nat} (h : RowAt w w.heap.size A xs) (hl : xs.length ≤ 50) (hc : A = none → c = 0) : IsRow w (fun k => k < w.heap.size) (.slice A xs.length c) xs :=
  ⟨by omega, A, c, rfl, hc, h⟩
/-- What made gives. -/
theorem Bo.start {w : World} {Q : Nat → Prop} {s b r : Nat} {kv : Value} (hS : StoB w Q s b [] 0 KL8) (hR : RefS w Q r kv (.slice none 0 0) 0 KL8) (h1 : r ≠ s) (h2 : r ≠ b) : Bo w Q s b r [] 0 :=
  ⟨GoodO.nil, hS, ⟨none, 0, kv, [], hR.1, hR.2.1, hR.2.2, trivial, fun j u hj => by simp [flatO] at hj, fun _ => rfl, Nat.le_refl _⟩, h1, h2⟩
/-- What holds of both stores between the acts. -/
def StP (Q : Nat → Prop) (s b r : Nat) (k : Nat) (wr : World) : Prop := ∃ os last, Bo wr Q s b r os last ∧ 0 ≤ last ∧ last ≤ k
set_option maxRecDepth 100000 in
set_option maxHeartbeats 8000000 in
theorem storePlays_all (A : Option Addr) (c : Nat) (xs : List Oa) (n : Nat) (kd : ByteArray) (w : World) (hn : xs.length = n) (hA : OasAt w A xs) :
    Calls Try.prog 4 #[.slice A n c, .string kd] w fun e w' => e = .returned (.bool true) ∧ Below w.heap.size w w' := by
  have HA := Lib.hid hA
  clear hA
  go_enter Try.func4, Try.ntmps4
  go_wp2_with fail
  refine (l_made w).mono ?_
  rintro e w1 ⟨s, b, r, kv, rfl, hS, hRf, n1, n2, n3, n4, n5, hb1⟩
  have HB1 := Lib.hid hb1
  have hl1 := hS.lt
  have hr1 := (Array.getElem?_eq_some_iff.1 hRf.1).1
  have HS1 : Hid (StP (fun k => k ≠ s ∧ k ≠ b ∧ k ≠ r) s b r 0 w1) := Lib.hid ⟨[], 0, Bo.start hS hRf n4 n5, by omega, by omega⟩
  clear hS hRf hb1
  go_wp2
  go_loopw [7] (fun i wr => ∃ (k : Nat), k ≤ n ∧ k ≤ 200 ∧ i = .int .i64 k ∧ Hid (StP (fun k => k ≠ s ∧ k ≠ b ∧ k ≠ r) s b r k wr) ∧ Below w.heap.size w wr ∧ w1.heap.size ≤ wr.heap.size) (fun i _ => n - (intOf i).toNat)
  case atStart => exact ⟨0, Nat.zero_le _, by omega, rfl, HS1, HB1.out, Nat.le_refl _⟩
  case round =>
    obtain ⟨k, hk, hk1, rfl, HST, hb, hz⟩ := hrel
    have HB := Lib.hid hb
    by_cases hlt : k < n ∧ k < 200
    · obtain ⟨hlt1, hlt2⟩ := hlt
      obtain ⟨⟨xk, ⟨k1, k2, k3, v, A2, cap2, row2⟩⟩, hx⟩ : ∃ x, xs[k]? = some x := ⟨_, List.getElem?_eq_getElem (by omega)⟩
      obtain ⟨a, rfl, hal, ⟨q0, hq⟩, z1, z2, z3, z4, z5, z6, z7⟩ := HA.out k _ hx
      have HR2 := Lib.hid z6
      have HC2 := Lib.hid z5
      have HCE : Hid (∀ W, Below w.heap.size w W → W.cell? (a.add (k * 6)) = some (.int .i64 xk) ∧ W.cell? { block := (a.add (k * 6)).block, off := (a.add (k * 6)).off + 1 } = some (.string k1) ∧ W.cell? { block := (a.add (k * 6)).block, off := (a.add (k * 6)).off + 2 } = some (.string k2) ∧ W.cell? { block := (a.add (k * 6)).block, off := (a.add (k * 6)).off + 3 } = some (.string k3) ∧ W.cell? { block := (a.add (k * 6)).block, off := (a.add (k * 6)).off + 4 } = some (.int .i64 v) ∧ W.cell? { block := (a.add (k * 6)).block, off := (a.add (k * 6)).off + 5 } = some (.slice A2 row2.length cap2) ∧ W.cell? { block := (a.add (k * 6)).block, off := (a.add (k * 6)).off + 1 + 1 } = some (.string k2)) := Lib.hid (fun W hW =>
        ⟨(hW.cell (p := a.add (k * 6)) hal).trans q0, (hW.cell (p := { block := (a.add (k * 6)).block, off := (a.add (k * 6)).off + 1 }) hal).trans (hq 0 _ rfl), (hW.cell (p := { block := (a.add (k * 6)).block, off := (a.add (k * 6)).off + 2 }) hal).trans (hq 1 _ rfl), (hW.cell (p := { block := (a.add (k * 6)).block, off := (a.add (k * 6)).off + 3 }) hal).trans (hq 2 _ rfl), (hW.cell (p := { block := (a.add (k * 6)).block, off := (a.add (k * 6)).off + 4 }) hal).trans (hq 3 _ rfl), (hW.cell (p := { block := (a.add (k * 6)).block, off := (a.add (k * 6)).off + 5 }) hal).trans (hq 4 _ rfl), (hW.cell (p := { block := (a.add (k * 6)).block, off := (a.add (k * 6)).off + 2 }) hal).trans (hq 1 _ rfl)⟩)
      obtain ⟨c0, c1, c2, c3, c4, c5, c6⟩ := HCE.out wr hb
      simp only at z1 z2 z3 z4 z7
      clear hx hb q0 hq z5 z6 c6
      go_wp2_with fail
      refine (l_short xk v k1 k2 k3 A2 row2.length cap2 wr).mono ?_
      rintro e w2 ⟨rfl, hb2⟩
      have HB2 := Lib.hid (HB.out.trans (hb2.mono HB.out.size))
      have hz2 := hb2.size
      obtain ⟨os, last, hBo, ho1, ho2⟩ := HST.out
      have HBo := Lib.hid (hBo.below hb2)
      clear hb2 c0 c1 c2 c3 c4 c5 hBo
      cases hsh : shO k1 k2 k3 row2.length with
      | false =>
        go_wp2_with fail
        refine (known8 _).mono ?_
        rintro e w3 ⟨rfl, hb3⟩
        have HB3 := Lib.hid (HB2.out.trans (hb3.mono HB2.out.size))
        clear hb3
        go_wp2
        go_ret
        exact ⟨rfl, HB3.out⟩
      | true =>
        have hrl : row2.length ≤ 50 := by unfold shO at hsh; simp at hsh; omega
        clear hsh
        obtain ⟨c0, c1, c2, c3, c4, c5, c6⟩ := HCE.out w2 HB2.out
        have hdr : Below w2.heap.size w2 w2.drew := below_drew _ _
        have HDO := Lib.hid (l_do8 (fun k => k ≠ s ∧ k ≠ b ∧ k ≠ r) (fun k => k < w.heap.size) s b r os last xk v k1 k2 k3 A2 cap2 row2 w2.drew (HBo.out.below hdr) (fun j hj => by have : w2.heap.size ≤ j := hj; exact ⟨by omega, by omega, by omega⟩) ((row_oldP HR2.out hrl HC2.out).keep (Below.keepQ (HB2.out.drew) _)) (by omega) (by omega) (by omega) ⟨z1, z2, z3⟩ (by omega) (by omega))
        have HOF := Lib.hid (fun W os' last' (h : Bo W (fun k => k ≠ s ∧ k ≠ b ∧ k ≠ r) s b r os' last') => o_of (fun k => k ≠ s ∧ k ≠ b ∧ k ≠ r) s b os' last' KL8 k2 W h.sto h.good.srt.apart (by have := h.good.few; omega))
        have HRO := Lib.hid (fun W os' last' (h : Bo W (fun k => k ≠ s ∧ k ≠ b ∧ k ≠ r) s b r os' last') => (show Calls Try.prog 16 #[.pointer (some ⟨r, 0, none⟩), .string k2] W _ from by obtain ⟨A9, c9, hR9⟩ := h.ref; exact r_ofO (fun k => k ≠ s ∧ k ≠ b ∧ k ≠ r) r A9 c9 os' last' KL8 k2 W hR9 (by have := h.good.few; omega)))
        generalize row2.length = nw at *
        clear hdr
        go_wp2_with fail
        go_region_held3 (fun W : World => W.cell? (a.add (k * 6)) = some (.int .i64 xk) ∧ W.cell? { block := (a.add (k * 6)).block, off := (a.add (k * 6)).off + 1 } = some (.string k1) ∧ W.cell? { block := (a.add (k * 6)).block, off := (a.add (k * 6)).off + 2 } = some (.string k2) ∧ W.cell? { block := (a.add (k * 6)).block, off := (a.add (k * 6)).off + 3 } = some (.string k3) ∧ W.cell? { block := (a.add (k * 6)).block, off := (a.add (k * 6)).off + 4 } = some (.int .i64 v) ∧ W.cell? { block := (a.add (k * 6)).block, off := (a.add (k * 6)).off + 5 } = some (.slice A2 nw cap2) ∧ W.cell? { block := (a.add (k * 6)).block, off := (a.add (k * 6)).off + 1 + 1 } = some (.string k2)) (go_keep)
          (first
            | (go_at_call 14; refine HDO.out.mono ?_; rintro x w4 ⟨rfl, hdo⟩; have HD4 := Lib.hid hdo; obtain ⟨⟨os4, last4, hB4, hla, hlb⟩, ho4⟩ := hdo; have hb4 := HB2.out.drew.trans (ho4.below n1 n2 n3 HB2.out.drew.size); have HB4 := Lib.hid hb4; have HBo4 := Lib.hid hB4; have hz4 : w2.heap.size ≤ w4.heap.size := ho4.1.size; obtain ⟨d0, d1, d2, d3, d4, d5, d6⟩ := HCE.out w4 hb4; clear hB4 ho4 hb4)
            | (go_at_call 15; refine (HOF.out _ _ _ HBo4.out).mono ?_; rintro x w5 ⟨rfl, hb5⟩; have HB5 := Lib.hid (HB4.out.trans (hb5.mono HB4.out.size)); have HBo5 := Lib.hid (HBo4.out.below hb5); have hz5 := hb5.size; obtain ⟨e0, e1, e2, e3, e4, e5, e6⟩ := HCE.out w5 HB5.out; clear hb5)
            | (go_at_call 16; refine (HRO.out _ _ _ HBo5.out).mono ?_; rintro x w6 ⟨rfl, hb6⟩; have HB6 := Lib.hid (HB5.out.trans (hb6.mono HB5.out.size)); have HBo6 := Lib.hid (HBo5.out.below hb6); have hz6 := hb6.size; obtain ⟨f0, f1, f2, f3, f4, f5, f6⟩ := HCE.out w6 HB6.out; clear hb6))
        go_wp2
        go_roundw
        case rel => exact ⟨k + 1, by omega, by omega, by go_num, Lib.hid ⟨os4, last4, HBo6.out, by omega, by omega⟩, HB6.out, by omega⟩
        case measure => simp [intOf]; omega
    · have HBW := Lib.hid hb
      obtain ⟨os, last, hBo, ho1, ho2⟩ := HST.out
      have hfew := hBo.good.few
      have HAK := Lib.hid (l_alike8 _ s b r os last wr hBo)
      have HBo := Lib.hid hBo
      clear hb HST hBo
      rcases (show n ≤ k ∨ (k < n ∧ 200 ≤ k) by omega) with h1 | ⟨h1, h2⟩
      all_goals
        go_wp2_with fail
        refine HAK.out.mono ?_
        rintro e w2 ⟨rfl, hb2⟩
        have HB2 := Lib.hid (HBW.out.trans (hb2.mono HBW.out.size))
        have HBo2 := Lib.hid (HBo.out.below hb2)
        have HAL := Lib.hid (o_all _ s b os last KL8 kd w2 HBo2.out.sto HBo2.out.good)
        clear hb2
        go_wp2_with fail
        refine HAL.out.mono ?_
        rintro e w3 ⟨⟨v1, zs1, rfl, hw1, hz1⟩, hb3⟩
        have HB3 := Lib.hid (HB2.out.trans (hb3.mono HB2.out.size))
        have HBo3 := Lib.hid (HBo2.out.below hb3)
        obtain ⟨A1, c1, hv1, hc1⟩ := hw1.slice hz1.len
        subst hv1
        have HC1 := Lib.hid hc1
        have HZ1 := Lib.hid hz1
        have HRL : Hid (Calls Try.prog 20 #[.pointer (some ⟨r, 0, none⟩), .string kd] w3 fun e w' => (∃ v zs, e = .returned v ∧ OwnO w' w3.heap.size v zs ∧ ObR w' (fun k => k ≠ s ∧ k ≠ b ∧ k ≠ r) zs (ofKind os kd)) ∧ Below w3.heap.size w3 w') := Lib.hid (by obtain ⟨A9, c9, hR9⟩ := HBo3.out.ref; exact r_allO _ r A9 c9 os last KL8 kd w3 hR9 (by omega))
        clear hb3 hw1 hz1 hc1 HAL
        go_wp2_with fail
        refine HRL.out.mono ?_
        rintro e w4 ⟨⟨v2, zs2, rfl, hw2, hz2⟩, hb4⟩
        have HB4 := Lib.hid (HB3.out.trans (hb4.mono HB3.out.size))
        obtain ⟨A2, c2, hv2, hc2⟩ := hw2.slice hz2.len
        subst hv2
        have HSM := Lib.hid (r_sameO _ _ _ _ zs1 zs2 (ofKind os kd) A1 A2 c1 c2 w4 (HC1.out.keep (Below.keepQ hb4 _)) hc2 (HZ1.out.below hb4) hz2 (Nat.le_trans (ofKind_len os kd) (by omega)))
        clear hb4 hw2 hz2 hc2 HRL
        go_wp2_with fail
        refine HSM.out.mono ?_
        rintro e w5 ⟨rfl, hb5⟩
        have HB5 := Lib.hid (HB4.out.trans (hb5.mono HB4.out.size))
        clear hb5 HSM
        go_wp2_with fail
        refine (known8 _).mono ?_
        rintro e w6 ⟨rfl, hb6⟩
        have HB6 := Lib.hid (HB5.out.trans (hb6.mono HB5.out.size))
        clear hb6
        go_wp2
        go_ret
        exact ⟨rfl, HB6.out⟩
end Go.Proofs.Ytmiagdmfgebfdaa
