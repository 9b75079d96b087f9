/-
  StoreApart of verdererlaw08 answers true at every two lists of acts, in every world, and changes nothing that was there.
  No condition.
-/
import Derived.Test.YtmiagdmfgebfdaaStorePlays0
namespace Go.Proofs.Ytmiagdmfgebfdaa
open Go.RowKit Go.Maps

theorem RefO.imp {w : World} {Q Q' : Nat → Prop} {r : Nat} {A : Option Addr} {c : Nat} {os : List Ob} {last : Int} {KL : List Sc} (h : RefO w Q r A c os last KL) (hq : ∀ k, k < w.heap.size → Q k → Q' k) (hr : ¬ Q' r) : RefO w Q' r A c os last KL := by
  obtain ⟨kv, es, h1, h2, h3, h4, h5, h6, h7⟩ := h
  exact ⟨kv, es, h1, h2.imp hq, hr, h4.imp hq, h5.imp hq, h6, h7⟩
theorem Bo.imp {w : World} {Q Q' : Nat → Prop} {s b r : Nat} {os : List Ob} {last : Int} (h : Bo w Q s b r os last) (hq : ∀ k, k < w.heap.size → Q k → Q' k) (hs : ¬ Q' s) (hb : ¬ Q' b) (hr : ¬ Q' r) : Bo w Q' s b r os last :=
  ⟨h.good, h.sto.imp hq hs hb, by obtain ⟨A, c, hR⟩ := h.ref; exact ⟨A, c, hR.imp hq hr⟩, h.rs, h.rb⟩
/-- The six blocks that change. -/
def Q6 (s b r s2 b2 r2 : Nat) (k : Nat) : Prop := k ≠ s ∧ k ≠ b ∧ k ≠ r ∧ k ≠ s2 ∧ k ≠ b2 ∧ k ≠ r2
/-- An act in memory. -/
theorem act_at {w : World} {A : Option Addr} {xs : List Oa} (hA : OasAt w A xs) (k : Nat) (xk v : Int) (k1 k2 k3 : ByteArray) (A2 : Option Addr) (cap2 : Nat) (row2 : List V) (hx : xs[k]? = some ⟨xk, ⟨k1, k2, k3, v, A2, cap2, row2⟩⟩) :
    ∃ a : Addr, A = some a ∧ (∀ W, Below w.heap.size w W → W.cell? (a.add (k * 6)) = some (.int .i64 xk) ∧ W.cell? { block := (a.add (k * 6)).block, off := (a.add (k * 6)).off + 1 } = some (.string k1) ∧ W.cell? { block := (a.add (k * 6)).block, off := (a.add (k * 6)).off + 2 } = some (.string k2) ∧ W.cell? { block := (a.add (k * 6)).block, off := (a.add (k * 6)).off + 3 } = some (.string k3) ∧ W.cell? { block := (a.add (k * 6)).block, off := (a.add (k * 6)).off + 4 } = some (.int .i64 v) ∧ W.cell? { block := (a.add (k * 6)).block, off := (a.add (k * 6)).off + 5 } = some (.slice A2 row2.length cap2)) ∧
      kOk (k1, k2, k3) ∧ (row2.length ≤ 50 → IsRow w (fun k => k < w.heap.size) (.slice A2 row2.length cap2) row2) := by
  obtain ⟨a, rfl, hal, ⟨q0, hq⟩, z1, z2, z3, z4, z5, z6, z7⟩ := hA k _ hx
  refine ⟨a, rfl, fun W hW => ⟨(hW.cell (p := a.add (k * 6)) hal).trans q0, (hW.cell (p := { block := (a.add (k * 6)).block, off := (a.add (k * 6)).off + 1 }) hal).trans (hq 0 _ rfl), (hW.cell (p := { block := (a.add (k * 6)).block, off := (a.add (k * 6)).off + 2 }) hal).trans (hq 1 _ rfl), (hW.cell (p := { block := (a.add (k * 6)).block, off := (a.add (k * 6)).off + 3 }) hal).trans (hq 2 _ rfl), (hW.cell (p := { block := (a.add (k * 6)).block, off := (a.add (k * 6)).off + 4 }) hal).trans (hq 3 _ rfl), (hW.cell (p := { block := (a.add (k * 6)).block, off := (a.add (k * 6)).off + 5 }) hal).trans (hq 4 _ rfl)⟩, ⟨z1, z2, z3⟩, fun hrl => row_oldP z6 hrl z5⟩
theorem shO_row {k1 k2 k3 : ByteArray} {n : Nat} (h : shO k1 k2 k3 n = true) : n ≤ 50 := by
  unfold shO at h
  simp at h
  omega
/-- Both pairs of stores. -/
def StA (s b r s2 b2 r2 : Nat) (os : List Ob) (last : Int) (k : Nat) (wr : World) : Prop := Bo wr (Q6 s b r s2 b2 r2) s b r os last ∧ ∃ os2 last2, Bo wr (Q6 s b r s2 b2 r2) s2 b2 r2 os2 last2 ∧ 0 ≤ last2 ∧ last2 ≤ 200 + k

set_option maxRecDepth 100000 in
set_option maxHeartbeats 8000000 in
theorem storeApart_all (A B : Option Addr) (c d : Nat) (xs ys : List Oa) (n m : Nat) (w : World) (hn : xs.length = n) (hm : ys.length = m) (hA : OasAt w A xs) (hB : OasAt w B ys) :
    Calls Try.prog 5 #[.slice A n c, .slice B m d] w fun e w' => e = .returned (.bool true) ∧ Below w.heap.size w w' := by
  have HA := Lib.hid hA
  have HB' := Lib.hid hB
  clear hA hB
  go_enter Try.func5, Try.ntmps5
  go_wp2_with fail
  refine (l_made w).mono ?_
  rintro e w1 ⟨s, b, r, kv, rfl, hS, hRf, n1, n2, n3, n4, n5, hb1⟩
  have HB1 := Lib.hid hb1
  have hl1 := hS.lt
  have hr1 := (Array.getElem?_eq_some_iff.1 hRf.1).1
  have HS1 : Hid (StP (fun k => k ≠ s ∧ k ≠ b ∧ k ≠ r) s b r 0 w1) := Lib.hid ⟨[], 0, Bo.start hS hRf n4 n5, by omega, by omega⟩
  clear hS hRf hb1
  go_wp2
  go_loopw [7] (fun i wr => ∃ (k : Nat), k ≤ n ∧ k ≤ 80 ∧ i = .int .i64 k ∧ Hid (StP (fun k => k ≠ s ∧ k ≠ b ∧ k ≠ r) s b r k wr) ∧ Below w.heap.size w wr ∧ w1.heap.size ≤ wr.heap.size) (fun i _ => n - (intOf i).toNat)
  case atStart => exact ⟨0, Nat.zero_le _, by omega, rfl, HS1, HB1.out, Nat.le_refl _⟩
  case round =>
    obtain ⟨k, hk, hk1, rfl, HST, hb, hz⟩ := hrel
    have HB := Lib.hid hb
    by_cases hlt : k < n ∧ k < 80
    · obtain ⟨hlt1, hlt2⟩ := hlt
      obtain ⟨⟨xk, ⟨k1, k2, k3, v, A2, cap2, row2⟩⟩, hx⟩ : ∃ x, xs[k]? = some x := ⟨_, List.getElem?_eq_getElem (by omega)⟩
      obtain ⟨a, rfl, hce, hkk, hro⟩ := act_at HA.out k xk v k1 k2 k3 A2 cap2 row2 hx
      have HCE := Lib.hid hce
      have HKK := Lib.hid hkk
      have HRO := Lib.hid hro
      obtain ⟨c0, c1, c2, c3, c4, c5⟩ := HCE.out wr hb
      clear hx hb hce hkk hro
      go_wp2_with fail
      refine (l_short xk v k1 k2 k3 A2 row2.length cap2 wr).mono ?_
      rintro e w2 ⟨rfl, hb2⟩
      have HB2 := Lib.hid (HB.out.trans (hb2.mono HB.out.size))
      have hz2 := hb2.size
      obtain ⟨os, last, hBo, ho1, ho2⟩ := HST.out
      have HBo := Lib.hid (hBo.below hb2)
      clear hb2 c0 c1 c2 c3 c4 c5 hBo
      cases hsh : shO k1 k2 k3 row2.length with
      | false =>
        go_wp2_with fail
        refine (known8 _).mono ?_
        rintro e w3 ⟨rfl, hb3⟩
        have HB3 := Lib.hid (HB2.out.trans (hb3.mono HB2.out.size))
        clear hb3
        go_wp2
        go_ret
        exact ⟨rfl, HB3.out⟩
      | true =>
        have hrl := shO_row hsh
        clear hsh
        obtain ⟨c0, c1, c2, c3, c4, c5⟩ := HCE.out w2 HB2.out
        have HDO := Lib.hid (l_do8 (fun k => k ≠ s ∧ k ≠ b ∧ k ≠ r) (fun k => k < w.heap.size) s b r os last xk v k1 k2 k3 A2 cap2 row2 w2 HBo.out (fun j hj => ⟨by omega, by omega, by omega⟩) ((HRO.out hrl).keep (Below.keepQ HB2.out _)) (by omega) (by omega) (by omega) HKK.out (by omega) (by omega))
        generalize row2.length = nw at *
        go_wp2_with fail
        refine HDO.out.mono ?_
        rintro e w4 ⟨rfl, ⟨os4, last4, hB4, hla, hlb⟩, ho4⟩
        have HB4 := Lib.hid (HB2.out.trans (ho4.below n1 n2 n3 HB2.out.size))
        have HBo4 := Lib.hid hB4
        have hz4 : w2.heap.size ≤ w4.heap.size := ho4.1.size
        clear hB4 ho4 c0 c1 c2 c3 c4 c5 HDO
        go_wp2
        go_roundw
        case rel => exact ⟨k + 1, by omega, by omega, by go_num, Lib.hid ⟨os4, last4, HBo4.out, by omega, by omega⟩, HB4.out, by omega⟩
        case measure => simp [intOf]; omega
    · have HBW := Lib.hid hb
      obtain ⟨os, last, hBo, ho1, ho2⟩ := HST.out
      have hfew := hBo.good.few
      have HBo := Lib.hid hBo
      have hbl := hBo.sto.lt
      have hrl := hBo.rlt
      have HCP := Lib.hid (o_copy _ s b os last KL8 wr hBo.sto)
      clear hb HST hBo
      have TAIL : Hid (∀ w2 w3 s2 r2, wr.heap.size < s2 → s2 < w2.heap.size → w2.heap.size ≤ r2 → Below wr.heap.size wr w2 → Below w2.heap.size w2 w3 → StoB w2 (fun k => (k ≠ s ∧ k ≠ b ∧ k ≠ r) ∧ k < wr.heap.size) s2 wr.heap.size os last KL8 → (∃ A' c', RefO w3 (fun k => (((k ≠ s ∧ k ≠ b ∧ k ≠ r) ∧ k < wr.heap.size) ∧ k < w2.heap.size) ∨ (w2.heap.size ≤ k ∧ k ≠ r2)) r2 A' c' os last KL8) → StA s b r s2 wr.heap.size r2 os last 0 w3) := Lib.hid (by
        intro w2 w3 s2 r2 g1 g2 g3 hb2 hb3 hS2 hR2
        have hz2 := hb2.size
        have e1 : ∀ k, (k ≠ s ∧ k ≠ b ∧ k ≠ r) ∧ k < wr.heap.size → Q6 s b r s2 wr.heap.size r2 k := fun k h => ⟨h.1.1, h.1.2.1, h.1.2.2, by omega, by omega, by omega⟩
        refine ⟨((HBo.out.imp (Q' := Q6 s b r s2 wr.heap.size r2) (fun k hk h => e1 k ⟨h, hk⟩) (fun h => h.1 rfl) (fun h => h.2.1 rfl) (fun h => h.2.2.1 rfl)).below hb2).below hb3, os, last, ⟨HBo.out.good, (hS2.imp (fun k _ h => e1 k h) (fun h => h.2.2.2.1 rfl) (fun h => h.2.2.2.2.1 rfl)).below hb3, ?_, by omega, by omega⟩, ho1, by omega⟩
        obtain ⟨A', c', hR⟩ := hR2
        exact ⟨A', c', hR.imp (fun k _ h => by
          rcases h with h | h
          · exact e1 k h.1
          · exact ⟨by omega, by omega, by omega, by omega, by omega, h.2⟩) (fun h => h.2.2.2.2.2 rfl)⟩)
      have HRC : Hid (∀ W, Below wr.heap.size wr W → Calls Try.prog 22 #[.pointer (some ⟨r, 0, none⟩)] W fun e w' => ∃ r2 A' c', e = .returned (.pointer (some ⟨r2, 0, none⟩)) ∧ RefO w' (fun k => (((k ≠ s ∧ k ≠ b ∧ k ≠ r) ∧ k < wr.heap.size) ∧ k < W.heap.size) ∨ (W.heap.size ≤ k ∧ k ≠ r2)) r2 A' c' os last KL8 ∧ W.heap.size ≤ r2 ∧ Below W.heap.size W w') := Lib.hid (fun W hW => by
        obtain ⟨A9, c9, hR9⟩ := HBo.out.ref
        exact r_copyO (fun k => (k ≠ s ∧ k ≠ b ∧ k ≠ r) ∧ k < wr.heap.size) r A9 c9 os last KL8 W ((hR9.imp (Q' := fun k => (k ≠ s ∧ k ≠ b ∧ k ≠ r) ∧ k < wr.heap.size) (fun k hk h => ⟨h, hk⟩) (fun h => h.1.2.2 rfl)).below hW) (by omega))
      rcases (show n ≤ k ∨ (k < n ∧ 80 ≤ k) by omega) with h1 | ⟨h1, h2⟩
      all_goals
        go_wp2_with fail
        refine HCP.out.mono ?_
        rintro e w2 ⟨s2, rfl, hS2, hs2, hb2⟩
        have HRC2 := Lib.hid (HRC.out w2 hb2)
        have HS2 := Lib.hid hS2
        have HB2 := Lib.hid hb2
        have hs2l := hS2.lt.1
        clear hb2 hS2
        go_wp2_with fail
        refine HRC2.out.mono ?_
        rintro e w3 ⟨r2, A3, c3, rfl, hR3, hr2, hb3⟩
        have HTA := Lib.hid (TAIL.out w2 w3 s2 r2 hs2 hs2l hr2 HB2.out hb3 HS2.out ⟨_, _, hR3⟩)
        have HB3 := Lib.hid ((HBW.out.trans (HB2.out.mono HBW.out.size)).trans (hb3.mono (HBW.out.trans (HB2.out.mono HBW.out.size)).size))
        have hz2 := HB2.out.size
        have hz3 := hb3.size
        have hr2l : r2 < w3.heap.size := hR3.lt
        have hw0 := HBW.out.size
        clear hR3 hb3 HS2 HRC2
        clear HRC TAIL HCP
        generalize wr.heap.size = b2 at *
        go_wp2
        go_loopw [10] (fun i wq => ∃ (j : Nat), j ≤ m ∧ j ≤ 40 ∧ i = .int .i64 j ∧ Hid (StA s b r s2 b2 r2 os last j wq) ∧ Below w.heap.size w wq ∧ w3.heap.size ≤ wq.heap.size) (fun i _ => m - (intOf i).toNat)
        case atStart => exact ⟨0, Nat.zero_le _, by omega, rfl, HTA, HB3.out, Nat.le_refl _⟩
        case round =>
          obtain ⟨j, hj, hj1, rfl, HTJ, hbq, hzq⟩ := hrel
          have HBQ := Lib.hid hbq
          obtain ⟨hP1, os2, last2, hP2, hl0, hl9⟩ := HTJ.out
          have HP1 := Lib.hid hP1
          have HP2 := Lib.hid hP2
          clear hP1 hP2
          by_cases hlj : j < m ∧ j < 40
          · obtain ⟨hlj1, hlj2⟩ := hlj
            obtain ⟨⟨xk, ⟨k1, k2, k3, v, A2, cap2, row2⟩⟩, hx⟩ : ∃ x, ys[j]? = some x := ⟨_, List.getElem?_eq_getElem (by omega)⟩
            obtain ⟨a, rfl, hce, hkk, hro⟩ := act_at HB'.out j xk v k1 k2 k3 A2 cap2 row2 hx
            have HCE := Lib.hid hce
            have HKK := Lib.hid hkk
            have HRO := Lib.hid hro
            obtain ⟨c0, c1, c2, c3, c4, c5⟩ := HCE.out _ hbq
            clear hx hbq hce hkk hro
            go_wp2_with fail
            refine (l_short xk v k1 k2 k3 A2 row2.length cap2 _).mono ?_
            rintro e w5 ⟨rfl, hb5⟩
            have HB5 := Lib.hid (HBQ.out.trans (hb5.mono HBQ.out.size))
            have hz5 := hb5.size
            have HP15 := Lib.hid (HP1.out.below hb5)
            have HP25 := Lib.hid (HP2.out.below hb5)
            clear hb5 c0 c1 c2 c3 c4 c5
            cases hsh : shO k1 k2 k3 row2.length with
            | false =>
              go_wp2_with fail
              refine (known8 _).mono ?_
              rintro e w6 ⟨rfl, hb6⟩
              have HB6 := Lib.hid (HB5.out.trans (hb6.mono HB5.out.size))
              clear hb6
              go_wp2
              go_ret
              exact ⟨rfl, HB6.out⟩
            | true =>
              have hrl5 := shO_row hsh
              clear hsh
              obtain ⟨c0, c1, c2, c3, c4, c5⟩ := HCE.out w5 HB5.out
              have HDO := Lib.hid (l_do8 (Q6 s b r s2 b2 r2) (fun k => k < w.heap.size) s2 b2 r2 os2 last2 xk v k1 k2 k3 A2 cap2 row2 w5 HP25.out (fun j hj => ⟨by omega, by omega, by omega, by omega, by omega, by omega⟩) ((HRO.out hrl5).keep (Below.keepQ HB5.out _)) (by omega) (by omega) (by omega) HKK.out (by omega) (by omega))
              generalize row2.length = nw at *
              go_wp2_with fail
              refine HDO.out.mono ?_
              rintro e w6 ⟨rfl, ⟨os6, last6, hB6, hla, hlb⟩, ho6⟩
              have HB6 := Lib.hid (HB5.out.trans (ho6.below (by omega) (by omega) (by omega) HB5.out.size))
              have HP26 := Lib.hid hB6
              have HP16 := Lib.hid (HP15.out.other ho6 (fun h => h.2.2.2.1 rfl) (fun h => h.2.2.2.2.1 rfl) (fun h => h.2.2.2.2.2 rfl) ⟨by omega, by omega, by omega⟩ ⟨by omega, by omega, by omega⟩ ⟨by omega, by omega, by omega⟩)
              have hz6 : w5.heap.size ≤ w6.heap.size := ho6.1.size
              clear hB6 ho6 c0 c1 c2 c3 c4 c5 HDO
              go_wp2
              go_roundw
              case rel => exact ⟨j + 1, by omega, by omega, by go_num, Lib.hid ⟨HP16.out, os6, last6, HP26.out, by omega, by omega⟩, HB6.out, by omega⟩
              case measure => simp [intOf]; omega
          · have HAK1 := Lib.hid (l_alike8 _ s b r os last _ HP1.out)
            clear hbq
            rcases (show m ≤ j ∨ (j < m ∧ 40 ≤ j) by omega) with h3 | ⟨h3, h4⟩
            all_goals
              go_wp2_with fail
              refine HAK1.out.mono ?_
              rintro e w5 ⟨rfl, hb5⟩
              have HB5 := Lib.hid (HBQ.out.trans (hb5.mono HBQ.out.size))
              have HAK2 := Lib.hid (l_alike8 _ s2 b2 r2 os2 last2 _ (HP2.out.below hb5))
              clear hb5
              go_wp2_with fail
              refine HAK2.out.mono ?_
              rintro e w6 ⟨rfl, hb6⟩
              have HB6 := Lib.hid (HB5.out.trans (hb6.mono HB5.out.size))
              clear hb6 HAK2
              go_wp2_with fail
              refine (known8 _).mono ?_
              rintro e w7 ⟨rfl, hb7⟩
              have HB7 := Lib.hid (HB6.out.trans (hb7.mono HB6.out.size))
              clear hb7
              go_wp2
              go_ret
              exact ⟨rfl, HB7.out⟩
end Go.Proofs.Ytmiagdmfgebfdaa
