/-
  StoreVersions of verdererlaw08 answers true at every list of acts, in every world, and changes nothing that was there.
  No condition.
-/
import Derived.Test.YtoeggpoeongnhaaStm
import Derived.Test.YtoeggpoeongnhaaStp
import Derived.Test.YtoeggpoeongnhaaSrline
import Derived.Test.YtoeggpoeongnhaaStl
import Derived.Deep.RegionHeld3
namespace Go.Proofs.Ytoeggpoeongnhaa
open Go.RowKit Go.Maps

theorem find_idx {α : Type} (p : α → Bool) : ∀ (L : List α) (x : α), L.find? p = some x → L.findIdx p ≤ L.length ∧ L[L.findIdx p]? = some x ∧ p x = true
  | [], x, h => by cases h
  | a :: L, x, h => by
    rw [List.find?_cons] at h
    cases hp : p a with
    | true =>
      rw [hp] at h
      injection h with h
      subst h
      simp [List.findIdx_cons, hp]
    | false =>
      rw [hp] at h
      obtain ⟨h1, h2, h3⟩ := find_idx p L x h
      rw [List.findIdx_cons, hp]
      exact ⟨by simp; omega, by simpa using h2, h3⟩
/-- Where an object is. -/
def posB (os : List Ob) (k : Ky) : Nat := os.findIdx fun x => decide (x.key = k)
theorem posB_is {os : List Ob} {k : Ky} {x : Ob} (h : findB os k = some x) : posB os k ≤ os.length ∧ ∃ y, os[posB os k]? = some y ∧ y.key = k := by
  obtain ⟨h1, h2, h3⟩ := find_idx _ os x h
  exact ⟨h1, x, h2, by simpa using h3⟩
theorem row_old {w : World} {A : Option Addr} {xs : List V} {c : Nat} (h : RowAt w w.heap.size A xs) (hl : xs.length ≤ 50) (hc : A = none → c = 0) : IsRow w (fun k => k < w.heap.size) (.slice A xs.length c) xs :=
  ⟨by omega, A, c, rfl, hc, h⟩
/-- The first kind. -/
def podS8 : Sc := ⟨bPod, [⟨bImage, 3, false⟩, ⟨bCpu, 2, false⟩, ⟨bNode, 3, true⟩]⟩
theorem kinds_first {w : World} {Q : Nat → Prop} {v : Value} (h : IsKinds w Q v KL8) : ∃ (a : Addr) (c : Nat) (va : Value), v = .slice (some a) 2 c ∧ IsCols w Q va podS8.cols ∧ w.cell? a = some (.string bPod) ∧ w.cell? { block := a.block, off := a.off + 1 } = some va := by
  obtain ⟨_, A, c, rfl, _, _, ls, hs, hc⟩ := h
  match ls, hs with
  | [(n1, v1), (n2, v2)], hs =>
    obtain ⟨rfl, h2, _⟩ := hs
    obtain ⟨a, rfl, _, p0⟩ := hc 0 _ rfl
    obtain ⟨a', ha', _, p1⟩ := hc 1 _ rfl
    injection ha' with ha'
    subst ha'
    have z : a.add 0 = a := by simp [Addr.add]
    rw [z] at p0
    exact ⟨a, c, v1, rfl, h2, p0, by simpa [Addr.add] using p1⟩
/-- What holds of the store between the acts. -/
def StV (s b r : Nat) (k : Nat) (last : Int) (wr : World) : Prop := ∃ os : List Ob, StoB wr (fun j => j ≠ s ∧ j ≠ b ∧ j ≠ r) s b os last KL8 ∧ os.length ≤ k ∧ 0 ≤ last ∧ last ≤ k

set_option maxRecDepth 100000 in
set_option maxHeartbeats 8000000 in
theorem storeVersions_all (A : Option Addr) (c : Nat) (xs : List Oa) (n : Nat) (w : World) (hn : xs.length = n) (hA : OasAt w A xs) :
    Calls Try.prog 5 #[.slice A n c] w fun e w' => e = .returned (.bool true) ∧ Below w.heap.size w w' := by
  have HA := Lib.hid hA
  clear hA
  go_enter Try.func5, Try.ntmps5
  go_wp2_with fail
  refine (l_made w).mono ?_
  rintro e w1 ⟨s, b, r, kv, rfl, hS, hRf, n1, n2, n3, n4, n5, hb1⟩
  have HB1 := Lib.hid hb1
  have HS1 : Hid (StV s b r 0 0 w1) := Lib.hid ⟨[], hS, Nat.le_refl _, by omega, by omega⟩
  have hl1 := hS.lt
  have hr1 := (Array.getElem?_eq_some_iff.1 hRf.1).1
  clear hS hRf hb1
  go_wp2
  go_loopw [5] (fun i wr => ∃ (k : Nat) (last : Int), k ≤ n ∧ k ≤ 150 ∧ i = .int .i64 k ∧ Hid (StV s b r k last wr) ∧ Below w.heap.size w wr ∧ w1.heap.size ≤ wr.heap.size) (fun i _ => n - (intOf i).toNat)
  case atStart => exact ⟨0, 0, Nat.zero_le _, by omega, rfl, HS1, HB1.out, Nat.le_refl _⟩
  case round =>
    obtain ⟨k, last, hk, hk1, rfl, HST, hb, hz⟩ := hrel
    have HB := Lib.hid hb
    by_cases hlt : k < n ∧ k < 150
    · obtain ⟨hlt1, hlt2⟩ := hlt
      obtain ⟨⟨xk, ⟨k1, k2, k3, v, A2, cap2, row2⟩⟩, hx⟩ : ∃ x, xs[k]? = some x := ⟨_, List.getElem?_eq_getElem (by omega)⟩
      obtain ⟨a, rfl, hal, ⟨q0, hq⟩, z1, z2, z3, z4, z5, z6, z7⟩ := HA.out k _ hx
      have Q0 := Lib.hid q0
      have HQ := Lib.hid hq
      have HR2 := Lib.hid z6
      have HC2 := Lib.hid z5
      have HCE : Hid (∀ W, Below w.heap.size w W → W.cell? (a.add (k * 6)) = some (.int .i64 xk) ∧ W.cell? { block := (a.add (k * 6)).block, off := (a.add (k * 6)).off + 1 } = some (.string k1) ∧ W.cell? { block := (a.add (k * 6)).block, off := (a.add (k * 6)).off + 2 } = some (.string k2) ∧ W.cell? { block := (a.add (k * 6)).block, off := (a.add (k * 6)).off + 3 } = some (.string k3) ∧ W.cell? { block := (a.add (k * 6)).block, off := (a.add (k * 6)).off + 4 } = some (.int .i64 v) ∧ W.cell? { block := (a.add (k * 6)).block, off := (a.add (k * 6)).off + 5 } = some (.slice A2 row2.length cap2)) := Lib.hid (fun W hW =>
        ⟨(hW.cell (p := a.add (k * 6)) hal).trans q0, (hW.cell (p := { block := (a.add (k * 6)).block, off := (a.add (k * 6)).off + 1 }) hal).trans (hq 0 _ rfl), (hW.cell (p := { block := (a.add (k * 6)).block, off := (a.add (k * 6)).off + 2 }) hal).trans (hq 1 _ rfl), (hW.cell (p := { block := (a.add (k * 6)).block, off := (a.add (k * 6)).off + 3 }) hal).trans (hq 2 _ rfl), (hW.cell (p := { block := (a.add (k * 6)).block, off := (a.add (k * 6)).off + 4 }) hal).trans (hq 3 _ rfl), (hW.cell (p := { block := (a.add (k * 6)).block, off := (a.add (k * 6)).off + 5 }) hal).trans (hq 4 _ rfl)⟩)
      obtain ⟨c0, c1, c2, c3, c4, c5⟩ := HCE.out wr hb
      simp only at z1 z2 z3 z4 z7
      clear hx hb q0 hq z5 z6
      go_wp2_with fail
      refine (l_short xk v k1 k2 k3 A2 row2.length cap2 wr).mono ?_
      rintro e w2 ⟨rfl, hb2⟩
      have HB2 := Lib.hid (HB.out.trans (hb2.mono HB.out.size))
      have hz2 := hb2.size
      obtain ⟨os, hS0, ho1, ho2, ho3⟩ := HST.out
      have HS2 := Lib.hid (hS0.below hb2)
      clear hb2 c0 c1 c2 c3 c4 c5 hS0
      cases hsh : shO k1 k2 k3 row2.length with
      | false =>
        go_wp2_with fail
        refine (known8 _).mono ?_
        rintro e w3 ⟨rfl, hb3⟩
        have HB3 := Lib.hid (HB2.out.trans (hb3.mono HB2.out.size))
        clear hb3
        go_wp2
        go_ret
        exact ⟨rfl, HB3.out⟩
      | true =>
        have hrl : row2.length ≤ 50 := by unfold shO at hsh; simp at hsh; omega
        clear hsh
        go_wp2_with fail
        refine (o_last _ s b os last KL8 w2 HS2.out).mono ?_
        rintro e w3 ⟨rfl, hb3⟩
        have HB3 := Lib.hid (HB2.out.trans (hb3.mono HB2.out.size))
        have hz3 := hb3.size
        have HS3 := Lib.hid (HS2.out.below hb3)
        obtain ⟨c0, c1, c2, c3, c4, c5⟩ := HCE.out w3 HB3.out
        clear hb3
        by_cases h30 : xk.tmod 3 = 0
        · have hq0 : (xk.tmod 3 == 0) = true := by simpa using h30
          have HIN := Lib.hid (o_insert (fun j => j ≠ s ∧ j ≠ b ∧ j ≠ r) (fun j => j < w.heap.size) s b os last KL8 ⟨(k1, k2, k3), v, .slice A2 row2.length cap2⟩ row2 0 w3 HS3.out (fun j hj => ⟨by omega, by omega, by omega⟩) ((row_old HR2.out hrl HC2.out).keep (Below.keepQ HB3.out _)) (by omega) ⟨z1, z2, z3⟩ (Nat.zero_le _) (by omega) (by omega) (by omega))
          unfold oV at HIN
          simp only at HIN
          go_wp2_with fail
          refine HIN.out.mono ?_
          rintro e w4 (⟨h0, rfl, hb4⟩ | ⟨h0, rfl, hS4, ho4⟩)
          · generalize insR KL8 os (k1, k2, k3) row2 = er at *
            clear HIN
            have HB4 := Lib.hid (HB3.out.trans (hb4.mono HB3.out.size))
            have hz4 := hb4.size
            have HS4 := Lib.hid (HS3.out.below hb4)
            have g1 : (er == 0) = false := by simpa using h0
            have g2 : (er != 0) = true := by simpa using h0
            clear hb4 h0
            go_wp2_with fail
            refine (o_last _ s b os last KL8 w4 HS4.out).mono ?_
            rintro e w5 ⟨rfl, hb5⟩
            have HB5 := Lib.hid (HB4.out.trans (hb5.mono HB4.out.size))
            have hz5 := hb5.size
            have HS5 := Lib.hid (HS4.out.below hb5)
            have g3 : (last != last) = false := by simp
            clear hb5
            go_wp2
            go_roundw
            case rel => exact ⟨k + 1, last, by omega, by omega, by go_num, Lib.hid ⟨os, HS5.out, by omega, by omega, by omega⟩, HB5.out, by omega⟩
            case measure => simp [intOf]; omega
          · have HB4 := Lib.hid (HB3.out.trans (ho4.below n1 n2 HB3.out.size))
            have hz4 := ho4.1.size
            have HS4 := Lib.hid hS4
            clear ho4 hS4
            have g4 : (last + 1 != last + 1) = false := by simp
            go_wp2_with fail
            refine (o_last _ s b _ (last + 1) KL8 w4 HS4.out).mono ?_
            rintro e w5 ⟨rfl, hb5⟩
            have HB5 := Lib.hid (HB4.out.trans (hb5.mono HB4.out.size))
            have hz5 := hb5.size
            have HS5 := Lib.hid (HS4.out.below hb5)
            clear hb5
            go_wp2
            go_roundw
            case rel => exact ⟨k + 1, last + 1, by omega, by omega, by go_num, Lib.hid ⟨_, HS5.out, by simp; omega, by omega, by omega⟩, HB5.out, by omega⟩
            case measure => simp [intOf]; omega
        · have hq0 : (xk.tmod 3 == 0) = false := by simpa using h30
          by_cases h31 : xk.tmod 3 = 1
          · have hq1 : (xk.tmod 3 == 1) = true := by simpa using h31
            have HIN := Lib.hid (o_update (fun j => j ≠ s ∧ j ≠ b ∧ j ≠ r) (fun j => j < w.heap.size) s b os last KL8 ⟨(k1, k2, k3), v, .slice A2 row2.length cap2⟩ row2 (posB os (k1, k2, k3)) w3 HS3.out (fun j hj => ⟨by omega, by omega, by omega⟩) ((row_old HR2.out hrl HC2.out).keep (Below.keepQ HB3.out _)) (by omega) ⟨z1, z2, z3⟩ (fun x hx => posB_is hx) (by omega) (by omega) (by omega))
            unfold oV at HIN
            simp only at HIN
            go_wp2_with fail
            refine HIN.out.mono ?_
            rintro e w4 (⟨h0, rfl, hb4⟩ | ⟨h0, rfl, hS4, ho4⟩)
            · generalize updR KL8 os (k1, k2, k3) v row2 = er at *
              clear HIN
              have HB4 := Lib.hid (HB3.out.trans (hb4.mono HB3.out.size))
              have hz4 := hb4.size
              have HS4 := Lib.hid (HS3.out.below hb4)
              have g1 : (er == 0) = false := by simpa using h0
              have g2 : (er != 0) = true := by simpa using h0
              clear hb4 h0
              go_wp2_with fail
              refine (o_last _ s b os last KL8 w4 HS4.out).mono ?_
              rintro e w5 ⟨rfl, hb5⟩
              have HB5 := Lib.hid (HB4.out.trans (hb5.mono HB4.out.size))
              have hz5 := hb5.size
              have HS5 := Lib.hid (HS4.out.below hb5)
              have g3 : (last != last) = false := by simp
              clear hb5
              go_wp2
              go_roundw
              case rel => exact ⟨k + 1, last, by omega, by omega, by go_num, Lib.hid ⟨os, HS5.out, by omega, by omega, by omega⟩, HB5.out, by omega⟩
              case measure => simp [intOf]; omega
            · have HB4 := Lib.hid (HB3.out.trans (ho4.below n1 n2 HB3.out.size))
              have hz4 := ho4.1.size
              have HS4 := Lib.hid hS4
              clear ho4 hS4
              have g4 : (last + 1 != last + 1) = false := by simp
              go_wp2_with fail
              refine (o_last _ s b _ (last + 1) KL8 w4 HS4.out).mono ?_
              rintro e w5 ⟨rfl, hb5⟩
              have HB5 := Lib.hid (HB4.out.trans (hb5.mono HB4.out.size))
              have hz5 := hb5.size
              have HS5 := Lib.hid (HS4.out.below hb5)
              clear hb5
              go_wp2
              go_roundw
              case rel => exact ⟨k + 1, last + 1, by omega, by omega, by go_num, Lib.hid ⟨_, HS5.out, by simp; omega, by omega, by omega⟩, HB5.out, by omega⟩
              case measure => simp [intOf]; omega
          · have hq1 : (xk.tmod 3 == 1) = false := by simpa using h31
            have HDL : Hid (Calls Try.prog 26 #[.pointer (some ⟨s, 0, none⟩), .string k1, .string k2, .string k3, .int .i64 0] w3.drew fun e w4 => ∃ er, e = .returned (.int .i64 er) ∧ (∃ os', StoB w4 (fun j => j ≠ s ∧ j ≠ b ∧ j ≠ r) s b os' last KL8 ∧ os'.length ≤ os.length) ∧ Below w.heap.size w w4 ∧ w3.heap.size ≤ w4.heap.size) := Lib.hid (by
              refine (o_delete (fun j => j ≠ s ∧ j ≠ b ∧ j ≠ r) s b os last KL8 (k1, k2, k3) 0 (posB os (k1, k2, k3)) w3.drew (by exact HS3.out.below (below_drew _ _)) ⟨z1, z2, z3⟩ (fun x hx => (posB_is hx).2)).mono ?_
              rintro e w4 ⟨rfl, ⟨_, hb4⟩ | ⟨_, hS4, ho4⟩⟩
              · have hb4' := (show Below w3.heap.size w3 w3.drew from Below.drew (Below.refl _ _)).trans hb4
                exact ⟨_, rfl, ⟨os, HS3.out.below hb4', Nat.le_refl _⟩, HB3.out.trans (hb4'.mono HB3.out.size), hb4'.size⟩
              · exact ⟨_, rfl, ⟨_, hS4, by simp; omega⟩, HB3.out.trans ((show Below w.heap.size w3 w3.drew from Below.drew (Below.refl _ _)).trans (ho4.below n1 n2 HB3.out.size)), ho4.1.size⟩)
            go_wp2_with fail
            go_region_held3 (fun w' => w'.cell? { block := (a.add (k * 6)).block, off := (a.add (k * 6)).off + 1 } = some (.string k1) ∧ w'.cell? { block := (a.add (k * 6)).block, off := (a.add (k * 6)).off + 1 + 1 } = some (.string k2) ∧ w'.cell? { block := (a.add (k * 6)).block, off := (a.add (k * 6)).off + 1 + 2 } = some (.string k3)) (go_keep)
              (first | (go_at_call 26; refine HDL.out.mono ?_; rintro e w4 ⟨er, rfl, ⟨os4, hS4, ho4⟩, hb4, hz4⟩; have HB4 := Lib.hid hb4; have HS4 := Lib.hid hS4; obtain ⟨_, e1, e2, e3, _, _⟩ := HCE.out w4 hb4; have e2' : w4.cell? { block := (a.add (k * 6)).block, off := (a.add (k * 6)).off + 1 + 1 } = some (.string k2) := e2; have e3' : w4.cell? { block := (a.add (k * 6)).block, off := (a.add (k * 6)).off + 1 + 2 } = some (.string k3) := e3; clear hb4 hS4))
            clear HDL
            go_wp2_with fail
            refine (o_last _ s b _ last KL8 w4 HS4.out).mono ?_
            rintro e w5 ⟨rfl, hb5⟩
            have HB5 := Lib.hid (HB4.out.trans (hb5.mono HB4.out.size))
            have hz5 := hb5.size
            have HS5 := Lib.hid (HS4.out.below hb5)
            have g3 : (last != last) = false := by simp
            clear hb5
            go_wp2
            go_roundw
            case rel => exact ⟨k + 1, last, by omega, by omega, by go_num, Lib.hid ⟨_, HS5.out, by omega, by omega, by omega⟩, HB5.out, by omega⟩
            case measure => simp [intOf]; omega
    · have HBW := Lib.hid hb
      have hpl : decide ((0 : Int) < ((⟨(lineS podS8).toArray⟩ : ByteArray).size : Int)) = true := by decide +kernel
      have HPL := Lib.hid hpl
      clear hb hpl HST
      rcases (show n ≤ k ∨ (k < n ∧ 150 ≤ k) by omega) with h1 | ⟨h1, h2⟩
      all_goals
        go_wp2_with fail
        refine (l_kinds wr).mono ?_
        rintro e w2 ⟨v2, rfl, hk2, hb2⟩
        have HB2 := Lib.hid (HBW.out.trans (hb2.mono HBW.out.size))
        obtain ⟨A2, c2, va, rfl, hcl, p0, p1⟩ := kinds_first hk2
        have HLN := Lib.hid (ref_line _ podS8 va w2 hcl)
        unfold podS8 at HLN
        obtain ⟨L, hL⟩ : ∃ L : ByteArray, L = ⟨(lineS podS8).toArray⟩ := ⟨_, rfl⟩
        unfold podS8 at hL
        simp only at HLN
        rw [← hL] at HLN
        have hl0 : decide ((0 : Int) < (L.size : Int)) = true := by rw [hL]; exact HPL.out
        have hl9 : 0 < L.size := by simpa using hl0
        clear hb2 hk2 hcl hL
        go_wp2_with fail
        refine HLN.out.mono ?_
        rintro e w3 ⟨rfl, hb3⟩
        have HB3 := Lib.hid (HB2.out.trans (hb3.mono HB2.out.size))
        clear hb3 HLN p0 p1
        go_wp2_with fail
        refine (known8 _).mono ?_
        rintro e w4 ⟨rfl, hb4⟩
        have HB4 := Lib.hid (HB3.out.trans (hb4.mono HB3.out.size))
        clear hb4
        go_wp2
        go_ret
        exact ⟨rfl, HB4.out⟩
end Go.Proofs.Ytoeggpoeongnhaa
