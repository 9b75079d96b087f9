/-
  The document's Users: the names of the rules that ask one.
  Condition: no more than a hundred rules with few literals; names no longer than texts can be.
-/
import Derived.Test.YtojpccngcicbmaaYe
namespace Go.Proofs.Ytojpccngcicbmaa
open Go.RowKit Go.Maps

/-- Rules as literals: of kind 0 where they ask the name. -/
def ult (name : ByteArray) (l : List Rl) : List Lt := l.map fun r => (if hasX name r.asks = true then 0 else 1, r.nm)
theorem ult_at {name : ByteArray} {l : List Rl} {i : Nat} {r : Rl} (h : l[i]? = some r) : (ult name l)[i]? = some (if hasX name r.asks = true then 0 else 1, r.nm) := by unfold ult; rw [List.getElem?_map, h]; rfl
theorem ult_len (name : ByteArray) (l : List Rl) : (ult name l).length = l.length := by unfold ult; rw [List.length_map]
theorem ult_take (name : ByteArray) (l : List Rl) (k : Nat) : (ult name l).take k = ult name (l.take k) := by unfold ult; rw [List.map_take]
/-- The names of the rules that ask one. -/
def usersS (name : ByteArray) (l : List Rl) : List ByteArray := asksS (ult name l)

set_option maxRecDepth 100000 in
set_option maxHeartbeats 4000000 in
theorem r_users (name : ByteArray) (l : List Rl) (B : Option Addr) (d : Nat) (w : World) (hl : l.length ≤ 100) (hA : RlsAt w B l) (hsz : ∀ r ∈ l, r.nm.size ≤ maxLen) :
    Calls Try.prog 13 #[.string name, .slice B l.length d] w fun e w' => ∃ A c, e = .returned (.slice A (usersS name l).length c) ∧ TxsAt w' A (usersS name l) ∧ Head0 A ∧ Below w.heap.size w w' := by
  have HA := Lib.hid hA
  have HSZ := Lib.hid hsz
  clear hA hsz
  unfold usersS
  go_enter Try.func13, Try.ntmps13
  go_wp2
  go_loopw [5, 6] (fun v i wr => ∃ (k : Nat) (A : Option Addr) (c : Nat), k ≤ l.length ∧ i = .int .i64 k ∧ v = .slice A (asksS (ult name (l.take k))).length c ∧ TxsAt wr A (asksS (ult name (l.take k))) ∧ Head0 A ∧ Below w.heap.size w wr) (fun _ i _ => l.length - (intOf i).toNat)
  case atStart => exact ⟨0, none, 0, Nat.zero_le _, rfl, rfl, fun j s hj => by simp [ult, asksS] at hj, (by intro a h; cases h), Below.refl _ _⟩
  case round =>
    obtain ⟨k, A, c, hk, rfl, rfl, htx, hag, hb⟩ := hrel
    have HB := Lib.hid hb
    have HTX := Lib.hid htx
    have hlk := HA.out.below hb
    have hal := asksS_len (ult name (l.take k))
    rw [ult_len, List.length_take] at hal
    have hal2 : (asksS (ult name (l.take k))).length ≤ 100 := by omega
    have HSR := Lib.hid (asksS_srt (ult name (l.take k)))
    by_cases hlt : k < l.length
    · obtain ⟨r, hr⟩ : ∃ r, l[k]? = some r := ⟨_, List.getElem?_eq_getElem hlt⟩
      obtain ⟨a, rfl, ⟨d0, d1, d2, d3, d4, d5, d6⟩, hok⟩ := hlk k r hr
      have hs := asksS_take (ult name l) k _ (ult_at hr)
      rw [ult_take, ult_take] at hs
      simp only at hs
      have hnm := HSZ.out r (List.mem_of_getElem? hr)
      have hral : r.asks.length ≤ 40 := Nat.le_trans r.asks_len hok.2.1
      have HS := Lib.hid hs
      have HD1 := Lib.hid d1
      have HASK := Lib.hid (r_asks r wr hok)
      clear hb hlk hs hr hal htx
      generalize r.asks = az at *
      generalize hL : asksS (ult name (l.take k)) = L at *
      generalize hL1 : asksS (ult name (l.take (k + 1))) = L1 at *
      have HLE := Lib.hid hL1
      clear hL hL1
      unfold Rl.cells at HASK
      go_wp2_with fail
      refine HASK.out.mono ?_
      rintro e w2 ⟨A2, c2, rfl, htx2, hag2, hb2⟩
      have HB2 := Lib.hid (HB.out.trans (hb2.mono HB.out.size))
      have HTL := Lib.hid (HTX.out.below hb2)
      have HD2 := Lib.hid ((hb2.cell (p := { block := (a.add (k * 7)).block, off := (a.add (k * 7)).off + 1 }) (World.block_lt_of_cell? wr _ HD1.out)).trans HD1.out)
      have HH := Lib.hid (r_hasY az A2 c2 name w2 (by omega) htx2 hag2)
      clear hb2 htx2 hag2 d0 d1 d2 d3 d4 d5 d6 HASK
      go_wp2_with fail
      refine HH.out.mono ?_
      rintro e w3 ⟨rfl, hb3⟩
      have HB3 := Lib.hid (HB2.out.trans (hb3.mono HB2.out.size))
      have HTL3 := Lib.hid (HTL.out.below hb3)
      have d3 := (hb3.cell (p := { block := (a.add (k * 7)).block, off := (a.add (k * 7)).off + 1 }) (World.block_lt_of_cell? w2 _ HD2.out)).trans HD2.out
      clear hb3 HH
      rcases Bool.eq_false_or_eq_true (hasX name az) with hh | hh
      · rw [hh] at HS ⊢
        rw [if_pos rfl, if_pos rfl] at HS
        have HPT := Lib.hid (r_put L A c r.nm w3 (by omega) HSR.out hnm HTL3.out hag)
        clear hh
        go_wp2_with fail
        refine HPT.out.mono ?_
        rintro e w4 ⟨A4, c4, rfl, htx4, hag4, hb4⟩
        rw [← HS.out] at htx4 ⊢
        have HT4 := Lib.hid htx4
        have HG4 := Lib.hid hag4
        have HB4 := Lib.hid (HB3.out.trans (hb4.mono HB3.out.size))
        clear htx4 hag4 hb4
        go_wp2
        go_roundw
        case rel => exact ⟨k + 1, A4, c4, by omega, by go_num, by rw [HLE.out], by rw [HLE.out]; exact HT4.out, HG4.out, HB4.out⟩
        case measure => simp [intOf]; omega
      · rw [hh] at HS ⊢
        rw [if_neg Bool.false_ne_true, if_neg (by decide)] at HS
        clear hh
        go_wp2
        go_roundw
        case rel => exact ⟨k + 1, A, c, by omega, by go_num, by rw [HLE.out, HS.out], by rw [HLE.out, HS.out]; exact HTL3.out, hag, HB3.out⟩
        case measure => simp [intOf]; omega
    · have hkk : l.take k = l := List.take_of_length_le (by omega)
      rw [hkk] at HTX
      have HKK := Lib.hid hkk
      clear hb hlk hkk htx
      go_wp2
      go_ret
      exact ⟨A, c, by rw [HKK.out]; rfl, HTX.out, hag, HB.out⟩
end Go.Proofs.Ytojpccngcicbmaa
