/-
  The document's texts in order: putting one more (a list of any place is read; what is answered is that list or one of the call's own), and whether a text is one of some.
  Condition: lists of no more than a thousand texts; texts no longer than texts can be.
-/
import Derived.Test.YtojpccngcicbmaaYb
namespace Go.Proofs.Ytojpccngcicbmaa
open Go.RowKit Go.Maps

theorem ref_textY (a b : ByteArray) (w : World) (ha : a.size ≤ maxLen) : Calls Try.prog 32 #[.string a, .string b] w fun e w' => e = .returned (.int .i64 (cmpS a b)) ∧ Below w.heap.size w w' :=
  (ref_text a b w ha).mono fun e w' ⟨h, n, hw⟩ => ⟨h, by rw [hw]; exact below_drewN' (Below.refl _ _) n⟩
/-- A list of texts that can be handed on: no address without one, and one that begins at a block's first cell. -/
def Head0 (A : Option Addr) : Prop := ∀ a, A = some a → ∃ g, a = ⟨g, 0, none⟩
set_option maxRecDepth 100000 in
set_option maxHeartbeats 2000000 in
theorem r_hasY (ss : List ByteArray) (A : Option Addr) (c : Nat) (s : ByteArray) (w : World) (hl : ss.length ≤ 1000) (hA : TxsAt w A ss) (hag : Head0 A) :
    Calls Try.prog 30 #[.slice A ss.length c, .string s] w fun e w' => e = .returned (.bool (hasX s ss)) ∧ Below w.heap.size w w' := by
  have HA := Lib.hid hA
  have HAG := Lib.hid hag
  clear hA hag
  go_enter Try.func30, Try.ntmps30
  go_wp2
  go_loopw [5] (fun i wr => ∃ k : Nat, i = .int .i64 k ∧ k ≤ ss.length ∧ hasX s (ss.take k) = false ∧ Below w.heap.size w wr) (fun i _ => ss.length - (intOf i).toNat)
  case atStart => exact ⟨0, rfl, by omega, by simp [hasX], Below.refl _ _⟩
  case round =>
    obtain ⟨k, rfl, hk, hno, hb⟩ := hrel
    have HB := Lib.hid hb
    have hta := HA.out.below hb
    clear hb
    by_cases hlt : k < ss.length
    · obtain ⟨g, rfl⟩ := hta.head HAG.out (by omega)
      obtain ⟨x, hx⟩ : ∃ x, ss[k]? = some x := ⟨_, List.getElem?_eq_getElem hlt⟩
      have c0 := hta.at k _ hx
      have hs := hasX_succ s ss k x hx
      rw [hno, Bool.false_or] at hs
      have hall : (x.toList == s.toList) = true → hasX s ss = true := fun h => hasX_iff.2 (toList_eqT.1 h ▸ List.mem_of_getElem? hx)
      have HS := Lib.hid hs
      have HALL := Lib.hid hall
      clear hta hno hs hx hall
      rcases Bool.eq_false_or_eq_true (x.toList == s.toList) with hh | hh
      · rw [hh] at HALL
        have HR := Lib.hid (HALL.out rfl)
        clear HALL HS
        go_wp2
        go_ret
        exact ⟨by rw [HR.out]; rfl, HB.out⟩
      · rw [hh] at HS
        clear HALL
        go_wp2
        go_roundw
        case rel => exact ⟨k + 1, by go_num, by omega, HS.out, HB.out⟩
        case measure => simp [intOf]; omega
    · have hd : hasX s ss = false := by
        rw [List.take_of_length_le (by omega)] at hno
        exact hno
      have HD := Lib.hid hd
      clear hno hd
      go_wp2
      go_ret
      exact ⟨by rw [HD.out]; rfl, HB.out⟩

set_option maxRecDepth 100000 in
set_option maxHeartbeats 4000000 in
/-- A text more in order: the list that is there, or one of the call's own. -/
theorem r_put (ss : List ByteArray) (A : Option Addr) (c : Nat) (s : ByteArray) (w : World) (hl : ss.length ≤ 1000) (hss : SrtS ss) (hsz : s.size ≤ maxLen) (hA : TxsAt w A ss) (hag : Head0 A) :
    Calls Try.prog 21 #[.slice A ss.length c, .string s] w fun e w' => ∃ A' c', e = .returned (.slice A' (putS ss s).length c') ∧ TxsAt w' A' (putS ss s) ∧ Head0 A' ∧ Below w.heap.size w w' := by
  have HA := Lib.hid hA
  have HAG := Lib.hid hag
  have HSS := Lib.hid hss
  have HT := Lib.hid (fun (x : ByteArray) (W : World) => ref_textY s x W hsz)
  clear hA hag hss
  go_enter Try.func21, Try.ntmps21
  go_wp2
  go_loopw [5, 6, 7] (fun v t i wr => ∃ (k : Nat) (told : Bool) (out : List ByteArray), k ≤ ss.length ∧ i = .int .i64 k ∧ t = .bool told ∧ PutAt s (ss.take k) told out ∧ OwnL wr w.heap.size v out ∧ Below w.heap.size w wr) (fun _ _ i _ => ss.length - (intOf i).toNat)
  case atStart => exact ⟨0, false, [], Nat.zero_le _, rfl, rfl, PutAt.nil s, OwnL.nil _ _, Below.refl _ _⟩
  case round =>
    obtain ⟨k, told, out, hk, rfl, rfl, hp, hown, hb⟩ := hrel
    have hlo := hp.len
    rw [List.length_take] at hlo
    have hlo2 : out.length ≤ 1001 := by omega
    have HO := Lib.hid hown
    have HB := Lib.hid hb
    have HP := Lib.hid hp
    have hta := HA.out.below hb
    clear hb hp hlo
    by_cases hlt : k < ss.length
    · obtain ⟨g, rfl⟩ := hta.head HAG.out (by omega)
      obtain ⟨x, hx⟩ : ∃ x, ss[k]? = some x := ⟨_, List.getElem?_eq_getElem hlt⟩
      have c0 := hta.at k _ hx
      have HC0 := Lib.hid c0
      have htk : ss.take (k + 1) = ss.take k ++ [x] := by rw [List.take_add_one, hx]; rfl
      have HTK := Lib.hid htk
      have hin : cmpS s x = 0 → putS ss s = ss := fun h => putS_in HSS.out (cmpS_eqY s x h ▸ List.mem_of_getElem? hx)
      have HIN := Lib.hid hin
      have HTX := Lib.hid (HT.out x wr)
      have HX := Lib.hid hx
      clear hta hx htk hin
      generalize hd : cmpS s x = d at HTX
      have HDD := Lib.hid hd
      clear hd
      go_wp2_with fail
      refine HTX.out.mono ?_
      rintro e w2 ⟨rfl, hb2⟩
      have HB2 := Lib.hid (HB.out.trans (hb2.mono HB.out.size))
      have HO2 := Lib.hid (HO.out.below hb2 (Nat.le_refl _))
      have c1 := (hb2.cell (World.block_lt_of_cell? wr _ HC0.out)).trans HC0.out
      clear hb2 c0 HTX hown
      by_cases h0 : d = 0
      · subst h0
        have HR := Lib.hid (HIN.out HDD.out)
        go_wp2
        go_ret
        refine ⟨some ⟨g, 0, none⟩, c, ?_, ?_, HAG.out, HB2.out⟩
        · rw [HR.out]; rfl
        · rw [HR.out]
          exact HA.out.below HB2.out
      · have HC1 := Lib.hid c1
        obtain ⟨A2, c2, rfl⟩ := HO2.out.form
        cases told with
        | true =>
          go_wp2_with (at_builtin; go_must (refine wp_append_L _ rfl (.tmp 34) (.tmp 39) rfl w.heap.size _ out x rfl (World.ownsRow.alloc HO2.out _) ⟨w2.heap.size, 0, none⟩ 1 rfl (new_cellT _ _ _ 0) (by omega) (by have := HB2.out.size; simp; omega) ?_; intro v' w3 hown3 hb3))
          have HO3 := Lib.hid hown3
          have HB3 := Lib.hid (HB2.out.trans (((one_new w2 _).mono HB2.out.size).trans hb3))
          clear hown3 hb3
          go_wp2
          go_roundw
          case rel => exact ⟨k + 1, true, out ++ [x], by omega, by go_num, rfl, by rw [HTK.out]; exact HP.out.more x, HO3.out, HB3.out⟩
          case measure => simp [intOf]; omega
        | false =>
          by_cases h1 : d < 0
          · have hq1 := HP.out.one (x := x) (by rw [HDD.out]; omega)
            have hol : (out ++ [s]).length ≤ 1002 := by rw [List.length_append, List.length_singleton]; omega
            obtain ⟨o2, ho2⟩ : ∃ o2, out ++ [s] = o2 := ⟨_, rfl⟩
            rw [ho2] at hq1 hol
            have HQ1 := Lib.hid hq1
            have HO2E := Lib.hid ho2
            clear hq1 ho2
            go_wp2_with (at_builtin; first
              | (refine wp_append_L _ rfl (.tmp 30) (.tmp 32) rfl w.heap.size _ out s rfl (World.ownsRow.alloc HO2.out _) ⟨w2.heap.size, 0, none⟩ 1 rfl (new_cellT _ _ _ 0) (by omega) (by have := HB2.out.size; simp; omega) ?_; intro v' w3 hown3 hb3; rw [HO2E.out] at hown3; have HB3 := Lib.hid (HB2.out.trans (((one_new w2 _).mono HB2.out.size).trans hb3)); have c3 := (HA.out.below HB3.out).at k x HX.out; have HO3 := Lib.hid hown3; obtain ⟨A3, c3', rfl⟩ := hown3.form; clear hown3 hb3)
              | (refine wp_append_L _ rfl (.tmp 34) (.tmp 39) rfl w.heap.size _ o2 x rfl (World.ownsRow.alloc HO3.out _) ⟨_, 0, none⟩ 1 rfl (new_cellT _ _ _ 0) (by omega) (by have := HB3.out.size; simp; omega) ?_; intro v'' w4 hown4 hb4))
            have HO4 := Lib.hid hown4
            have HB4 := Lib.hid (HB3.out.trans (((one_new w3 _).mono HB3.out.size).trans hb4))
            clear hown4 hb4
            go_wp2
            go_roundw
            case rel => exact ⟨k + 1, true, o2 ++ [x], by omega, by go_num, rfl, by rw [HTK.out]; exact HQ1.out, HO4.out, HB4.out⟩
            case measure => simp [intOf]; omega
          · go_wp2_with (at_builtin; go_must (refine wp_append_L _ rfl (.tmp 34) (.tmp 39) rfl w.heap.size _ out x rfl (World.ownsRow.alloc HO2.out _) ⟨w2.heap.size, 0, none⟩ 1 rfl (new_cellT _ _ _ 0) (by omega) (by have := HB2.out.size; simp; omega) ?_; intro v' w3 hown3 hb3))
            have HO3 := Lib.hid hown3
            have HB3 := Lib.hid (HB2.out.trans (((one_new w2 _).mono HB2.out.size).trans hb3))
            clear hown3 hb3
            go_wp2
            go_roundw
            case rel => exact ⟨k + 1, false, out ++ [x], by omega, by go_num, rfl, by rw [HTK.out]; exact HP.out.past (by rw [HDD.out]; omega), HO3.out, HB3.out⟩
            case measure => simp [intOf]; omega
    · have htk : ss.take k = ss := List.take_of_length_le (by omega)
      rw [htk] at HP
      clear hta htk hown
      obtain ⟨A2, c2, rfl⟩ := HO.out.form
      cases told with
      | true =>
        have HL := Lib.hid HP.out.lastIn
        go_wp2
        go_ret
        obtain ⟨A3, c3, he, _, _, hat, hag⟩ := HO.out.slice
        rw [HL.out] at he hat
        exact ⟨A3, c3, by rw [← he, ← HL.out]; rfl, hat, hag, HB.out⟩
      | false =>
        have HL := Lib.hid HP.out.lastNot
        go_wp2_with (at_builtin; go_must (refine wp_append_L _ rfl (.tmp 43) (.tmp 45) rfl w.heap.size _ out s rfl (World.ownsRow.alloc HO.out _) ⟨wr.heap.size, 0, none⟩ 1 rfl (new_cellT _ _ _ 0) (by omega) (by have := HB.out.size; simp; omega) ?_; intro v' w3 hown3 hb3))
        have HO3 := Lib.hid hown3
        have HB3 := Lib.hid (HB.out.trans (((one_new wr _).mono HB.out.size).trans hb3))
        clear hown3 hb3
        go_wp2
        go_ret
        obtain ⟨A3, c3, he, _, _, hat, hag⟩ := HO3.out.slice
        rw [HL.out] at he hat
        exact ⟨A3, c3, by rw [← he]; rfl, hat, hag, HB3.out⟩
end Go.Proofs.Ytojpccngcicbmaa
