/-
  The statement's few and place.
  Condition: what lies in memory as rules of any number.
-/
import Derived.Test.YtojpccngcicbmaaYh
namespace Go.Proofs.Ytojpccngcicbmaa
open Go.RowKit Go.Maps

/-- Rules lie at A, all of each. -/
def RlfsAt (W : World) (A : Option Addr) (l : List Rl) : Prop := ∀ (i : Nat) (r : Rl), l[i]? = some r → ∃ a : Addr, A = some a ∧ RlAt W (a.add (i * 7)) r ∧ r.Full W
theorem RlfsAt.below {w w' : World} {A : Option Addr} {l : List Rl} (h : RlfsAt w A l) (hb : Below w.heap.size w w') : RlfsAt w' A l := by
  intro i r hi
  obtain ⟨a, ha, h1, h2⟩ := h i r hi
  exact ⟨a, ha, h1.below hb, h2.below hb⟩
/-- What follows where there are few rules. -/
def fewL (l : List Rl) : Prop := l.length ≤ 16 ∧ ∀ r ∈ l, r.few
theorem RlfsAt.rls {w : World} {A : Option Addr} {l : List Rl} (h : RlfsAt w A l) (hf : fewL l) : RlsAt w A l := by
  intro i r hi
  obtain ⟨a, ha, h1, h2⟩ := h i r hi
  have hq := hf.2 r (List.mem_of_getElem? hi)
  exact ⟨a, ha, h1, h2.1, hq.1, fun x hx => by have := hq.2 x hx; unfold maxLen; omega⟩

set_option maxRecDepth 100000 in
set_option maxHeartbeats 4000000 in
theorem lw_few (l : List Rl) (A : Option Addr) (c : Nat) (w : World) (hA : RlfsAt w A l) (hl : l.length ≤ maxLen) :
    Calls Try.prog 5 #[.slice A l.length c] w fun e w' => FewP (fewL l) w e w' := by
  have HA := Lib.hid hA
  have HP : Hid (∀ (q : Bool) (w' : World), (q = true → fewL l) → Below w.heap.size w w' → FewP (fewL l) w (Ending.returned (.bool q)) w') := Lib.hid fun q w' h1 h2 => ⟨q, rfl, h1, h2⟩
  have HF : Hid (l.length ≤ 16 → (∀ r ∈ l, r.few) → fewL l) := Lib.hid fun h1 h2 => ⟨h1, h2⟩
  unfold maxLen at hl
  clear hA
  generalize fewL l = few at *
  go_enter Try.func5, Try.ntmps5
  by_cases z1 : (16 : Int) < (l.length : Int)
  · go_wp2
    go_ret
    exact HP.out false _ (fun h => absurd h Bool.false_ne_true) (Below.refl _ _)
  go_wp2
  go_loopw [3] (fun i wr => ∃ k : Nat, i = .int .i64 k ∧ k ≤ l.length ∧ Hid (∀ r ∈ l.take k, r.few) ∧ Below w.heap.size w wr) (fun i _ => l.length - (intOf i).toNat)
  case atStart => exact ⟨0, rfl, by omega, Lib.hid (by simp), Below.refl _ _⟩
  case round =>
    obtain ⟨k, rfl, hk, HJ, hb⟩ := hrel
    have HB := Lib.hid hb
    have hta := HA.out.below hb
    clear hb
    by_cases hlt : k < l.length
    · obtain ⟨r, hr⟩ : ∃ r, l[k]? = some r := ⟨_, List.getElem?_eq_getElem hlt⟩
      obtain ⟨a, rfl, ⟨d0, d1, d2, d3, d4, d5, d6⟩, hfull⟩ := hta k r hr
      have HR := Lib.hid hr
      have HQ := Lib.hid (r_few r wr hfull)
      unfold Rl.cells at HQ
      clear hta hr hfull
      go_wp2_with fail
      refine HQ.out.mono ?_
      rintro e w2 ⟨q, rfl, hq, hb2⟩
      have HB2 := Lib.hid (HB.out.trans (hb2.mono HB.out.size))
      clear hb2 d0 d1 d2 d3 d4 d5 d6 HQ
      cases q with
      | true =>
        have HJ2 : Hid (∀ y ∈ l.take (k + 1), y.few) := Lib.hid fun y hy => by
          rw [List.take_add_one, HR.out, Option.toList_some] at hy
          rcases List.mem_append.1 hy with h | h
          · exact HJ.out y h
          · rw [List.mem_singleton.1 h]; exact hq rfl
        clear hq
        go_wp2
        go_roundw
        case rel => exact ⟨k + 1, by go_num, by omega, HJ2, HB2.out⟩
        case measure => simp [intOf]; omega
      | false =>
        clear hq
        go_wp2
        go_ret
        exact HP.out false _ (fun h => absurd h Bool.false_ne_true) HB2.out
    · have hkk : l.take k = l := List.take_of_length_le (by omega)
      rw [hkk] at HJ
      clear hkk hta
      go_wp2
      go_ret
      exact HP.out true _ (fun _ => HF.out (by omega) HJ.out) HB.out

set_option maxRecDepth 100000 in
set_option maxHeartbeats 2000000 in
theorem lw_place (ss : List ByteArray) (A : Option Addr) (c : Nat) (s : ByteArray) (w : World) (hl : ss.length ≤ 1000) (hA : TxsAt w A ss) (hag : Head0 A) :
    Calls Try.prog 16 #[.slice A ss.length c, .string s] w fun e w' => e = .returned (.int .i64 (posS ss s)) ∧ Below w.heap.size w w' := by
  have HA := Lib.hid hA
  have HAG := Lib.hid hag
  clear hA hag
  go_enter Try.func16, Try.ntmps16
  go_wp2
  go_loopw [5] (fun i wr => ∃ k : Nat, i = .int .i64 k ∧ k ≤ ss.length ∧ hasX s (ss.take k) = false ∧ Below w.heap.size w wr) (fun i _ => ss.length - (intOf i).toNat)
  case atStart => exact ⟨0, rfl, by omega, by simp [hasX], Below.refl _ _⟩
  case round =>
    obtain ⟨k, rfl, hk, hno, hb⟩ := hrel
    have HB := Lib.hid hb
    have hta := HA.out.below hb
    clear hb
    by_cases hlt : k < ss.length
    · obtain ⟨g, rfl⟩ := hta.head HAG.out (by omega)
      obtain ⟨x, hx⟩ : ∃ x, ss[k]? = some x := ⟨_, List.getElem?_eq_getElem hlt⟩
      have c0 := hta.at k _ hx
      have hs := hasX_succ s ss k x hx
      rw [hno, Bool.false_or] at hs
      have hall : (x.toList == s.toList) = true → posS ss s = (k : Int) := fun h => posS_at hno hx h
      have HS := Lib.hid hs
      have HALL := Lib.hid hall
      clear hta hno hs hx hall
      rcases Bool.eq_false_or_eq_true (x.toList == s.toList) with hh | hh
      · rw [hh] at HALL
        have HR := Lib.hid (HALL.out rfl)
        clear HALL HS
        go_wp2
        go_ret
        exact ⟨by rw [HR.out]; rfl, HB.out⟩
      · rw [hh] at HS
        clear HALL
        go_wp2
        go_roundw
        case rel => exact ⟨k + 1, by go_num, by omega, HS.out, HB.out⟩
        case measure => simp [intOf]; omega
    · have hd : posS ss s = -1 := by
        rw [List.take_of_length_le (by omega)] at hno
        exact posS_none hno
      have HD := Lib.hid hd
      clear hno hd hta
      go_wp2
      go_ret
      exact ⟨by rw [HD.out]; rfl, HB.out⟩
end Go.Proofs.Ytojpccngcicbmaa
