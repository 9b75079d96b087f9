/-
  guessColumn of package schema answers the only column that a word may be; nothing that was there is changed.
  Condition: the library's variable MaxLen holds a number; the word is no longer than a million bytes.
-/
import Derived.Test.YtgifkigamebofaaDoorSline
import Derived.Test.YtgifkigamebofaaDoorShelf2
namespace Go.Proofs.YtgifkigamebofaaDoor
open Go.RowKit

/-- The library's variable holds a number. -/
def MV (w : World) : Prop := ∃ m, w.cell? ⟨0, 0, none⟩ = some (.int .i64 m)
theorem MV.lt {w : World} (h : MV w) : 0 < w.heap.size := by
  obtain ⟨m, hm⟩ := h
  exact World.block_lt_of_cell? w _ hm
theorem MV.later {w w' : World} (h : MV w) (hb : Below w.heap.size w w') : MV w' := by
  have hlt := h.lt
  obtain ⟨m, hm⟩ := h
  exact ⟨m, (hb.cell (p := ⟨0, 0, none⟩) hlt).trans hm⟩

def pickC (nm called : ByteArray) (nl : Bool) : Co :=
  if sameNm (wordR 1) called = true then ⟨nm, 1, nl⟩ else if sameNm (wordR 2) called = true then ⟨nm, 2, nl⟩ else if sameNm (wordR 3) called = true then ⟨nm, 3, nl⟩ else ⟨⟨#[]⟩, 0, false⟩
/-- The only column that a word may be. -/
def guessC (s : ByteArray) : Co :=
  pickC ⟨(Lib.cut (Lib.trimSuffix s.data.toList [63]) [58]).1.toArray⟩ ⟨(Lib.cut (Lib.trimSuffix s.data.toList [63]) [58]).2.1.toArray⟩ (Lib.hasSuffix s.data.toList [63])

theorem trim_len (l p : List UInt8) : (Lib.trimSuffix l p).length ≤ l.length := by
  unfold Lib.trimSuffix
  split
  · rw [List.length_take]; omega
  · exact Nat.le_refl _

def pickK (nm ca : ByteArray) (nl : Bool) : Nat → Co
  | 0 => pickC nm ca nl
  | 1 => if sameNm (wordR 2) ca = true then ⟨nm, 2, nl⟩ else if sameNm (wordR 3) ca = true then ⟨nm, 3, nl⟩ else ⟨⟨#[]⟩, 0, false⟩
  | 2 => if sameNm (wordR 3) ca = true then ⟨nm, 3, nl⟩ else ⟨⟨#[]⟩, 0, false⟩
  | _ => ⟨⟨#[]⟩, 0, false⟩

set_option maxRecDepth 100000 in
set_option maxHeartbeats 4000000 in
theorem s_guessC (s : ByteArray) (w : World) (hs : s.size ≤ 1000000) (hm : MV w) :
    Calls Tryd.prog 43 #[.string s] w fun e w' => e = .returned (guessC s).val ∧ Below w.heap.size w w' := by
  have HM := Lib.hid hm
  obtain ⟨t, ht⟩ : ∃ t : ByteArray, t = ⟨(Lib.trimSuffix s.data.toList [63]).toArray⟩ := ⟨_, rfl⟩
  obtain ⟨nm, hnm⟩ : ∃ nm : ByteArray, nm = ⟨(Lib.cut t.data.toList [58]).1.toArray⟩ := ⟨_, rfl⟩
  obtain ⟨ca, hca⟩ : ∃ ca : ByteArray, ca = ⟨(Lib.cut t.data.toList [58]).2.1.toArray⟩ := ⟨_, rfl⟩
  obtain ⟨nl, hnl⟩ : ∃ nl, nl = Lib.hasSuffix s.data.toList [63] := ⟨_, rfl⟩
  obtain ⟨fo, hfo⟩ : ∃ fo, fo = (Lib.cut t.data.toList [58]).2.2 := ⟨_, rfl⟩
  have hg : guessC s = pickC nm ca nl := by rw [hnm, hca, hnl, ht]; rfl
  rw [hg]
  have htl : t.size ≤ 1000000 := by
    have h1 := trim_len s.data.toList [63]
    have h2 : s.data.toList.length = s.size := rfl
    rw [ht]
    show (Lib.trimSuffix s.data.toList [63]).toArray.size ≤ _
    rw [List.size_toArray]
    omega
  have HCS := Lib.hid (fun W : World => Tryd.strings_CutSuffix s ⟨#[63]⟩ W (by omega))
  have HCU := Lib.hid (fun (W : World) (m : Int) (h : W.cell? ⟨0, 0, none⟩ = some (.int .i64 m)) => Tryd.strings_Cut t ⟨#[58]⟩ m W (by omega) h)
  have HT := Lib.hid ht
  have HN := Lib.hid (And.intro hnm (And.intro hca (And.intro hnl hfo)))
  clear hm ht hnm hca hnl hfo hg htl
  obtain ⟨G, hG⟩ : ∃ G, pickC nm ca nl = G := ⟨_, rfl⟩
  rw [hG]
  have HG := Lib.hid hG
  clear hG
  go_enter Tryd.func43, Tryd.ntmps43
  go_wp2_with fail
  refine (HCS.out _).mono ?_
  rintro e w1 ⟨he, rfl⟩
  have he' : e = .returned (.tuple #[.string t, .bool nl]) := by rw [he, HT.out, HN.out.2.2.1]
  subst he'
  clear he
  go_wp2_with fail
  obtain ⟨m, hm⟩ := HM.out.later (one_new w (.cells #[.string ⟨#[]⟩, .int .i64 0, .bool false] 49))
  refine (HCU.out _ m hm).mono ?_
  rintro e w1 ⟨he, n, rfl⟩
  have he' : e = .returned (.tuple #[.string nm, .string ca, .bool fo]) := by rw [he, HN.out.1, HN.out.2.1, HN.out.2.2.2]
  subst he'
  clear he hm HCS HCU HT HN HM
  go_wp2
  go_loopw [21] (fun i wr => ∃ k : Nat, k ≤ 3 ∧ i = .int .i64 k ∧ pickK nm ca nl k = G ∧ wr = (w.alloc (.cells #[.string ⟨#[]⟩, .int .i64 0, .bool false] 49)).drewN n) (fun i _ => 3 - (intOf i).toNat)
  case atStart => exact ⟨0, by decide, rfl, HG.out, rfl⟩
  case round =>
    obtain ⟨k, hk, rfl, hq, rfl⟩ := hrel
    rcases (show k = 0 ∨ k = 1 ∨ k = 2 ∨ k = 3 by omega) with rfl | rfl | rfl | rfl
    · have hq2 : (if sameNm (wordR 1) ca = true then (⟨nm, 1, nl⟩ : Co) else pickK nm ca nl 1) = G := hq
      have HWD := Lib.hid (fun W : World => s_word 1 W)
      have ix : ∀ W : World, (Instr.index 84 (.agg #[.int .i64 1, .int .i64 2, .int .i64 3]) (.int .i64 0)).run Tryd.prog W = .ok (.int .i64 1) W := fun W => by rfl
      rcases Bool.eq_false_or_eq_true (sameNm (wordR 1) ca) with hz | hz
      · rw [if_pos hz] at hq2
        subst hq2
        generalize wordR 1 = wd at *
        have bz : (wd.toList == ca.toList) = true := hz
        clear hz hq
        go_wp2_with (go_at_call 32; refine (HWD.out _).mono ?_; rintro e w1 ⟨rfl, rfl⟩)
        exact bodyPost_ret (v := .agg #[.string nm, .int .i64 1, .bool nl]) (by simp [results, Tryd.results43, go_sem]) rfl ⟨rfl, by repeat (first | exact below_drewN' (one_new _ _) _ | (refine bsetG ?_ (by simp)) | (exact (one_new _ _)) | (apply below_drewN'))⟩
      · rw [if_neg (by rw [hz]; simp)] at hq2
        have HQ2 := Lib.hid hq2
        generalize wordR 1 = wd at *
        have bz : (wd.toList == ca.toList) = false := hz
        clear hz hq hq2
        go_wp2_with (go_at_call 32; refine (HWD.out _).mono ?_; rintro e w1 ⟨rfl, rfl⟩)
        go_roundw
        case rel => exact ⟨1, by decide, by go_num, HQ2.out, by trivial⟩
        case measure => simp [intOf]
    · have hq2 : (if sameNm (wordR 2) ca = true then (⟨nm, 2, nl⟩ : Co) else pickK nm ca nl 2) = G := hq
      have HWD := Lib.hid (fun W : World => s_word 2 W)
      have ix : ∀ W : World, (Instr.index 84 (.agg #[.int .i64 1, .int .i64 2, .int .i64 3]) (.int .i64 1)).run Tryd.prog W = .ok (.int .i64 2) W := fun W => by rfl
      rcases Bool.eq_false_or_eq_true (sameNm (wordR 2) ca) with hz | hz
      · rw [if_pos hz] at hq2
        subst hq2
        generalize wordR 2 = wd at *
        have bz : (wd.toList == ca.toList) = true := hz
        clear hz hq
        go_wp2_with (go_at_call 32; refine (HWD.out _).mono ?_; rintro e w1 ⟨rfl, rfl⟩)
        exact bodyPost_ret (v := .agg #[.string nm, .int .i64 2, .bool nl]) (by simp [results, Tryd.results43, go_sem]) rfl ⟨rfl, by repeat (first | exact below_drewN' (one_new _ _) _ | (refine bsetG ?_ (by simp)) | (exact (one_new _ _)) | (apply below_drewN'))⟩
      · rw [if_neg (by rw [hz]; simp)] at hq2
        have HQ2 := Lib.hid hq2
        generalize wordR 2 = wd at *
        have bz : (wd.toList == ca.toList) = false := hz
        clear hz hq hq2
        go_wp2_with (go_at_call 32; refine (HWD.out _).mono ?_; rintro e w1 ⟨rfl, rfl⟩)
        go_roundw
        case rel => exact ⟨2, by decide, by go_num, HQ2.out, by trivial⟩
        case measure => simp [intOf]
    · have hq2 : (if sameNm (wordR 3) ca = true then (⟨nm, 3, nl⟩ : Co) else pickK nm ca nl 3) = G := hq
      have HWD := Lib.hid (fun W : World => s_word 3 W)
      have ix : ∀ W : World, (Instr.index 84 (.agg #[.int .i64 1, .int .i64 2, .int .i64 3]) (.int .i64 2)).run Tryd.prog W = .ok (.int .i64 3) W := fun W => by rfl
      rcases Bool.eq_false_or_eq_true (sameNm (wordR 3) ca) with hz | hz
      · rw [if_pos hz] at hq2
        subst hq2
        generalize wordR 3 = wd at *
        have bz : (wd.toList == ca.toList) = true := hz
        clear hz hq
        go_wp2_with (go_at_call 32; refine (HWD.out _).mono ?_; rintro e w1 ⟨rfl, rfl⟩)
        exact bodyPost_ret (v := .agg #[.string nm, .int .i64 3, .bool nl]) (by simp [results, Tryd.results43, go_sem]) rfl ⟨rfl, by repeat (first | exact below_drewN' (one_new _ _) _ | (refine bsetG ?_ (by simp)) | (exact (one_new _ _)) | (apply below_drewN'))⟩
      · rw [if_neg (by rw [hz]; simp)] at hq2
        have HQ2 := Lib.hid hq2
        generalize wordR 3 = wd at *
        have bz : (wd.toList == ca.toList) = false := hz
        clear hz hq hq2
        go_wp2_with (go_at_call 32; refine (HWD.out _).mono ?_; rintro e w1 ⟨rfl, rfl⟩)
        go_roundw
        case rel => exact ⟨3, by decide, by go_num, HQ2.out, by trivial⟩
        case measure => simp [intOf]
    · have hq2 : (⟨⟨#[]⟩, 0, false⟩ : Co) = G := hq
      subst hq2
      go_wp2
      exact bodyPost_ret (v := .agg #[.string ⟨#[]⟩, .int .i64 0, .bool false]) (by simp [results, Tryd.results43, go_sem]) rfl ⟨rfl, by repeat (first | exact below_drewN' (one_new _ _) _ | (refine bsetG ?_ (by simp)) | (exact (one_new _ _)) | (apply below_drewN'))⟩
end Go.Proofs.YtgifkigamebofaaDoor
