/-
  Name, letter and word of package schema answer whether a name can be, and what kinds of values are called; the world stays as it was.
  No condition.
  Whether columns, or kinds, ahead bear a name: slices.ContainsFunc and slices.IndexFunc at the closures of package schema, at every list; nothing that was there is changed.
  No condition but that a list has no more than a million.
  Name of the document's schema answers whether a name can be; the world stays as it was.
  No condition.
-/
import Derived.Test.YthdjkagodccdbaaM18
namespace Go.Proofs.Ythdjkagodccdbaa
section
open Go.RowKit

/-- What a column of that kind is called; nothing, if none can be of it. -/
def wordR (k : Int) : ByteArray := if k = 1 then ⟨#[98, 111, 111, 108]⟩ else if k = 2 then ⟨#[105, 110, 116]⟩ else if k = 3 then ⟨#[116, 101, 120, 116]⟩ else ⟨#[]⟩

set_option maxHeartbeats 400000 in
theorem s_letter (c : UInt8) (w : World) : Calls Try.prog 63 #[.int .u8 (c.toNat : Int)] w fun e w' => e = .returned (.bool (letterB c)) ∧ w' = w := by
  have e : letterB c = (decide ((97 : Int) ≤ c.toNat) && decide ((c.toNat : Int) ≤ 122)) := by
    unfold letterB
    congr 1
    · simp only [decide_eq_decide]; omega
    · simp only [decide_eq_decide]; omega
  rw [e]
  clear e
  by_cases h : (97 : Int) ≤ c.toNat
  · go_enter Try.func63, Try.ntmps63
    go_wp2
    go_ret
    exact ⟨by simp [h], rfl⟩
  · go_enter Try.func63, Try.ntmps63
    go_wp2
    go_ret
    exact ⟨by simp; omega, rfl⟩

set_option maxHeartbeats 400000 in
theorem s_word (k : Int) (w : World) : Calls Try.prog 65 #[.int .i64 k] w fun e w' => e = .returned (.string (wordR k)) ∧ w' = w := by
  by_cases h1 : k = 1
  · subst h1
    go_enter Try.func65, Try.ntmps65
    go_wp2
    go_ret
    exact ⟨rfl, rfl⟩
  by_cases h2 : k = 2
  · subst h2
    go_enter Try.func65, Try.ntmps65
    go_wp2
    go_ret
    exact ⟨rfl, rfl⟩
  by_cases h3 : k = 3
  · subst h3
    go_enter Try.func65, Try.ntmps65
    go_wp2
    go_ret
    exact ⟨rfl, rfl⟩
  have e : wordR k = ⟨#[]⟩ := by unfold wordR; rw [if_neg h1, if_neg h2, if_neg h3]
  rw [e]
  have b1 : (k == 1) = false := by simpa using h1
  have b2 : (k == 2) = false := by simpa using h2
  have b3 : (k == 3) = false := by simpa using h3
  clear h1 h2 h3 e
  go_enter Try.func65, Try.ntmps65
  go_wp2
  go_ret
  exact ⟨rfl, rfl⟩

theorem restB_int (c : UInt8) : restB c = (letterB c || (decide ((48 : Int) ≤ c.toNat) && decide ((c.toNat : Int) ≤ 57)) || ((c.toNat : Int) == 95)) := by
  unfold restB
  have e1 : decide (48 ≤ c.toNat) = decide ((48 : Int) ≤ c.toNat) := by simp only [decide_eq_decide]; omega
  have e2 : decide (c.toNat ≤ 57) = decide ((c.toNat : Int) ≤ 57) := by simp only [decide_eq_decide]; omega
  have e3 : decide (c.toNat = 95) = ((c.toNat : Int) == 95) := by
    by_cases h : c.toNat = 95
    · rw [h]; rfl
    · have : ((c.toNat : Int) == 95) = false := by rw [beq_eq_false_iff_ne]; omega
      rw [this]
      simpa using h
  rw [e1, e2, e3]

theorem all_take_next (s : ByteArray) (k : Nat) (h : k < s.size) : (s.data.toList.take (k + 1)).all restB = ((s.data.toList.take k).all restB && restB s[k]) := by
  have h' : k < s.data.toList.length := h
  rw [List.take_add_one, List.getElem?_eq_getElem h', List.all_append]
  simp
  rfl
theorem all_false (s : ByteArray) (k : Nat) (h : k < s.size) (hr : restB s[k] = false) : s.data.toList.all restB = false := by
  rcases Bool.eq_false_or_eq_true (s.data.toList.all restB) with ha | ha
  · have := List.all_eq_true.1 ha s.data.toList[k] (List.getElem_mem h)
    exact absurd (this.symm.trans (show restB s.data.toList[k] = false from hr)) (by decide)
  · exact ha
/-- A name by its first byte. -/
theorem name_of (s : ByteArray) (h0 : 0 < s.size) : nameR s.data.toList = (decide (s.size ≤ 16) && letterB s[0] && s.data.toList.all restB) := by
  have hl : s.data.toList.length = s.size := rfl
  cases hd : s.data.toList with
  | nil => rw [hd] at hl; simp at hl; omega
  | cons c r =>
    have hc : s[0] = c := by
      have h1 : s.data.toList[0]? = some s[0] := by rw [List.getElem?_eq_getElem (by exact h0)]; rfl
      rw [hd] at h1
      simpa using h1.symm
    rw [hc, ← hl, hd]
    rfl

set_option maxRecDepth 100000 in
set_option maxHeartbeats 2000000 in
theorem s_name (s : ByteArray) (w : World) : Calls Try.prog 43 #[.string s] w fun e w' => e = .returned (.bool (nameR s.data.toList)) ∧ w' = w := by
  have hl : s.data.toList.length = s.size := rfl
  by_cases h0 : s.size = 0
  · have hs : s.data.toList = [] := List.eq_nil_of_length_eq_zero (by omega)
    have b0 : (s.toList == []) = true := by rw [ByteArray.toList_eq, hs]; rfl
    rw [hs]
    clear hs hl h0
    go_enter Try.func43, Try.ntmps43
    go_wp2
    go_ret
    exact ⟨rfl, rfl⟩
  have h1 : 0 < s.size := by omega
  have b0 : (s.toList == []) = false := by
    rw [ByteArray.toList_eq]
    cases hd : s.data.toList with
    | nil => rw [hd] at hl; simp at hl; omega
    | cons c r => rfl
  rw [name_of s h1]
  clear hl h0
  by_cases h2 : s.size ≤ 16
  · rcases Bool.eq_false_or_eq_true (letterB s[0]) with h3 | h3
    · have hd : decide (s.size ≤ 16) = true := by simpa using h2
      rw [hd, h3, Bool.true_and, Bool.true_and]
      have H3 := Lib.hid h3
      obtain ⟨A, hA⟩ : ∃ A, A = s.data.toList.all restB := ⟨_, rfl⟩
      rw [← hA]
      have HA := Lib.hid hA
      clear h3 hd hA
      go_enter Try.func43, Try.ntmps43
      go_wp2_with (go_at_call 63; refine (s_letter _ _).mono ?_; rintro e w1 ⟨rfl, rfl⟩; rw [H3.out])
      go_loopw [20] (fun i wr => ∃ k : Nat, k ≤ s.size ∧ i = .int .i64 k ∧ (s.data.toList.take k).all restB = true ∧ wr = w1) (fun i _ => s.size - (intOf i).toNat)
      case atStart => exact ⟨0, Nat.zero_le _, rfl, by simp, rfl⟩
      case round =>
        obtain ⟨k, hk, rfl, ha, rfl⟩ := hrel
        have HT := Lib.hid ha
        clear ha
        by_cases h4 : k < s.size
        · have hc : s[k].toNat < 256 := s[k].toNat_lt
          have hc1 : (s[k].toNat : Int) < 256 := by omega
          have HR := Lib.hid (restB_int s[k])
          obtain ⟨L, hL⟩ : ∃ L, L = letterB s[k] := ⟨_, rfl⟩
          have HL := Lib.hid hL
          clear hL
          rcases Bool.eq_false_or_eq_true (restB s[k]) with h5 | h5
          · have H5 := Lib.hid h5
            have HN := Lib.hid (all_take_next s k h4)
            have hend : (s.data.toList.take (k + 1)).all restB = true := by rw [HN.out, HT.out, h5]; rfl
            have HE := Lib.hid hend
            clear hend
            have hcs := h5.symm.trans HR.out
            rw [← HL.out] at hcs
            clear h5
            cases L with
            | true =>
              clear hcs
              go_wp2_with (go_at_call 63; refine (s_letter _ _).mono ?_; rintro e w1 ⟨rfl, rfl⟩; rw [← HL.out])
              exact ⟨⟨k + 1, by omega, by go_num, HE.out, trivial⟩, by simp [intOf]; omega⟩
            | false =>
              by_cases h6 : (48 : Int) ≤ s[k].toNat
              · by_cases h7 : (s[k].toNat : Int) ≤ 57
                · clear hcs
                  go_wp2_with (go_at_call 63; refine (s_letter _ _).mono ?_; rintro e w1 ⟨rfl, rfl⟩; rw [← HL.out])
                  exact ⟨⟨k + 1, by omega, by go_num, HE.out, trivial⟩, by simp [intOf]; omega⟩
                · have h8 : ((s[k].toNat : Int) == 95) = true := by simpa [h7] using hcs.symm
                  have h9 : 57 < (s[k].toNat : Int) := by omega
                  clear hcs h7
                  go_wp2_with (go_at_call 63; refine (s_letter _ _).mono ?_; rintro e w1 ⟨rfl, rfl⟩; rw [← HL.out])
                  exact ⟨⟨k + 1, by omega, by go_num, HE.out, trivial⟩, by simp [intOf]; omega⟩
              · have h8 : ((s[k].toNat : Int) == 95) = true := by simpa [h6] using hcs.symm
                have h9 : (s[k].toNat : Int) = 95 := by simpa using h8
                omega
          · have H5 := Lib.hid h5
            have hend : A = false := by rw [HA.out]; exact all_false s k h4 H5.out
            subst hend
            have hcs := h5.symm.trans HR.out
            rw [← HL.out] at hcs
            clear h5
            cases L with
            | true => simp at hcs
            | false =>
              have h8 : ((s[k].toNat : Int) == 95) = false := by
                rcases Bool.eq_false_or_eq_true ((s[k].toNat : Int) == 95) with h | h
                · rw [h] at hcs; simp at hcs
                · exact h
              by_cases h6 : (48 : Int) ≤ s[k].toNat
              · have h7 : 57 < (s[k].toNat : Int) := by
                  by_cases h7 : (s[k].toNat : Int) ≤ 57
                  · simp [h6, h7] at hcs
                  · omega
                clear hcs
                go_wp2_with (go_at_call 63; refine (s_letter _ _).mono ?_; rintro e w1 ⟨rfl, rfl⟩; rw [← HL.out])
                go_ret
                exact ⟨rfl, rfl⟩
              · have h7 : (s[k].toNat : Int) < 48 := by omega
                clear hcs h6
                go_wp2_with (go_at_call 63; refine (s_letter _ _).mono ?_; rintro e w1 ⟨rfl, rfl⟩; rw [← HL.out])
                go_ret
                exact ⟨rfl, rfl⟩
        · have hend : A = true := by
            rw [HA.out]
            have := HT.out
            rwa [List.take_of_length_le (by show s.size ≤ k; omega)] at this
          subst hend
          go_wp2
          go_ret
          exact ⟨rfl, rfl⟩
    · have hd : decide (s.size ≤ 16) = true := by simpa using h2
      rw [hd, h3, Bool.true_and, Bool.false_and]
      have H3 := Lib.hid h3
      clear h3 hd
      go_enter Try.func43, Try.ntmps43
      go_wp2_with (go_at_call 63; refine (s_letter _ _).mono ?_; rintro e w1 ⟨rfl, rfl⟩; rw [H3.out])
      go_ret
      exact ⟨rfl, rfl⟩
  · have hd : decide (s.size ≤ 16) = false := by simpa using h2
    rw [hd, Bool.false_and, Bool.false_and]
    have h3 : 16 < s.size := by omega
    clear hd h2
    go_enter Try.func43, Try.ntmps43
    go_wp2
    go_ret
    exact ⟨rfl, rfl⟩
end
end Go.Proofs.Ythdjkagodccdbaa
namespace Go.Proofs.Ythdjkagodccdbaa
section
open Go.RowKit

/-- Is there one that hits? -/
def hitIs (b : Bool) (z : Int) : Prop := (z < 0 ∧ b = false) ∨ (0 ≤ z ∧ b = true)

set_option maxHeartbeats 400000 in
theorem cl_c (d : Co) (p : Nat) (nm : ByteArray) (w : World) (hp : p < w.heap.size) (hc : w.cell? ⟨p, 0, none⟩ = some (.string nm)) :
    Calls Try.prog 67 #[.agg #[.string d.nm, .int .i64 d.k, .bool d.nl], .pointer (some ⟨p, 0, none⟩)] w fun e w' => e = .returned (.bool (sameNm d.nm nm)) ∧ Below w.heap.size w w' := by
  go_enter Try.func67, Try.ntmps67
  go_wp2
  go_ret
  exact ⟨rfl, one_new _ _⟩

theorem any_drop_c (cs : List Co) (nm : ByteArray) (k : Nat) (d : Co) (h : cs[k]? = some d) : (cs.drop k).any (fun d => sameNm d.nm nm) = (sameNm d.nm nm || (cs.drop (k + 1)).any (fun d => sameNm d.nm nm)) := by
  obtain ⟨h1, h2⟩ := List.getElem?_eq_some_iff.1 h
  rw [List.drop_eq_getElem_cons h1, h2]
  rfl

set_option maxHeartbeats 1000000 in
theorem index_c (Q : Nat → Prop) (A : Option Addr) (cs : List Co) (n c p : Nat) (nm : ByteArray) (w : World) (hn : n = cs.length) (hl : n ≤ 1000000) (hx : CellsQ w Q A (flatC cs)) (hp : p < w.heap.size) (hc : w.cell? ⟨p, 0, none⟩ = some (.string nm)) :
    Calls Try.prog 78 #[.slice A n c, .func (.func 67) #[] #[.pointer (some ⟨p, 0, none⟩)]] w fun e w' => ∃ z : Int, e = .returned (.int .i64 z) ∧ hitIs (cs.any fun d => sameNm d.nm nm) z ∧ Below w.heap.size w w' := by
  have HX := Lib.hid hx
  have HN := Lib.hid hn
  have HC := Lib.hid hc
  clear hx hn hc
  have hpost : ∀ (z : Int) (w' : World), hitIs (cs.any fun d => sameNm d.nm nm) z → Below w.heap.size w w' → ∃ z' : Int, Ending.returned (.int .i64 z) = .returned (.int .i64 z') ∧ hitIs (cs.any fun d => sameNm d.nm nm) z' ∧ Below w.heap.size w w' := fun z w' h1 h2 => ⟨z, rfl, h1, h2⟩
  have HP := Lib.hid hpost
  clear hpost
  go_enter Try.func78, Try.ntmps78
  go_wp2
  go_loopw [8] (fun i wr => ∃ k : Nat, k ≤ n ∧ i = .int .i64 k ∧ (cs.any fun d => sameNm d.nm nm) = ((cs.drop k).any fun d => sameNm d.nm nm) ∧ Below w.heap.size w wr) (fun i _ => n - (intOf i).toNat)
  case atStart => exact ⟨0, Nat.zero_le _, rfl, rfl, Below.refl _ _⟩
  case round =>
    obtain ⟨k, hk, rfl, hq, hb⟩ := hrel
    have HQ := Lib.hid hq
    have HB := Lib.hid hb
    have hsz : w.heap.size ≤ wr.heap.size := hb.size
    have hcw : wr.cell? ⟨p, 0, none⟩ = some (.string nm) := (hb.cell (p := ⟨p, 0, none⟩) hp).trans HC.out
    clear hq hb
    by_cases h1 : k < n
    · obtain ⟨d, hd⟩ : ∃ d, cs[k]? = some d := ⟨_, List.getElem?_eq_getElem (by rw [← HN.out]; exact h1)⟩
      obtain ⟨a, rfl, ha, a0, a1, a2⟩ := (HX.out.below HB.out).col k d hd
      have HD := Lib.hid hd
      clear hd
      rcases Bool.eq_false_or_eq_true (sameNm d.nm nm) with hz | hz
      · have HZ := Lib.hid hz
        clear hz
        go_wp2_with fail
        refine (cl_c d p nm _ (by omega) hcw).mono ?_
        rintro e w' ⟨rfl, hb2⟩
        rw [HZ.out]
        go_wp2
        go_ret
        exact HP.out _ _ (.inr ⟨by omega, by rw [HQ.out, any_drop_c _ _ _ _ HD.out, HZ.out, Bool.true_or]⟩) (HB.out.trans (hb2.mono HB.out.size))
      · have HZ := Lib.hid hz
        clear hz
        go_wp2_with fail
        refine (cl_c d p nm _ (by omega) hcw).mono ?_
        rintro e w' ⟨rfl, hb2⟩
        rw [HZ.out]
        go_wp2
        go_roundw
        case rel => exact ⟨k + 1, by omega, by go_num, by rw [HQ.out, any_drop_c _ _ _ _ HD.out, HZ.out, Bool.false_or], HB.out.trans (hb2.mono HB.out.size)⟩
        case measure => simp [intOf]; omega
    · go_wp2
      go_ret
      exact HP.out _ _ (.inl ⟨by omega, by rw [HQ.out, List.drop_of_length_le (by rw [← HN.out]; omega)]; rfl⟩) HB.out

set_option maxHeartbeats 400000 in
theorem contains_c (Q : Nat → Prop) (A : Option Addr) (cs : List Co) (n c p : Nat) (nm : ByteArray) (w : World) (hn : n = cs.length) (hl : n ≤ 1000000) (hx : CellsQ w Q A (flatC cs)) (hp : p < w.heap.size) (hc : w.cell? ⟨p, 0, none⟩ = some (.string nm)) :
    Calls Try.prog 66 #[.slice A n c, .func (.func 67) #[] #[.pointer (some ⟨p, 0, none⟩)]] w fun e w' => e = .returned (.bool (cs.any fun d => sameNm d.nm nm)) ∧ Below w.heap.size w w' := by
  have HF := Lib.hid (index_c Q A cs n c p nm w hn hl hx hp hc)
  clear hx hn hl hp hc
  generalize (cs.any fun d => sameNm d.nm nm) = b at *
  go_enter Try.func66, Try.ntmps66
  go_wp2_with fail
  refine HF.out.mono ?_
  rintro e w' ⟨z, rfl, hnw, hb⟩
  go_wp2
  go_ret
  refine ⟨ret_bool ?_, hb⟩
  rcases hnw with ⟨h, rfl⟩ | ⟨h, rfl⟩
  · simp; omega
  · simp; omega

set_option maxHeartbeats 400000 in
theorem cl_s (nm2 : ByteArray) (A2 : Option Addr) (n2 c2 : Nat) (p : Nat) (nm : ByteArray) (w : World) (hp : p < w.heap.size) (hc : w.cell? ⟨p, 0, none⟩ = some (.string nm)) :
    Calls Try.prog 45 #[.agg #[.string nm2, .slice A2 n2 c2], .pointer (some ⟨p, 0, none⟩)] w fun e w' => e = .returned (.bool (sameNm nm2 nm)) ∧ Below w.heap.size w w' := by
  go_enter Try.func45, Try.ntmps45
  go_wp2
  go_ret
  exact ⟨rfl, one_new _ _⟩

theorem any_drop_s (cs : List Sc) (nm : ByteArray) (k : Nat) (d : Sc) (h : cs[k]? = some d) : (cs.drop k).any (fun d => sameNm d.nm nm) = (sameNm d.nm nm || (cs.drop (k + 1)).any (fun d => sameNm d.nm nm)) := by
  obtain ⟨h1, h2⟩ := List.getElem?_eq_some_iff.1 h
  rw [List.drop_eq_getElem_cons h1, h2]
  rfl

set_option maxHeartbeats 1000000 in
theorem index_s (Q : Nat → Prop) (A : Option Addr) (ls : List RS) (cs : List Sc) (n c p : Nat) (nm : ByteArray) (w : World) (hn : n = cs.length) (hl : n ≤ 1000000) (hr : ScR w Q ls cs) (hx : CellsQ w Q A (flatS ls)) (hp : p < w.heap.size) (hc : w.cell? ⟨p, 0, none⟩ = some (.string nm)) :
    Calls Try.prog 64 #[.slice A n c, .func (.func 45) #[] #[.pointer (some ⟨p, 0, none⟩)]] w fun e w' => ∃ z : Int, e = .returned (.int .i64 z) ∧ hitIs (cs.any fun d => sameNm d.nm nm) z ∧ Below w.heap.size w w' := by
  have HX := Lib.hid hx
  have HR := Lib.hid hr
  have HN := Lib.hid hn
  have HC := Lib.hid hc
  clear hx hr hn hc
  have hpost : ∀ (z : Int) (w' : World), hitIs (cs.any fun d => sameNm d.nm nm) z → Below w.heap.size w w' → ∃ z' : Int, Ending.returned (.int .i64 z) = .returned (.int .i64 z') ∧ hitIs (cs.any fun d => sameNm d.nm nm) z' ∧ Below w.heap.size w w' := fun z w' h1 h2 => ⟨z, rfl, h1, h2⟩
  have HP := Lib.hid hpost
  clear hpost
  go_enter Try.func64, Try.ntmps64
  go_wp2
  go_loopw [8] (fun i wr => ∃ k : Nat, k ≤ n ∧ i = .int .i64 k ∧ (cs.any fun d => sameNm d.nm nm) = ((cs.drop k).any fun d => sameNm d.nm nm) ∧ Below w.heap.size w wr) (fun i _ => n - (intOf i).toNat)
  case atStart => exact ⟨0, Nat.zero_le _, rfl, rfl, Below.refl _ _⟩
  case round =>
    obtain ⟨k, hk, rfl, hq, hb⟩ := hrel
    have HQ := Lib.hid hq
    have HB := Lib.hid hb
    have hsz : w.heap.size ≤ wr.heap.size := hb.size
    have hcw : wr.cell? ⟨p, 0, none⟩ = some (.string nm) := (hb.cell (p := ⟨p, 0, none⟩) hp).trans HC.out
    clear hq hb
    by_cases h1 : k < n
    · obtain ⟨d, hd⟩ : ∃ d, cs[k]? = some d := ⟨_, List.getElem?_eq_getElem (by rw [← HN.out]; exact h1)⟩
      obtain ⟨a, v, rfl, hv, ha, a0, a1⟩ := kind_get (HR.out.keep (Below.keepQ HB.out Q)) (HX.out.below HB.out) k d hd
      obtain ⟨_, A2, c2, rfl, _, _, _⟩ := hv
      have HD := Lib.hid hd
      clear hd
      rcases Bool.eq_false_or_eq_true (sameNm d.nm nm) with hz | hz
      · have HZ := Lib.hid hz
        clear hz
        go_wp2_with fail
        refine (cl_s d.nm A2 _ c2 p nm _ (by omega) hcw).mono ?_
        rintro e w' ⟨rfl, hb2⟩
        rw [HZ.out]
        go_wp2
        go_ret
        exact HP.out _ _ (.inr ⟨by omega, by rw [HQ.out, any_drop_s _ _ _ _ HD.out, HZ.out, Bool.true_or]⟩) (HB.out.trans (hb2.mono HB.out.size))
      · have HZ := Lib.hid hz
        clear hz
        go_wp2_with fail
        refine (cl_s d.nm A2 _ c2 p nm _ (by omega) hcw).mono ?_
        rintro e w' ⟨rfl, hb2⟩
        rw [HZ.out]
        go_wp2
        go_roundw
        case rel => exact ⟨k + 1, by omega, by go_num, by rw [HQ.out, any_drop_s _ _ _ _ HD.out, HZ.out, Bool.false_or], HB.out.trans (hb2.mono HB.out.size)⟩
        case measure => simp [intOf]; omega
    · go_wp2
      go_ret
      exact HP.out _ _ (.inl ⟨by omega, by rw [HQ.out, List.drop_of_length_le (by rw [← HN.out]; omega)]; rfl⟩) HB.out

set_option maxHeartbeats 400000 in
theorem contains_s (Q : Nat → Prop) (A : Option Addr) (ls : List RS) (cs : List Sc) (n c p : Nat) (nm : ByteArray) (w : World) (hn : n = cs.length) (hl : n ≤ 1000000) (hr : ScR w Q ls cs) (hx : CellsQ w Q A (flatS ls)) (hp : p < w.heap.size) (hc : w.cell? ⟨p, 0, none⟩ = some (.string nm)) :
    Calls Try.prog 44 #[.slice A n c, .func (.func 45) #[] #[.pointer (some ⟨p, 0, none⟩)]] w fun e w' => e = .returned (.bool (cs.any fun d => sameNm d.nm nm)) ∧ Below w.heap.size w w' := by
  have HF := Lib.hid (index_s Q A ls cs n c p nm w hn hl hr hx hp hc)
  clear hx hr hn hl hp hc
  generalize (cs.any fun d => sameNm d.nm nm) = b at *
  go_enter Try.func44, Try.ntmps44
  go_wp2_with fail
  refine HF.out.mono ?_
  rintro e w' ⟨z, rfl, hnw, hb⟩
  go_wp2
  go_ret
  refine ⟨ret_bool ?_, hb⟩
  rcases hnw with ⟨h, rfl⟩ | ⟨h, rfl⟩
  · simp; omega
  · simp; omega
end
end Go.Proofs.Ythdjkagodccdbaa
namespace Go.Proofs.Ythdjkagodccdbaa
section
open Go.RowKit

set_option maxRecDepth 100000 in
set_option maxHeartbeats 4000000 in
theorem ref_name (s : ByteArray) (w : World) : Calls Try.prog 28 #[.string s] w fun e w' => e = .returned (.bool (nameR s.data.toList)) ∧ w' = w := by
  have hl : s.data.toList.length = s.size := rfl
  by_cases h0 : s.size = 0
  · have hs : s.data.toList = [] := List.eq_nil_of_length_eq_zero (by omega)
    rw [hs]
    have h1 : (s.size : Int) < 1 := by omega
    clear hs hl h0
    go_enter Try.func28, Try.ntmps28
    go_wp2
    go_ret
    exact ⟨rfl, rfl⟩
  have h1 : 0 < s.size := by omega
  have h1' : 1 ≤ (s.size : Int) := by omega
  rw [name_of s h1]
  clear hl h0
  by_cases h2 : s.size ≤ 16
  · have hd : decide (s.size ≤ 16) = true := by simpa using h2
    rw [hd, Bool.true_and]
    obtain ⟨A, hA⟩ : ∃ A, A = (letterB s[0] && s.data.toList.all restB) := ⟨_, rfl⟩
    rw [← hA]
    have HA := Lib.hid hA
    clear hd hA
    go_enter Try.func28, Try.ntmps28
    go_wp2
    go_loopw [3] (fun i wr => ∃ k : Nat, k ≤ s.size ∧ i = .int .i64 k ∧ (s.data.toList.take k).all restB = true ∧ (0 < k → letterB s[0] = true) ∧ wr = w) (fun i _ => s.size - (intOf i).toNat)
    case atStart => exact ⟨0, Nat.zero_le _, rfl, by simp, (fun h => by omega), rfl⟩
    case round =>
      obtain ⟨k, hk, rfl, ha, hf, rfl⟩ := hrel
      have HT := Lib.hid ha
      have HF := Lib.hid hf
      clear ha hf
      by_cases h4 : k < s.size
      · have hc : s[k].toNat < 256 := s[k].toNat_lt
        have hc1 : (s[k].toNat : Int) < 256 := by omega
        have HR := Lib.hid (restB_int s[k])
        have HN := Lib.hid (all_take_next s k h4)
        have hlet : letterB s[k] = (decide ((97 : Int) ≤ s[k].toNat) && decide ((s[k].toNat : Int) ≤ 122)) := by
          unfold letterB
          congr 1
          · simp only [decide_eq_decide]; omega
          · simp only [decide_eq_decide]; omega
        have HLT := Lib.hid hlet
        clear hlet
        rcases Bool.eq_false_or_eq_true (letterB s[k]) with h5 | h5
        · have hr : restB s[k] = true := by unfold restB; rw [h5]; rfl
          have hend : (s.data.toList.take (k + 1)).all restB = true := by rw [HN.out, HT.out, hr]; rfl
          have hlet0 : letterB s[0] = true := by
            by_cases hk0 : k = 0
            · subst hk0; exact h5
            · exact HF.out (by omega)
          have HE := Lib.hid (And.intro hend hlet0)
          have h6 := h5.symm.trans HLT.out
          have h7 : (97 : Int) ≤ s[k].toNat := by simp at h6; omega
          have h8 : (s[k].toNat : Int) ≤ 122 := by simp at h6; omega
          clear hr hend hlet0 h5 h6
          go_wp2
          exact ⟨⟨k + 1, by omega, by go_num, HE.out.1, fun _ => HE.out.2, by trivial⟩, by simp [intOf]; omega⟩
        · have h6 := h5.symm.trans HLT.out
          by_cases hk0 : k = 0
          · subst hk0
            have hz : A = false := by rw [HA.out, h5]; rfl
            subst hz
            by_cases h7 : (97 : Int) ≤ s[0].toNat
            · have h8 : 122 < (s[0].toNat : Int) := by simp at h6; omega
              have p122 : decide ((s[0].toNat : Int) ≤ 122) = false := by simp; omega
              clear h5 h6
              go_wp2
              go_ret
              exact ⟨rfl, rfl⟩
            · have h8 : (s[0].toNat : Int) < 97 := by omega
              clear h5 h6 h7
              go_wp2
              go_ret
              exact ⟨rfl, rfl⟩
          · have hl0 := HF.out (by omega)
            have HL0 := Lib.hid hl0
            have bk : ((k : Int) == 0) = false := by rw [beq_eq_false_iff_ne]; omega
            have hrest : restB s[k] = ((decide ((48 : Int) ≤ s[k].toNat) && decide ((s[k].toNat : Int) ≤ 57)) || ((s[k].toNat : Int) == 95)) := by rw [HR.out, h5, Bool.false_or]
            have h7 : (s[k].toNat : Int) < 97 ∨ 122 < (s[k].toNat : Int) := by simp at h6; omega
            clear hl0 h5 h6
            rcases Bool.eq_false_or_eq_true (restB s[k]) with h9 | h9
            · have hend : (s.data.toList.take (k + 1)).all restB = true := by rw [HN.out, HT.out, h9]; rfl
              have HE := Lib.hid hend
              rw [h9] at hrest
              clear hend h9
              by_cases g1 : (s[k].toNat : Int) = 95
              · have g2 : ((s[k].toNat : Int) == 95) = true := by simpa using g1
                have g3 : (s[k].toNat : Int) < 97 := by omega
                have p97 : decide ((97 : Int) ≤ s[k].toNat) = false := by simp; omega
                have g4 : (48 : Int) ≤ s[k].toNat := by omega
                have g5 : 57 < (s[k].toNat : Int) := by omega
                clear hrest h7 g1
                go_wp2
                exact ⟨⟨k + 1, by omega, by go_num, HE.out, fun _ => HL0.out, by trivial⟩, by simp [intOf]; omega⟩
              · have g2 : ((s[k].toNat : Int) == 95) = false := by simpa using g1
                have g3 : (48 : Int) ≤ s[k].toNat := by simp [g2] at hrest; omega
                have g4 : (s[k].toNat : Int) ≤ 57 := by simp [g2] at hrest; omega
                have g5 : (s[k].toNat : Int) < 97 := by omega
                have p97 : decide ((97 : Int) ≤ s[k].toNat) = false := by simp; omega
                clear hrest h7 g1
                go_wp2
                exact ⟨⟨k + 1, by omega, by go_num, HE.out, fun _ => HL0.out, by trivial⟩, by simp [intOf]; omega⟩
            · have hz : A = false := by rw [HA.out, all_false s k h4 h9, Bool.and_false]
              subst hz
              rw [h9] at hrest
              have g2 : ((s[k].toNat : Int) == 95) = false := by
                rcases Bool.eq_false_or_eq_true ((s[k].toNat : Int) == 95) with h | h
                · rw [h] at hrest; simp at hrest
                · exact h
              have g6 : ((s[k].toNat : Int) != 95) = true := by unfold bne; rw [g2]; rfl
              clear h9
              by_cases g3 : (48 : Int) ≤ s[k].toNat
              · have g4 : 57 < (s[k].toNat : Int) := by simp [g2] at hrest; omega
                clear hrest
                rcases h7 with h7 | h7
                · have p97 : decide ((97 : Int) ≤ s[k].toNat) = false := by simp; omega
                  go_wp2
                  go_ret
                  exact ⟨rfl, rfl⟩
                · have h8 : (97 : Int) ≤ s[k].toNat := by omega
                  have p122 : decide ((s[k].toNat : Int) ≤ 122) = false := by simp; omega
                  go_wp2
                  go_ret
                  exact ⟨rfl, rfl⟩
              · have g4 : (s[k].toNat : Int) < 48 := by omega
                have h8 : (s[k].toNat : Int) < 97 := by omega
                clear hrest h7 g3
                go_wp2
                go_ret
                exact ⟨rfl, rfl⟩
      · have hz : A = true := by
          have h9 := HT.out
          rw [List.take_of_length_le (by show s.size ≤ k; omega)] at h9
          rw [HA.out, h9, HF.out (by omega)]
          rfl
        subst hz
        go_wp2
        go_ret
        exact ⟨rfl, rfl⟩
  · have hd : decide (s.size ≤ 16) = false := by simpa using h2
    rw [hd, Bool.false_and, Bool.false_and]
    have h3 : 16 < s.size := by omega
    clear hd h2
    go_enter Try.func28, Try.ntmps28
    go_wp2
    go_ret
    exact ⟨rfl, rfl⟩
end
end Go.Proofs.Ythdjkagodccdbaa
