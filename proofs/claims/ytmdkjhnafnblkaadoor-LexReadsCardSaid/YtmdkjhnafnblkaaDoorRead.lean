/-
  Read of package value answers the value whose word shows as the text, and an error where there is none, at every text, where the library's three variables are as the program's text lays them; nothing that was there is changed.
  Condition: the text is no longer than a text can be.
-/
import Derived.Test.YtmdkjhnafnblkaaDoorUnq
namespace Go.Proofs.YtmdkjhnafnblkaaDoor
open Go.RowKit

/-- The number that ParseInt answers. -/
def numOf (l : List UInt8) : Int := match Lib.parseIntB 64 l with
  | .ok v => v
  | .range => Lib.intSat 64 l
  | _ => 0
theorem numOf_wide (l : List UInt8) : -9223372036854775808 ≤ numOf l ∧ numOf l ≤ 9223372036854775807 := by
  unfold numOf
  cases h : Lib.parseIntB 64 l
  · rename_i v
    simp only
    unfold Lib.parseIntB at h
    split at h
    · cases h
    · simp only at h
      split at h
      · cases h
      · cases h
      · split at h
        · cases h
        · split at h
          · cases h
          · simp only [Lib.NumEnd.ok.injEq] at h
            subst h
            split <;> omega
  · simp
  · simp only [Lib.intSat]
    split <;> omega

/-- A call that answers a number and an error. -/
def Parsed (w : World) (z : Int) (e : Ending) (w' : World) : Prop := ∃ err, e = .returned (.tuple #[.int .i64 z, err]) ∧ Below w.heap.size w w'
theorem below_bytes (w : World) (t : ByteArray) : Below w.heap.size w (Lib.bytesWorld w 5 t) := ⟨rfl, rfl, rfl, by rw [Lib.bytesWorld_size]; omega, fun k hk => Lib.bytesWorld_at_old w _ t k hk⟩
theorem parse_any (s : ByteArray) (w : World) (hs : s.size ≤ 1000) (hv : Vars w) : Calls Tryd.prog 68 #[.string s, .int .i64 10, .int .i64 64] w (Parsed w (numOf s.data.toList)) := by
  unfold numOf
  cases h : Lib.parseIntB 64 s.data.toList
  · rename_i v
    refine (Tryd.strconv_ParseInt_10_at64_ok s (by omega) v h w).mono fun _ _ ⟨he, hb⟩ => ⟨_, he, ?_⟩
    rcases hb with rfl | ⟨t, rfl⟩
    · exact Below.refl _ _
    · exact below_bytes w t
  · obtain ⟨_, ⟨tp, p, h2⟩, _, _⟩ := hv
    have hc : Calls Tryd.prog 68 #[.string s, .int .i64 10, .int .i64 64] w _ := Any.strconv_ParseInt_10_at64_syntax_var Tryd.laysC174 s (by omega) h tp p w h2
    exact hc.mono fun _ _ ⟨N, he, _, _, hb⟩ => ⟨_, he, hb⟩
  · obtain ⟨_, _, ⟨tp, p, h2⟩, _⟩ := hv
    exact (Tryd.strconv_ParseInt_10_at64_range_var s (by omega) h tp p w h2).mono fun _ _ ⟨N, he, _, _, hb⟩ => ⟨_, he, hb⟩

/-- The only value whose word l may be. -/
def guessV (l : List UInt8) : V :=
  if l = [110, 117, 108, 108] then ⟨0, false, 0, ⟨#[]⟩⟩
  else if l = [116, 114, 117, 101] then ⟨1, true, 0, ⟨#[]⟩⟩
  else if l = [102, 97, 108, 115, 101] then ⟨1, false, 0, ⟨#[]⟩⟩
  else if Lib.hasPrefix l [34] = true then ⟨3, false, 0, ⟨(unqF l l.length 1).toArray⟩⟩
  else ⟨2, false, numOf l, ⟨#[]⟩⟩
theorem guess_wide (l : List UInt8) : Wide (guessV l) := by
  have h := numOf_wide l
  unfold guessV Wide
  split
  · simp
  · split
    · simp
    · split
      · simp
      · split
        · simp
        · exact h

/-- A box of four cells, in a later world. -/
theorem box_later {w w2 : World} {a b c d : Value} {T : TypeId} (hb : Below (w.alloc (.cells #[a, b, c, d] T)).heap.size (w.alloc (.cells #[a, b, c, d] T)) w2) :
    w2.cell? ⟨w.heap.size, 0, none⟩ = some a ∧ w2.cell? ⟨w.heap.size, 1, none⟩ = some b ∧ w2.cell? ⟨w.heap.size, 2, none⟩ = some c ∧ w2.cell? ⟨w.heap.size, 3, none⟩ = some d ∧
    w2.frozen? ⟨w.heap.size, 0, none⟩ = false ∧ w2.frozen? ⟨w.heap.size, 1, none⟩ = false ∧ w2.frozen? ⟨w.heap.size, 2, none⟩ = false ∧ w2.frozen? ⟨w.heap.size, 3, none⟩ = false ∧ w.heap.size < w2.heap.size := by
  have hs : (w.alloc (.cells #[a, b, c, d] T)).heap.size = w.heap.size + 1 := by simp
  have hn := heap_alloc_new w (.cells #[a, b, c, d] T)
  have hz := hb.size
  have hc : ∀ o, w2.cell? ⟨w.heap.size, o, none⟩ = (#[a, b, c, d] : Array Value)[o]? := fun o => (hb.cell (p := ⟨w.heap.size, o, none⟩) (by rw [hs]; exact Nat.lt_succ_self _)).trans (cell_of_row _ w.heap.size o _ T (0, 0) hn)
  have hf : ∀ o, w2.frozen? ⟨w.heap.size, o, none⟩ = false := fun o => (hb.frozen (p := ⟨w.heap.size, o, none⟩) (by rw [hs]; exact Nat.lt_succ_self _)).trans (by unfold World.frozen?; rw [hn]; simp)
  exact ⟨hc 0, hc 1, hc 2, hc 3, hf 0, hf 1, hf 2, hf 3, by omega⟩
theorem bset {w w' : World} {o : Nat} {u : Value} (h : Below w.heap.size w w') : Below w.heap.size w (w'.setCell ⟨w.heap.size, o, none⟩ u) := h.setCell (p := ⟨w.heap.size, o, none⟩) (Nat.le_refl _) u
theorem bnew' {B : Nat} {a w : World} (h : Below B a w) (hB : B ≤ a.heap.size) (o : Obj) : Below B a (w.alloc o) := h.alloc (Nat.le_trans hB h.size) o

set_option maxHeartbeats 2000000 in
theorem guess_all (s : ByteArray) (w : World) (hs : s.size ≤ 1000) (hv : Vars w) : Calls Tryd.prog 55 #[.string s] w fun e w' => e = .returned (guessV s.data.toList).val ∧ Below w.heap.size w w' := by
  have HV := Lib.hid hv
  clear hv
  have htl : s.toList = s.data.toList := ByteArray.toList_eq s
  by_cases h1 : s.data.toList = [110, 117, 108, 108]
  · have hg : guessV s.data.toList = ⟨0, false, 0, ⟨#[]⟩⟩ := by unfold guessV; rw [if_pos h1]
    rw [hg]
    have b1 : (s.toList == [110, 117, 108, 108]) = true := by rw [htl, h1]; rfl
    clear hg htl h1
    go_enter Tryd.func55, Tryd.ntmps55
    go_wp2_with (go_at_call 63; refine (mk_null _).mono ?_; rintro e w1 ⟨rfl, rfl⟩)
    exact bodyPost_ret (v := .agg #[.int .i64 0, .bool false, .int .i64 0, .string ⟨#[]⟩]) (by simp [results, Tryd.results55, go_sem]) rfl ⟨rfl, two_new _ _ _⟩
  have b1 : (s.toList == [110, 117, 108, 108]) = false := by rw [htl]; simpa using h1
  by_cases h2 : s.data.toList = [116, 114, 117, 101]
  · have hg : guessV s.data.toList = ⟨1, true, 0, ⟨#[]⟩⟩ := by unfold guessV; rw [if_neg h1, if_pos h2]
    rw [hg]
    have b2 : (s.toList == [116, 114, 117, 101]) = true := by rw [htl, h2]; rfl
    clear hg htl h1 h2
    go_enter Tryd.func55, Tryd.ntmps55
    go_wp2_with (go_at_call 64; refine (mk_bool _ _).mono ?_; rintro e w1 ⟨rfl, rfl⟩)
    exact bodyPost_ret (v := .agg #[.int .i64 1, .bool true, .int .i64 0, .string ⟨#[]⟩]) (by simp [results, Tryd.results55, go_sem]) rfl ⟨rfl, two_new _ _ _⟩
  have b2 : (s.toList == [116, 114, 117, 101]) = false := by rw [htl]; simpa using h2
  by_cases h3 : s.data.toList = [102, 97, 108, 115, 101]
  · have hg : guessV s.data.toList = ⟨1, false, 0, ⟨#[]⟩⟩ := by unfold guessV; rw [if_neg h1, if_neg h2, if_pos h3]
    rw [hg]
    have b3 : (s.toList == [102, 97, 108, 115, 101]) = true := by rw [htl, h3]; rfl
    clear hg htl h1 h2 h3
    go_enter Tryd.func55, Tryd.ntmps55
    go_wp2_with (go_at_call 64; refine (mk_bool _ _).mono ?_; rintro e w1 ⟨rfl, rfl⟩)
    exact bodyPost_ret (v := .agg #[.int .i64 1, .bool false, .int .i64 0, .string ⟨#[]⟩]) (by simp [results, Tryd.results55, go_sem]) rfl ⟨rfl, two_new _ _ _⟩
  have b3 : (s.toList == [102, 97, 108, 115, 101]) = false := by rw [htl]; simpa using h3
  have HP := Lib.hid (fun W : World => Tryd.strings_HasPrefix s ⟨#[34]⟩ W)
  rcases Bool.eq_false_or_eq_true (Lib.hasPrefix s.data.toList [34]) with h4 | h4
  · obtain ⟨t, ht⟩ : ∃ t : ByteArray, t = ⟨(unqF s.data.toList s.size 1).toArray⟩ := ⟨_, rfl⟩
    have hg : guessV s.data.toList = ⟨3, false, 0, t⟩ := by unfold guessV; rw [if_neg h1, if_neg h2, if_neg h3, if_pos h4, ht]; rfl
    rw [hg]
    have HT := Lib.hid ht
    have HH := Lib.hid h4
    clear hg htl h1 h2 h3 h4 ht
    go_enter Tryd.func55, Tryd.ntmps55
    go_wp2_with (first
      | (go_at_call 65; refine (HP.out _).mono ?_; rintro e w1 ⟨rfl, rfl⟩; rw [HH.out])
      | (go_at_call 67; refine (unquote_all s _ hs).mono ?_; rintro e w2 ⟨rfl, hb2⟩; rw [← HT.out]; obtain ⟨c0, c1, c2, c3, f0, f1, f2, f3, hz2⟩ := box_later hb2)
      | (go_at_call 66; refine (mk_text _ _).mono ?_; rintro e w3 ⟨rfl, rfl⟩))
    have hbw : Below w.heap.size w w2 := (one_new _ _).trans (hb2.mono (by simp))
    exact bodyPost_ret (v := .agg #[.int .i64 3, .bool false, .int .i64 0, .string t]) (by simp [results, Tryd.results55, go_sem, c0, c1, c2, c3, hz2]) rfl ⟨rfl, by repeat (first | exact Below.refl _ _ | assumption | (refine bset ?_) | (refine bnew' ?_ (Nat.le_refl _) _))⟩
  · have hg : guessV s.data.toList = ⟨2, false, numOf s.data.toList, ⟨#[]⟩⟩ := by unfold guessV; rw [if_neg h1, if_neg h2, if_neg h3, if_neg (by rw [h4]; simp)]
    rw [hg]
    obtain ⟨z, hz⟩ : ∃ z, z = numOf s.data.toList := ⟨_, rfl⟩
    rw [← hz]
    have HZ := Lib.hid hz
    have HH := Lib.hid h4
    clear hg htl h1 h2 h3 h4 hz
    go_enter Tryd.func55, Tryd.ntmps55
    go_wp2_with (first
      | (go_at_call 65; refine (HP.out _).mono ?_; rintro e w1 ⟨rfl, rfl⟩; rw [HH.out])
      | (go_at_call 68; refine (parse_any s _ hs (by exact HV.out.later (one_new _ _))).mono ?_; rintro e w2 ⟨err, rfl, hb2⟩; rw [← HZ.out]; obtain ⟨c0, c1, c2, c3, f0, f1, f2, f3, hz2⟩ := box_later hb2)
      | (go_at_call 69; refine (mk_int _ _).mono ?_; rintro e w3 ⟨rfl, rfl⟩))
    have hbw : Below w.heap.size w w2 := (one_new _ _).trans (hb2.mono (by simp))
    exact bodyPost_ret (v := .agg #[.int .i64 2, .bool false, .int .i64 z, .string ⟨#[]⟩]) (by simp [results, Tryd.results55, go_sem, c0, c1, c2, c3, hz2]) rfl ⟨rfl, by repeat (first | exact Below.refl _ _ | assumption | (refine bset ?_) | (refine bnew' ?_ (Nat.le_refl _) _))⟩

/-- What Read answers. -/
def readR (l : List UInt8) : V × Int := if l.length ≤ 242 ∧ showV (guessV l) = l then (guessV l, 0) else (⟨0, false, 0, ⟨#[]⟩⟩, 7)

set_option maxHeartbeats 2000000 in
theorem read_all (s : ByteArray) (w : World) (hv : Vars w) : Calls Tryd.prog 45 #[.string s] w fun e w' => e = .returned (.tuple #[(readR s.data.toList).1.val, .int .i64 (readR s.data.toList).2]) ∧ Below w.heap.size w w' := by
  have HV := Lib.hid hv
  have hl : s.data.toList.length = s.size := rfl
  have htl : s.toList = s.data.toList := ByteArray.toList_eq s
  clear hv
  by_cases h1 : s.size ≤ 242
  · obtain ⟨G, hG⟩ : ∃ G, G = guessV s.data.toList := ⟨_, rfl⟩
    obtain ⟨X, hX⟩ : ∃ X, X = showV G := ⟨_, rfl⟩
    have hw : Wide G := by rw [hG]; exact guess_wide _
    have HG := Lib.hid hG
    have HX := Lib.hid hX
    have HW := Lib.hid hw
    have hs : s.size ≤ 1000 := by omega
    by_cases h2 : X = s.data.toList
    · have hr : readR s.data.toList = (G, 0) := by
        unfold readR
        rw [← hG, ← hX, if_pos ⟨by omega, h2⟩]
      rw [hr]
      have b2 : (X == s.toList) = true := by rw [htl, h2]; simp
      clear hr h2 hG hX hw htl hl
      go_enter Tryd.func45, Tryd.ntmps45
      go_wp2_with (first
        | (go_at_call 55; refine (guess_all s _ hs (by exact HV.out.later (one_new _ _))).mono ?_; rintro e w2 ⟨rfl, hb2⟩; rw [← HG.out]; obtain ⟨c0, c1, c2, c3, f0, f1, f2, f3, hz2⟩ := box_later hb2)
        | (go_at_call 56; fail))
      have hbx : Below w.heap.size w w2 := (one_new _ _).trans (hb2.mono (by simp))
      clear c0 c1 c2 c3 f0 f1 f2 f3 hz2
      refine (show_val G _ HW.out (by exact HV.out.later (bnew' hbx (Nat.le_refl _) _))).mono ?_
      rintro e w3 ⟨rfl, hb3⟩
      rw [← HX.out]
      have hb4 := hb2.trans (((one_new w2 _).mono hb2.size).trans (hb3.mono (Nat.le_trans hb2.size (one_new w2 _).size)))
      have hbw : Below w.heap.size w w3 := (one_new _ _).trans (hb4.mono (by simp))
      obtain ⟨c0, c1, c2, c3, f0, f1, f2, f3, hz2⟩ := box_later hb4
      obtain ⟨d0, d1, d2, d3, _, _, _, _, hz3⟩ := box_later hb3
      clear hb2 hb3 hb4
      go_wp2
      exact bodyPost_ret (v := .tuple #[.agg #[.int .i64 G.k, .bool G.f, .int .i64 G.n, .string G.t], .int .i64 0]) (by simp [results, Tryd.results45, go_sem, c0, c1, c2, c3]) rfl ⟨rfl, by repeat (first | exact Below.refl _ _ | assumption | (refine bset ?_) | (refine bnew' ?_ (Nat.le_refl _) _))⟩
    · have hr : readR s.data.toList = (⟨0, false, 0, ⟨#[]⟩⟩, 7) := by
        unfold readR
        rw [← hG, ← hX, if_neg (fun h => h2 h.2)]
      rw [hr]
      have b2 : (X == s.toList) = false := by rw [htl]; simpa using h2
      clear hr h2 hG hX hw htl hl
      go_enter Tryd.func45, Tryd.ntmps45
      go_wp2_with (first
        | (go_at_call 55; refine (guess_all s _ hs (by exact HV.out.later (one_new _ _))).mono ?_; rintro e w2 ⟨rfl, hb2⟩; rw [← HG.out]; obtain ⟨c0, c1, c2, c3, f0, f1, f2, f3, hz2⟩ := box_later hb2)
        | (go_at_call 56; fail))
      have hbx : Below w.heap.size w w2 := (one_new _ _).trans (hb2.mono (by simp))
      clear c0 c1 c2 c3 f0 f1 f2 f3 hz2
      refine (show_val G _ HW.out (by exact HV.out.later (bnew' hbx (Nat.le_refl _) _))).mono ?_
      rintro e w3 ⟨rfl, hb3⟩
      rw [← HX.out]
      have hb4 := hb2.trans (((one_new w2 _).mono hb2.size).trans (hb3.mono (Nat.le_trans hb2.size (one_new w2 _).size)))
      have hbw : Below w.heap.size w w3 := (one_new _ _).trans (hb4.mono (by simp))
      obtain ⟨c0, c1, c2, c3, f0, f1, f2, f3, hz2⟩ := box_later hb4
      obtain ⟨d0, d1, d2, d3, _, _, _, _, hz3⟩ := box_later hb3
      clear hb2 hb3 hb4
      go_wp2
      exact bodyPost_ret (v := .tuple #[.agg #[.int .i64 0, .bool false, .int .i64 0, .string ⟨#[]⟩], .int .i64 7]) (by simp [results, Tryd.results45, go_sem, c0, c1, c2, c3]) rfl ⟨rfl, by repeat (first | exact Below.refl _ _ | assumption | (refine bset ?_) | (refine bnew' ?_ (Nat.le_refl _) _))⟩
  · have hr : readR s.data.toList = (⟨0, false, 0, ⟨#[]⟩⟩, 7) := by
      unfold readR
      rw [if_neg (fun h => h1 (by rw [← hl]; exact h.1))]
    rw [hr]
    have h3 : 242 < s.size := by omega
    clear hr htl hl h1
    go_enter Tryd.func45, Tryd.ntmps45
    go_wp2
    exact bodyPost_ret (v := .tuple #[.agg #[.int .i64 0, .bool false, .int .i64 0, .string ⟨#[]⟩], .int .i64 7]) (by simp [results, Tryd.results45, go_sem]) rfl ⟨rfl, by repeat (first | exact Below.refl _ _ | assumption | (refine bset ?_) | (refine bnew' ?_ (Nat.le_refl _) _))⟩
end Go.Proofs.YtmdkjhnafnblkaaDoor
