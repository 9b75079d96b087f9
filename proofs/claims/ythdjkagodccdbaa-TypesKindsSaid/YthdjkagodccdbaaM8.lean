/-
  Read of the document's value answers what Read of package value answers, at every text; nothing that was there is changed.
  Condition: the text is no longer than a thousand bytes.
-/
import Derived.Test.YthdjkagodccdbaaM7
namespace Go.Proofs.Ythdjkagodccdbaa
open Go.RowKit

/-- A value that is the only one whose word l may be. -/
def RGuess (l : List UInt8) (g : V) : Prop := Wide g ∧ ∀ v : V, rightV v = true → Wide v → l = showV v → g = v
def noV : V := ⟨0, false, 0, ⟨#[]⟩⟩
/-- What the document's Read answers at a guess. -/
def endR (l : List UInt8) (g : V) : V × Int := if l ≠ [] ∧ showV g = l then (g, 0) else (noV, 7)

theorem right_of_show (v : V) (h : showV v ≠ []) : rightV v = true := by
  rcases Bool.eq_false_or_eq_true (rightV v) with hr | hr
  · exact hr
  · refine absurd ?_ h
    unfold showV
    rw [hr]
    rfl

theorem show_cases (v : V) (hr : rightV v = true) :
    (v = noV ∧ showV v = [110, 117, 108, 108]) ∨ (v = ⟨1, true, 0, ⟨#[]⟩⟩ ∧ showV v = [116, 114, 117, 101]) ∨ (v = ⟨1, false, 0, ⟨#[]⟩⟩ ∧ showV v = [102, 97, 108, 115, 101]) ∨
    (∃ n, v = ⟨2, false, n, ⟨#[]⟩⟩ ∧ showV v = Lib.itoa n) ∨ ∃ t, v = ⟨3, false, 0, t⟩ ∧ showV v = qs t.data.toList := by
  obtain ⟨k, f, n, t⟩ := v
  have hr0 := hr
  unfold rightV at hr
  simp only [Bool.and_eq_true, decide_eq_true_eq, Bool.or_eq_true, beq_iff_eq, Bool.not_eq_true'] at hr
  obtain ⟨⟨⟨⟨⟨k0, k3⟩, hf⟩, hn⟩, ht⟩, hl⟩ := hr
  by_cases h1 : k = 1
  · subst h1
    have e1 : n = 0 := by omega
    have e2 : t = ⟨#[]⟩ := empty_bytes (by omega)
    subst e1 e2
    cases f
    · exact .inr (.inr (.inl ⟨rfl, by kernel_rfl⟩))
    · exact .inr (.inl ⟨rfl, by kernel_rfl⟩)
  · have hff : f = false := by
      rcases hf with hf | hf
      · exact absurd hf h1
      · exact hf
    subst hff
    by_cases h2 : k = 2
    · subst h2
      have e2 : t = ⟨#[]⟩ := empty_bytes (by omega)
      subst e2
      refine .inr (.inr (.inr (.inl ⟨n, rfl, ?_⟩)))
      unfold showV
      rw [if_pos hr0]
      rfl
    · have e1 : n = 0 := by omega
      subst e1
      by_cases h3 : k = 3
      · subst h3
        refine .inr (.inr (.inr (.inr ⟨t, rfl, ?_⟩)))
        unfold showV
        rw [if_pos hr0]
        rfl
      · have e2 : t = ⟨#[]⟩ := empty_bytes (by omega)
        subst e2
        have e3 : k = 0 := by omega
        subst e3
        exact .inl ⟨rfl, by kernel_rfl⟩

theorem read_same (l : List UInt8) (g : V) (h : RGuess l g) : endR l g = readR l := by
  obtain ⟨hw, hg⟩ := h
  unfold endR
  by_cases h1 : l ≠ [] ∧ showV g = l
  · rw [if_pos h1, ← h1.2]
    exact (read_show g (right_of_show g (by rw [h1.2]; exact h1.1)) hw).symm
  · rw [if_neg h1]
    unfold readR
    by_cases hc : l.length ≤ 242 ∧ showV (guessV l) = l
    · exfalso
      have hne : l ≠ [] := by
        intro e
        subst e
        have h2 := hc.2
        have e2 : guessV [] = ⟨2, false, numOf [], ⟨#[]⟩⟩ := rfl
        have e3 : numOf [] = 0 := rfl
        rw [e2, e3] at h2
        have e4 : showV ⟨2, false, 0, ⟨#[]⟩⟩ = Lib.itoa 0 := by kernel_rfl
        rw [e4] at h2
        obtain ⟨c, r, e, _, _⟩ := itoa_head 0
        rw [e] at h2
        cases h2
      have hr := right_of_show (guessV l) (by rw [hc.2]; exact hne)
      have := hg (guessV l) hr (guess_wide l) hc.2.symm
      exact h1 ⟨hne, by rw [this]; exact hc.2⟩
    · rw [if_neg hc]
      rfl

theorem g_true : RGuess [116, 114, 117, 101] ⟨1, true, 0, ⟨#[]⟩⟩ := by
  refine ⟨by unfold Wide; simp, fun v hr _ h => ?_⟩
  rcases show_cases v hr with ⟨e, s⟩ | ⟨e, s⟩ | ⟨e, s⟩ | ⟨n, e, s⟩ | ⟨t, e, s⟩
  · rw [s] at h; simp at h
  · exact e.symm
  · rw [s] at h; simp at h
  · rw [s] at h
    obtain ⟨c, r, e1, c1, _⟩ := itoa_head n
    rw [e1] at h
    have := (List.cons.inj h).1
    subst this
    exact absurd c1 (by decide)
  · rw [s] at h
    exact absurd (List.cons.inj (show (116 : UInt8) :: _ = 34 :: _ from h)).1 (by decide)
theorem g_false : RGuess [102, 97, 108, 115, 101] ⟨1, false, 0, ⟨#[]⟩⟩ := by
  refine ⟨by unfold Wide; simp, fun v hr _ h => ?_⟩
  rcases show_cases v hr with ⟨e, s⟩ | ⟨e, s⟩ | ⟨e, s⟩ | ⟨n, e, s⟩ | ⟨t, e, s⟩
  · rw [s] at h; simp at h
  · rw [s] at h; simp at h
  · exact e.symm
  · rw [s] at h
    obtain ⟨c, r, e1, c1, _⟩ := itoa_head n
    rw [e1] at h
    have := (List.cons.inj h).1
    subst this
    exact absurd c1 (by decide)
  · rw [s] at h
    exact absurd (List.cons.inj (show (102 : UInt8) :: _ = 34 :: _ from h)).1 (by decide)
theorem g_num (l : List UInt8) (n : Int) (h : NumIs l n true) : RGuess l ⟨2, false, n, ⟨#[]⟩⟩ := by
  obtain ⟨hw, h1, h2⟩ := h
  refine ⟨hw, fun v hr hv h => ?_⟩
  obtain ⟨c, r, e1, c1, c2⟩ := itoa_head n
  have hl := h1 rfl
  rw [e1] at hl
  rw [hl] at h
  rcases show_cases v hr with ⟨e, s⟩ | ⟨e, s⟩ | ⟨e, s⟩ | ⟨m, e, s⟩ | ⟨t, e, s⟩
  · rw [s] at h
    have := (List.cons.inj h).1
    subst this
    exact absurd c1 (by decide)
  · rw [s] at h
    have := (List.cons.inj h).1
    subst this
    exact absurd c1 (by decide)
  · rw [s] at h
    have := (List.cons.inj h).1
    subst this
    exact absurd c1 (by decide)
  · subst e
    rw [(h2 m hv.1 hv.2 (by rw [hl, h, s])).2]
  · rw [s] at h
    have := (List.cons.inj (show c :: r = 34 :: _ from h)).1
    subst this
    exact absurd rfl c2
theorem qs_len (t : List UInt8) : t.length + 2 ≤ (qs t).length := by
  have : t.length ≤ (t.flatMap qb).length := by
    induction t with
    | nil => simp
    | cons c l ih =>
      have hc : 1 ≤ (qb c).length := by
        unfold qb
        split
        · simp
        · split <;> simp
      simp only [List.flatMap_cons, List.length_append, List.length_cons]
      omega
  unfold qs
  simp only [List.length_append, List.length_cons, List.length_nil]
  omega
theorem g_text (l : List UInt8) (n : Int) (h : NumIs l n false) (ht : l ≠ [116, 114, 117, 101]) (hf : l ≠ [102, 97, 108, 115, 101]) (r : List UInt8) (hl : l = 34 :: r) (f : Nat) (hlen : l.length ≤ f) : RGuess l ⟨3, false, 0, ⟨(ruqF l f 1).toArray⟩⟩ := by
  obtain ⟨hw, h1, h2⟩ := h
  refine ⟨by unfold Wide; simp, fun v hr hv h => ?_⟩
  rcases show_cases v hr with ⟨e, s⟩ | ⟨e, s⟩ | ⟨e, s⟩ | ⟨m, e, s⟩ | ⟨t, e, s⟩
  · rw [s, hl] at h
    exact absurd (List.cons.inj h).1 (by decide)
  · exact absurd (h.trans s) ht
  · exact absurd (h.trans s) hf
  · subst e
    exact absurd (h2 m hv.1 hv.2 (h.trans s)).1 (by decide)
  · have hq := h.trans s
    have := qs_len t.data.toList
    rw [e, hq, ruq_qs _ _ (by rw [hq] at hlen; omega), back_list]
theorem g_none (l : List UInt8) (n : Int) (h : NumIs l n false) (ht : l ≠ [116, 114, 117, 101]) (hf : l ≠ [102, 97, 108, 115, 101]) (hq : ¬ (2 ≤ l.length ∧ l.head? = some 34 ∧ l.length ≤ 300)) : RGuess l noV := by
  obtain ⟨hw, h1, h2⟩ := h
  refine ⟨by unfold Wide noV; simp, fun v hr hv h => ?_⟩
  rcases show_cases v hr with ⟨e, s⟩ | ⟨e, s⟩ | ⟨e, s⟩ | ⟨m, e, s⟩ | ⟨t, e, s⟩
  · exact e.symm
  · exact absurd (h.trans s) ht
  · exact absurd (h.trans s) hf
  · subst e
    exact absurd (h2 m hv.1 hv.2 (h.trans s)).1 (by decide)
  · have hl := show_len v hr hv
    rw [← h] at hl
    have h3 := qs_len t.data.toList
    rw [← s, ← h] at h3
    refine absurd ⟨by omega, ?_, by omega⟩ hq
    rw [h, s]
    rfl

theorem end_ok (l : List UInt8) (g : V) (h : RGuess l g) (hne : l ≠ []) (hx : showV g = l) : readR l = (g, 0) := by
  rw [← read_same l g h]
  unfold endR
  rw [if_pos ⟨hne, hx⟩]
theorem end_no (l : List UInt8) (g : V) (h : RGuess l g) (hx : ¬ (l ≠ [] ∧ showV g = l)) : readR l = (noV, 7) := by
  rw [← read_same l g h]
  unfold endR
  rw [if_neg hx]

theorem bset1 {w w' : World} {o : Nat} {u : Value} (h : Below w.heap.size w w') : Below w.heap.size w (w'.setCell ⟨w.heap.size + 1, o, none⟩ u) := h.setCell (p := ⟨w.heap.size + 1, o, none⟩) (Nat.le_succ _) u

set_option maxRecDepth 100000 in
set_option maxHeartbeats 4000000 in
theorem ref_read (s : ByteArray) (w : World) (hs : s.size ≤ 1000) : Calls Try.prog 54 #[.string s] w fun e w' => e = .returned (.tuple #[(readR s.data.toList).1.val, .int .i64 (readR s.data.toList).2]) ∧ Below w.heap.size w w' := by
  have hl : s.data.toList.length = s.size := rfl
  have HL := Lib.hid hl
  have htl : s.toList = s.data.toList := ByteArray.toList_eq s
  have HTL := Lib.hid htl
  clear hl htl
  go_enter Try.func54, Try.ntmps54
  go_wp2_with (go_at_call 74; fail)
  refine (ref_number s hs _).mono ?_
  rintro e w1 ⟨n, ok, hn, rfl, rfl⟩
  have HN := Lib.hid hn
  clear hn
  by_cases h1 : s.data.toList = [116, 114, 117, 101]
  · have b1 : (s.toList == [116, 114, 117, 101]) = true := by rw [HTL.out, h1]; rfl
    have b0 : (s.toList == []) = false := by rw [HTL.out, h1]; rfl
    have HNE : Hid (s.data.toList ≠ []) := Lib.hid (by rw [h1]; simp)
    have hg : RGuess s.data.toList ⟨1, true, 0, ⟨#[]⟩⟩ := by rw [h1]; exact g_true
    have HG := Lib.hid hg
    have HW := Lib.hid hg.1
    obtain ⟨X, hX⟩ : ∃ X, X = showV ⟨1, true, 0, ⟨#[]⟩⟩ := ⟨_, rfl⟩
    have HXX := Lib.hid hX
    clear hg hX h1
    by_cases hx : showV ⟨1, true, 0, ⟨#[]⟩⟩ = s.data.toList
    · have HE := Lib.hid (end_ok s.data.toList ⟨1, true, 0, ⟨#[]⟩⟩ HG.out HNE.out hx)
      have hx' := hx
      rw [← HXX.out] at hx'
      have bx : (X == s.toList) = true := by rw [HTL.out]; simpa using hx'
      clear hx hx'
      go_wp2_with (go_at_call 76; fail)
      refine (ref_show ⟨1, true, 0, ⟨#[]⟩⟩ _ HW.out).mono ?_
      rintro e w3 ⟨rfl, hb3⟩
      rw [← HXX.out]
      obtain ⟨e0, e1, e2, e3, _, _, _, _, hz3⟩ := box_later hb3
      have hb4 := (one_new (w.alloc (.cells #[.int .i64 0, .bool false, .int .i64 0, .string ⟨#[]⟩] 59)) _).trans (hb3.mono (by simp))
      rw [World.size_alloc] at e0 e1 e2 e3 hz3
      obtain ⟨c0, c1, c2, c3, f0, f1, f2, f3, hz2⟩ := box_later hb4
      have hbw : Below w.heap.size w w3 := (one_new _ _).trans (hb4.mono (by simp))
      clear hb3 hb4
      go_wp2
      exact bodyPost_ret (v := .tuple #[.agg #[.int .i64 1, .bool true, .int .i64 0, .string ⟨#[]⟩], .int .i64 0]) (by simp [results, Try.results54, go_sem, c0, c1, c2, c3]) rfl ⟨by first | (rw [HE.out]; done) | (rw [HE.out]; rfl), by repeat (first | exact Below.refl _ _ | assumption | (refine bset ?_) | (refine bnew' ?_ (Nat.le_refl _) _))⟩
    · have HE := Lib.hid (end_no s.data.toList ⟨1, true, 0, ⟨#[]⟩⟩ HG.out (fun h => hx h.2))
      have hx' := hx
      rw [← HXX.out] at hx'
      have bx : (X == s.toList) = false := by rw [HTL.out]; simpa using hx'
      clear hx hx'
      go_wp2_with (go_at_call 76; fail)
      refine (ref_show ⟨1, true, 0, ⟨#[]⟩⟩ _ HW.out).mono ?_
      rintro e w3 ⟨rfl, hb3⟩
      rw [← HXX.out]
      obtain ⟨e0, e1, e2, e3, _, _, _, _, hz3⟩ := box_later hb3
      have hb4 := (one_new (w.alloc (.cells #[.int .i64 0, .bool false, .int .i64 0, .string ⟨#[]⟩] 59)) _).trans (hb3.mono (by simp))
      rw [World.size_alloc] at e0 e1 e2 e3 hz3
      obtain ⟨c0, c1, c2, c3, f0, f1, f2, f3, hz2⟩ := box_later hb4
      have hbw : Below w.heap.size w w3 := (one_new _ _).trans (hb4.mono (by simp))
      clear hb3 hb4
      go_wp2
      exact bodyPost_ret (v := .tuple #[.agg #[.int .i64 0, .bool false, .int .i64 0, .string ⟨#[]⟩], .int .i64 7]) (by simp [results, Try.results54, go_sem, c0, c1, c2, c3]) rfl ⟨by first | (rw [HE.out]; done) | (rw [HE.out]; rfl), by repeat (first | exact Below.refl _ _ | assumption | (refine bset ?_) | (refine bnew' ?_ (Nat.le_refl _) _))⟩
  have b1 : (s.toList == [116, 114, 117, 101]) = false := by rw [HTL.out]; simpa using h1
  have H1 := Lib.hid h1
  clear h1
  by_cases h2 : s.data.toList = [102, 97, 108, 115, 101]
  · have b2 : (s.toList == [102, 97, 108, 115, 101]) = true := by rw [HTL.out, h2]; rfl
    have b0 : (s.toList == []) = false := by rw [HTL.out, h2]; rfl
    have HNE : Hid (s.data.toList ≠ []) := Lib.hid (by rw [h2]; simp)
    have hg : RGuess s.data.toList ⟨1, false, 0, ⟨#[]⟩⟩ := by rw [h2]; exact g_false
    have HG := Lib.hid hg
    have HW := Lib.hid hg.1
    obtain ⟨X, hX⟩ : ∃ X, X = showV ⟨1, false, 0, ⟨#[]⟩⟩ := ⟨_, rfl⟩
    have HXX := Lib.hid hX
    clear hg hX h2
    by_cases hx : showV ⟨1, false, 0, ⟨#[]⟩⟩ = s.data.toList
    · have HE := Lib.hid (end_ok s.data.toList ⟨1, false, 0, ⟨#[]⟩⟩ HG.out HNE.out hx)
      have hx' := hx
      rw [← HXX.out] at hx'
      have bx : (X == s.toList) = true := by rw [HTL.out]; simpa using hx'
      clear hx hx'
      go_wp2_with (go_at_call 76; fail)
      refine (ref_show ⟨1, false, 0, ⟨#[]⟩⟩ _ HW.out).mono ?_
      rintro e w3 ⟨rfl, hb3⟩
      rw [← HXX.out]
      obtain ⟨e0, e1, e2, e3, _, _, _, _, hz3⟩ := box_later hb3
      have hb4 := (one_new (w.alloc (.cells #[.int .i64 0, .bool false, .int .i64 0, .string ⟨#[]⟩] 59)) _).trans (hb3.mono (by simp))
      rw [World.size_alloc] at e0 e1 e2 e3 hz3
      obtain ⟨c0, c1, c2, c3, f0, f1, f2, f3, hz2⟩ := box_later hb4
      have hbw : Below w.heap.size w w3 := (one_new _ _).trans (hb4.mono (by simp))
      clear hb3 hb4
      go_wp2
      exact bodyPost_ret (v := .tuple #[.agg #[.int .i64 1, .bool false, .int .i64 0, .string ⟨#[]⟩], .int .i64 0]) (by simp [results, Try.results54, go_sem, c0, c1, c2, c3]) rfl ⟨by first | (rw [HE.out]; done) | (rw [HE.out]; rfl), by repeat (first | exact Below.refl _ _ | assumption | (refine bset ?_) | (refine bnew' ?_ (Nat.le_refl _) _))⟩
    · have HE := Lib.hid (end_no s.data.toList ⟨1, false, 0, ⟨#[]⟩⟩ HG.out (fun h => hx h.2))
      have hx' := hx
      rw [← HXX.out] at hx'
      have bx : (X == s.toList) = false := by rw [HTL.out]; simpa using hx'
      clear hx hx'
      go_wp2_with (go_at_call 76; fail)
      refine (ref_show ⟨1, false, 0, ⟨#[]⟩⟩ _ HW.out).mono ?_
      rintro e w3 ⟨rfl, hb3⟩
      rw [← HXX.out]
      obtain ⟨e0, e1, e2, e3, _, _, _, _, hz3⟩ := box_later hb3
      have hb4 := (one_new (w.alloc (.cells #[.int .i64 0, .bool false, .int .i64 0, .string ⟨#[]⟩] 59)) _).trans (hb3.mono (by simp))
      rw [World.size_alloc] at e0 e1 e2 e3 hz3
      obtain ⟨c0, c1, c2, c3, f0, f1, f2, f3, hz2⟩ := box_later hb4
      have hbw : Below w.heap.size w w3 := (one_new _ _).trans (hb4.mono (by simp))
      clear hb3 hb4
      go_wp2
      exact bodyPost_ret (v := .tuple #[.agg #[.int .i64 0, .bool false, .int .i64 0, .string ⟨#[]⟩], .int .i64 7]) (by simp [results, Try.results54, go_sem, c0, c1, c2, c3]) rfl ⟨by first | (rw [HE.out]; done) | (rw [HE.out]; rfl), by repeat (first | exact Below.refl _ _ | assumption | (refine bset ?_) | (refine bnew' ?_ (Nat.le_refl _) _))⟩
  have b2 : (s.toList == [102, 97, 108, 115, 101]) = false := by rw [HTL.out]; simpa using h2
  have H2 := Lib.hid h2
  clear h2
  cases ok with
  | true =>
    have hne : s.data.toList ≠ [] := by
      rw [HN.out.2.1 rfl]
      obtain ⟨c, r, e, _, _⟩ := itoa_head n
      rw [e]
      simp
    have b0 : (s.toList == []) = false := by rw [HTL.out]; simpa using hne
    have HNE := Lib.hid hne
    clear hne
    have hg : RGuess s.data.toList ⟨2, false, n, ⟨#[]⟩⟩ := g_num _ n HN.out
    have HG := Lib.hid hg
    have HW := Lib.hid hg.1
    obtain ⟨X, hX⟩ : ∃ X, X = showV ⟨2, false, n, ⟨#[]⟩⟩ := ⟨_, rfl⟩
    have HXX := Lib.hid hX
    clear hg hX
    by_cases hx : showV ⟨2, false, n, ⟨#[]⟩⟩ = s.data.toList
    · have HE := Lib.hid (end_ok s.data.toList ⟨2, false, n, ⟨#[]⟩⟩ HG.out HNE.out hx)
      have hx' := hx
      rw [← HXX.out] at hx'
      have bx : (X == s.toList) = true := by rw [HTL.out]; simpa using hx'
      clear hx hx'
      go_wp2_with (go_at_call 76; fail)
      refine (ref_show ⟨2, false, n, ⟨#[]⟩⟩ _ HW.out).mono ?_
      rintro e w3 ⟨rfl, hb3⟩
      rw [← HXX.out]
      obtain ⟨e0, e1, e2, e3, _, _, _, _, hz3⟩ := box_later hb3
      have hb4 := (one_new (w.alloc (.cells #[.int .i64 0, .bool false, .int .i64 0, .string ⟨#[]⟩] 59)) _).trans (hb3.mono (by simp))
      rw [World.size_alloc] at e0 e1 e2 e3 hz3
      obtain ⟨c0, c1, c2, c3, f0, f1, f2, f3, hz2⟩ := box_later hb4
      have hbw : Below w.heap.size w w3 := (one_new _ _).trans (hb4.mono (by simp))
      clear hb3 hb4
      go_wp2
      exact bodyPost_ret (v := .tuple #[.agg #[.int .i64 2, .bool false, .int .i64 n, .string ⟨#[]⟩], .int .i64 0]) (by simp [results, Try.results54, go_sem, c0, c1, c2, c3]) rfl ⟨by first | (rw [HE.out]; done) | (rw [HE.out]; rfl), by repeat (first | exact Below.refl _ _ | assumption | (refine bset ?_) | (refine bnew' ?_ (Nat.le_refl _) _))⟩
    · have HE := Lib.hid (end_no s.data.toList ⟨2, false, n, ⟨#[]⟩⟩ HG.out (fun h => hx h.2))
      have hx' := hx
      rw [← HXX.out] at hx'
      have bx : (X == s.toList) = false := by rw [HTL.out]; simpa using hx'
      clear hx hx'
      go_wp2_with (go_at_call 76; fail)
      refine (ref_show ⟨2, false, n, ⟨#[]⟩⟩ _ HW.out).mono ?_
      rintro e w3 ⟨rfl, hb3⟩
      rw [← HXX.out]
      obtain ⟨e0, e1, e2, e3, _, _, _, _, hz3⟩ := box_later hb3
      have hb4 := (one_new (w.alloc (.cells #[.int .i64 0, .bool false, .int .i64 0, .string ⟨#[]⟩] 59)) _).trans (hb3.mono (by simp))
      rw [World.size_alloc] at e0 e1 e2 e3 hz3
      obtain ⟨c0, c1, c2, c3, f0, f1, f2, f3, hz2⟩ := box_later hb4
      have hbw : Below w.heap.size w w3 := (one_new _ _).trans (hb4.mono (by simp))
      clear hb3 hb4
      go_wp2
      exact bodyPost_ret (v := .tuple #[.agg #[.int .i64 0, .bool false, .int .i64 0, .string ⟨#[]⟩], .int .i64 7]) (by simp [results, Try.results54, go_sem, c0, c1, c2, c3]) rfl ⟨by first | (rw [HE.out]; done) | (rw [HE.out]; rfl), by repeat (first | exact Below.refl _ _ | assumption | (refine bset ?_) | (refine bnew' ?_ (Nat.le_refl _) _))⟩
  | false =>
    have hh : ∀ h0 : 0 < s.size, s.data.toList.head? = some s[0] := by
      intro h0
      rw [List.head?_eq_getElem?, List.getElem?_eq_getElem (by exact h0)]
      rfl
    by_cases hq : 2 ≤ s.size ∧ s.data.toList.head? = some 34 ∧ s.size ≤ 300
    · obtain ⟨q1, q2, q3⟩ := hq
      have hc : s[0] = 34 := by rw [hh (by omega)] at q2; injection q2
      have b3 : ((s[0].toNat : Int) == 34) = true := by rw [hc]; rfl
      have hne : s.data.toList ≠ [] := by intro e; rw [e] at q2; cases q2
      have b0 : (s.toList == []) = false := by rw [HTL.out]; simpa using hne
      obtain ⟨r, hr⟩ : ∃ r, s.data.toList = 34 :: r := by
        cases hd : s.data.toList with
        | nil => exact absurd hd hne
        | cons x r => rw [hd] at q2; injection q2 with q2; exact ⟨r, by rw [q2]⟩
      have HNE := Lib.hid hne
      obtain ⟨t, ht⟩ : ∃ t : ByteArray, t = ⟨(ruqF s.data.toList s.size 1).toArray⟩ := ⟨_, rfl⟩
      have HT := Lib.hid ht
      have hg : RGuess s.data.toList ⟨3, false, 0, t⟩ := by rw [ht]; exact g_text _ n HN.out H1.out H2.out r hr _ (by rw [HL.out]; exact Nat.le_refl _)
      have HG := Lib.hid hg
      have HW := Lib.hid hg.1
      obtain ⟨X, hX⟩ : ∃ X, X = showV ⟨3, false, 0, t⟩ := ⟨_, rfl⟩
      have HXX := Lib.hid hX
      clear hg hX hc hh q2 hne hr ht
      by_cases hx : showV ⟨3, false, 0, t⟩ = s.data.toList
      · have HE := Lib.hid (end_ok s.data.toList ⟨3, false, 0, t⟩ HG.out HNE.out hx)
        have hx' := hx
        rw [← HXX.out] at hx'
        have bx : (X == s.toList) = true := by rw [HTL.out]; simpa using hx'
        clear hx hx'
        go_wp2_with (first
          | (go_at_call 75; fail)
          | (go_at_call 76; fail))
        refine (ref_unquoted s _ hs).mono ?_
        rintro e w2 ⟨rfl, hb2⟩
        rw [← HT.out]
        obtain ⟨c0, c1, c2, c3, f0, f1, f2, f3, hz2⟩ := box_later hb2
        rw [World.size_alloc] at c0 c1 c2 c3 f0 f1 f2 f3 hz2
        have hb5 := (one_new (w.alloc (.cells #[.int .i64 0, .bool false, .int .i64 0, .string ⟨#[]⟩] 59)) _).trans (hb2.mono (by simp))
        obtain ⟨d0, d1, d2, d3, k0, k1, k2, k3, hz4⟩ := box_later hb5
        have hbx : Below w.heap.size w w2 := (one_new _ _).trans (hb5.mono (by simp))
        clear hb2 hb5
        go_wp2_with (go_at_call 76; fail)
        refine (ref_show ⟨3, false, 0, t⟩ _ HW.out).mono ?_
        rintro e w3 ⟨rfl, hb3⟩
        rw [← HXX.out]
        have g0 : w3.cell? ⟨w.heap.size + 1, 0, none⟩ = some (.int .i64 3) := (hb3.cell (p := ⟨w.heap.size + 1, 0, none⟩) (by simp; omega)).trans (by simp [go_sem, c0])
        have g1 : w3.cell? ⟨w.heap.size + 1, 1, none⟩ = some (.bool false) := (hb3.cell (p := ⟨w.heap.size + 1, 1, none⟩) (by simp; omega)).trans (by simp [go_sem, c1])
        have g2 : w3.cell? ⟨w.heap.size + 1, 2, none⟩ = some (.int .i64 0) := (hb3.cell (p := ⟨w.heap.size + 1, 2, none⟩) (by simp; omega)).trans (by simp [go_sem, c2])
        have g3 : w3.cell? ⟨w.heap.size + 1, 3, none⟩ = some (.string t) := (hb3.cell (p := ⟨w.heap.size + 1, 3, none⟩) (by simp; omega)).trans (by simp [go_sem, c3])
        have m0 : w3.cell? ⟨w.heap.size, 0, none⟩ = some (.int .i64 0) := (hb3.cell (p := ⟨w.heap.size, 0, none⟩) (by simp; omega)).trans (by simp [go_sem, d0])
        have m1 : w3.cell? ⟨w.heap.size, 1, none⟩ = some (.bool false) := (hb3.cell (p := ⟨w.heap.size, 1, none⟩) (by simp; omega)).trans (by simp [go_sem, d1])
        have m2 : w3.cell? ⟨w.heap.size, 2, none⟩ = some (.int .i64 0) := (hb3.cell (p := ⟨w.heap.size, 2, none⟩) (by simp; omega)).trans (by simp [go_sem, d2])
        have m3 : w3.cell? ⟨w.heap.size, 3, none⟩ = some (.string ⟨#[]⟩) := (hb3.cell (p := ⟨w.heap.size, 3, none⟩) (by simp; omega)).trans (by simp [go_sem, d3])
        have p0 : w3.frozen? ⟨w.heap.size, 0, none⟩ = false := (hb3.frozen (p := ⟨w.heap.size, 0, none⟩) (by simp; omega)).trans (by simp [go_sem, k0])
        have p1 : w3.frozen? ⟨w.heap.size, 1, none⟩ = false := (hb3.frozen (p := ⟨w.heap.size, 1, none⟩) (by simp; omega)).trans (by simp [go_sem, k1])
        have p2 : w3.frozen? ⟨w.heap.size, 2, none⟩ = false := (hb3.frozen (p := ⟨w.heap.size, 2, none⟩) (by simp; omega)).trans (by simp [go_sem, k2])
        have p3 : w3.frozen? ⟨w.heap.size, 3, none⟩ = false := (hb3.frozen (p := ⟨w.heap.size, 3, none⟩) (by simp; omega)).trans (by simp [go_sem, k3])
        have hz3 : w.heap.size + 1 < w3.heap.size := Nat.lt_of_lt_of_le (by simp; omega) hb3.size
        have hbw : Below w.heap.size w w3 := Below.trans (by repeat (first | assumption | (refine bset1 ?_))) (hb3.mono (by simp; omega))
        clear hb3 c0 c1 c2 c3 d0 d1 d2 d3 f0 f1 f2 f3 k0 k1 k2 k3 hbx hz2 hz4
        have c0 := m0
        have c1 := m1
        have c2 := m2
        have c3 := m3
        go_wp2
        exact bodyPost_ret (v := .tuple #[.agg #[.int .i64 3, .bool false, .int .i64 0, .string t], .int .i64 0]) (by simp [results, Try.results54, go_sem, c0, c1, c2, c3]) rfl ⟨by first | (rw [HE.out]; done) | (rw [HE.out]; rfl), by repeat (first | exact Below.refl _ _ | assumption | (refine bset ?_) | (refine bnew' ?_ (Nat.le_refl _) _))⟩
      · have HE := Lib.hid (end_no s.data.toList ⟨3, false, 0, t⟩ HG.out (fun h => hx h.2))
        have hx' := hx
        rw [← HXX.out] at hx'
        have bx : (X == s.toList) = false := by rw [HTL.out]; simpa using hx'
        clear hx hx'
        go_wp2_with (first
          | (go_at_call 75; fail)
          | (go_at_call 76; fail))
        refine (ref_unquoted s _ hs).mono ?_
        rintro e w2 ⟨rfl, hb2⟩
        rw [← HT.out]
        obtain ⟨c0, c1, c2, c3, f0, f1, f2, f3, hz2⟩ := box_later hb2
        rw [World.size_alloc] at c0 c1 c2 c3 f0 f1 f2 f3 hz2
        have hb5 := (one_new (w.alloc (.cells #[.int .i64 0, .bool false, .int .i64 0, .string ⟨#[]⟩] 59)) _).trans (hb2.mono (by simp))
        obtain ⟨d0, d1, d2, d3, k0, k1, k2, k3, hz4⟩ := box_later hb5
        have hbx : Below w.heap.size w w2 := (one_new _ _).trans (hb5.mono (by simp))
        clear hb2 hb5
        go_wp2_with (go_at_call 76; fail)
        refine (ref_show ⟨3, false, 0, t⟩ _ HW.out).mono ?_
        rintro e w3 ⟨rfl, hb3⟩
        rw [← HXX.out]
        have g0 : w3.cell? ⟨w.heap.size + 1, 0, none⟩ = some (.int .i64 3) := (hb3.cell (p := ⟨w.heap.size + 1, 0, none⟩) (by simp; omega)).trans (by simp [go_sem, c0])
        have g1 : w3.cell? ⟨w.heap.size + 1, 1, none⟩ = some (.bool false) := (hb3.cell (p := ⟨w.heap.size + 1, 1, none⟩) (by simp; omega)).trans (by simp [go_sem, c1])
        have g2 : w3.cell? ⟨w.heap.size + 1, 2, none⟩ = some (.int .i64 0) := (hb3.cell (p := ⟨w.heap.size + 1, 2, none⟩) (by simp; omega)).trans (by simp [go_sem, c2])
        have g3 : w3.cell? ⟨w.heap.size + 1, 3, none⟩ = some (.string t) := (hb3.cell (p := ⟨w.heap.size + 1, 3, none⟩) (by simp; omega)).trans (by simp [go_sem, c3])
        have m0 : w3.cell? ⟨w.heap.size, 0, none⟩ = some (.int .i64 0) := (hb3.cell (p := ⟨w.heap.size, 0, none⟩) (by simp; omega)).trans (by simp [go_sem, d0])
        have m1 : w3.cell? ⟨w.heap.size, 1, none⟩ = some (.bool false) := (hb3.cell (p := ⟨w.heap.size, 1, none⟩) (by simp; omega)).trans (by simp [go_sem, d1])
        have m2 : w3.cell? ⟨w.heap.size, 2, none⟩ = some (.int .i64 0) := (hb3.cell (p := ⟨w.heap.size, 2, none⟩) (by simp; omega)).trans (by simp [go_sem, d2])
        have m3 : w3.cell? ⟨w.heap.size, 3, none⟩ = some (.string ⟨#[]⟩) := (hb3.cell (p := ⟨w.heap.size, 3, none⟩) (by simp; omega)).trans (by simp [go_sem, d3])
        have p0 : w3.frozen? ⟨w.heap.size, 0, none⟩ = false := (hb3.frozen (p := ⟨w.heap.size, 0, none⟩) (by simp; omega)).trans (by simp [go_sem, k0])
        have p1 : w3.frozen? ⟨w.heap.size, 1, none⟩ = false := (hb3.frozen (p := ⟨w.heap.size, 1, none⟩) (by simp; omega)).trans (by simp [go_sem, k1])
        have p2 : w3.frozen? ⟨w.heap.size, 2, none⟩ = false := (hb3.frozen (p := ⟨w.heap.size, 2, none⟩) (by simp; omega)).trans (by simp [go_sem, k2])
        have p3 : w3.frozen? ⟨w.heap.size, 3, none⟩ = false := (hb3.frozen (p := ⟨w.heap.size, 3, none⟩) (by simp; omega)).trans (by simp [go_sem, k3])
        have hz3 : w.heap.size + 1 < w3.heap.size := Nat.lt_of_lt_of_le (by simp; omega) hb3.size
        have hbw : Below w.heap.size w w3 := Below.trans (by repeat (first | assumption | (refine bset1 ?_))) (hb3.mono (by simp; omega))
        clear hb3 c0 c1 c2 c3 d0 d1 d2 d3 f0 f1 f2 f3 k0 k1 k2 k3 hbx hz2 hz4
        have c0 := m0
        have c1 := m1
        have c2 := m2
        have c3 := m3
        go_wp2
        exact bodyPost_ret (v := .tuple #[.agg #[.int .i64 0, .bool false, .int .i64 0, .string ⟨#[]⟩], .int .i64 7]) (by simp [results, Try.results54, go_sem, c0, c1, c2, c3]) rfl ⟨by first | (rw [HE.out]; done) | (rw [HE.out]; rfl), by repeat (first | exact Below.refl _ _ | assumption | (refine bset ?_) | (refine bnew' ?_ (Nat.le_refl _) _))⟩
    · have hgz := g_none s.data.toList n HN.out H1.out H2.out (by rw [HL.out]; exact hq)
      have HGZ := Lib.hid hgz
      clear hgz
      by_cases z0 : s.size = 0
      · have he : s.data.toList = [] := List.eq_nil_of_length_eq_zero (by rw [HL.out]; exact z0)
        have b0 : (s.toList == []) = true := by rw [HTL.out, he]; rfl
        have HE := Lib.hid (end_no s.data.toList noV HGZ.out (fun h => h.1 he))
        clear he hq hh
        go_wp2
        exact bodyPost_ret (v := .tuple #[.agg #[.int .i64 0, .bool false, .int .i64 0, .string ⟨#[]⟩], .int .i64 7]) (by simp [results, Try.results54, go_sem]) rfl ⟨by first | (rw [HE.out]; done) | (rw [HE.out]; rfl), by repeat (first | exact Below.refl _ _ | assumption | (refine bset ?_) | (refine bnew' ?_ (Nat.le_refl _) _))⟩
      have hne : s.data.toList ≠ [] := by intro e; have := congrArg List.length e; rw [HL.out] at this; exact z0 this
      have b0 : (s.toList == []) = false := by rw [HTL.out]; simpa using hne
      have HNE := Lib.hid hne
      clear hne
      by_cases z1 : s.size = 1
      · clear hq hh
        have hg : RGuess s.data.toList ⟨0, false, 0, ⟨#[]⟩⟩ := HGZ.out
        have HG := Lib.hid hg
        have HW := Lib.hid hg.1
        obtain ⟨X, hX⟩ : ∃ X, X = showV ⟨0, false, 0, ⟨#[]⟩⟩ := ⟨_, rfl⟩
        have HXX := Lib.hid hX
        clear hg hX
        by_cases hx : showV ⟨0, false, 0, ⟨#[]⟩⟩ = s.data.toList
        · have HE := Lib.hid (end_ok s.data.toList ⟨0, false, 0, ⟨#[]⟩⟩ HG.out HNE.out hx)
          have hx' := hx
          rw [← HXX.out] at hx'
          have bx : (X == s.toList) = true := by rw [HTL.out]; simpa using hx'
          clear hx hx'
          go_wp2_with (go_at_call 76; fail)
          refine (ref_show ⟨0, false, 0, ⟨#[]⟩⟩ _ HW.out).mono ?_
          rintro e w3 ⟨rfl, hb3⟩
          rw [← HXX.out]
          obtain ⟨e0, e1, e2, e3, _, _, _, _, hz3⟩ := box_later hb3
          have hb4 := (one_new (w.alloc (.cells #[.int .i64 0, .bool false, .int .i64 0, .string ⟨#[]⟩] 59)) _).trans (hb3.mono (by simp))
          rw [World.size_alloc] at e0 e1 e2 e3 hz3
          obtain ⟨c0, c1, c2, c3, f0, f1, f2, f3, hz2⟩ := box_later hb4
          have hbw : Below w.heap.size w w3 := (one_new _ _).trans (hb4.mono (by simp))
          clear hb3 hb4
          go_wp2
          exact bodyPost_ret (v := .tuple #[.agg #[.int .i64 0, .bool false, .int .i64 0, .string ⟨#[]⟩], .int .i64 0]) (by simp [results, Try.results54, go_sem, c0, c1, c2, c3]) rfl ⟨by first | (rw [HE.out]; done) | (rw [HE.out]; rfl), by repeat (first | exact Below.refl _ _ | assumption | (refine bset ?_) | (refine bnew' ?_ (Nat.le_refl _) _))⟩
        · have HE := Lib.hid (end_no s.data.toList ⟨0, false, 0, ⟨#[]⟩⟩ HG.out (fun h => hx h.2))
          have hx' := hx
          rw [← HXX.out] at hx'
          have bx : (X == s.toList) = false := by rw [HTL.out]; simpa using hx'
          clear hx hx'
          go_wp2_with (go_at_call 76; fail)
          refine (ref_show ⟨0, false, 0, ⟨#[]⟩⟩ _ HW.out).mono ?_
          rintro e w3 ⟨rfl, hb3⟩
          rw [← HXX.out]
          obtain ⟨e0, e1, e2, e3, _, _, _, _, hz3⟩ := box_later hb3
          have hb4 := (one_new (w.alloc (.cells #[.int .i64 0, .bool false, .int .i64 0, .string ⟨#[]⟩] 59)) _).trans (hb3.mono (by simp))
          rw [World.size_alloc] at e0 e1 e2 e3 hz3
          obtain ⟨c0, c1, c2, c3, f0, f1, f2, f3, hz2⟩ := box_later hb4
          have hbw : Below w.heap.size w w3 := (one_new _ _).trans (hb4.mono (by simp))
          clear hb3 hb4
          go_wp2
          exact bodyPost_ret (v := .tuple #[.agg #[.int .i64 0, .bool false, .int .i64 0, .string ⟨#[]⟩], .int .i64 7]) (by simp [results, Try.results54, go_sem, c0, c1, c2, c3]) rfl ⟨by first | (rw [HE.out]; done) | (rw [HE.out]; rfl), by repeat (first | exact Below.refl _ _ | assumption | (refine bset ?_) | (refine bnew' ?_ (Nat.le_refl _) _))⟩
      have z2 : 2 ≤ s.size := by omega
      by_cases z3 : s[0].toNat = 34
      · have z4 : 300 < s.size := by
          rcases Nat.lt_or_ge 300 s.size with h | h
          · exact h
          · refine absurd ⟨z2, ?_, h⟩ hq
            rw [hh (by omega)]
            congr 1
            exact UInt8.toNat_inj.1 z3
        have b3 : ((s[0].toNat : Int) == 34) = true := by rw [z3]; rfl
        clear hq hh z0 z1 z3
        have hg : RGuess s.data.toList ⟨0, false, 0, ⟨#[]⟩⟩ := HGZ.out
        have HG := Lib.hid hg
        have HW := Lib.hid hg.1
        obtain ⟨X, hX⟩ : ∃ X, X = showV ⟨0, false, 0, ⟨#[]⟩⟩ := ⟨_, rfl⟩
        have HXX := Lib.hid hX
        clear hg hX
        by_cases hx : showV ⟨0, false, 0, ⟨#[]⟩⟩ = s.data.toList
        · have HE := Lib.hid (end_ok s.data.toList ⟨0, false, 0, ⟨#[]⟩⟩ HG.out HNE.out hx)
          have hx' := hx
          rw [← HXX.out] at hx'
          have bx : (X == s.toList) = true := by rw [HTL.out]; simpa using hx'
          clear hx hx'
          go_wp2_with (go_at_call 76; fail)
          refine (ref_show ⟨0, false, 0, ⟨#[]⟩⟩ _ HW.out).mono ?_
          rintro e w3 ⟨rfl, hb3⟩
          rw [← HXX.out]
          obtain ⟨e0, e1, e2, e3, _, _, _, _, hz3⟩ := box_later hb3
          have hb4 := (one_new (w.alloc (.cells #[.int .i64 0, .bool false, .int .i64 0, .string ⟨#[]⟩] 59)) _).trans (hb3.mono (by simp))
          rw [World.size_alloc] at e0 e1 e2 e3 hz3
          obtain ⟨c0, c1, c2, c3, f0, f1, f2, f3, hz2⟩ := box_later hb4
          have hbw : Below w.heap.size w w3 := (one_new _ _).trans (hb4.mono (by simp))
          clear hb3 hb4
          go_wp2
          exact bodyPost_ret (v := .tuple #[.agg #[.int .i64 0, .bool false, .int .i64 0, .string ⟨#[]⟩], .int .i64 0]) (by simp [results, Try.results54, go_sem, c0, c1, c2, c3]) rfl ⟨by first | (rw [HE.out]; done) | (rw [HE.out]; rfl), by repeat (first | exact Below.refl _ _ | assumption | (refine bset ?_) | (refine bnew' ?_ (Nat.le_refl _) _))⟩
        · have HE := Lib.hid (end_no s.data.toList ⟨0, false, 0, ⟨#[]⟩⟩ HG.out (fun h => hx h.2))
          have hx' := hx
          rw [← HXX.out] at hx'
          have bx : (X == s.toList) = false := by rw [HTL.out]; simpa using hx'
          clear hx hx'
          go_wp2_with (go_at_call 76; fail)
          refine (ref_show ⟨0, false, 0, ⟨#[]⟩⟩ _ HW.out).mono ?_
          rintro e w3 ⟨rfl, hb3⟩
          rw [← HXX.out]
          obtain ⟨e0, e1, e2, e3, _, _, _, _, hz3⟩ := box_later hb3
          have hb4 := (one_new (w.alloc (.cells #[.int .i64 0, .bool false, .int .i64 0, .string ⟨#[]⟩] 59)) _).trans (hb3.mono (by simp))
          rw [World.size_alloc] at e0 e1 e2 e3 hz3
          obtain ⟨c0, c1, c2, c3, f0, f1, f2, f3, hz2⟩ := box_later hb4
          have hbw : Below w.heap.size w w3 := (one_new _ _).trans (hb4.mono (by simp))
          clear hb3 hb4
          go_wp2
          exact bodyPost_ret (v := .tuple #[.agg #[.int .i64 0, .bool false, .int .i64 0, .string ⟨#[]⟩], .int .i64 7]) (by simp [results, Try.results54, go_sem, c0, c1, c2, c3]) rfl ⟨by first | (rw [HE.out]; done) | (rw [HE.out]; rfl), by repeat (first | exact Below.refl _ _ | assumption | (refine bset ?_) | (refine bnew' ?_ (Nat.le_refl _) _))⟩
      · have b3 : ((s[0].toNat : Int) == 34) = false := by rw [beq_eq_false_iff_ne]; omega
        clear hq hh z0 z1 z3
        have hg : RGuess s.data.toList ⟨0, false, 0, ⟨#[]⟩⟩ := HGZ.out
        have HG := Lib.hid hg
        have HW := Lib.hid hg.1
        obtain ⟨X, hX⟩ : ∃ X, X = showV ⟨0, false, 0, ⟨#[]⟩⟩ := ⟨_, rfl⟩
        have HXX := Lib.hid hX
        clear hg hX
        by_cases hx : showV ⟨0, false, 0, ⟨#[]⟩⟩ = s.data.toList
        · have HE := Lib.hid (end_ok s.data.toList ⟨0, false, 0, ⟨#[]⟩⟩ HG.out HNE.out hx)
          have hx' := hx
          rw [← HXX.out] at hx'
          have bx : (X == s.toList) = true := by rw [HTL.out]; simpa using hx'
          clear hx hx'
          go_wp2_with (go_at_call 76; fail)
          refine (ref_show ⟨0, false, 0, ⟨#[]⟩⟩ _ HW.out).mono ?_
          rintro e w3 ⟨rfl, hb3⟩
          rw [← HXX.out]
          obtain ⟨e0, e1, e2, e3, _, _, _, _, hz3⟩ := box_later hb3
          have hb4 := (one_new (w.alloc (.cells #[.int .i64 0, .bool false, .int .i64 0, .string ⟨#[]⟩] 59)) _).trans (hb3.mono (by simp))
          rw [World.size_alloc] at e0 e1 e2 e3 hz3
          obtain ⟨c0, c1, c2, c3, f0, f1, f2, f3, hz2⟩ := box_later hb4
          have hbw : Below w.heap.size w w3 := (one_new _ _).trans (hb4.mono (by simp))
          clear hb3 hb4
          go_wp2
          exact bodyPost_ret (v := .tuple #[.agg #[.int .i64 0, .bool false, .int .i64 0, .string ⟨#[]⟩], .int .i64 0]) (by simp [results, Try.results54, go_sem, c0, c1, c2, c3]) rfl ⟨by first | (rw [HE.out]; done) | (rw [HE.out]; rfl), by repeat (first | exact Below.refl _ _ | assumption | (refine bset ?_) | (refine bnew' ?_ (Nat.le_refl _) _))⟩
        · have HE := Lib.hid (end_no s.data.toList ⟨0, false, 0, ⟨#[]⟩⟩ HG.out (fun h => hx h.2))
          have hx' := hx
          rw [← HXX.out] at hx'
          have bx : (X == s.toList) = false := by rw [HTL.out]; simpa using hx'
          clear hx hx'
          go_wp2_with (go_at_call 76; fail)
          refine (ref_show ⟨0, false, 0, ⟨#[]⟩⟩ _ HW.out).mono ?_
          rintro e w3 ⟨rfl, hb3⟩
          rw [← HXX.out]
          obtain ⟨e0, e1, e2, e3, _, _, _, _, hz3⟩ := box_later hb3
          have hb4 := (one_new (w.alloc (.cells #[.int .i64 0, .bool false, .int .i64 0, .string ⟨#[]⟩] 59)) _).trans (hb3.mono (by simp))
          rw [World.size_alloc] at e0 e1 e2 e3 hz3
          obtain ⟨c0, c1, c2, c3, f0, f1, f2, f3, hz2⟩ := box_later hb4
          have hbw : Below w.heap.size w w3 := (one_new _ _).trans (hb4.mono (by simp))
          clear hb3 hb4
          go_wp2
          exact bodyPost_ret (v := .tuple #[.agg #[.int .i64 0, .bool false, .int .i64 0, .string ⟨#[]⟩], .int .i64 7]) (by simp [results, Try.results54, go_sem, c0, c1, c2, c3]) rfl ⟨by first | (rw [HE.out]; done) | (rw [HE.out]; rfl), by repeat (first | exact Below.refl _ _ | assumption | (refine bset ?_) | (refine bnew' ?_ (Nat.le_refl _) _))⟩
end Go.Proofs.Ythdjkagodccdbaa
