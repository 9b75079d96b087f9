/-
  Facts on the tokens of a text: a quoted text that does not end is no value's word; tokens stand one behind the other, with blanks alone between them.
  No condition.
-/
import Derived.Test.YtmdkjhnafnblkaaDoorLxp
namespace Go.Proofs.YtmdkjhnafnblkaaDoor
open Go.RowKit

theorem hexd_not (d : Nat) (h : d < 16) : hexd d ≠ 92 ∧ hexd d ≠ 34 := by
  have : ∀ e : Fin 16, hexd e.val ≠ 92 ∧ hexd e.val ≠ 34 := by decide
  exact this ⟨d, h⟩
theorem txtF_plain (c : UInt8) (r : List UInt8) (i : Nat) (h1 : c ≠ 92) (h2 : c ≠ 34) : txtF (c :: r) i = txtF r (i + 1) := by
  rw [txtF.eq_def]
  simp only [h1, h2, if_false]
theorem txtF_esc (c : UInt8) (r : List UInt8) (i : Nat) : txtF (92 :: c :: r) i = txtF r (i + 2) := by
  rw [txtF.eq_def]
  simp only [if_true]
theorem txtF_end (r : List UInt8) (i : Nat) : txtF (34 :: r) i = i + 1 := by
  rw [txtF.eq_def]
  simp only [show ¬ ((34 : UInt8) = 92) by decide, if_false, if_true]
theorem txtF_qs : ∀ (t : List UInt8) (i : Nat), txtF (t.flatMap qb ++ [34]) i = i + (t.flatMap qb).length + 1
  | [], i => by simp [txtF]
  | c :: t, i => by
    rw [List.flatMap_cons, List.append_assoc, List.length_append]
    have hc : c.toNat < 256 := c.toNat_lt
    have ih := fun j => txtF_qs t j
    generalize t.flatMap qb = u at ih ⊢
    by_cases h : c.toNat = 34 ∨ c.toNat = 92
    · have e : qb c = [92, c] := if_pos h
      rw [e]
      show txtF (92 :: c :: (u ++ [34])) i = _
      rw [txtF_esc, ih]
      simp only [List.length_cons, List.length_nil]
      omega
    · by_cases h' : c.toNat < 32 ∨ 126 < c.toNat
      · have e : qb c = [92, 120, hexd (c.toNat / 16), hexd (c.toNat % 16)] := by unfold qb; rw [if_neg h, if_pos h']
        rw [e]
        show txtF (92 :: 120 :: hexd (c.toNat / 16) :: hexd (c.toNat % 16) :: (u ++ [34])) i = _
        have h1 := hexd_not (c.toNat / 16) (by omega)
        have h2 := hexd_not (c.toNat % 16) (by omega)
        rw [txtF_esc, txtF_plain _ _ _ h1.1 h1.2, txtF_plain _ _ _ h2.1 h2.2, ih]
        simp only [List.length_cons, List.length_nil]
        omega
      · have e : qb c = [c] := by unfold qb; rw [if_neg h, if_neg h']
        rw [e]
        show txtF (c :: (u ++ [34])) i = _
        have h1 : c ≠ 92 := fun e => h (.inr (by rw [e]; rfl))
        have h2 : c ≠ 34 := fun e => h (.inl (by rw [e]; rfl))
        rw [txtF_plain _ _ _ h1 h2, ih]
        simp only [List.length_cons, List.length_nil]
        omega
theorem readR_ok {l : List UInt8} (h : (readR l).2 = 0) : l.length ≤ 242 ∧ showV (guessV l) = l := by
  unfold readR at h
  split at h
  · assumption
  · cases h
theorem quo_ends (r : List UInt8) (h : (readR (34 :: r)).2 = 0) : txtF r 1 = r.length + 1 := by
  obtain ⟨_, h2⟩ := readR_ok h
  have hp : Lib.hasPrefix ((34 : UInt8) :: r) [34] = true := by
    unfold Lib.hasPrefix
    simp
  have hg : guessV (34 :: r) = ⟨3, false, 0, ⟨(unqF (34 :: r) (34 :: r).length 1).toArray⟩⟩ := by
    unfold guessV
    rw [if_neg (by simp), if_neg (by simp), if_neg (by simp), if_pos hp]
  rw [hg] at h2
  unfold showV at h2
  split at h2
  · rw [if_neg (show ¬ (3 : Int) = 1 by decide), if_neg (show ¬ (3 : Int) = 2 by decide), if_pos rfl] at h2
    unfold qs at h2
    simp only [List.cons_append, List.nil_append, List.cons.injEq, true_and] at h2
    rw [← h2, txtF_qs]
    simp
    omega
  · cases h2
/-- A quoted text that does not end is no value's word. -/
theorem quo_open (r : List UInt8) (h : txtF r 1 = 0) : conT (34 :: r) = noT := by
  unfold conT
  rw [if_neg]
  intro e
  have := quo_ends r e
  omega

theorem size_mk (l : List UInt8) : (⟨l.toArray⟩ : ByteArray).size = l.length := by show l.toArray.size = _; simp
theorem conT_kind (l : List UInt8) (h : 0 < l.length) : ((conT l).k = 0 ∧ (conT l).t.size = 0) ∨ ((conT l).k = 2 ∧ 0 < (conT l).t.size) := by
  unfold conT
  split
  · exact .inr ⟨rfl, by rw [size_mk]; exact h⟩
  · exact .inl ⟨rfl, rfl⟩
theorem oneT_kind (l : List UInt8) (h : l ≠ []) : ((oneT l).k = 0 ∧ (oneT l).t.size = 0) ∨ ((oneT l).k ≠ 0 ∧ (oneT l).k ≠ 4 ∧ 0 < (oneT l).t.size) := by
  have hc : ∀ n, 0 < n → ((conT (l.take n)).k = 0 ∧ (conT (l.take n)).t.size = 0) ∨ ((conT (l.take n)).k ≠ 0 ∧ (conT (l.take n)).k ≠ 4 ∧ 0 < (conT (l.take n)).t.size) := by
    intro n hn
    rcases conT_kind (l.take n) (by rw [List.length_take]; have := List.length_pos_iff.2 h; omega) with h1 | h1
    · exact .inl h1
    · exact .inr ⟨by rw [h1.1]; decide, by rw [h1.1]; decide, h1.2⟩
  match l, h with
  | c :: r, _ =>
    unfold oneT
    simp only
    split
    · unfold quoT
      split
      · exact .inl ⟨rfl, rfl⟩
      · exact hc _ (by omega)
    · split
      · rename_i h2
        unfold numT
        split
        · exact .inl ⟨rfl, rfl⟩
        · refine hc _ ?_
          unfold numF
          split
          · omega
          · rename_i h3
            simp only [Bool.or_eq_true, decide_eq_true_eq] at h2
            rcases h2 with h2 | h2
            · rw [List.takeWhile_cons_of_pos h2]
              simp
            · subst h2
              simp at h3
      · split
        · rename_i h3
          right
          have hw : 0 < wordF (c :: r) := by
            unfold wordF
            rw [List.takeWhile_cons_of_pos (by unfold wch; rw [h3]; rfl)]
            simp
          have hl : 0 < ((c :: r).take (wordF (c :: r))).length := by rw [List.length_take]; simp only [List.length_cons]; omega
          unfold worT
          split
          · exact ⟨show (2 : Int) ≠ 0 by decide, show (2 : Int) ≠ 4 by decide, by rw [size_mk]; exact hl⟩
          · exact ⟨show (1 : Int) ≠ 0 by decide, show (1 : Int) ≠ 4 by decide, by rw [size_mk]; exact hl⟩
        · unfold sgnT
          split
          · exact .inl ⟨rfl, rfl⟩
          · refine .inr ⟨show (3 : Int) ≠ 0 by decide, show (3 : Int) ≠ 4 by decide, ?_⟩
            rw [size_mk, List.length_take]
            have := sgnF_le (c :: r)
            omega

/-- Tokens of s from a place on: one behind the other, blanks alone between them, the end behind all. -/
def Apart (s : List UInt8) : Nat → List Tok → Prop
  | _, [] => False
  | at', x :: r => ∃ a : Nat, x.a = a ∧ at' ≤ a ∧ a + x.t.size ≤ s.length ∧ (s.drop a).take x.t.size = x.t.data.toList ∧ (∀ j, at' ≤ j → j < a → ∃ c, s[j]? = some c ∧ blk c = true) ∧
      ((r = [] ∧ x.k = 4 ∧ a + x.t.size = s.length) ∨ (r ≠ [] ∧ x.k ≠ 4 ∧ Apart s (a + x.t.size) r))
theorem lexF_ne (f n : Nat) (l : List UInt8) (h : 0 < f) : lexF f n l ≠ [] := by
  cases f with
  | zero => omega
  | succ f => unfold lexF; simp
theorem apart_lex (s : List UInt8) : ∀ (f at' : Nat), at' ≤ s.length → (s.drop at').length < f → (∀ x ∈ lexF f s.length (s.drop at'), x.k ≠ 0) → Apart s at' (lexF f s.length (s.drop at'))
  | 0, _, _, h, _ => by omega
  | f + 1, at', hat, hf, hk => by
    obtain ⟨l, hl⟩ : ∃ l, l = s.drop at' := ⟨_, rfl⟩
    obtain ⟨r, hr⟩ : ∃ r, r = l.dropWhile blk := ⟨_, rfl⟩
    have hlr : l.takeWhile blk ++ r = l := by rw [hr]; exact List.takeWhile_append_dropWhile
    have hll : (l.takeWhile blk).length + r.length = l.length := by
      have := congrArg List.length hlr
      rw [List.length_append] at this
      exact this
    have hle : l.length = s.length - at' := by rw [hl, List.length_drop]
    have hrd : r = s.drop (at' + (l.takeWhile blk).length) := by
      rw [← List.drop_drop, ← hl]
      have e : ∀ (a b : List UInt8), (a ++ b).drop a.length = b := fun a b => by simp
      have e2 := e (l.takeWhile blk) r
      rw [hlr] at e2
      exact e2.symm
    rw [← hl] at hk ⊢
    unfold lexF at hk ⊢
    rw [← hr] at hk ⊢
    have ht := oneT_take r
    have hz := oneT_size r
    refine ⟨at' + (l.takeWhile blk).length, ?_, by omega, ?_, ?_, ?_, ?_⟩
    · show (s.length : Int) - (r.length : Int) = _
      omega
    · show _ + (oneT r).t.size ≤ _
      omega
    · show List.take (oneT r).t.size _ = _
      rw [← hrd]
      exact ht.symm
    · intro j h1 h2
      have h3 : j - at' < (l.takeWhile blk).length := by omega
      refine ⟨(l.takeWhile blk)[j - at'], ?_, ?_⟩
      · have h4 : l[j - at']? = some (l.takeWhile blk)[j - at'] := by
          have e : (l.takeWhile blk ++ r)[j - at']? = some (l.takeWhile blk)[j - at'] := by
            rw [List.getElem?_append_left h3, List.getElem?_eq_getElem h3]
          rw [hlr] at e
          exact e
        have h5 := (congrArg (fun u : List UInt8 => u[j - at']?) hl).symm.trans h4
        simp only [List.getElem?_drop] at h5
        have h6 : at' + (j - at') = j := by omega
        rw [h6] at h5
        exact h5
      · have := List.all_takeWhile (p := blk) (l := l)
        exact List.all_eq_true.1 this _ (List.getElem_mem h3)
    · have hk0 : (oneT r).k ≠ 0 := by
        have := hk ((oneT r).set ((s.length : Int) - (r.length : Int))) (by simp)
        exact this
      by_cases hr0 : r = []
      · left
        have e : oneT r = ⟨4, ⟨#[]⟩, noV, 0⟩ := by rw [hr0]; rfl
        refine ⟨?_, ?_, ?_⟩
        · rw [e]; rfl
        · show (oneT r).k = 4
          rw [e]
        · show _ + (oneT r).t.size = _
          have h5 : (oneT r).t.size = 0 := by rw [e]; rfl
          rw [h5]
          have : r.length = 0 := by rw [hr0]; rfl
          omega
      · right
        rcases oneT_kind r hr0 with h | ⟨_, h4, h5⟩
        · exact absurd h.1 hk0
        · have h6 : ¬ (oneT r).t.size = 0 := by omega
          rw [if_neg h6] at hk ⊢
          have hd : r.drop (oneT r).t.size = s.drop (at' + (l.takeWhile blk).length + (oneT r).t.size) := by
            rw [← List.drop_drop, ← hrd]
          rw [hd] at hk ⊢
          have h7 : at' + (l.takeWhile blk).length + (oneT r).t.size ≤ s.length := by omega
          have h8 : (s.drop (at' + (l.takeWhile blk).length + (oneT r).t.size)).length < f := by rw [List.length_drop] at hf ⊢; omega
          have h9 : 0 < f := by omega
          exact ⟨lexF_ne _ _ _ h9, h4, apart_lex s f _ h7 h8 (fun x hx => hk x (List.mem_cons_of_mem _ hx))⟩
end Go.Proofs.YtmdkjhnafnblkaaDoor
