/-
  The tokens of tokens' bytes that stand one behind the other, blanks between them, are these tokens again but for their places.
  No condition.
  The rule that tokens are, and why they are none, does not hang on their places.
  No condition.
  The words of a rule, in order, and that the tokens out of which a rule is read are them.
  No condition.
  A rule's text, as it is written out of its parts, is read as the rule again, where it is not too long.
  No condition.
-/
import Derived.Test.YtkobfngnnblpeaaGreatDoorM23
import Derived.Test.YtkobfngnnblpeaaGreatDoorM25
import Derived.Test.YtkobfngnnblpeaaGreatDoorM9
namespace Go.Proofs.YtkobfngnnblpeaaGreatDoor
section
open Go.RowKit

/-- What may stand behind a token's bytes: nothing, a blank, a bracket, a comma. -/
def stc (c : UInt8) : Prop := c = 32 ∨ c = 40 ∨ c = 41 ∨ c = 44
def StopB (R : List UInt8) : Prop := R = [] ∨ ∃ c R', R = c :: R' ∧ stc c
theorem StopB.blank (R : List UInt8) : StopB (32 :: R) := .inr ⟨32, R, rfl, .inl rfl⟩
theorem stc_dgt (c : UInt8) (h : stc c) : dgt c = false := by rcases h with rfl | rfl | rfl | rfl <;> decide
theorem stc_wch (c : UInt8) (h : stc c) : wch c = false := by rcases h with rfl | rfl | rfl | rfl <;> decide
theorem stc_ne (c : UInt8) (h : stc c) : c ≠ 61 := by rcases h with rfl | rfl | rfl | rfl <;> decide

theorem txtF_cut : ∀ (r : List UInt8) (i : Nat) (R : List UInt8), 0 < txtF r i → txtF (r.take (txtF r i - i) ++ R) i = txtF r i
  | [], i, R, h => by simp [txtF] at h
  | c :: r, i, R, h => by
    by_cases h1 : c = 92
    · subst h1
      match r, h with
      | [], h => simp [txtF] at h
      | d :: r', h =>
        have e : txtF (92 :: d :: r') i = txtF r' (i + 2) := txtF_esc _ _ _
        rw [e] at h ⊢
        have hp := (txtF_pos r' (i + 2)).resolve_left (by omega)
        obtain ⟨m, hm⟩ : ∃ m, txtF r' (i + 2) - i = m + 2 := ⟨txtF r' (i + 2) - (i + 2), by omega⟩
        rw [hm]
        show txtF (92 :: d :: (r'.take m ++ R)) i = _
        rw [txtF_esc]
        have hm2 : m = txtF r' (i + 2) - (i + 2) := by omega
        rw [hm2]
        exact txtF_cut r' (i + 2) R h
    · by_cases h2 : c = 34
      · subst h2
        rw [txtF_end]
        have e1 : i + 1 - i = 1 := by omega
        rw [e1]
        show txtF (34 :: (r.take 0 ++ R)) i = _
        rw [txtF_end]
      · have e : txtF (c :: r) i = txtF r (i + 1) := txtF_plain _ _ _ h1 h2
        rw [e] at h ⊢
        have hp := (txtF_pos r (i + 1)).resolve_left (by omega)
        obtain ⟨m, hm⟩ : ∃ m, txtF r (i + 1) - i = m + 1 := ⟨txtF r (i + 1) - (i + 1), by omega⟩
        rw [hm]
        show txtF (c :: (r.take m ++ R)) i = _
        rw [txtF_plain _ _ _ h1 h2]
        have hm2 : m = txtF r (i + 1) - (i + 1) := by omega
        rw [hm2]
        exact txtF_cut r (i + 1) R h

theorem take_tw (p : UInt8 → Bool) : ∀ (l : List UInt8), l.take (l.takeWhile p).length = l.takeWhile p
  | [] => rfl
  | c :: r => by
    by_cases h : p c = true
    · rw [List.takeWhile_cons_of_pos h, List.length_cons, List.take_succ_cons, take_tw p r]
    · rw [List.takeWhile_cons_of_neg h]; rfl
theorem tw_app (p : UInt8 → Bool) (hp : ∀ c, stc c → p c = false) (R : List UInt8) (hR : StopB R) : ∀ (l : List UInt8), ((l.takeWhile p) ++ R).takeWhile p = l.takeWhile p
  | [] => by
    rcases hR with rfl | ⟨d, R', rfl, hd⟩
    · rfl
    · show (d :: R').takeWhile p = []
      rw [List.takeWhile_cons_of_neg (by rw [hp d hd]; decide)]
  | c :: r => by
    by_cases h : p c = true
    · rw [List.takeWhile_cons_of_pos h, List.cons_append, List.takeWhile_cons_of_pos h, tw_app p hp R hR r]
    · rw [List.takeWhile_cons_of_neg h]
      exact tw_app p hp R hR []
theorem ltu_stop {R : List UInt8} (hR : StopB R) : ltu R = false := by
  rcases hR with rfl | ⟨d, R', rfl, hd⟩
  · rfl
  · rcases hd with rfl | rfl | rfl | rfl <;> rfl
theorem conT_ok {l : List UInt8} (h : (conT l).k ≠ 0) : (conT l).t = ⟨l.toArray⟩ := by
  unfold conT at h ⊢
  split
  · rfl
  · rename_i h1
    rw [if_neg h1] at h
    exact absurd rfl h
theorem take_app (l R : List UInt8) (n : Nat) (h : n ≤ l.length) : (l.take n ++ R).take n = l.take n ∧ (l.take n ++ R).drop n = R := by
  have e : (l.take n).length = n := by rw [List.length_take]; omega
  constructor
  · have := List.take_left' (l₁ := l.take n) (l₂ := R) e
    exact this
  · exact List.drop_left' e

theorem quo_stop (r R : List UInt8) (hk : (quoT (34 :: r)).k ≠ 0) : quoT ((quoT (34 :: r)).t.data.toList ++ R) = quoT (34 :: r) ∧ ∃ u, (quoT (34 :: r)).t.data.toList = 34 :: u := by
  by_cases h0 : txtF r 1 = 0
  · exfalso
    apply hk
    unfold quoT
    rw [show (34 :: r).drop 1 = r from rfl, if_pos h0]
    rfl
  · have e0 : quoT (34 :: r) = conT ((34 :: r).take (txtF r 1)) := by
      unfold quoT
      rw [show (34 :: r).drop 1 = r from rfl, if_neg h0]
    rw [e0] at hk ⊢
    rw [conT_ok hk]
    have hp := (txtF_pos r 1).resolve_left h0
    have hle := txtF_le r 1
    have hc := txtF_cut r 1 R (by omega)
    obtain ⟨m, hm⟩ : ∃ m, txtF r 1 = m + 1 := ⟨txtF r 1 - 1, by omega⟩
    rw [hm] at hc ⊢
    have e1 : m + 1 - 1 = m := by omega
    rw [e1] at hc
    show quoT (34 :: (r.take m ++ R)) = _ ∧ _
    refine ⟨?_, r.take m, rfl⟩
    unfold quoT
    rw [show (34 :: (r.take m ++ R)).drop 1 = r.take m ++ R from rfl, hc, if_neg (by omega)]
    have e2 : (34 :: (r.take m ++ R)).take (m + 1) = (34 :: r).take (m + 1) := by
      rw [List.take_succ_cons, List.take_succ_cons, (take_app r R m (by omega)).1]
    rw [e2]
theorem num_stop (c : UInt8) (r R : List UInt8) (hR : StopB R) (hc : (dgt c || decide (c = 45)) = true) (hk : (numT (c :: r)).k ≠ 0) : numT ((numT (c :: r)).t.data.toList ++ R) = numT (c :: r) ∧ ∃ u, (numT (c :: r)).t.data.toList = c :: u := by
  by_cases h0 : ltu ((c :: r).drop (numF (c :: r))) = true
  · exfalso
    apply hk
    unfold numT
    rw [if_pos h0]
    rfl
  · have e0 : numT (c :: r) = conT ((c :: r).take (numF (c :: r))) := by
      unfold numT
      rw [if_neg h0]
    rw [e0] at hk ⊢
    rw [conT_ok hk]
    show numT ((c :: r).take (numF (c :: r)) ++ R) = _ ∧ _
    have hle := numF_le (c :: r)
    have hn : numF ((c :: r).take (numF (c :: r)) ++ R) = numF (c :: r) ∧ ∃ u, (c :: r).take (numF (c :: r)) = c :: u := by
      by_cases h45 : c = 45
      · subst h45
        have e1 : ∀ q : List UInt8, numF (45 :: q) = (q.takeWhile dgt).length + 1 := fun q => by
          unfold numF
          rw [show (45 :: q).head? = some 45 from rfl, if_pos rfl, show (45 :: q).drop 1 = q from rfl, Nat.add_comm]
        rw [e1, List.take_succ_cons, take_tw, List.cons_append, e1, tw_app dgt stc_dgt R hR]
        exact ⟨rfl, _, rfl⟩
      · have hd : dgt c = true := by simpa [h45] using hc
        have e1 : ∀ q : List UInt8, numF (c :: q) = ((c :: q).takeWhile dgt).length := fun q => by
          unfold numF
          rw [show (c :: q).head? = some c from rfl, if_neg (fun h => h45 (Option.some.inj h))]
        rw [e1, take_tw]
        have e2 := tw_app dgt stc_dgt R hR (c :: r)
        rw [List.takeWhile_cons_of_pos hd] at e2 ⊢
        rw [List.cons_append] at e2 ⊢
        rw [e1, e2]
        exact ⟨rfl, _, rfl⟩
    obtain ⟨hn1, hn2⟩ := hn
    obtain ⟨ht1, ht2⟩ := take_app (c :: r) R (numF (c :: r)) hle
    refine ⟨?_, hn2⟩
    have e3 : ∀ q : List UInt8, numT q = if ltu (q.drop (numF q)) = true then noT else conT (q.take (numF q)) := fun q => rfl
    rw [e3, hn1, ht1, ht2, ltu_stop hR, if_neg (by decide)]
theorem wor_t (l : List UInt8) : (worT l).t = ⟨l.toArray⟩ := by unfold worT; split <;> rfl
theorem sgn1 (a : UInt8) : sgnF [a] = if a = 40 ∨ a = 41 ∨ a = 44 ∨ a = 95 ∨ a = 60 ∨ a = 62 then 1 else 0 := rfl
theorem sgn2 (a b : UInt8) (r : List UInt8) : sgnF (a :: b :: r) = if b = 61 ∧ (a = 61 ∨ a = 33 ∨ a = 60 ∨ a = 62) then 2 else if a = 40 ∨ a = 41 ∨ a = 44 ∨ a = 95 ∨ a = 60 ∨ a = 62 then 1 else 0 := rfl
theorem oneT_stop (l R : List UInt8) (hl : l ≠ []) (hR : StopB R) (hk : (oneT l).k ≠ 0) : oneT ((oneT l).t.data.toList ++ R) = oneT l := by
  match l, hl with
  | c :: r, _ =>
    have e : ∀ q : List UInt8, oneT (c :: q) = if c = 34 then quoT (c :: q) else if (dgt c || decide (c = 45)) = true then numT (c :: q) else if ltr c = true then worT ((c :: q).take (wordF (c :: q))) else sgnT (c :: q) := fun q => rfl
    by_cases h1 : c = 34
    · subst h1
      have e1 : ∀ q : List UInt8, oneT (34 :: q) = quoT (34 :: q) := fun q => rfl
      rw [e1] at hk ⊢
      obtain ⟨h2, u, h3⟩ := quo_stop r R hk
      rw [h3] at h2 ⊢
      rw [List.cons_append] at h2 ⊢
      rw [e1, h2]
    · by_cases h2 : (dgt c || decide (c = 45)) = true
      · have e1 : ∀ q : List UInt8, oneT (c :: q) = numT (c :: q) := fun q => by rw [e, if_neg h1, if_pos h2]
        rw [e1] at hk ⊢
        obtain ⟨h4, u, h3⟩ := num_stop c r R hR h2 hk
        rw [h3] at h4 ⊢
        rw [List.cons_append] at h4 ⊢
        rw [e1, h4]
      · by_cases h3 : ltr c = true
        · have e1 : ∀ q : List UInt8, oneT (c :: q) = worT ((c :: q).take (wordF (c :: q))) := fun q => by rw [e, if_neg h1, if_neg h2, if_pos h3]
          have hw : wch c = true := by unfold wch; rw [h3]; rfl
          rw [e1, wor_t]
          have e4 : (c :: r).take (wordF (c :: r)) = c :: r.takeWhile wch := by
            unfold wordF
            rw [take_tw, List.takeWhile_cons_of_pos hw]
          rw [e4]
          show oneT (c :: (r.takeWhile wch ++ R)) = _
          rw [e1]
          have e5 : wordF (c :: (r.takeWhile wch ++ R)) = (r.takeWhile wch).length + 1 := by
            unfold wordF
            rw [List.takeWhile_cons_of_pos hw, tw_app wch stc_wch R hR, List.length_cons]
          rw [e5, List.take_succ_cons]
          congr 2
          exact List.take_left' rfl
        · have e1 : ∀ q : List UInt8, oneT (c :: q) = sgnT (c :: q) := fun q => by rw [e, if_neg h1, if_neg h2, if_neg h3]
          rw [e1] at hk ⊢
          by_cases h0 : sgnF (c :: r) = 0
          · exfalso
            apply hk
            unfold sgnT
            rw [if_pos h0]
            rfl
          · have e2 : ∀ q : List UInt8, sgnF (c :: q) ≠ 0 → sgnT (c :: q) = ⟨3, ⟨((c :: q).take (sgnF (c :: q))).toArray⟩, noV, 0⟩ := fun q h => by unfold sgnT; rw [if_neg h]
            rw [e2 r h0]
            have hcut : ∃ u, (c :: r).take (sgnF (c :: r)) = c :: u ∧ sgnF (c :: (u ++ R)) = sgnF (c :: r) ∧ (c :: (u ++ R)).take (sgnF (c :: r)) = c :: u := by
              have one : ∀ q, sgnF (c :: q) = 1 → (c = 40 ∨ c = 41 ∨ c = 44 ∨ c = 95 ∨ c = 60 ∨ c = 62) → ∃ u, (c :: q).take (sgnF (c :: q)) = c :: u ∧ sgnF (c :: (u ++ R)) = sgnF (c :: q) ∧ (c :: (u ++ R)).take (sgnF (c :: q)) = c :: u := by
                intro q hq hcs
                refine ⟨[], by rw [hq]; rfl, ?_, by rw [hq]; rfl⟩
                rw [hq]
                rcases hR with rfl | ⟨d, R', rfl, hd⟩
                · show sgnF [c] = 1
                  rw [sgn1, if_pos hcs]
                · show sgnF (c :: d :: R') = 1
                  rw [sgn2, if_neg (fun h => stc_ne d hd h.1), if_pos hcs]
              match r, h0 with
              | [], h0 =>
                by_cases hcs : c = 40 ∨ c = 41 ∨ c = 44 ∨ c = 95 ∨ c = 60 ∨ c = 62
                · exact one [] (by rw [sgn1, if_pos hcs]) hcs
                · exact absurd (by rw [sgn1, if_neg hcs]) h0
              | d :: r', h0 =>
                by_cases h6 : d = 61 ∧ (c = 61 ∨ c = 33 ∨ c = 60 ∨ c = 62)
                · have e3 : ∀ q : List UInt8, sgnF (c :: d :: q) = 2 := fun q => by rw [sgn2, if_pos h6]
                  refine ⟨[d], by rw [e3]; rfl, ?_, by rw [e3]; rfl⟩
                  rw [e3]
                  exact e3 R
                · by_cases hcs : c = 40 ∨ c = 41 ∨ c = 44 ∨ c = 95 ∨ c = 60 ∨ c = 62
                  · exact one (d :: r') (by rw [sgn2, if_neg h6, if_pos hcs]) hcs
                  · exact absurd (by rw [sgn2, if_neg h6, if_neg hcs]) h0
            obtain ⟨u, hu1, hu2, hu3⟩ := hcut
            rw [hu1]
            show oneT (c :: (u ++ R)) = _
            rw [e1, e2 _ (by rw [hu2]; exact h0), hu2, hu3]

theorem lexF_sz : ∀ (f n : Nat) (l : List UInt8), ∀ x ∈ lexF f n l, x.t.size ≤ l.length
  | 0, _, _, x, hx => by simp [lexF] at hx
  | f + 1, n, l, x, hx => by
    unfold lexF at hx
    have h2 := drop_blk_le l
    have h1 := oneT_size (l.dropWhile blk)
    rcases List.mem_cons.1 hx with rfl | hx
    · show (oneT _).t.size ≤ _
      omega
    · split at hx
      · simp at hx
      · have h3 := lexF_sz f n _ x hx
        rw [List.length_drop] at h3
        omega
/-! ### texts that are joined -/
def sepJ (b : Bool) : List UInt8 := if b = true then [32, 10] else [32]
/-- The tokens' bytes from the i-th on; ahead of each but the very first a blank, and a line's end where g says so. -/
def joinA (g : Nat → Bool) : Nat → List Tok → List UInt8
  | _, [] => []
  | i, x :: r => (if 0 < i then sepJ (g i) else []) ++ (x.t.data.toList ++ joinA g (i + 1) r)
theorem joinA_append (g : Nat → Bool) : ∀ (a b : List Tok) (i : Nat), joinA g i (a ++ b) = joinA g i a ++ joinA g (i + a.length) b
  | [], b, i => by simp [joinA]
  | x :: a, b, i => by
    have ih := joinA_append g a b (i + 1)
    rw [List.cons_append, joinA, joinA, ih, List.length_cons, show i + 1 + a.length = i + (a.length + 1) by omega]
    simp only [List.append_assoc]
theorem joinA_stop (g : Nat → Bool) (i : Nat) (hi : 0 < i) (ls : List Tok) : StopB (joinA g i ls) := by
  cases ls with
  | nil => exact .inl rfl
  | cons x r =>
    right
    rw [joinA, if_pos hi]
    unfold sepJ
    split
    · exact ⟨_, _, rfl, .inl rfl⟩
    · exact ⟨_, _, rfl, .inl rfl⟩
theorem sep_drop (b : Bool) (q : List UInt8) : (sepJ b ++ q).dropWhile blk = q.dropWhile blk := by
  unfold sepJ
  split
  · rw [List.cons_append, List.dropWhile_cons_of_pos (by decide), List.cons_append, List.dropWhile_cons_of_pos (by decide)]; rfl
  · rw [List.cons_append, List.dropWhile_cons_of_pos (by decide)]; rfl
theorem drop_head {l : List UInt8} {c : UInt8} {r : List UInt8} (h : l.dropWhile blk = c :: r) : blk c = false := by
  have := List.head?_dropWhile_not blk l
  rw [h] at this
  simpa using this
/-- A token without its place. -/
abbrev Tok.er (x : Tok) : Tok := x.set 0

theorem lexF_joined (g : Nat → Bool) : ∀ (f n : Nat) (l : List UInt8) (i n' f' : Nat), l.length < f → (∀ x ∈ lexF f n l, x.k ≠ 0) → (lexF f n l).length ≤ f' →
    (lexF f' n' (joinA g i (lexF f n l))).map Tok.er = (lexF f n l).map Tok.er
  | 0, _, _, _, _, _, h, _, _ => by omega
  | f + 1, n, l, i, n', f', hf, hk, hl => by
    obtain ⟨r, hr⟩ : ∃ r, r = l.dropWhile blk := ⟨_, rfl⟩
    have hrl : r.length ≤ l.length := by rw [hr]; exact drop_blk_le l
    have e : lexF (f + 1) n l = (oneT r).set ((n : Int) - (r.length : Int)) :: (if (oneT r).t.size = 0 then [] else lexF f n (r.drop (oneT r).t.size)) := by
      rw [hr]; rfl
    rw [e] at hk hl ⊢
    obtain ⟨f', rfl⟩ : ∃ k, f' = k + 1 := ⟨f' - 1, by rw [List.length_cons] at hl; omega⟩
    have hk0 : (oneT r).k ≠ 0 := hk ((oneT r).set ((n : Int) - (r.length : Int))) (by simp)
    by_cases hr0 : r = []
    · subst hr0
      have e1 : oneT [] = ⟨4, ⟨#[]⟩, noV, 0⟩ := rfl
      rw [e1]
      show List.map Tok.er (lexF (f' + 1) n' ((if 0 < i then sepJ (g i) else []) ++ ([] ++ joinA g (i + 1) []))) = [_]
      have e2 : ((if 0 < i then sepJ (g i) else []) ++ ([] ++ joinA g (i + 1) [])).dropWhile blk = [] := by
        split
        · rw [sep_drop]; rfl
        · rfl
      unfold lexF
      rw [e2]
      rfl
    · obtain ⟨_, h4, h5⟩ := (oneT_kind r hr0).resolve_left (fun h => hk0 h.1)
      have h6 : ¬ (oneT r).t.size = 0 := by omega
      rw [if_neg h6] at hk hl ⊢
      obtain ⟨c, r', hcr⟩ : ∃ c r', r = c :: r' := by
        cases r with
        | nil => exact absurd rfl hr0
        | cons c r' => exact ⟨c, r', rfl⟩
      have hcb : blk c = false := drop_head (hr.symm.trans hcr)
      have ht := oneT_take r
      obtain ⟨u, hu⟩ : ∃ u, (oneT r).t.data.toList = c :: u := by
        rw [ht, hcr]
        obtain ⟨m, hm⟩ : ∃ m, (oneT (c :: r')).t.size = m + 1 := ⟨(oneT (c :: r')).t.size - 1, by rw [hcr] at h5; omega⟩
        rw [hm]
        exact ⟨_, rfl⟩
      obtain ⟨ls, hls⟩ : ∃ ls, ls = lexF f n (r.drop (oneT r).t.size) := ⟨_, rfl⟩
      have hsz := oneT_size r
      have ih := lexF_joined g f n (r.drop (oneT r).t.size) (i + 1) n' f' (by rw [List.length_drop]; omega) (fun x hx => hk x (List.mem_cons_of_mem _ hx)) (by rw [List.length_cons] at hl; omega)
      rw [← hls] at ih ⊢
      show List.map Tok.er (lexF (f' + 1) n' ((if 0 < i then sepJ (g i) else []) ++ ((oneT r).t.data.toList ++ joinA g (i + 1) ls))) = _
      have e2 : ((if 0 < i then sepJ (g i) else []) ++ ((oneT r).t.data.toList ++ joinA g (i + 1) ls)).dropWhile blk = (oneT r).t.data.toList ++ joinA g (i + 1) ls := by
        have e3 : ((oneT r).t.data.toList ++ joinA g (i + 1) ls).dropWhile blk = (oneT r).t.data.toList ++ joinA g (i + 1) ls := by
          rw [hu, List.cons_append, List.dropWhile_cons_of_neg (by rw [hcb]; decide)]
        split
        · rw [sep_drop]; exact e3
        · exact e3
      have hst := oneT_stop r (joinA g (i + 1) ls) hr0 (joinA_stop g (i + 1) (by omega) ls) hk0
      have e4 : ∀ q, lexF (f' + 1) n' q = (oneT (q.dropWhile blk)).set ((n' : Int) - ((q.dropWhile blk).length : Int)) :: (if (oneT (q.dropWhile blk)).t.size = 0 then [] else lexF f' n' ((q.dropWhile blk).drop (oneT (q.dropWhile blk)).t.size)) := fun q => rfl
      rw [e4, e2, hst, if_neg h6]
      have e5 : ((oneT r).t.data.toList ++ joinA g (i + 1) ls).drop (oneT r).t.size = joinA g (i + 1) ls := List.drop_left' rfl
      rw [e5, List.map_cons, List.map_cons, ih]
theorem lexA_joined (g : Nat → Bool) (l : List UInt8) (n n' : Nat) (hk : ∀ x ∈ lexA n l, x.k ≠ 0) : (lexA n' (joinA g 0 (lexA n l))).map Tok.er = (lexA n l).map Tok.er := by
  obtain ⟨J, hJ⟩ : ∃ J, J = joinA g 0 (lexA n l) := ⟨_, rfl⟩
  have h := lexF_joined g (l.length + 1) n l 0 n' (J.length + (lexA n l).length + 1) (by omega) hk (by show (lexA n l).length ≤ _; omega)
  have h2 : lexF (J.length + (lexA n l).length + 1) n' J = lexA n' J := lexF_fuel _ _ _ _ (by omega) (by omega)
  have h3 : (lexF (J.length + (lexA n l).length + 1) n' (joinA g 0 (lexA n l))).map Tok.er = (lexA n l).map Tok.er := h
  rw [← hJ] at h3 ⊢
  rw [← h2]
  exact h3
theorem lexR_of (J : List UInt8) (ls : List Tok) (h2 : (lexA J.length J).map Tok.er = ls.map Tok.er) (hk : ∀ x ∈ ls, x.k ≠ 0) (hJ : J.length ≤ 300) : (lexR J).2.2 = 0 ∧ (lexR J).1.map Tok.er = ls.map Tok.er := by
  have h3 : ∀ x ∈ lexA J.length J, x.k ≠ 0 := by
    intro x hx
    have h4 : x.er ∈ ls.map Tok.er := by rw [← h2]; exact List.mem_map.2 ⟨x, hx, rfl⟩
    obtain ⟨y, hy, hy2⟩ := List.mem_map.1 h4
    have h5 : y.er.k = x.er.k := congrArg Tok.k hy2
    have h5' : y.k = x.k := h5
    rw [← h5']
    exact hk y hy
  have h6 : (lexA J.length J).find? (fun t => decide (t.k = 0)) = none := List.find?_eq_none.2 fun x hx => by simpa using h3 x hx
  unfold lexR
  rw [if_neg (by omega), h6]
  exact ⟨rfl, h2⟩
theorem lexR_all (l : List UInt8) (h : (lexR l).2.2 = 0) : (lexR l).1 = lexA l.length l ∧ ∀ x ∈ lexA l.length l, x.k ≠ 0 := by
  unfold lexR at h ⊢
  by_cases hl : 300 < l.length
  · rw [if_pos hl] at h
    exact absurd h (by decide)
  · rw [if_neg hl] at h ⊢
    cases hf : (lexA l.length l).find? (fun t => decide (t.k = 0)) with
    | none =>
      refine ⟨rfl, fun x hx => ?_⟩
      have := List.find?_eq_none.1 hf x hx
      simpa using this
    | some t =>
      rw [hf] at h
      exact absurd h (by show ¬ (7 : Int) = 0; decide)
theorem lexR_joined (g : Nat → Bool) (l : List UInt8) (h : (lexR l).2.2 = 0) (hJ : (joinA g 0 (lexR l).1).length ≤ 300) : (lexR (joinA g 0 (lexR l).1)).2.2 = 0 ∧ (lexR (joinA g 0 (lexR l).1)).1.map Tok.er = (lexR l).1.map Tok.er := by
  have h1 := lexR_all l h
  rw [h1.1] at hJ ⊢
  exact lexR_of _ _ (lexA_joined g l l.length _ h1.2) h1.2 hJ
end
end Go.Proofs.YtkobfngnnblpeaaGreatDoor
namespace Go.Proofs.YtkobfngnnblpeaaGreatDoor
section
open Go.RowKit

abbrev eT (ls : List Tok) : List Tok := ls.map Tok.er
abbrev eR (s : Rst) : Rst := ⟨s.i, s.why, 0⟩
abbrev eH (x : HdP) : HdP := ⟨x.h, x.ag, x.ofv, eR x.s⟩
theorem now_e (ls : List Tok) (s : Rst) : nowR (eT ls) (eR s) = (nowR ls s).er := by
  unfold nowR
  rw [List.getD_eq_getElem?_getD, List.getD_eq_getElem?_getD, List.getElem?_map]
  show ((ls[s.i]?).map Tok.er).getD noT = _
  cases ls[s.i]? <;> rfl
theorem fail_e (s : Rst) (w p : Int) : failR (eR s) w 0 = eR (failR s w p) := by
  unfold failR
  show (if s.why = 0 then _ else _) = _
  split <;> rfl
theorem is_e (ls : List Tok) (s : Rst) (t : List UInt8) : isR (eT ls) (eR s) t = isR ls s t := by
  unfold isR
  rw [now_e]
theorem step_e (ls : List Tok) (s : Rst) : stepR (eT ls) (eR s) = eR (stepR ls s) := by
  unfold stepR
  rw [List.length_map]
  show (if s.i + 1 < _ then _ else _) = _
  split <;> rfl
theorem ite_e (c : Prop) [Decidable c] (a b : Rst) : eR (if c then a else b) = if c then eR a else eR b := by split <;> rfl
theorem failn_e (ls : List Tok) (s u : Rst) (w : Int) : failR (eR s) w (nowR (eT ls) (eR u)).a = eR (failR s w (nowR ls u).a) := by
  rw [now_e]
  exact fail_e s w _
theorem take_e (ls : List Tok) (s : Rst) (t : List UInt8) : takeR (eT ls) (eR s) t = eR (takeR ls s t) := by
  unfold takeR
  rw [is_e, step_e, ite_e]
theorem must_e (ls : List Tok) (s : Rst) (t : List UInt8) : mustR (eT ls) (eR s) t = eR (mustR ls s t) := by
  unfold mustR
  rw [is_e, step_e, ite_e, failn_e]
theorem named_e (ls : List Tok) (s : Rst) : namedR (eT ls) (eR s) = namedR ls s := by
  unfold namedR
  rw [now_e]
  rfl
theorem nmV_e (ls : List Tok) (s : Rst) : nmV (eT ls) (eR s) = nmV ls s := by
  unfold nmV
  rw [named_e, now_e]
theorem nmS_e (ls : List Tok) (s : Rst) : nmS (eT ls) (eR s) = eR (nmS ls s) := by
  unfold nmS
  rw [named_e, step_e, failn_e, ite_e]
theorem aggJ_e (ls : List Tok) (s : Rst) : aggJ (eT ls) (eR s) = aggJ ls s := by
  unfold aggJ
  simp only [is_e]
theorem agS_e (ls : List Tok) (s : Rst) (k : Int) : agS (eT ls) (eR s) k = eR (agS ls s k) := by
  unfold agS
  rw [aggJ_e, step_e, nmS_e, failn_e]
  simp only [ite_e]
theorem agA_e (ls : List Tok) (s : Rst) (k ag : Int) : agA (eT ls) (eR s) k ag = agA ls s k ag := by
  unfold agA
  rw [aggJ_e]
theorem agO_e (ls : List Tok) (s : Rst) (k : Int) (ofv : ByteArray) : agO (eT ls) (eR s) k ofv = agO ls s k ofv := by
  unfold agO
  rw [aggJ_e, step_e, nmV_e]
theorem hdF_e (ls : List Tok) (k : Int) : ∀ (f : Nat) (x : HdP), hdF (eT ls) k f (eH x) = eH (hdF ls k f x)
  | 0, _ => rfl
  | f + 1, ⟨h, ag, ofv, s⟩ => by
    have ih := fun x => hdF_e ls k f x
    unfold hdF
    show (if s.why = 0 then _ else _) = eH (if s.why = 0 then _ else _)
    by_cases h0 : s.why = 0
    · rw [if_pos h0, if_pos h0]
      rw [aggJ_e]
      by_cases h1 : aggJ ls s ≠ 0
      · rw [if_pos h1, if_pos h1, agA_e, agO_e, agS_e]
      · rw [if_neg h1, if_neg h1]
        simp only [nmS_e, nmV_e]
        have e2 : (if 40 ≤ h.length then failR (eR (nmS ls s)) 9 (nowR (eT ls) (eR s)).a else eR (nmS ls s)) = eR (if 40 ≤ h.length then failR (nmS ls s) 9 (nowR ls s).a else nmS ls s) := by rw [failn_e, ite_e]
        simp only [e2]
        generalize (if 40 ≤ h.length then failR (nmS ls s) 9 (nowR ls s).a else nmS ls s) = s2
        rw [is_e, step_e]
        split
        · exact ih ⟨h ++ [nmV ls s], ag, ofv, stepR ls s2⟩
        · rfl
    · rw [if_neg h0, if_neg h0]
theorem hdQ_e (ls : List Tok) (s : Rst) : hdQ (eT ls) (eR s) = eH (hdQ ls s) := by
  unfold hdQ
  simp only [nmS_e, must_e, nmV_e, agA_e, agO_e, aggJ_e, failn_e, agS_e]
  show (⟨_, _, _, _⟩ : HdP) = ⟨_, _, _, eR (if _ then _ else _)⟩
  rw [ite_e]
theorem hdR_e (ls : List Tok) (s : Rst) (k : Int) : hdR (eT ls) (eR s) k = eH (hdR ls s k) := by
  unfold hdR
  split
  · exact hdQ_e ls s
  · exact hdF_e ls k 400 ⟨[], 0, ⟨#[]⟩, s⟩
theorem conB_e (ls : List Tok) (s : Rst) : conB (eT ls) (eR s) = conB ls s := by
  unfold conB
  rw [now_e]
theorem tmV_e (ls : List Tok) (s : Rst) : tmV (eT ls) (eR s) = tmV ls s := by
  unfold tmV
  rw [conB_e, now_e, nmV_e]
theorem tmS_e (ls : List Tok) (s : Rst) : tmS (eT ls) (eR s) = eR (tmS ls s) := by
  unfold tmS
  rw [conB_e, step_e, nmS_e, ite_e]
theorem arV_e (ls : List Tok) (s : Rst) : arV (eT ls) (eR s) = arV ls s := by
  unfold arV
  rw [is_e, tmV_e]
theorem arS_e (ls : List Tok) (s : Rst) : arS (eT ls) (eR s) = eR (arS ls s) := by
  unfold arS
  rw [is_e, step_e, tmS_e, ite_e]
theorem asF_e (ls : List Tok) : ∀ (f : Nat) (l : List TmP) (s : Rst), asF (eT ls) f l (eR s) = ((asF ls f l s).1, eR (asF ls f l s).2)
  | 0, _, _ => rfl
  | f + 1, l, s => by
    have ih := fun l s => asF_e ls f l s
    unfold asF
    show (if s.why = 0 then _ else _) = _
    by_cases h0 : s.why = 0
    · rw [if_pos h0, if_pos h0]
      simp only [arS_e, arV_e]
      have e2 : (if 40 ≤ l.length then failR (eR (arS ls s)) 9 (nowR (eT ls) (eR s)).a else eR (arS ls s)) = eR (if 40 ≤ l.length then failR (arS ls s) 9 (nowR ls s).a else arS ls s) := by rw [failn_e, ite_e]
      simp only [e2]
      generalize (if 40 ≤ l.length then failR (arS ls s) 9 (nowR ls s).a else arS ls s) = s2
      rw [is_e, step_e, must_e]
      by_cases h1 : isR ls s2 wComma = true
      · rw [if_pos h1, if_pos h1]
        exact ih _ _
      · rw [if_neg h1, if_neg h1]
    · rw [if_neg h0, if_neg h0]
theorem asR_e (ls : List Tok) (s : Rst) : asR (eT ls) (eR s) = ((asR ls s).1, eR (asR ls s).2) := by
  unfold asR
  rw [is_e, step_e, asF_e]
  split <;> rfl
theorem brB_e (ls : List Tok) (s : Rst) : brB (eT ls) (eR s) = brB ls s := by
  unfold brB
  have e : (eT ls).getD (s.i + 1) noT = (ls.getD (s.i + 1) noT).er := now_e ls ⟨s.i + 1, 0, 0⟩
  show (decide (s.i + 1 < (eT ls).length) && (decide (((eT ls).getD (s.i + 1) noT).k = 3) && decide (((eT ls).getD (s.i + 1) noT).t.data.toList = wOpen))) = _
  rw [e, List.length_map]
theorem atR_e (ls : List Tok) (n : Bool) (m : Nat) (s : Rst) : atR (eT ls) n m (eR s) = ((atR ls n m s).1, eR (atR ls n m s).2) := by
  unfold atR
  simp only [nmS_e, must_e, nmV_e, failn_e]
  have e2 : ∀ (c : Prop) [Decidable c] (a b : Rst), (if c then eR a else eR b) = eR (if c then a else b) := fun c _ a b => (ite_e c a b).symm
  rw [e2, asR_e]
theorem cmR_e (ls : List Tok) (n : Bool) (s : Rst) : cmR (eT ls) n (eR s) = ((cmR ls n s).1, eR (cmR ls n s).2) := by
  unfold cmR
  have e2 : ∀ (c : Prop) [Decidable c] (a b : Rst), (if c then eR a else eR b) = eR (if c then a else b) := fun c _ a b => (ite_e c a b).symm
  simp only [failn_e]
  simp only [e2]
  generalize (if n = true then failR s 7 (nowR ls s).a else s) = s1
  simp only [tmS_e, tmV_e, failn_e]
  generalize tmS ls s1 = s2
  have e3 : (nowR (eT ls) (eR s2)).k = (nowR ls s2).k := by rw [now_e]
  have e4 : opT (nowR (eT ls) (eR s2)) = opT (nowR ls s2) := by rw [now_e]; rfl
  simp only [e3, e4, e2, step_e, tmV_e, tmS_e]
theorem liR_e (ls : List Tok) (m : Nat) (s : Rst) : liR (eT ls) m (eR s) = ((liR ls m s).1, eR (liR ls m s).2) := by
  unfold liR
  simp only [is_e, take_e, named_e, brB_e, atR_e, cmR_e]
  split <;> rfl
theorem lo_e (ls : List Tok) (s : Rst) (a' : Int) : loR (eT ls) (eR s) 0 = eR (loR ls s a') := by
  unfold loR
  have e2 : ∀ (c : Prop) [Decidable c] (a b : Rst), (if c then eR a else eR b) = eR (if c then a else b) := fun c _ a b => (ite_e c a b).symm
  have e3 : (nowR (eT ls) (eR s)).k = (nowR ls s).k := by rw [now_e]
  rw [is_e, named_e, e3, fail_e s 9 a', e2, fail_e _ 7 a']
theorem boF_e (ls : List Tok) : ∀ (f m : Nat) (l : List LiP) (s : Rst), boF (eT ls) f m l (eR s) = ((boF ls f m l s).1, eR (boF ls f m l s).2)
  | 0, _, _, _ => rfl
  | f + 1, m, l, s => by
    have ih := fun m l s => boF_e ls f m l s
    unfold boF
    show (if s.why = 0 then _ else _) = _
    by_cases h0 : s.why = 0
    · rw [if_pos h0, if_pos h0]
      have e1 : (nowR (eT ls) (eR s)).a = 0 := by rw [now_e]
      have e2 : (if 10 ≤ l.length then loR (eT ls) (eR s) (nowR (eT ls) (eR s)).a else eR s) = eR (if 10 ≤ l.length then loR ls s (nowR ls s).a else s) := by rw [e1, lo_e ls s (nowR ls s).a, ite_e]
      simp only [e2]
      generalize (if 10 ≤ l.length then loR ls s (nowR ls s).a else s) = s1
      simp only [liR_e, is_e, step_e]
      by_cases h1 : isR ls (liR ls m s1).2 wComma = true
      · rw [if_pos h1, if_pos h1]
        exact ih _ _ _
      · rw [if_neg h1, if_neg h1]
    · rw [if_neg h0, if_neg h0]
theorem kiK_e (ls : List Tok) (s : Rst) : kiK (eT ls) (eR s) = kiK ls s := by
  unfold kiK
  simp only [is_e]
theorem kiS_e (ls : List Tok) (s : Rst) : kiS (eT ls) (eR s) = eR (kiS ls s) := by
  unfold kiS
  rw [kiK_e, failn_e, step_e, ite_e]
theorem limS_e (ls : List Tok) (s : Rst) : limS (eT ls) (eR s) = eR (limS ls s) := by
  unfold limS
  have e2 : ∀ (c : Prop) [Decidable c] (a b : Rst), (if c then eR a else eR b) = eR (if c then a else b) := fun c _ a b => (ite_e c a b).symm
  simp only [must_e]
  generalize mustR ls s wLimit = s1
  have e3 : ((eR s1).why = 0 ∧ ((nowR (eT ls) (eR s1)).k ≠ 2 ∨ (nowR (eT ls) (eR s1)).v.k ≠ 2)) = (s1.why = 0 ∧ ((nowR ls s1).k ≠ 2 ∨ (nowR ls s1).v.k ≠ 2)) := by rw [now_e]
  simp only [e3, failn_e, e2, step_e]
theorem limV_e (ls : List Tok) (s : Rst) : limV (eT ls) (eR s) = limV ls s := by
  unfold limV
  rw [must_e, now_e]
theorem ruX_e (ls : List Tok) : ruX (eT ls) = ((ruX ls).1, eR (ruX ls).2) := by
  have e2 : ∀ (c : Prop) [Decidable c] (a b : Rst), (if c then eR a else eR b) = eR (if c then a else b) := fun c _ a b => (ite_e c a b).symm
  unfold ruX
  have k1 : kiK (eT ls) ⟨0, 0, 0⟩ = kiK ls ⟨0, 0, 0⟩ := kiK_e ls ⟨0, 0, 0⟩
  have k2 : kiS (eT ls) ⟨0, 0, 0⟩ = eR (kiS ls ⟨0, 0, 0⟩) := kiS_e ls ⟨0, 0, 0⟩
  simp only [k1, k2]
  generalize kiK ls ⟨0, 0, 0⟩ = k
  generalize kiS ls ⟨0, 0, 0⟩ = s1
  simp only [nmS_e, must_e, hdR_e, nmV_e]
  generalize hdR ls (mustR ls (nmS ls s1) wOpen) k = h
  simp only [must_e, limS_e, limV_e, e2, boF_e]
  generalize (boF ls 400 0 [] (mustR ls (if k = 3 then limS ls (mustR ls h.s wShut) else mustR ls h.s wShut) wIf)) = b
  have e3 : (nowR (eT ls) (eR b.2)).k = (nowR ls b.2).k := by rw [now_e]
  simp only [e3, failn_e, e2]
/-- Two texts whose tokens are alike but for their places: the same rule, or for the same reason none. -/
theorem ruleR_alike (l l' : List UInt8) (h : (lexR l).2.2 = 0) (h' : (lexR l').2.2 = 0) (he : (lexR l').1.map Tok.er = (lexR l).1.map Tok.er) : (ruleR l').1 = (ruleR l).1 ∧ (ruleR l').2.2 = (ruleR l).2.2 := by
  have e1 := ruX_e (lexR l).1
  have e2 := ruX_e (lexR l').1
  have e3 : ruX (eT (lexR l').1) = ruX (eT (lexR l).1) := congrArg ruX he
  rw [e1, e2] at e3
  have e4 : (ruX (lexR l').1).1 = (ruX (lexR l).1).1 := (Prod.mk.inj e3).1
  have e5 : (ruX (lexR l').1).2.why = (ruX (lexR l).1).2.why := by
    have h9 := (Prod.mk.inj e3).2
    injection h9
  have a1 : ruleR l = if (ruX (lexR l).1).2.why = 0 then ((ruX (lexR l).1).1, 0, 0) else (noRu, (ruX (lexR l).1).2.pos, (ruX (lexR l).1).2.why) := by
    unfold ruleR
    rw [if_neg (by rw [h]; decide)]
  have a2 : ruleR l' = if (ruX (lexR l').1).2.why = 0 then ((ruX (lexR l').1).1, 0, 0) else (noRu, (ruX (lexR l').1).2.pos, (ruX (lexR l').1).2.why) := by
    unfold ruleR
    rw [if_neg (by rw [h']; decide)]
  rw [a1, a2, e4, e5]
  split
  · exact ⟨rfl, rfl⟩
  · exact ⟨rfl, rfl⟩
end
end Go.Proofs.YtkobfngnnblpeaaGreatDoor
namespace Go.Proofs.YtkobfngnnblpeaaGreatDoor
section
open Go.RowKit

def txs (ts : List Tok) : List (List UInt8) := ts.map fun x => x.t.data.toList
/-- Tokens that begin with such words, and what is left behind them. -/
def Eat (ts : List Tok) (w : List (List UInt8)) (r : List Tok) : Prop := ∃ pre, ts = pre ++ r ∧ txs pre = w
theorem Eat.trans {ts r r2 : List Tok} {w w2 : List (List UInt8)} (h : Eat ts w r) (h2 : Eat r w2 r2) : Eat ts (w ++ w2) r2 := by
  obtain ⟨p, rfl, rfl⟩ := h
  obtain ⟨q, rfl, rfl⟩ := h2
  exact ⟨p ++ q, by rw [List.append_assoc], by simp [txs]⟩
theorem Eat.good {ts r : List Tok} {w : List (List UInt8)} {Q : Tok → Prop} (h : Eat ts w r) (hq : ∀ x ∈ ts, Q x) : ∀ x ∈ r, Q x := by
  obtain ⟨p, rfl, rfl⟩ := h
  exact fun x hx => hq x (List.mem_append.2 (.inr hx))
theorem Eat.refl (ts : List Tok) : Eat ts [] ts := ⟨[], rfl, rfl⟩

/-- What a token's value says of its bytes. -/
structure QT (x : Tok) : Prop where
  con : x.k = 2 → showV x.v = x.t.data.toList
  num : x.v.k = 2 → x.t.data.toList = Lib.itoa x.v.n
  wide : Wide x.v

/-! ### the words -/
def tmW (x : TmP) : List UInt8 := if x.a = true then [95] else if x.s.data.toList ≠ [] then x.s.data.toList else showV x.v
/-- Lists of words, commas between them. -/
def comL : List (List (List UInt8)) → List (List UInt8)
  | [] => []
  | [x] => x
  | x :: y :: r => x ++ [44] :: comL (y :: r)
theorem comL_cons (x : List (List UInt8)) (l : List (List (List UInt8))) (h : l ≠ []) : comL (x :: l) = x ++ [44] :: comL l := by
  cases l with
  | nil => exact absurd rfl h
  | cons y r => rfl
def sumW : List UInt8 := [115, 117, 109]
def leastW : List UInt8 := [108, 101, 97, 115, 116]
def mostW : List UInt8 := [109, 111, 115, 116]
def countW : List UInt8 := [99, 111, 117, 110, 116]
/-- What an aggregate of a variable is called. -/
def agoX (ag : Int) : List UInt8 := if ag = 2 then sumW else if ag = 3 then leastW else if ag = 4 then mostW else []
def agW (ag : Int) (ofv : ByteArray) : List (List UInt8) := if ag = 1 then [countW] else [agoX ag, ofv.data.toList]
def agL (ag : Int) (ofv : ByteArray) : List (List (List UInt8)) := if ag = 0 then [] else [agW ag ofv]
def argL (l : List TmP) : List (List (List UInt8)) := l.map fun x => [tmW x]
def callW (nm : List UInt8) (l : List (List (List UInt8))) : List (List UInt8) := nm :: [40] :: (comL l ++ [[41]])
def cmpW (o : Int) (l : List TmP) : List (List UInt8) := match l with
  | [a, b] => [tmW a, sgnS o, tmW b]
  | _ => []
def liW (x : LiP) : List (List UInt8) := if x.o = 0 then (if x.n = true then [wNot] else []) ++ callW x.s.data.toList (argL x.args) else cmpW x.o x.args
def kindX (k : Int) : List UInt8 := if k = 1 then wDeny else if k = 2 then wView else if k = 3 then wQuota else []
def hedL (h : List ByteArray) : List (List (List UInt8)) := h.map fun x => [x.data.toList]
def ruW (x : RuP) : List (List UInt8) :=
  kindX x.k :: (callW x.nm.data.toList (hedL x.head ++ agL x.ag x.ofv) ++ ((if x.k = 3 then [wLimit, Lib.itoa x.lim] else []) ++ wIf :: comL (x.body.map liW)))

/-! ### what is read is its words -/
theorem k_cons {ts : List Tok} (h : (hdT ts).k ≠ 0) : Eat ts [(hdT ts).t.data.toList] ts.tail := by
  cases ts with
  | nil => exact absurd rfl h
  | cons x r => exact ⟨[x], rfl, rfl⟩
theorem hasP_eat {ts : List Tok} {t : List UInt8} (h : hasP ts t = true) (ht : t ≠ []) : Eat ts [t] ts.tail := by
  cases ts with
  | nil =>
    unfold hasP at h
    have h1 : (hdT []).t.data.toList = t := by simpa using h
    exact absurd (h1.symm.trans rfl) ht
  | cons x r =>
    unfold hasP at h
    have h1 : x.t.data.toList = t := by simpa [hdT] using h
    exact ⟨[x], rfl, by simp [txs, h1]⟩
theorem needP_eat {ts r : List Tok} {t : List UInt8} {u : Unit} (h : needP ts t = .ok u r) (ht : t ≠ []) : Eat ts [t] r := by
  unfold needP at h
  split at h
  · next h1 =>
    injection h with _ h2
    rw [← h2]
    exact hasP_eat h1 ht
  · cases h
theorem nmB_ne {x : Tok} (h : nmB x = true) : x.t.data.toList ≠ [] := by
  intro e
  unfold nmB at h
  rw [e] at h
  have h1 : nameR [] = false := by decide
  rw [h1] at h
  simp at h
theorem nameP_eat {ts r : List Tok} {nm : ByteArray} (h : nameP ts = .ok nm r) : Eat ts [nm.data.toList] r ∧ nm.data.toList ≠ [] := by
  unfold nameP at h
  split at h
  · next h1 =>
    injection h with h2 h3
    rw [← h2, ← h3]
    exact ⟨k_cons (by rw [nmB_k h1]; decide), nmB_ne h1⟩
  · cases h
theorem noV_wide : Wide noV := ⟨by decide, by decide⟩
theorem termP_eat {ts r : List Tok} {x : TmP} (h : termP ts = .ok x r) (hq : ∀ y ∈ ts, QT y) : Eat ts [tmW x] r ∧ Wide x.v := by
  unfold termP at h
  split at h
  · next h1 =>
    injection h with h2 h3
    rw [← h3]
    by_cases hk : (hdT ts).k = 2
    · rw [if_pos hk] at h2
      have hm : hdT ts ∈ ts := by
        cases ts with
        | nil => exact absurd hk (by decide)
        | cons y r => exact List.mem_cons_self
      have e : tmW x = (hdT ts).t.data.toList := by
        rw [← h2]
        unfold tmW
        rw [if_neg (by simp), if_neg (by simp)]
        exact (hq _ hm).con hk
      rw [e]
      exact ⟨k_cons (by rw [hk]; decide), by rw [← h2]; exact (hq _ hm).wide⟩
    · rw [if_neg hk] at h2
      have hn : nmB (hdT ts) = true := by
        unfold isTm at h1
        rw [decide_eq_false hk, Bool.false_or] at h1
        exact h1
      have e : tmW x = (hdT ts).t.data.toList := by
        rw [← h2]
        unfold tmW
        rw [if_neg (by simp), if_pos (nmB_ne hn)]
      rw [e]
      exact ⟨k_cons (by rw [nmB_k hn]; decide), by rw [← h2]; exact noV_wide⟩
  · cases h
theorem argP_eat {ts r : List Tok} {x : TmP} (h : argP ts = .ok x r) (hq : ∀ y ∈ ts, QT y) : Eat ts [tmW x] r ∧ Wide x.v := by
  unfold argP at h
  split at h
  · next h1 =>
    injection h with h2 h3
    rw [← h2, ← h3]
    exact ⟨hasP_eat h1 (by decide), noV_wide⟩
  · exact termP_eat h hq
theorem asGo_eat : ∀ (f : Nat) (l : List TmP) (ts r : List Tok) (l' : List TmP), asGo f l ts = .ok l' r → (∀ y ∈ ts, QT y) → ∃ l2, l' = l ++ l2 ∧ l2 ≠ [] ∧ Eat ts (comL (argL l2) ++ [[41]]) r ∧ ∀ x ∈ l2, Wide x.v
  | 0, _, _, _, _, h, _ => by cases h
  | f + 1, l, ts, r, l', h, hq => by
    unfold asGo at h
    obtain ⟨x, r1, h1, h2⟩ := bind_ok h
    obtain ⟨e1, w1⟩ := argP_eat h1 hq
    split at h2
    · cases h2
    · split at h2
      · next hc =>
        have e2 := hasP_eat hc (by decide)
        obtain ⟨l2, rfl, hn, e3, w3⟩ := asGo_eat f (l ++ [x]) r1.tail r l' h2 (e2.good (e1.good hq))
        refine ⟨x :: l2, by simp, by simp, ?_, fun y hy => (List.mem_cons.1 hy).elim (fun e => e ▸ w1) (w3 y)⟩
        have e4 : comL (argL (x :: l2)) = [tmW x] ++ [44] :: comL (argL l2) := comL_cons _ _ (by simpa using hn)
        rw [e4]
        have e5 := (e1.trans e2).trans e3
        simpa [wComma] using e5
      · obtain ⟨u, r2, h3, h4⟩ := bind_ok h2
        injection h4 with h5 h6
        rw [← h5, ← h6]
        exact ⟨[x], rfl, by simp, e1.trans (needP_eat h3 (by decide)), fun y hy => by rw [List.mem_singleton.1 hy]; exact w1⟩
theorem argsP_eat {ts r : List Tok} {l : List TmP} (h : argsP ts = .ok l r) (hq : ∀ y ∈ ts, QT y) : Eat ts ([40] :: (comL (argL l) ++ [[41]])) r ∧ ∀ x ∈ l, Wide x.v := by
  unfold argsP at h
  obtain ⟨u, r1, h1, h2⟩ := bind_ok h
  have e1 := needP_eat h1 (by decide)
  split at h2
  · next hc =>
    injection h2 with h3 h4
    rw [← h3, ← h4]
    exact ⟨e1.trans (hasP_eat hc (by decide)), fun x hx => absurd hx List.not_mem_nil⟩
  · obtain ⟨l2, rfl, _, e2, w2⟩ := asGo_eat _ _ _ _ _ h2 (e1.good hq)
    exact ⟨e1.trans e2, w2⟩
theorem opF_sgn {l : List UInt8} (h : opF l ≠ 0) : sgnS (opF l) = l := by
  have hm := opF_mem h
  have hall : ∀ w ∈ opW, sgnS (opF w) = w := by decide
  exact hall l hm
theorem cmpP_eat {ts r : List Tok} {y : TmP} {x : LiP} (h : cmpP y ts = .ok x r) (hq : ∀ y ∈ ts, QT y) : ∃ z o, x = ⟨false, ⟨#[]⟩, [y, z], o⟩ ∧ o ≠ 0 ∧ Eat ts [sgnS o, tmW z] r ∧ Wide z.v := by
  unfold cmpP at h
  split at h
  · cases h
  · next h0 =>
    obtain ⟨z, r1, h1, h2⟩ := bind_ok h
    injection h2 with h3 h4
    have h0' : opF (hdT ts).t.data.toList ≠ 0 := h0
    have e1 : Eat ts [sgnS (opT (hdT ts))] ts.tail := by
      have e2 : sgnS (opT (hdT ts)) = (hdT ts).t.data.toList := opF_sgn h0'
      rw [e2]
      cases ts with
      | nil => exact absurd (by decide) h0'
      | cons a b => exact ⟨[a], rfl, rfl⟩
    obtain ⟨e5, w5⟩ := termP_eat h1 (e1.good hq)
    refine ⟨z, opT (hdT ts), h3.symm, h0, ?_, w5⟩
    rw [← h4]
    exact e1.trans e5
theorem litP_eat {ts r : List Tok} {l : List LiP} {x : LiP} (h : litP l ts = .ok x r) (hq : ∀ y ∈ ts, QT y) : Eat ts (liW x) r ∧ ∀ a ∈ x.args, Wide a.v := by
  unfold litP at h
  split at h
  · cases h
  · split at h
    · cases h
    · split at h
      · next hn =>
        have e1 := hasP_eat hn (by decide)
        obtain ⟨nm, r1, h1, h2⟩ := bind_ok h
        have e2 := (nameP_eat h1).1
        obtain ⟨a, r2, h3, h4⟩ := bind_ok h2
        obtain ⟨e3, w3⟩ := argsP_eat h3 (e2.good (e1.good hq))
        injection h4 with h5 h6
        rw [← h5, ← h6]
        refine ⟨?_, w3⟩
        unfold liW
        rw [if_pos rfl]
        exact (e1.trans e2).trans e3
      · obtain ⟨y, r1, h1, h2⟩ := bind_ok h
        obtain ⟨e1, w1⟩ := termP_eat h1 hq
        split at h2
        · obtain ⟨z, o, rfl, ho, e2, w2⟩ := cmpP_eat h2 (e1.good hq)
          have e3 := e1.trans e2
          have e4 : liW ⟨false, ⟨#[]⟩, [y, z], o⟩ = [tmW y, sgnS o, tmW z] := by
            unfold liW
            rw [if_neg ho]
            rfl
          rw [e4]
          refine ⟨e3, fun a ha => ?_⟩
          simp only [List.mem_cons, List.not_mem_nil, or_false] at ha
          rcases ha with rfl | rfl
          · exact w1
          · exact w2
        · next hc =>
          split at h2
          · cases h2
          · obtain ⟨a, r2, h3, h4⟩ := bind_ok h2
            obtain ⟨e3, w3⟩ := argsP_eat h3 (e1.good hq)
            injection h4 with h5 h6
            rw [← h5, ← h6]
            have hys : ¬ y.s.data.toList = [] := fun e => hc (.inl e)
            have e4 : tmW y = y.s.data.toList := by
              unfold termP at h1
              split at h1
              · injection h1 with h7 _
                have ha : y.a = false := by rw [← h7]; split <;> rfl
                unfold tmW
                rw [if_neg (by rw [ha]; decide), if_pos hys]
              · cases h1
            rw [e4] at e1
            refine ⟨?_, w3⟩
            unfold liW
            rw [if_pos rfl]
            exact e1.trans e3
theorem boGo_eat : ∀ (f : Nat) (l : List LiP) (ts r : List Tok) (l' : List LiP), boGo f l ts = .ok l' r → (∀ y ∈ ts, QT y) → ∃ l2 e, l' = l ++ l2 ∧ l2 ≠ [] ∧ e.k = 4 ∧ Eat ts (comL (l2.map liW)) (e :: r) ∧ ∀ x ∈ l2, ∀ a ∈ x.args, Wide a.v
  | 0, _, _, _, _, h, _ => by cases h
  | f + 1, l, ts, r, l', h, hq => by
    unfold boGo at h
    obtain ⟨x, r1, h1, h2⟩ := bind_ok h
    obtain ⟨e1, w1⟩ := litP_eat h1 hq
    split at h2
    · next hc =>
      have e2 := hasP_eat hc (by decide)
      obtain ⟨l2, e, rfl, hn, hk, e3, w3⟩ := boGo_eat f (l ++ [x]) r1.tail r l' h2 (e2.good (e1.good hq))
      refine ⟨x :: l2, e, by simp, by simp, hk, ?_, fun y hy => (List.mem_cons.1 hy).elim (fun e => e ▸ w1) (w3 y)⟩
      have e4 : comL ((x :: l2).map liW) = liW x ++ [44] :: comL (l2.map liW) := comL_cons _ _ (by simpa using hn)
      rw [e4]
      have e5 := (e1.trans e2).trans e3
      simpa [wComma] using e5
    · split at h2
      · next hk =>
        injection h2 with h5 h6
        rw [← h5, ← h6]
        cases r1 with
        | nil => exact absurd hk (by decide)
        | cons e r2 => exact ⟨[x], e, rfl, by simp, hk, e1, fun y hy => by rw [List.mem_singleton.1 hy]; exact w1⟩
      · cases h2
theorem agT_word (x : Tok) (h : agT x ≠ 0) : (agT x = 1 ∧ x.t.data.toList = countW) ∨ (agT x ≠ 1 ∧ x.t.data.toList = agoX (agT x : Int)) := by
  unfold agT at h ⊢
  split at h
  · next e => rw [if_pos e]; exact .inl ⟨rfl, e⟩
  · next e0 =>
    rw [if_neg e0]
    split at h
    · next e => rw [if_pos e]; exact .inr ⟨by decide, e⟩
    · next e1 =>
      rw [if_neg e1]
      split at h
      · next e => rw [if_pos e]; exact .inr ⟨by decide, e⟩
      · next e2 =>
        rw [if_neg e2]
        split at h
        · next e => rw [if_pos e]; exact .inr ⟨by decide, e⟩
        · exact absurd rfl h
theorem aggP_eat {ts r : List Tok} {k : Int} {x : Int × ByteArray} (h : aggP k ts = .ok x r) : Eat ts (agW x.1 x.2) r ∧ x.1 ≠ 0 := by
  unfold aggP at h
  split at h
  · cases h
  · next h0 =>
    have h1 : agT (hdT ts) ≠ 0 := fun e => h0 (.inl e)
    have hk : Eat ts [(hdT ts).t.data.toList] ts.tail := by
      cases ts with
      | nil => exact absurd (by decide) h1
      | cons a b => exact ⟨[a], rfl, rfl⟩
    rcases agT_word _ h1 with ⟨h2, h3⟩ | ⟨h2, h3⟩
    · rw [if_pos h2] at h
      injection h with h4 h5
      rw [← h4, ← h5]
      rw [h3] at hk
      exact ⟨hk, by decide⟩
    · rw [if_neg h2] at h
      obtain ⟨nm, r1, h4, h5⟩ := bind_ok h
      injection h5 with h6 h7
      rw [← h6, ← h7]
      rw [h3] at hk
      refine ⟨?_, by show ((agT (hdT ts) : Nat) : Int) ≠ 0; omega⟩
      show Eat ts (agW ((agT (hdT ts) : Nat) : Int) nm) r1
      unfold agW
      rw [if_neg (by omega)]
      exact hk.trans (nameP_eat h4).1
theorem heGo_eat (k : Int) : ∀ (f : Nat) (h : List ByteArray) (ts r : List Tok) (y : HeP), heGo k f h ts = .ok y r → ∃ h2, y.h = h ++ h2 ∧ hedL h2 ++ agL y.ag y.ofv ≠ [] ∧ Eat ts (comL (hedL h2 ++ agL y.ag y.ofv) ++ [[41]]) r ∧ y.lim = 0
  | 0, _, _, _, _, h => by cases h
  | f + 1, h, ts, r, y, hr => by
    unfold heGo at hr
    split at hr
    · obtain ⟨x, r1, h1, h2⟩ := bind_ok hr
      obtain ⟨e1, hx⟩ := aggP_eat h1
      obtain ⟨u, r2, h3, h4⟩ := bind_ok h2
      injection h4 with h5 h6
      rw [← h5, ← h6]
      have e2 : agL x.1 x.2 = [agW x.1 x.2] := if_neg hx
      refine ⟨[], by simp, ?_, ?_, rfl⟩
      · show hedL [] ++ agL x.1 x.2 ≠ []
        rw [e2]; simp [hedL]
      · show Eat ts (comL (hedL [] ++ agL x.1 x.2) ++ [[41]]) r2
        rw [e2]
        exact e1.trans (needP_eat h3 (by decide))
    · obtain ⟨nm, r1, h1, h2⟩ := bind_ok hr
      have e1 := (nameP_eat h1).1
      split at h2
      · cases h2
      · split at h2
        · next hc =>
          have e2 := hasP_eat hc (by decide)
          obtain ⟨l2, h3, hn, e3, hl⟩ := heGo_eat k f (h ++ [nm]) r1.tail r y h2
          refine ⟨nm :: l2, by rw [h3]; simp, by simp [hedL], ?_, hl⟩
          have e4 : comL (hedL (nm :: l2) ++ agL y.ag y.ofv) = [nm.data.toList] ++ [44] :: comL (hedL l2 ++ agL y.ag y.ofv) := comL_cons _ _ hn
          rw [e4]
          have e5 := (e1.trans e2).trans e3
          simpa [wComma] using e5
        · obtain ⟨u, r2, h3, h4⟩ := bind_ok h2
          injection h4 with h5 h6
          rw [← h5, ← h6]
          exact ⟨[nm], rfl, by simp [hedL], e1.trans (needP_eat h3 (by decide)), rfl⟩
theorem numP_eat {ts r : List Tok} {n : Int} (h : numP ts = .ok n r) (hq : ∀ y ∈ ts, QT y) : Eat ts [Lib.itoa n] r ∧ -9223372036854775808 ≤ n ∧ n ≤ 9223372036854775807 := by
  unfold numP at h
  split at h
  · next hk =>
    injection h with h2 h3
    rw [← h2, ← h3]
    cases ts with
    | nil => exact absurd hk (by decide)
    | cons x r =>
      have e : x.t.data.toList = Lib.itoa x.v.n := (hq x List.mem_cons_self).num hk
      refine ⟨?_, (hq x List.mem_cons_self).wide⟩
      show Eat (x :: r) [Lib.itoa x.v.n] r
      rw [← e]
      exact ⟨[x], rfl, rfl⟩
  · cases h
theorem quP_eat {ts r : List Tok} {y : HeP} (h : quP ts = .ok y r) (hq : ∀ y ∈ ts, QT y) : Eat ts (comL (hedL y.h ++ agL y.ag y.ofv) ++ ([41] :: [wLimit, Lib.itoa y.lim])) r ∧ -9223372036854775808 ≤ y.lim ∧ y.lim ≤ 9223372036854775807 := by
  unfold quP at h
  obtain ⟨nm, r1, h1, h⟩ := bind_ok h
  have e1 := (nameP_eat h1).1
  obtain ⟨u, r2, h2, h⟩ := bind_ok h
  have e2 := needP_eat h2 (by decide)
  obtain ⟨x, r3, h3, h⟩ := bind_ok h
  obtain ⟨e3, hx⟩ := aggP_eat h3
  obtain ⟨u, r4, h4, h⟩ := bind_ok h
  have e4 := needP_eat h4 (by decide)
  obtain ⟨u, r5, h5, h⟩ := bind_ok h
  have e5 := needP_eat h5 (by decide)
  obtain ⟨n, r6, h6, h⟩ := bind_ok h
  obtain ⟨e6, w6⟩ := numP_eat h6 (e5.good (e4.good (e3.good (e2.good (e1.good hq)))))
  injection h with h7 h8
  rw [← h7, ← h8]
  refine ⟨?_, w6⟩
  show Eat ts (comL (hedL [nm] ++ agL x.1 x.2) ++ ([41] :: [wLimit, Lib.itoa n])) r6
  have e7 : agL x.1 x.2 = [agW x.1 x.2] := if_neg hx
  rw [e7]
  have e8 := ((((e1.trans e2).trans e3).trans e4).trans e5).trans e6
  show Eat ts (([nm.data.toList] ++ [44] :: agW x.1 x.2) ++ ([41] :: [wLimit, Lib.itoa n])) r6
  simpa [wComma, wShut] using e8
theorem kindN_word (x : Tok) (h : kindN x ≠ 0) : x.t.data.toList = kindX (kindN x) := by
  unfold kindN at h ⊢
  split at h
  · next e => rw [if_pos e]; exact e
  · next e0 =>
    rw [if_neg e0]
    split at h
    · next e => rw [if_pos e]; exact e
    · next e1 =>
      rw [if_neg e1]
      split at h
      · next e => rw [if_pos e]; exact e
      · exact absurd rfl h
/-- The tokens out of which a rule is read are its words, and an end. -/
theorem ruleP_eat {ts r : List Tok} {x : RuP} (h : ruleP ts = .ok x r) (hq : ∀ y ∈ ts, QT y) : ∃ e, e.k = 4 ∧ Eat ts (ruW x) (e :: r) ∧ (∀ y ∈ x.body, ∀ a ∈ y.args, Wide a.v) ∧ -9223372036854775808 ≤ x.lim ∧ x.lim ≤ 9223372036854775807 := by
  unfold ruleP at h
  obtain ⟨k, r1, h1, h⟩ := bind_ok h
  have e1 : Eat ts [kindX k] r1 := by
    unfold kindP at h1
    split at h1
    · cases h1
    · next h0 =>
      injection h1 with h2 h3
      rw [← h2, ← h3, ← kindN_word _ h0]
      cases ts with
      | nil => exact absurd (by decide) h0
      | cons a b => exact ⟨[a], rfl, rfl⟩
  obtain ⟨nm, r2, h2, h⟩ := bind_ok h
  have e2 := (nameP_eat h2).1
  obtain ⟨u, r3, h3, h⟩ := bind_ok h
  have e3 := needP_eat h3 (by decide)
  obtain ⟨y, r4, h4, h⟩ := bind_ok h
  have q3 := e3.good (e2.good (e1.good hq))
  have e4 : Eat r3 (comL (hedL y.h ++ agL y.ag y.ofv) ++ ([41] :: (if k = 3 then [wLimit, Lib.itoa y.lim] else []))) r4 ∧ -9223372036854775808 ≤ y.lim ∧ y.lim ≤ 9223372036854775807 := by
    split at h4
    · next hk => rw [if_pos hk]; exact quP_eat h4 q3
    · next hk =>
      rw [if_neg hk]
      obtain ⟨h2, h5, _, h6, h7⟩ := heGo_eat k _ _ _ _ _ h4
      rw [h5, h7]
      exact ⟨h6, by decide, by decide⟩
  obtain ⟨e4, w4⟩ := e4
  obtain ⟨u, r5, h5, h⟩ := bind_ok h
  have e5 := needP_eat h5 (by decide)
  obtain ⟨b, r6, h6, h⟩ := bind_ok h
  obtain ⟨l2, e, rfl, _, hk, e6, w6⟩ := boGo_eat _ _ _ _ _ h6 (e5.good (e4.good q3))
  injection h with h7 h8
  rw [← h7, ← h8]
  refine ⟨e, hk, ?_, w6, w4⟩
  have e7 := ((((e1.trans e2).trans e3).trans e4).trans e5).trans e6
  unfold ruW callW
  simpa [wOpen] using e7
end
end Go.Proofs.YtkobfngnnblpeaaGreatDoor
namespace Go.Proofs.YtkobfngnnblpeaaGreatDoor
section
open Go.RowKit

def endT : Tok := ⟨4, ⟨#[]⟩, noV, 0⟩
/-- The tokens of a text are those of some words, and the end. -/
def Lx (t : List UInt8) (ws : List (List UInt8)) : Prop := ∀ f n, t.length < f → (lexF f n t).map Tok.er = ws.map oneT ++ [endT]
/-- A word that is one token. -/
def GoodW (w : List UInt8) : Prop := w ≠ [] ∧ (oneT w).k ≠ 0 ∧ (oneT w).t.data.toList = w
theorem Lx.nil : Lx [] [] := by
  intro f n hf
  obtain ⟨f, rfl⟩ : ∃ k, f = k + 1 := ⟨f - 1, by simp at hf; omega⟩
  rfl
theorem Lx.blank {t : List UInt8} {ws : List (List UInt8)} (h : Lx t ws) : Lx (32 :: t) ws := by
  intro f n hf
  obtain ⟨f, rfl⟩ : ∃ k, f = k + 1 := ⟨f - 1, by simp at hf; omega⟩
  have h2 := h (f + 1) n (by simp at hf; omega)
  unfold lexF at h2 ⊢
  rw [List.dropWhile_cons_of_pos (by decide)]
  exact h2
theorem blk_no (c : UInt8) (r : List UInt8) (h : blk c = true) : (oneT (c :: r)).k = 0 := by
  have hc : c = 32 ∨ c = 10 := by unfold blk at h; simpa using h
  have e : ∀ q : List UInt8, oneT (c :: q) = if c = 34 then quoT (c :: q) else if (dgt c || decide (c = 45)) = true then numT (c :: q) else if ltr c = true then worT ((c :: q).take (wordF (c :: q))) else sgnT (c :: q) := fun q => rfl
  have hs : sgnF (c :: r) = 0 := by
    rcases hc with rfl | rfl <;> cases r <;> simp [sgnF]
  have h2 : sgnT (c :: r) = noT := by unfold sgnT; rw [if_pos hs]
  rcases hc with rfl | rfl <;> (rw [e, if_neg (by decide), if_neg (by decide), if_neg (by decide), h2]; rfl)
theorem lexF_one (f n : Nat) (w t : List UInt8) (c : UInt8) (r : List UInt8) (hw : w = c :: r) (hb : blk c = false) (h1 : oneT (w ++ t) = oneT w) (h2 : (oneT w).t.data.toList = w) :
    (lexF (f + 1) n (w ++ t)).map Tok.er = oneT w :: (lexF f n t).map Tok.er := by
  have e4 : ∀ q, lexF (f + 1) n q = (oneT (q.dropWhile blk)).set ((n : Int) - ((q.dropWhile blk).length : Int)) :: (if (oneT (q.dropWhile blk)).t.size = 0 then [] else lexF f n ((q.dropWhile blk).drop (oneT (q.dropWhile blk)).t.size)) := fun q => rfl
  have e2 : (w ++ t).dropWhile blk = w ++ t := by rw [hw, List.cons_append, List.dropWhile_cons_of_neg (by rw [hb]; decide)]
  have hs : (oneT w).t.size = w.length := by
    have := congrArg List.length h2
    exact this
  rw [e4, e2, h1, if_neg (by rw [hs, hw]; simp), hs, List.drop_left' rfl, List.map_cons]
  have hoa : (oneT w).er = oneT w := by
    have : ∀ q : List UInt8, (oneT q).a = 0 := by
      intro q
      have hcon : ∀ l, (conT l).a = 0 := fun l => by unfold conT; split <;> rfl
      cases q with
      | nil => rfl
      | cons c q =>
        unfold oneT
        simp only
        split
        · unfold quoT; split; rfl; exact hcon _
        · split
          · unfold numT; split; rfl; exact hcon _
          · split
            · unfold worT; split <;> rfl
            · unfold sgnT; split <;> rfl
    have h3 := this w
    show (⟨(oneT w).k, (oneT w).t, (oneT w).v, 0⟩ : Tok) = oneT w
    rw [← h3]
  show (oneT w).er :: _ = _
  rw [hoa]
theorem Lx.word {w t : List UInt8} {ws : List (List UInt8)} (hw : GoodW w) (hR : StopB t) (h : Lx t ws) : Lx (w ++ t) (w :: ws) := by
  obtain ⟨h1, h2, h3⟩ := hw
  intro f n hf
  cases w with
  | nil => exact absurd rfl h1
  | cons c r =>
    obtain ⟨f, rfl⟩ : ∃ k, f = k + 1 := ⟨f - 1, by simp at hf; omega⟩
    have hb : blk c = false := by
      cases hb : blk c with
      | false => rfl
      | true => exact absurd (blk_no c r hb) h2
    have hst := oneT_stop (c :: r) t h1 hR h2
    rw [h3] at hst
    rw [lexF_one f n (c :: r) t c r rfl hb hst h3, h f n (by simp at hf; omega)]
    rfl
theorem one_open (R : List UInt8) : oneT (40 :: R) = ⟨3, ⟨#[40]⟩, noV, 0⟩ := by
  have hs : sgnF (40 :: R) = 1 := by cases R <;> simp [sgnF]
  have h2 : sgnT (40 :: R) = ⟨3, ⟨#[40]⟩, noV, 0⟩ := by unfold sgnT; rw [if_neg (by rw [hs]; decide), hs]; rfl
  have e : oneT (40 :: R) = sgnT (40 :: R) := rfl
  rw [e, h2]
theorem Lx.open {t : List UInt8} {ws : List (List UInt8)} (h : Lx t ws) : Lx (40 :: t) ([40] :: ws) := by
  intro f n hf
  obtain ⟨f, rfl⟩ : ∃ k, f = k + 1 := ⟨f - 1, by simp at hf; omega⟩
  have := lexF_one f n [40] t 40 [] rfl (by decide) ((one_open t).trans (one_open []).symm) (by rw [one_open])
  show (lexF (f + 1) n ([40] ++ t)).map Tok.er = _
  rw [this, h f n (by simp at hf; omega)]
  rfl
theorem good44 : GoodW [44] := ⟨by decide, by decide +kernel, by kernel_rfl⟩
theorem good41 : GoodW [41] := ⟨by decide, by decide +kernel, by kernel_rfl⟩

/-! ### texts -/
def joinS (sep : List UInt8) : List (List UInt8) → List UInt8
  | [] => []
  | [x] => x
  | x :: y :: r => x ++ (sep ++ joinS sep (y :: r))
def callX (nm : List UInt8) (l : List (List UInt8)) : List UInt8 := nm ++ ([40] ++ (joinS [44, 32] l ++ [41]))
def agX (ag : Int) (ofv : ByteArray) : List UInt8 := if ag = 1 then countW else if ag < 1 then [] else joinS [32] [agoX ag, ofv.data.toList]
def cmpX (o : Int) (l : List TmP) : List UInt8 := match l with
  | [a, b] => if sgnS o = [] then [] else joinS [32] [tmW a, sgnS o, tmW b]
  | _ => []
def liX (x : LiP) : List UInt8 := if x.o ≠ 0 then cmpX x.o x.args else if x.n = true then joinS [32] [wNot, callX x.s.data.toList (x.args.map tmW)] else callX x.s.data.toList (x.args.map tmW)
def hedX (x : RuP) : List (List UInt8) := x.head.map (fun y => y.data.toList) ++ (if x.ag ≠ 0 then [agX x.ag x.ofv] else [])
def limX (x : RuP) : List (List UInt8) := if x.k = 3 then [wLimit, Lib.itoa x.lim] else []
def parX (x : RuP) : List (List UInt8) := [kindX x.k, callX x.nm.data.toList (hedX x)] ++ limX x
/-- The text of a rule. -/
def ruT (x : RuP) : List UInt8 := joinS [32] (parX x ++ [wIf, joinS [44, 32] (x.body.map liX)])

/-- A text is read as such words, whatever it is that such words are read of behind it. -/
def LX (t : List UInt8) (ws : List (List UInt8)) : Prop := ∀ R ws', StopB R → Lx R ws' → Lx (t ++ R) (ws ++ ws')
def LXG (t : List UInt8) (ws : List (List UInt8)) : Prop := (∀ w ∈ ws, GoodW w) → LX t ws
theorem LX.nil : LX [] [] := fun _ _ _ h => h
theorem LXG.word (w : List UInt8) : LXG w [w] := fun h _ _ hR hL => Lx.word (h w List.mem_cons_self) hR hL
theorem LX.blank {t u : List UInt8} {ws vs : List (List UInt8)} (h : LX t ws) (h2 : LX u vs) : LX (t ++ ([32] ++ u)) (ws ++ vs) := fun R ws' hR hL => by
  have h3 := h (32 :: (u ++ R)) (vs ++ ws') (StopB.blank _) (Lx.blank (h2 R ws' hR hL))
  simpa [List.append_assoc] using h3
theorem LX.comma {t u : List UInt8} {ws vs : List (List UInt8)} (h : LX t ws) (h2 : LX u vs) : LX (t ++ ([44, 32] ++ u)) (ws ++ [44] :: vs) := fun R ws' hR hL => by
  have h4 : Lx ([44] ++ (32 :: (u ++ R))) ([44] :: (vs ++ ws')) := Lx.word good44 (StopB.blank _) (Lx.blank (h2 R ws' hR hL))
  have h3 := h ([44] ++ (32 :: (u ++ R))) ([44] :: (vs ++ ws')) (.inr ⟨44, _, rfl, .inr (.inr (.inr rfl))⟩) h4
  simpa [List.append_assoc] using h3
theorem LXG.join : ∀ (l : List (List UInt8 × List (List UInt8))), (∀ p ∈ l, LXG p.1 p.2) → LXG (joinS [44, 32] (l.map Prod.fst)) (comL (l.map Prod.snd))
  | [], _ => fun _ => LX.nil
  | [x], h => h x List.mem_cons_self
  | x :: y :: r, h => fun hg => by
    have ih := LXG.join (y :: r) (fun p hp => h p (List.mem_cons_of_mem _ hp))
    have e : comL ((x :: y :: r).map Prod.snd) = x.2 ++ [44] :: comL ((y :: r).map Prod.snd) := rfl
    rw [e] at hg ⊢
    have h1 := h x List.mem_cons_self (fun w hw => hg w (List.mem_append.2 (.inl hw)))
    have h2 := ih (fun w hw => hg w (List.mem_append.2 (.inr (List.mem_cons_of_mem _ hw))))
    exact LX.comma h1 h2
theorem LXG.call (nm : List UInt8) (l : List (List UInt8 × List (List UInt8))) (h : ∀ p ∈ l, LXG p.1 p.2) : LXG (callX nm (l.map Prod.fst)) (callW nm (l.map Prod.snd)) := fun hg R ws' hR hL => by
  unfold callW at hg ⊢
  have h1 := hg nm List.mem_cons_self
  have h2 := LXG.join l h (fun w hw => hg w (List.mem_cons_of_mem _ (List.mem_cons_of_mem _ (List.mem_append.2 (.inl hw)))))
  have h3 : Lx ([41] ++ R) ([41] :: ws') := Lx.word good41 hR hL
  have h4 := h2 ([41] ++ R) ([41] :: ws') (.inr ⟨41, _, rfl, .inr (.inr (.inl rfl))⟩) h3
  have h5 := Lx.open h4
  have h6 := Lx.word h1 (.inr ⟨40, _, rfl, .inr (.inl rfl)⟩) h5
  unfold callX
  simpa [List.append_assoc] using h6
theorem map_pair {α : Type} (l : List α) (f : α → List UInt8) (g : α → List (List UInt8)) : (l.map fun x => (f x, g x)).map Prod.fst = l.map f ∧ (l.map fun x => (f x, g x)).map Prod.snd = l.map g := by
  constructor <;> (rw [List.map_map]; rfl)
theorem LXG.args (nm : List UInt8) (l : List TmP) : LXG (callX nm (l.map tmW)) (callW nm (argL l)) := by
  have e := map_pair l tmW (fun x => [tmW x])
  have h := LXG.call nm (l.map fun x => (tmW x, [tmW x])) (fun p hp => by
    obtain ⟨x, _, rfl⟩ := List.mem_map.1 hp
    exact LXG.word _)
  rw [e.1, e.2] at h
  exact h
theorem LXG.lit (x : LiP) : LXG (liX x) (liW x) := fun hg => by
  obtain ⟨n, s, args, o⟩ := x
  unfold liX
  by_cases ho : o = 0
  · subst ho
    rw [if_neg (by simp)]
    have e : liW ⟨n, s, args, 0⟩ = (if n = true then [wNot] else []) ++ callW s.data.toList (argL args) := by
      unfold liW
      rw [if_pos rfl]
    rw [e] at hg ⊢
    cases n with
    | true =>
      rw [if_pos rfl]
      have h1 := LXG.word wNot (fun w hw => hg w (List.mem_append.2 (.inl hw)))
      have h2 := LXG.args s.data.toList args (fun w hw => hg w (List.mem_append.2 (.inr hw)))
      exact LX.blank h1 h2
    | false =>
      rw [if_neg (by simp)]
      exact LXG.args s.data.toList args (fun w hw => hg w (List.mem_append.2 (.inr hw)))
  · rw [if_pos ho]
    show LX (cmpX o args) _
    have e0 : liW ⟨n, s, args, o⟩ = cmpW o args := by
      unfold liW
      rw [if_neg ho]
    rw [e0] at hg ⊢
    rcases args with _ | ⟨a, _ | ⟨b, _ | ⟨c, r⟩⟩⟩
    · exact LX.nil
    · exact LX.nil
    · have e3 : cmpX o [a, b] = if sgnS o = [] then [] else joinS [32] [tmW a, sgnS o, tmW b] := rfl
      have e4 : cmpW o [a, b] = [tmW a, sgnS o, tmW b] := rfl
      rw [e3]
      rw [e4] at hg ⊢
      by_cases hs : sgnS o = []
      · have h1 := hg (sgnS o) (by simp)
        rw [hs] at h1
        exact absurd rfl h1.1
      · rw [if_neg hs]
        have h1 := LXG.word (tmW a) (fun w hw => hg w (by simp at hw; simp [hw]))
        have h2 := LXG.word (sgnS o) (fun w hw => hg w (by simp at hw; simp [hw]))
        have h3 := LXG.word (tmW b) (fun w hw => hg w (by simp at hw; simp [hw]))
        exact LX.blank h1 (LX.blank h2 h3)
    · exact LX.nil
theorem LXG.rule (x : RuP) : LXG (ruT x) (ruW x) := fun hg => by
  obtain ⟨k, nm, head, ag, ofv, lim, body⟩ := x
  have eW : ruW ⟨k, nm, head, ag, ofv, lim, body⟩ = [kindX k] ++ (callW nm.data.toList (hedL head ++ agL ag ofv) ++ ((if k = 3 then [wLimit, Lib.itoa lim] else []) ++ ([wIf] ++ comL (body.map liW)))) := rfl
  rw [eW] at hg ⊢
  have g1 := LXG.word (kindX k) (fun w hw => hg w (by simp only [List.mem_append]; exact .inl hw))
  have hh : LXG (callX nm.data.toList (hedX ⟨k, nm, head, ag, ofv, lim, body⟩)) (callW nm.data.toList (hedL head ++ agL ag ofv)) := by
    have e := map_pair head (fun y => y.data.toList) (fun y => [y.data.toList])
    by_cases h0 : ag = 0
    · have e2 : hedX ⟨k, nm, head, ag, ofv, lim, body⟩ = (head.map fun y => (y.data.toList, [y.data.toList])).map Prod.fst := by
        unfold hedX
        rw [if_neg (by simpa using h0), List.append_nil]
        exact e.1.symm
      have e3 : hedL head ++ agL ag ofv = (head.map fun y => (y.data.toList, [y.data.toList])).map Prod.snd := by
        unfold agL
        rw [if_pos h0, List.append_nil]
        exact e.2.symm
      rw [e2, e3]
      refine LXG.call _ _ fun p hp => ?_
      obtain ⟨x, _, rfl⟩ := List.mem_map.1 hp
      exact LXG.word _
    · have e2 : hedX ⟨k, nm, head, ag, ofv, lim, body⟩ = ((head.map fun y => (y.data.toList, [y.data.toList])) ++ [(agX ag ofv, agW ag ofv)]).map Prod.fst := by
        unfold hedX
        rw [if_pos (by simpa using h0), List.map_append]
        exact congrArg (· ++ [agX ag ofv]) e.1.symm
      have e3 : hedL head ++ agL ag ofv = ((head.map fun y => (y.data.toList, [y.data.toList])) ++ [(agX ag ofv, agW ag ofv)]).map Prod.snd := by
        unfold agL
        rw [if_neg h0, List.map_append]
        exact congrArg (· ++ [agW ag ofv]) e.2.symm
      rw [e2, e3]
      refine LXG.call _ _ fun p hp => ?_
      rcases List.mem_append.1 hp with hp | hp
      · obtain ⟨x, _, rfl⟩ := List.mem_map.1 hp
        exact LXG.word _
      · rw [List.mem_singleton.1 hp]
        intro hg2
        show LX (agX ag ofv) (agW ag ofv)
        have hg3 : ∀ w ∈ agW ag ofv, GoodW w := hg2
        unfold agX
        unfold agW at hg3 ⊢
        by_cases h1 : ag = 1
        · rw [if_pos h1] at hg3 ⊢
          rw [if_pos h1]
          exact LXG.word _ hg3
        · rw [if_neg h1] at hg3 ⊢
          rw [if_neg h1]
          by_cases h2 : ag < 1
          · have h3 := hg3 (agoX ag) (by simp)
            have h4 : agoX ag = [] := by
              unfold agoX
              rw [if_neg (by omega), if_neg (by omega), if_neg (by omega)]
            rw [h4] at h3
            exact absurd rfl h3.1
          · rw [if_neg h2]
            have h3 := LXG.word (agoX ag) (fun w hw => hg3 w (by simp at hw; simp [hw]))
            have h4 := LXG.word ofv.data.toList (fun w hw => hg3 w (by simp at hw; simp [hw]))
            exact LX.blank h3 h4
  have g2 := hh (fun w hw => hg w (by simp only [List.mem_append]; exact .inr (.inl hw)))
  have g3 := LXG.word wIf (fun w hw => hg w (by simp only [List.mem_append]; exact .inr (.inr (.inr (.inl hw)))))
  have g4 : LX (joinS [44, 32] (body.map liX)) (comL (body.map liW)) := by
    have e := map_pair body liX liW
    have h := LXG.join (body.map fun x => (liX x, liW x)) (fun p hp => by
      obtain ⟨x, _, rfl⟩ := List.mem_map.1 hp
      exact LXG.lit x)
    rw [e.1, e.2] at h
    exact h (fun w hw => hg w (by simp only [List.mem_append]; exact .inr (.inr (.inr (.inr hw)))))
  by_cases h3 : k = 3
  · have e5 : limX ⟨k, nm, head, ag, ofv, lim, body⟩ = [wLimit, Lib.itoa lim] := if_pos h3
    unfold ruT parX
    rw [e5]
    rw [if_pos h3] at hg ⊢
    have g5 := LXG.word wLimit (fun w hw => hg w (by simp only [List.mem_append]; exact .inr (.inr (.inl (by simp at hw; simp [hw])))))
    have g6 := LXG.word (Lib.itoa lim) (fun w hw => hg w (by simp only [List.mem_append]; exact .inr (.inr (.inl (by simp at hw; simp [hw])))))
    show LX _ ([kindX k] ++ (callW nm.data.toList (hedL head ++ agL ag ofv) ++ ([wLimit] ++ ([Lib.itoa lim] ++ ([wIf] ++ comL (body.map liW))))))
    exact LX.blank g1 (LX.blank g2 (LX.blank g5 (LX.blank g6 (LX.blank g3 g4))))
  · have e5 : limX ⟨k, nm, head, ag, ofv, lim, body⟩ = [] := if_neg h3
    unfold ruT parX
    rw [e5]
    rw [if_neg h3]
    show LX _ ([kindX k] ++ (callW nm.data.toList (hedL head ++ agL ag ofv) ++ ([wIf] ++ comL (body.map liW))))
    exact LX.blank g1 (LX.blank g2 (LX.blank g3 g4))

/-! ### tokens and their words -/
theorem lex_one : ∀ (f n : Nat) (l : List UInt8), l.length < f → (∀ x ∈ lexF f n l, x.k ≠ 0) → ∀ x ∈ lexF f n l, x.er = oneT x.t.data.toList
  | 0, _, _, h, _ => by omega
  | f + 1, n, l, hf, hk => by
    have hrl := drop_blk_le l
    have e : lexF (f + 1) n l = (oneT (l.dropWhile blk)).set ((n : Int) - ((l.dropWhile blk).length : Int)) :: (if (oneT (l.dropWhile blk)).t.size = 0 then [] else lexF f n ((l.dropWhile blk).drop (oneT (l.dropWhile blk)).t.size)) := rfl
    rw [e] at hk ⊢
    obtain ⟨r, hr⟩ : ∃ r, r = l.dropWhile blk := ⟨_, rfl⟩
    rw [← hr] at hk hrl ⊢
    have hk0 : (oneT r).k ≠ 0 := hk ((oneT r).set ((n : Int) - (r.length : Int))) (by simp)
    have hoa : (oneT r).er = oneT r := by
      have hcon : ∀ l, (conT l).a = 0 := fun l => by unfold conT; split <;> rfl
      have h3 : (oneT r).a = 0 := by
        cases r with
        | nil => rfl
        | cons c q =>
          unfold oneT
          simp only
          split
          · unfold quoT; split; rfl; exact hcon _
          · split
            · unfold numT; split; rfl; exact hcon _
            · split
              · unfold worT; split <;> rfl
              · unfold sgnT; split <;> rfl
      show (⟨(oneT r).k, (oneT r).t, (oneT r).v, 0⟩ : Tok) = oneT r
      rw [← h3]
    intro x hx
    rcases List.mem_cons.1 hx with rfl | hx
    · show (oneT r).er = oneT (oneT r).t.data.toList
      rw [hoa]
      by_cases hr0 : r = []
      · subst hr0
        rfl
      · have h5 := oneT_stop r [] hr0 (.inl rfl) hk0
        rw [List.append_nil] at h5
        exact h5.symm
    · by_cases h6 : (oneT r).t.size = 0
      · rw [if_pos h6] at hx
        simp at hx
      · rw [if_neg h6] at hx hk
        have hsz := oneT_size r
        exact lex_one f n _ (by rw [List.length_drop]; omega) (fun y hy => hk y (List.mem_cons_of_mem _ hy)) x hx
theorem conT_show {l : List UInt8} (h : (conT l).k = 2) : showV (conT l).v = (conT l).t.data.toList := by
  unfold conT at h ⊢
  by_cases hr : (readR l).2 = 0
  · rw [if_pos hr]
    have h2 := readR_ok hr
    show showV (readR l).1 = l
    have e : (readR l).1 = guessV l := by
      unfold readR
      rw [if_pos h2]
    rw [e]
    exact h2.2
  · rw [if_neg hr] at h
    exact absurd h (by decide)
theorem oneT_show (l : List UInt8) (h : (oneT l).k = 2) : showV (oneT l).v = (oneT l).t.data.toList := by
  cases l with
  | nil => exact absurd h (by decide)
  | cons c r =>
    unfold oneT at h ⊢
    simp only at h ⊢
    split at h
    · next h1 =>
      rw [if_pos h1]
      unfold quoT at h ⊢
      split at h
      · exact absurd h (by decide)
      · next h2 => rw [if_neg h2]; exact conT_show h
    · next h1 =>
      rw [if_neg h1]
      split at h
      · next h2 =>
        rw [if_pos h2]
        unfold numT at h ⊢
        split at h
        · exact absurd h (by decide)
        · next h3 => rw [if_neg h3]; exact conT_show h
      · next h2 =>
        rw [if_neg h2]
        split at h
        · next h3 =>
          rw [if_pos h3]
          have hc : ∀ q, (worT q).k = 2 → showV (worT q).v = (worT q).t.data.toList := by
            intro q hq
            unfold worT at hq ⊢
            by_cases hr : (readR q).2 = 0
            · have h4 : (conT q).k = 2 := by unfold conT; rw [if_pos hr]
              have h5 := conT_show h4
              unfold conT at h5
              rw [if_pos hr] at h5 ⊢
              exact h5
            · rw [if_neg hr] at hq
              exact absurd hq (by show ¬ (1 : Int) = 2; decide)
          exact hc _ h
        · next h3 =>
          exfalso
          unfold sgnT at h
          split at h
          · exact absurd h (by decide)
          · exact absurd h (by show ¬ (3 : Int) = 2; decide)
theorem conT_wide (l : List UInt8) : Wide (conT l).v := by
  unfold conT
  split
  · unfold readR
    split
    · exact guess_wide l
    · exact noV_wide
  · exact noV_wide
theorem oneT_wide (l : List UInt8) : Wide (oneT l).v := by
  cases l with
  | nil => exact noV_wide
  | cons c r =>
    unfold oneT
    simp only
    split
    · unfold quoT
      split
      · exact noV_wide
      · exact conT_wide _
    · split
      · unfold numT
        split
        · exact noV_wide
        · exact conT_wide _
      · split
        · unfold worT
          split
          · next hr =>
            have h := conT_wide ((c :: r).take (wordF (c :: r)))
            unfold conT at h
            rw [if_pos hr] at h
            exact h
          · exact noV_wide
        · unfold sgnT
          split
          · exact noV_wide
          · exact noV_wide
theorem show_num (v : V) (h : v.k = 2) (hs : showV v ≠ []) : showV v = Lib.itoa v.n := by
  unfold showV at hs ⊢
  by_cases h1 : rightV v = true
  · rw [if_pos h1, if_neg (by rw [h]; decide), if_pos h]
  · rw [if_neg h1] at hs
    exact absurd rfl hs
theorem TkG.split : ∀ {ls pre r : List Tok} {e : Tok}, TkG ls → ls = pre ++ e :: r → e.k = 4 → r = [] ∧ ∀ x ∈ pre, TkI x
  | [], pre, r, e, h, _, _ => h.elim
  | x :: q, [], r, e, h, hl, hk => by
    injection hl with h1 h2
    subst h1 h2
    rcases h with ⟨_, h2⟩ | ⟨h1, _⟩
    · exact ⟨h2, fun y hy => absurd hy List.not_mem_nil⟩
    · rcases h1.k with h3 | h3 | h3 <;> (rw [h3] at hk; exact absurd hk (by decide))
  | x :: q, y :: pre, r, e, h, hl, hk => by
    injection hl with h1 h2
    subst h1
    rcases h with ⟨_, h3⟩ | ⟨h3, h4⟩
    · rw [h3] at h2
      exact absurd h2.symm (by simp)
    · have ih := TkG.split h4 h2 hk
      exact ⟨ih.1, fun z hz => (List.mem_cons.1 hz).elim (fun e => e ▸ h3) (ih.2 z)⟩
theorem TkG.mem : ∀ {ls : List Tok}, TkG ls → ∀ x ∈ ls, TkE x ∨ TkI x
  | [], h, _, _ => h.elim
  | y :: q, h, x, hx => by
    rcases h with ⟨h1, h2⟩ | ⟨h1, h2⟩
    · subst h2
      rw [List.mem_singleton.1 hx]
      exact .inl h1
    · rcases List.mem_cons.1 hx with rfl | hx
      · exact .inr h1
      · exact TkG.mem h2 x hx
/-- A rule that was read, written, and read again, is the same; its words are short, its numbers are of 64 bits. -/
theorem ruT_back (l : List UInt8) (X : RuP) (z : Int) (h : ruleR l = (X, z, 0)) : ((ruT X).length ≤ 300 → (ruleR (ruT X)).1 = X ∧ (ruleR (ruT X)).2.2 = 0) ∧ (∀ w ∈ ruW X, w.length ≤ 300) ∧ (∀ y ∈ X.body, ∀ a ∈ y.args, Wide a.v) ∧ -9223372036854775808 ≤ X.lim ∧ X.lim ≤ 9223372036854775807 := by
  have h0 : (lexR l).2.2 = 0 := by
    by_cases h0 : (lexR l).2.2 = 0
    · exact h0
    · unfold ruleR at h
      rw [if_pos h0] at h
      have := congrArg (fun q : RuP × Int × Int => q.2.2) h
      exact absurd this h0
  have hw : (ruX (lexR l).1).2.why = 0 ∧ (ruX (lexR l).1).1 = X := by
    unfold ruleR at h
    rw [if_neg (by rw [h0]; decide)] at h
    split at h
    · next h1 => exact ⟨h1, congrArg Prod.fst h⟩
    · next h1 =>
      have := congrArg (fun q : RuP × Int × Int => q.2.2) h
      exact absurd this h1
  have hg := lexR_tk h0
  have hA := lexR_all l h0
  have hl3 : l.length ≤ 300 := by
    by_cases h2 : 300 < l.length
    · unfold lexR at h0
      rw [if_pos h2] at h0
      exact absurd h0 (by decide)
    · omega
  have hl4 : (lexR l).1.length ≤ 400 := by
    rw [hA.1]
    have := lexA_len l.length l
    omega
  have hone : ∀ x ∈ (lexR l).1, x.er = oneT x.t.data.toList := by
    rw [hA.1]
    exact lex_one _ _ _ (by omega) hA.2
  have hk0 : ∀ x ∈ (lexR l).1, x.k ≠ 0 := by rw [hA.1]; exact hA.2
  have hq : ∀ x ∈ (lexR l).1, QT x := by
    intro x hx
    have e := hone x hx
    have con : x.k = 2 → showV x.v = x.t.data.toList := by
      intro hk
      have e1 : (oneT x.t.data.toList).k = 2 := by rw [← e]; exact hk
      have e2 := oneT_show _ e1
      rw [← e] at e2
      exact e2
    have hwd : Wide x.v := by
      have e3 : x.er.v = (oneT x.t.data.toList).v := by rw [e]
      have e4 : x.v = (oneT x.t.data.toList).v := e3
      rw [e4]
      exact oneT_wide _
    refine ⟨con, fun hv => ?_, hwd⟩
    rcases TkG.mem hg x hx with h1 | h1
    · rw [h1.2.2] at hv
      exact absurd hv (by decide)
    · have hk2 : x.k = 2 := by
        by_cases hk2 : x.k = 2
        · exact hk2
        · have := h1.v hk2
          rw [hv] at this
          exact absurd this (by decide)
      have h3 := con hk2
      rw [← h3]
      exact show_num _ hv (by rw [h3]; exact h1.ne)
  have hP := ruleP_eqv (ls := (lexR l).1) ⟨hg, hl4⟩
  obtain ⟨rs, hrs⟩ : ∃ rs, ruleP (lexR l).1 = .ok X rs := by
    cases hR : ruleP (lexR l).1 with
    | ok r rs =>
      rw [hR] at hP
      have h1 : (ruX (lexR l).1).1 = r := hP.1
      rw [← h1, hw.2]
      exact ⟨rs, rfl⟩
    | bad a y =>
      rw [hR] at hP
      obtain ⟨h1, _, h2⟩ := hP
      rw [hw.1] at h1
      exact absurd h1.symm h2
  obtain ⟨e, he, ⟨pre, hpre, hws⟩, hwide, hlim⟩ := ruleP_eat hrs hq
  obtain ⟨hr0, hpi⟩ := hg.split hpre he
  subst hr0
  have hgood : ∀ w ∈ ruW X, GoodW w := by
    rw [← hws]
    intro w hw2
    obtain ⟨x, hx, rfl⟩ := List.mem_map.1 hw2
    have hxl : x ∈ (lexR l).1 := by rw [hpre]; exact List.mem_append.2 (.inl hx)
    have e1 := hone x hxl
    refine ⟨(hpi x hx).ne, ?_, ?_⟩
    · rw [← e1]; exact hk0 x hxl
    · rw [← e1]
  have hL := LXG.rule X hgood [] [] (.inl rfl) Lx.nil
  rw [List.append_nil, List.append_nil] at hL
  have hL2 := hL ((ruT X).length + 1) (ruT X).length (by omega)
  have heT : e.er = endT := by
    have hel : e ∈ (lexR l).1 := by rw [hpre]; simp
    have e1 := hone e hel
    have e2 : e.t.data.toList = [] := by
      rcases TkG.mem hg e hel with h1 | h1
      · rw [h1.2.1]
      · rcases h1.k with h3 | h3 | h3 <;> (rw [h3] at he; exact absurd he (by decide))
    rw [e1, e2]
    rfl
  have hm : (lexR l).1.map Tok.er = (ruW X).map oneT ++ [endT] := by
    rw [hpre, List.map_append, List.map_cons, List.map_nil, heT, ← hws]
    congr 1
    unfold txs
    rw [List.map_map]
    exact List.map_congr_left fun x hx => hone x (by rw [hpre]; exact List.mem_append.2 (.inl hx))
  refine ⟨fun ht => ?_, fun w hw2 => ?_, hwide, hlim⟩
  case refine_2 =>
    rw [← hws] at hw2
    obtain ⟨x, hx, rfl⟩ := List.mem_map.1 hw2
    have hxl : x ∈ lexA l.length l := by rw [← hA.1, hpre]; exact List.mem_append.2 (.inl hx)
    have h1 := lexF_sz _ _ _ x hxl
    have h3 : x.t.data.toList.length = x.t.size := rfl
    omega
  have hJ := lexR_of (ruT X) (lexR l).1 (by rw [hm]; exact hL2) hk0 ht
  have hfin := ruleR_alike l (ruT X) h0 hJ.1 hJ.2
  rw [h] at hfin
  exact hfin
end
end Go.Proofs.YtkobfngnnblpeaaGreatDoor
