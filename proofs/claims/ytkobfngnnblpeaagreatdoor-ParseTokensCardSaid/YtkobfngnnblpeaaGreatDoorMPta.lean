/-
  The tokens of tokens' bytes that stand one behind the other, blanks between them, are these tokens again but for their places.
  No condition.
  The rule that tokens are, and why they are none, does not hang on their places.
  No condition.
-/
import Derived.Test.YtkobfngnnblpeaaGreatDoorM23
import Derived.Test.YtkobfngnnblpeaaGreatDoorM9
namespace Go.Proofs.YtkobfngnnblpeaaGreatDoor
section
open Go.RowKit

/-- What may stand behind a token's bytes: nothing, a blank, a bracket, a comma. -/
def stc (c : UInt8) : Prop := c = 32 ∨ c = 40 ∨ c = 41 ∨ c = 44
def StopB (R : List UInt8) : Prop := R = [] ∨ ∃ c R', R = c :: R' ∧ stc c
theorem StopB.blank (R : List UInt8) : StopB (32 :: R) := .inr ⟨32, R, rfl, .inl rfl⟩
theorem stc_dgt (c : UInt8) (h : stc c) : dgt c = false := by rcases h with rfl | rfl | rfl | rfl <;> decide
theorem stc_wch (c : UInt8) (h : stc c) : wch c = false := by rcases h with rfl | rfl | rfl | rfl <;> decide
theorem stc_ne (c : UInt8) (h : stc c) : c ≠ 61 := by rcases h with rfl | rfl | rfl | rfl <;> decide

theorem txtF_cut : ∀ (r : List UInt8) (i : Nat) (R : List UInt8), 0 < txtF r i → txtF (r.take (txtF r i - i) ++ R) i = txtF r i
  | [], i, R, h => by simp [txtF] at h
  | c :: r, i, R, h => by
    by_cases h1 : c = 92
    · subst h1
      match r, h with
      | [], h => simp [txtF] at h
      | d :: r', h =>
        have e : txtF (92 :: d :: r') i = txtF r' (i + 2) := txtF_esc _ _ _
        rw [e] at h ⊢
        have hp := (txtF_pos r' (i + 2)).resolve_left (by omega)
        obtain ⟨m, hm⟩ : ∃ m, txtF r' (i + 2) - i = m + 2 := ⟨txtF r' (i + 2) - (i + 2), by omega⟩
        rw [hm]
        show txtF (92 :: d :: (r'.take m ++ R)) i = _
        rw [txtF_esc]
        have hm2 : m = txtF r' (i + 2) - (i + 2) := by omega
        rw [hm2]
        exact txtF_cut r' (i + 2) R h
    · by_cases h2 : c = 34
      · subst h2
        rw [txtF_end]
        have e1 : i + 1 - i = 1 := by omega
        rw [e1]
        show txtF (34 :: (r.take 0 ++ R)) i = _
        rw [txtF_end]
      · have e : txtF (c :: r) i = txtF r (i + 1) := txtF_plain _ _ _ h1 h2
        rw [e] at h ⊢
        have hp := (txtF_pos r (i + 1)).resolve_left (by omega)
        obtain ⟨m, hm⟩ : ∃ m, txtF r (i + 1) - i = m + 1 := ⟨txtF r (i + 1) - (i + 1), by omega⟩
        rw [hm]
        show txtF (c :: (r.take m ++ R)) i = _
        rw [txtF_plain _ _ _ h1 h2]
        have hm2 : m = txtF r (i + 1) - (i + 1) := by omega
        rw [hm2]
        exact txtF_cut r (i + 1) R h

theorem take_tw (p : UInt8 → Bool) : ∀ (l : List UInt8), l.take (l.takeWhile p).length = l.takeWhile p
  | [] => rfl
  | c :: r => by
    by_cases h : p c = true
    · rw [List.takeWhile_cons_of_pos h, List.length_cons, List.take_succ_cons, take_tw p r]
    · rw [List.takeWhile_cons_of_neg h]; rfl
theorem tw_app (p : UInt8 → Bool) (hp : ∀ c, stc c → p c = false) (R : List UInt8) (hR : StopB R) : ∀ (l : List UInt8), ((l.takeWhile p) ++ R).takeWhile p = l.takeWhile p
  | [] => by
    rcases hR with rfl | ⟨d, R', rfl, hd⟩
    · rfl
    · show (d :: R').takeWhile p = []
      rw [List.takeWhile_cons_of_neg (by rw [hp d hd]; decide)]
  | c :: r => by
    by_cases h : p c = true
    · rw [List.takeWhile_cons_of_pos h, List.cons_append, List.takeWhile_cons_of_pos h, tw_app p hp R hR r]
    · rw [List.takeWhile_cons_of_neg h]
      exact tw_app p hp R hR []
theorem ltu_stop {R : List UInt8} (hR : StopB R) : ltu R = false := by
  rcases hR with rfl | ⟨d, R', rfl, hd⟩
  · rfl
  · rcases hd with rfl | rfl | rfl | rfl <;> rfl
theorem conT_ok {l : List UInt8} (h : (conT l).k ≠ 0) : (conT l).t = ⟨l.toArray⟩ := by
  unfold conT at h ⊢
  split
  · rfl
  · rename_i h1
    rw [if_neg h1] at h
    exact absurd rfl h
theorem take_app (l R : List UInt8) (n : Nat) (h : n ≤ l.length) : (l.take n ++ R).take n = l.take n ∧ (l.take n ++ R).drop n = R := by
  have e : (l.take n).length = n := by rw [List.length_take]; omega
  constructor
  · have := List.take_left' (l₁ := l.take n) (l₂ := R) e
    exact this
  · exact List.drop_left' e

theorem quo_stop (r R : List UInt8) (hk : (quoT (34 :: r)).k ≠ 0) : quoT ((quoT (34 :: r)).t.data.toList ++ R) = quoT (34 :: r) ∧ ∃ u, (quoT (34 :: r)).t.data.toList = 34 :: u := by
  by_cases h0 : txtF r 1 = 0
  · exfalso
    apply hk
    unfold quoT
    rw [show (34 :: r).drop 1 = r from rfl, if_pos h0]
    rfl
  · have e0 : quoT (34 :: r) = conT ((34 :: r).take (txtF r 1)) := by
      unfold quoT
      rw [show (34 :: r).drop 1 = r from rfl, if_neg h0]
    rw [e0] at hk ⊢
    rw [conT_ok hk]
    have hp := (txtF_pos r 1).resolve_left h0
    have hle := txtF_le r 1
    have hc := txtF_cut r 1 R (by omega)
    obtain ⟨m, hm⟩ : ∃ m, txtF r 1 = m + 1 := ⟨txtF r 1 - 1, by omega⟩
    rw [hm] at hc ⊢
    have e1 : m + 1 - 1 = m := by omega
    rw [e1] at hc
    show quoT (34 :: (r.take m ++ R)) = _ ∧ _
    refine ⟨?_, r.take m, rfl⟩
    unfold quoT
    rw [show (34 :: (r.take m ++ R)).drop 1 = r.take m ++ R from rfl, hc, if_neg (by omega)]
    have e2 : (34 :: (r.take m ++ R)).take (m + 1) = (34 :: r).take (m + 1) := by
      rw [List.take_succ_cons, List.take_succ_cons, (take_app r R m (by omega)).1]
    rw [e2]
theorem num_stop (c : UInt8) (r R : List UInt8) (hR : StopB R) (hc : (dgt c || decide (c = 45)) = true) (hk : (numT (c :: r)).k ≠ 0) : numT ((numT (c :: r)).t.data.toList ++ R) = numT (c :: r) ∧ ∃ u, (numT (c :: r)).t.data.toList = c :: u := by
  by_cases h0 : ltu ((c :: r).drop (numF (c :: r))) = true
  · exfalso
    apply hk
    unfold numT
    rw [if_pos h0]
    rfl
  · have e0 : numT (c :: r) = conT ((c :: r).take (numF (c :: r))) := by
      unfold numT
      rw [if_neg h0]
    rw [e0] at hk ⊢
    rw [conT_ok hk]
    show numT ((c :: r).take (numF (c :: r)) ++ R) = _ ∧ _
    have hle := numF_le (c :: r)
    have hn : numF ((c :: r).take (numF (c :: r)) ++ R) = numF (c :: r) ∧ ∃ u, (c :: r).take (numF (c :: r)) = c :: u := by
      by_cases h45 : c = 45
      · subst h45
        have e1 : ∀ q : List UInt8, numF (45 :: q) = (q.takeWhile dgt).length + 1 := fun q => by
          unfold numF
          rw [show (45 :: q).head? = some 45 from rfl, if_pos rfl, show (45 :: q).drop 1 = q from rfl, Nat.add_comm]
        rw [e1, List.take_succ_cons, take_tw, List.cons_append, e1, tw_app dgt stc_dgt R hR]
        exact ⟨rfl, _, rfl⟩
      · have hd : dgt c = true := by simpa [h45] using hc
        have e1 : ∀ q : List UInt8, numF (c :: q) = ((c :: q).takeWhile dgt).length := fun q => by
          unfold numF
          rw [show (c :: q).head? = some c from rfl, if_neg (fun h => h45 (Option.some.inj h))]
        rw [e1, take_tw]
        have e2 := tw_app dgt stc_dgt R hR (c :: r)
        rw [List.takeWhile_cons_of_pos hd] at e2 ⊢
        rw [List.cons_append] at e2 ⊢
        rw [e1, e2]
        exact ⟨rfl, _, rfl⟩
    obtain ⟨hn1, hn2⟩ := hn
    obtain ⟨ht1, ht2⟩ := take_app (c :: r) R (numF (c :: r)) hle
    refine ⟨?_, hn2⟩
    have e3 : ∀ q : List UInt8, numT q = if ltu (q.drop (numF q)) = true then noT else conT (q.take (numF q)) := fun q => rfl
    rw [e3, hn1, ht1, ht2, ltu_stop hR, if_neg (by decide)]
theorem wor_t (l : List UInt8) : (worT l).t = ⟨l.toArray⟩ := by unfold worT; split <;> rfl
theorem sgn1 (a : UInt8) : sgnF [a] = if a = 40 ∨ a = 41 ∨ a = 44 ∨ a = 95 ∨ a = 60 ∨ a = 62 then 1 else 0 := rfl
theorem sgn2 (a b : UInt8) (r : List UInt8) : sgnF (a :: b :: r) = if b = 61 ∧ (a = 61 ∨ a = 33 ∨ a = 60 ∨ a = 62) then 2 else if a = 40 ∨ a = 41 ∨ a = 44 ∨ a = 95 ∨ a = 60 ∨ a = 62 then 1 else 0 := rfl
theorem oneT_stop (l R : List UInt8) (hl : l ≠ []) (hR : StopB R) (hk : (oneT l).k ≠ 0) : oneT ((oneT l).t.data.toList ++ R) = oneT l := by
  match l, hl with
  | c :: r, _ =>
    have e : ∀ q : List UInt8, oneT (c :: q) = if c = 34 then quoT (c :: q) else if (dgt c || decide (c = 45)) = true then numT (c :: q) else if ltr c = true then worT ((c :: q).take (wordF (c :: q))) else sgnT (c :: q) := fun q => rfl
    by_cases h1 : c = 34
    · subst h1
      have e1 : ∀ q : List UInt8, oneT (34 :: q) = quoT (34 :: q) := fun q => rfl
      rw [e1] at hk ⊢
      obtain ⟨h2, u, h3⟩ := quo_stop r R hk
      rw [h3] at h2 ⊢
      rw [List.cons_append] at h2 ⊢
      rw [e1, h2]
    · by_cases h2 : (dgt c || decide (c = 45)) = true
      · have e1 : ∀ q : List UInt8, oneT (c :: q) = numT (c :: q) := fun q => by rw [e, if_neg h1, if_pos h2]
        rw [e1] at hk ⊢
        obtain ⟨h4, u, h3⟩ := num_stop c r R hR h2 hk
        rw [h3] at h4 ⊢
        rw [List.cons_append] at h4 ⊢
        rw [e1, h4]
      · by_cases h3 : ltr c = true
        · have e1 : ∀ q : List UInt8, oneT (c :: q) = worT ((c :: q).take (wordF (c :: q))) := fun q => by rw [e, if_neg h1, if_neg h2, if_pos h3]
          have hw : wch c = true := by unfold wch; rw [h3]; rfl
          rw [e1, wor_t]
          have e4 : (c :: r).take (wordF (c :: r)) = c :: r.takeWhile wch := by
            unfold wordF
            rw [take_tw, List.takeWhile_cons_of_pos hw]
          rw [e4]
          show oneT (c :: (r.takeWhile wch ++ R)) = _
          rw [e1]
          have e5 : wordF (c :: (r.takeWhile wch ++ R)) = (r.takeWhile wch).length + 1 := by
            unfold wordF
            rw [List.takeWhile_cons_of_pos hw, tw_app wch stc_wch R hR, List.length_cons]
          rw [e5, List.take_succ_cons]
          congr 2
          exact List.take_left' rfl
        · have e1 : ∀ q : List UInt8, oneT (c :: q) = sgnT (c :: q) := fun q => by rw [e, if_neg h1, if_neg h2, if_neg h3]
          rw [e1] at hk ⊢
          by_cases h0 : sgnF (c :: r) = 0
          · exfalso
            apply hk
            unfold sgnT
            rw [if_pos h0]
            rfl
          · have e2 : ∀ q : List UInt8, sgnF (c :: q) ≠ 0 → sgnT (c :: q) = ⟨3, ⟨((c :: q).take (sgnF (c :: q))).toArray⟩, noV, 0⟩ := fun q h => by unfold sgnT; rw [if_neg h]
            rw [e2 r h0]
            have hcut : ∃ u, (c :: r).take (sgnF (c :: r)) = c :: u ∧ sgnF (c :: (u ++ R)) = sgnF (c :: r) ∧ (c :: (u ++ R)).take (sgnF (c :: r)) = c :: u := by
              have one : ∀ q, sgnF (c :: q) = 1 → (c = 40 ∨ c = 41 ∨ c = 44 ∨ c = 95 ∨ c = 60 ∨ c = 62) → ∃ u, (c :: q).take (sgnF (c :: q)) = c :: u ∧ sgnF (c :: (u ++ R)) = sgnF (c :: q) ∧ (c :: (u ++ R)).take (sgnF (c :: q)) = c :: u := by
                intro q hq hcs
                refine ⟨[], by rw [hq]; rfl, ?_, by rw [hq]; rfl⟩
                rw [hq]
                rcases hR with rfl | ⟨d, R', rfl, hd⟩
                · show sgnF [c] = 1
                  rw [sgn1, if_pos hcs]
                · show sgnF (c :: d :: R') = 1
                  rw [sgn2, if_neg (fun h => stc_ne d hd h.1), if_pos hcs]
              match r, h0 with
              | [], h0 =>
                by_cases hcs : c = 40 ∨ c = 41 ∨ c = 44 ∨ c = 95 ∨ c = 60 ∨ c = 62
                · exact one [] (by rw [sgn1, if_pos hcs]) hcs
                · exact absurd (by rw [sgn1, if_neg hcs]) h0
              | d :: r', h0 =>
                by_cases h6 : d = 61 ∧ (c = 61 ∨ c = 33 ∨ c = 60 ∨ c = 62)
                · have e3 : ∀ q : List UInt8, sgnF (c :: d :: q) = 2 := fun q => by rw [sgn2, if_pos h6]
                  refine ⟨[d], by rw [e3]; rfl, ?_, by rw [e3]; rfl⟩
                  rw [e3]
                  exact e3 R
                · by_cases hcs : c = 40 ∨ c = 41 ∨ c = 44 ∨ c = 95 ∨ c = 60 ∨ c = 62
                  · exact one (d :: r') (by rw [sgn2, if_neg h6, if_pos hcs]) hcs
                  · exact absurd (by rw [sgn2, if_neg h6, if_neg hcs]) h0
            obtain ⟨u, hu1, hu2, hu3⟩ := hcut
            rw [hu1]
            show oneT (c :: (u ++ R)) = _
            rw [e1, e2 _ (by rw [hu2]; exact h0), hu2, hu3]

theorem lexF_sz : ∀ (f n : Nat) (l : List UInt8), ∀ x ∈ lexF f n l, x.t.size ≤ l.length
  | 0, _, _, x, hx => by simp [lexF] at hx
  | f + 1, n, l, x, hx => by
    unfold lexF at hx
    have h2 := drop_blk_le l
    have h1 := oneT_size (l.dropWhile blk)
    rcases List.mem_cons.1 hx with rfl | hx
    · show (oneT _).t.size ≤ _
      omega
    · split at hx
      · simp at hx
      · have h3 := lexF_sz f n _ x hx
        rw [List.length_drop] at h3
        omega
/-! ### texts that are joined -/
def sepJ (b : Bool) : List UInt8 := if b = true then [32, 10] else [32]
/-- The tokens' bytes from the i-th on; ahead of each but the very first a blank, and a line's end where g says so. -/
def joinA (g : Nat → Bool) : Nat → List Tok → List UInt8
  | _, [] => []
  | i, x :: r => (if 0 < i then sepJ (g i) else []) ++ (x.t.data.toList ++ joinA g (i + 1) r)
theorem joinA_append (g : Nat → Bool) : ∀ (a b : List Tok) (i : Nat), joinA g i (a ++ b) = joinA g i a ++ joinA g (i + a.length) b
  | [], b, i => by simp [joinA]
  | x :: a, b, i => by
    have ih := joinA_append g a b (i + 1)
    rw [List.cons_append, joinA, joinA, ih, List.length_cons, show i + 1 + a.length = i + (a.length + 1) by omega]
    simp only [List.append_assoc]
theorem joinA_stop (g : Nat → Bool) (i : Nat) (hi : 0 < i) (ls : List Tok) : StopB (joinA g i ls) := by
  cases ls with
  | nil => exact .inl rfl
  | cons x r =>
    right
    rw [joinA, if_pos hi]
    unfold sepJ
    split
    · exact ⟨_, _, rfl, .inl rfl⟩
    · exact ⟨_, _, rfl, .inl rfl⟩
theorem sep_drop (b : Bool) (q : List UInt8) : (sepJ b ++ q).dropWhile blk = q.dropWhile blk := by
  unfold sepJ
  split
  · rw [List.cons_append, List.dropWhile_cons_of_pos (by decide), List.cons_append, List.dropWhile_cons_of_pos (by decide)]; rfl
  · rw [List.cons_append, List.dropWhile_cons_of_pos (by decide)]; rfl
theorem drop_head {l : List UInt8} {c : UInt8} {r : List UInt8} (h : l.dropWhile blk = c :: r) : blk c = false := by
  have := List.head?_dropWhile_not blk l
  rw [h] at this
  simpa using this
/-- A token without its place. -/
abbrev Tok.er (x : Tok) : Tok := x.set 0

theorem lexF_joined (g : Nat → Bool) : ∀ (f n : Nat) (l : List UInt8) (i n' f' : Nat), l.length < f → (∀ x ∈ lexF f n l, x.k ≠ 0) → (lexF f n l).length ≤ f' →
    (lexF f' n' (joinA g i (lexF f n l))).map Tok.er = (lexF f n l).map Tok.er
  | 0, _, _, _, _, _, h, _, _ => by omega
  | f + 1, n, l, i, n', f', hf, hk, hl => by
    obtain ⟨r, hr⟩ : ∃ r, r = l.dropWhile blk := ⟨_, rfl⟩
    have hrl : r.length ≤ l.length := by rw [hr]; exact drop_blk_le l
    have e : lexF (f + 1) n l = (oneT r).set ((n : Int) - (r.length : Int)) :: (if (oneT r).t.size = 0 then [] else lexF f n (r.drop (oneT r).t.size)) := by
      rw [hr]; rfl
    rw [e] at hk hl ⊢
    obtain ⟨f', rfl⟩ : ∃ k, f' = k + 1 := ⟨f' - 1, by rw [List.length_cons] at hl; omega⟩
    have hk0 : (oneT r).k ≠ 0 := hk ((oneT r).set ((n : Int) - (r.length : Int))) (by simp)
    by_cases hr0 : r = []
    · subst hr0
      have e1 : oneT [] = ⟨4, ⟨#[]⟩, noV, 0⟩ := rfl
      rw [e1]
      show List.map Tok.er (lexF (f' + 1) n' ((if 0 < i then sepJ (g i) else []) ++ ([] ++ joinA g (i + 1) []))) = [_]
      have e2 : ((if 0 < i then sepJ (g i) else []) ++ ([] ++ joinA g (i + 1) [])).dropWhile blk = [] := by
        split
        · rw [sep_drop]; rfl
        · rfl
      unfold lexF
      rw [e2]
      rfl
    · obtain ⟨_, h4, h5⟩ := (oneT_kind r hr0).resolve_left (fun h => hk0 h.1)
      have h6 : ¬ (oneT r).t.size = 0 := by omega
      rw [if_neg h6] at hk hl ⊢
      obtain ⟨c, r', hcr⟩ : ∃ c r', r = c :: r' := by
        cases r with
        | nil => exact absurd rfl hr0
        | cons c r' => exact ⟨c, r', rfl⟩
      have hcb : blk c = false := drop_head (hr.symm.trans hcr)
      have ht := oneT_take r
      obtain ⟨u, hu⟩ : ∃ u, (oneT r).t.data.toList = c :: u := by
        rw [ht, hcr]
        obtain ⟨m, hm⟩ : ∃ m, (oneT (c :: r')).t.size = m + 1 := ⟨(oneT (c :: r')).t.size - 1, by rw [hcr] at h5; omega⟩
        rw [hm]
        exact ⟨_, rfl⟩
      obtain ⟨ls, hls⟩ : ∃ ls, ls = lexF f n (r.drop (oneT r).t.size) := ⟨_, rfl⟩
      have hsz := oneT_size r
      have ih := lexF_joined g f n (r.drop (oneT r).t.size) (i + 1) n' f' (by rw [List.length_drop]; omega) (fun x hx => hk x (List.mem_cons_of_mem _ hx)) (by rw [List.length_cons] at hl; omega)
      rw [← hls] at ih ⊢
      show List.map Tok.er (lexF (f' + 1) n' ((if 0 < i then sepJ (g i) else []) ++ ((oneT r).t.data.toList ++ joinA g (i + 1) ls))) = _
      have e2 : ((if 0 < i then sepJ (g i) else []) ++ ((oneT r).t.data.toList ++ joinA g (i + 1) ls)).dropWhile blk = (oneT r).t.data.toList ++ joinA g (i + 1) ls := by
        have e3 : ((oneT r).t.data.toList ++ joinA g (i + 1) ls).dropWhile blk = (oneT r).t.data.toList ++ joinA g (i + 1) ls := by
          rw [hu, List.cons_append, List.dropWhile_cons_of_neg (by rw [hcb]; decide)]
        split
        · rw [sep_drop]; exact e3
        · exact e3
      have hst := oneT_stop r (joinA g (i + 1) ls) hr0 (joinA_stop g (i + 1) (by omega) ls) hk0
      have e4 : ∀ q, lexF (f' + 1) n' q = (oneT (q.dropWhile blk)).set ((n' : Int) - ((q.dropWhile blk).length : Int)) :: (if (oneT (q.dropWhile blk)).t.size = 0 then [] else lexF f' n' ((q.dropWhile blk).drop (oneT (q.dropWhile blk)).t.size)) := fun q => rfl
      rw [e4, e2, hst, if_neg h6]
      have e5 : ((oneT r).t.data.toList ++ joinA g (i + 1) ls).drop (oneT r).t.size = joinA g (i + 1) ls := List.drop_left' rfl
      rw [e5, List.map_cons, List.map_cons, ih]
theorem lexA_joined (g : Nat → Bool) (l : List UInt8) (n n' : Nat) (hk : ∀ x ∈ lexA n l, x.k ≠ 0) : (lexA n' (joinA g 0 (lexA n l))).map Tok.er = (lexA n l).map Tok.er := by
  obtain ⟨J, hJ⟩ : ∃ J, J = joinA g 0 (lexA n l) := ⟨_, rfl⟩
  have h := lexF_joined g (l.length + 1) n l 0 n' (J.length + (lexA n l).length + 1) (by omega) hk (by show (lexA n l).length ≤ _; omega)
  have h2 : lexF (J.length + (lexA n l).length + 1) n' J = lexA n' J := lexF_fuel _ _ _ _ (by omega) (by omega)
  have h3 : (lexF (J.length + (lexA n l).length + 1) n' (joinA g 0 (lexA n l))).map Tok.er = (lexA n l).map Tok.er := h
  rw [← hJ] at h3 ⊢
  rw [← h2]
  exact h3
theorem lexR_of (J : List UInt8) (ls : List Tok) (h2 : (lexA J.length J).map Tok.er = ls.map Tok.er) (hk : ∀ x ∈ ls, x.k ≠ 0) (hJ : J.length ≤ 300) : (lexR J).2.2 = 0 ∧ (lexR J).1.map Tok.er = ls.map Tok.er := by
  have h3 : ∀ x ∈ lexA J.length J, x.k ≠ 0 := by
    intro x hx
    have h4 : x.er ∈ ls.map Tok.er := by rw [← h2]; exact List.mem_map.2 ⟨x, hx, rfl⟩
    obtain ⟨y, hy, hy2⟩ := List.mem_map.1 h4
    have h5 : y.er.k = x.er.k := congrArg Tok.k hy2
    have h5' : y.k = x.k := h5
    rw [← h5']
    exact hk y hy
  have h6 : (lexA J.length J).find? (fun t => decide (t.k = 0)) = none := List.find?_eq_none.2 fun x hx => by simpa using h3 x hx
  unfold lexR
  rw [if_neg (by omega), h6]
  exact ⟨rfl, h2⟩
theorem lexR_all (l : List UInt8) (h : (lexR l).2.2 = 0) : (lexR l).1 = lexA l.length l ∧ ∀ x ∈ lexA l.length l, x.k ≠ 0 := by
  unfold lexR at h ⊢
  by_cases hl : 300 < l.length
  · rw [if_pos hl] at h
    exact absurd h (by decide)
  · rw [if_neg hl] at h ⊢
    cases hf : (lexA l.length l).find? (fun t => decide (t.k = 0)) with
    | none =>
      refine ⟨rfl, fun x hx => ?_⟩
      have := List.find?_eq_none.1 hf x hx
      simpa using this
    | some t =>
      rw [hf] at h
      exact absurd h (by show ¬ (7 : Int) = 0; decide)
theorem lexR_joined (g : Nat → Bool) (l : List UInt8) (h : (lexR l).2.2 = 0) (hJ : (joinA g 0 (lexR l).1).length ≤ 300) : (lexR (joinA g 0 (lexR l).1)).2.2 = 0 ∧ (lexR (joinA g 0 (lexR l).1)).1.map Tok.er = (lexR l).1.map Tok.er := by
  have h1 := lexR_all l h
  rw [h1.1] at hJ ⊢
  exact lexR_of _ _ (lexA_joined g l l.length _ h1.2) h1.2 hJ
end
end Go.Proofs.YtkobfngnnblpeaaGreatDoor
namespace Go.Proofs.YtkobfngnnblpeaaGreatDoor
section
open Go.RowKit

abbrev eT (ls : List Tok) : List Tok := ls.map Tok.er
abbrev eR (s : Rst) : Rst := ⟨s.i, s.why, 0⟩
abbrev eH (x : HdP) : HdP := ⟨x.h, x.ag, x.ofv, eR x.s⟩
theorem now_e (ls : List Tok) (s : Rst) : nowR (eT ls) (eR s) = (nowR ls s).er := by
  unfold nowR
  rw [List.getD_eq_getElem?_getD, List.getD_eq_getElem?_getD, List.getElem?_map]
  show ((ls[s.i]?).map Tok.er).getD noT = _
  cases ls[s.i]? <;> rfl
theorem fail_e (s : Rst) (w p : Int) : failR (eR s) w 0 = eR (failR s w p) := by
  unfold failR
  show (if s.why = 0 then _ else _) = _
  split <;> rfl
theorem is_e (ls : List Tok) (s : Rst) (t : List UInt8) : isR (eT ls) (eR s) t = isR ls s t := by
  unfold isR
  rw [now_e]
theorem step_e (ls : List Tok) (s : Rst) : stepR (eT ls) (eR s) = eR (stepR ls s) := by
  unfold stepR
  rw [List.length_map]
  show (if s.i + 1 < _ then _ else _) = _
  split <;> rfl
theorem ite_e (c : Prop) [Decidable c] (a b : Rst) : eR (if c then a else b) = if c then eR a else eR b := by split <;> rfl
theorem failn_e (ls : List Tok) (s u : Rst) (w : Int) : failR (eR s) w (nowR (eT ls) (eR u)).a = eR (failR s w (nowR ls u).a) := by
  rw [now_e]
  exact fail_e s w _
theorem take_e (ls : List Tok) (s : Rst) (t : List UInt8) : takeR (eT ls) (eR s) t = eR (takeR ls s t) := by
  unfold takeR
  rw [is_e, step_e, ite_e]
theorem must_e (ls : List Tok) (s : Rst) (t : List UInt8) : mustR (eT ls) (eR s) t = eR (mustR ls s t) := by
  unfold mustR
  rw [is_e, step_e, ite_e, failn_e]
theorem named_e (ls : List Tok) (s : Rst) : namedR (eT ls) (eR s) = namedR ls s := by
  unfold namedR
  rw [now_e]
  rfl
theorem nmV_e (ls : List Tok) (s : Rst) : nmV (eT ls) (eR s) = nmV ls s := by
  unfold nmV
  rw [named_e, now_e]
theorem nmS_e (ls : List Tok) (s : Rst) : nmS (eT ls) (eR s) = eR (nmS ls s) := by
  unfold nmS
  rw [named_e, step_e, failn_e, ite_e]
theorem aggJ_e (ls : List Tok) (s : Rst) : aggJ (eT ls) (eR s) = aggJ ls s := by
  unfold aggJ
  simp only [is_e]
theorem agS_e (ls : List Tok) (s : Rst) (k : Int) : agS (eT ls) (eR s) k = eR (agS ls s k) := by
  unfold agS
  rw [aggJ_e, step_e, nmS_e, failn_e]
  simp only [ite_e]
theorem agA_e (ls : List Tok) (s : Rst) (k ag : Int) : agA (eT ls) (eR s) k ag = agA ls s k ag := by
  unfold agA
  rw [aggJ_e]
theorem agO_e (ls : List Tok) (s : Rst) (k : Int) (ofv : ByteArray) : agO (eT ls) (eR s) k ofv = agO ls s k ofv := by
  unfold agO
  rw [aggJ_e, step_e, nmV_e]
theorem hdF_e (ls : List Tok) (k : Int) : ∀ (f : Nat) (x : HdP), hdF (eT ls) k f (eH x) = eH (hdF ls k f x)
  | 0, _ => rfl
  | f + 1, ⟨h, ag, ofv, s⟩ => by
    have ih := fun x => hdF_e ls k f x
    unfold hdF
    show (if s.why = 0 then _ else _) = eH (if s.why = 0 then _ else _)
    by_cases h0 : s.why = 0
    · rw [if_pos h0, if_pos h0]
      rw [aggJ_e]
      by_cases h1 : aggJ ls s ≠ 0
      · rw [if_pos h1, if_pos h1, agA_e, agO_e, agS_e]
      · rw [if_neg h1, if_neg h1]
        simp only [nmS_e, nmV_e]
        have e2 : (if 40 ≤ h.length then failR (eR (nmS ls s)) 9 (nowR (eT ls) (eR s)).a else eR (nmS ls s)) = eR (if 40 ≤ h.length then failR (nmS ls s) 9 (nowR ls s).a else nmS ls s) := by rw [failn_e, ite_e]
        simp only [e2]
        generalize (if 40 ≤ h.length then failR (nmS ls s) 9 (nowR ls s).a else nmS ls s) = s2
        rw [is_e, step_e]
        split
        · exact ih ⟨h ++ [nmV ls s], ag, ofv, stepR ls s2⟩
        · rfl
    · rw [if_neg h0, if_neg h0]
theorem hdQ_e (ls : List Tok) (s : Rst) : hdQ (eT ls) (eR s) = eH (hdQ ls s) := by
  unfold hdQ
  simp only [nmS_e, must_e, nmV_e, agA_e, agO_e, aggJ_e, failn_e, agS_e]
  show (⟨_, _, _, _⟩ : HdP) = ⟨_, _, _, eR (if _ then _ else _)⟩
  rw [ite_e]
theorem hdR_e (ls : List Tok) (s : Rst) (k : Int) : hdR (eT ls) (eR s) k = eH (hdR ls s k) := by
  unfold hdR
  split
  · exact hdQ_e ls s
  · exact hdF_e ls k 400 ⟨[], 0, ⟨#[]⟩, s⟩
theorem conB_e (ls : List Tok) (s : Rst) : conB (eT ls) (eR s) = conB ls s := by
  unfold conB
  rw [now_e]
theorem tmV_e (ls : List Tok) (s : Rst) : tmV (eT ls) (eR s) = tmV ls s := by
  unfold tmV
  rw [conB_e, now_e, nmV_e]
theorem tmS_e (ls : List Tok) (s : Rst) : tmS (eT ls) (eR s) = eR (tmS ls s) := by
  unfold tmS
  rw [conB_e, step_e, nmS_e, ite_e]
theorem arV_e (ls : List Tok) (s : Rst) : arV (eT ls) (eR s) = arV ls s := by
  unfold arV
  rw [is_e, tmV_e]
theorem arS_e (ls : List Tok) (s : Rst) : arS (eT ls) (eR s) = eR (arS ls s) := by
  unfold arS
  rw [is_e, step_e, tmS_e, ite_e]
theorem asF_e (ls : List Tok) : ∀ (f : Nat) (l : List TmP) (s : Rst), asF (eT ls) f l (eR s) = ((asF ls f l s).1, eR (asF ls f l s).2)
  | 0, _, _ => rfl
  | f + 1, l, s => by
    have ih := fun l s => asF_e ls f l s
    unfold asF
    show (if s.why = 0 then _ else _) = _
    by_cases h0 : s.why = 0
    · rw [if_pos h0, if_pos h0]
      simp only [arS_e, arV_e]
      have e2 : (if 40 ≤ l.length then failR (eR (arS ls s)) 9 (nowR (eT ls) (eR s)).a else eR (arS ls s)) = eR (if 40 ≤ l.length then failR (arS ls s) 9 (nowR ls s).a else arS ls s) := by rw [failn_e, ite_e]
      simp only [e2]
      generalize (if 40 ≤ l.length then failR (arS ls s) 9 (nowR ls s).a else arS ls s) = s2
      rw [is_e, step_e, must_e]
      by_cases h1 : isR ls s2 wComma = true
      · rw [if_pos h1, if_pos h1]
        exact ih _ _
      · rw [if_neg h1, if_neg h1]
    · rw [if_neg h0, if_neg h0]
theorem asR_e (ls : List Tok) (s : Rst) : asR (eT ls) (eR s) = ((asR ls s).1, eR (asR ls s).2) := by
  unfold asR
  rw [is_e, step_e, asF_e]
  split <;> rfl
theorem brB_e (ls : List Tok) (s : Rst) : brB (eT ls) (eR s) = brB ls s := by
  unfold brB
  have e : (eT ls).getD (s.i + 1) noT = (ls.getD (s.i + 1) noT).er := now_e ls ⟨s.i + 1, 0, 0⟩
  show (decide (s.i + 1 < (eT ls).length) && (decide (((eT ls).getD (s.i + 1) noT).k = 3) && decide (((eT ls).getD (s.i + 1) noT).t.data.toList = wOpen))) = _
  rw [e, List.length_map]
theorem atR_e (ls : List Tok) (n : Bool) (m : Nat) (s : Rst) : atR (eT ls) n m (eR s) = ((atR ls n m s).1, eR (atR ls n m s).2) := by
  unfold atR
  simp only [nmS_e, must_e, nmV_e, failn_e]
  have e2 : ∀ (c : Prop) [Decidable c] (a b : Rst), (if c then eR a else eR b) = eR (if c then a else b) := fun c _ a b => (ite_e c a b).symm
  rw [e2, asR_e]
theorem cmR_e (ls : List Tok) (n : Bool) (s : Rst) : cmR (eT ls) n (eR s) = ((cmR ls n s).1, eR (cmR ls n s).2) := by
  unfold cmR
  have e2 : ∀ (c : Prop) [Decidable c] (a b : Rst), (if c then eR a else eR b) = eR (if c then a else b) := fun c _ a b => (ite_e c a b).symm
  simp only [failn_e]
  simp only [e2]
  generalize (if n = true then failR s 7 (nowR ls s).a else s) = s1
  simp only [tmS_e, tmV_e, failn_e]
  generalize tmS ls s1 = s2
  have e3 : (nowR (eT ls) (eR s2)).k = (nowR ls s2).k := by rw [now_e]
  have e4 : opT (nowR (eT ls) (eR s2)) = opT (nowR ls s2) := by rw [now_e]; rfl
  simp only [e3, e4, e2, step_e, tmV_e, tmS_e]
theorem liR_e (ls : List Tok) (m : Nat) (s : Rst) : liR (eT ls) m (eR s) = ((liR ls m s).1, eR (liR ls m s).2) := by
  unfold liR
  simp only [is_e, take_e, named_e, brB_e, atR_e, cmR_e]
  split <;> rfl
theorem lo_e (ls : List Tok) (s : Rst) (a' : Int) : loR (eT ls) (eR s) 0 = eR (loR ls s a') := by
  unfold loR
  have e2 : ∀ (c : Prop) [Decidable c] (a b : Rst), (if c then eR a else eR b) = eR (if c then a else b) := fun c _ a b => (ite_e c a b).symm
  have e3 : (nowR (eT ls) (eR s)).k = (nowR ls s).k := by rw [now_e]
  rw [is_e, named_e, e3, fail_e s 9 a', e2, fail_e _ 7 a']
theorem boF_e (ls : List Tok) : ∀ (f m : Nat) (l : List LiP) (s : Rst), boF (eT ls) f m l (eR s) = ((boF ls f m l s).1, eR (boF ls f m l s).2)
  | 0, _, _, _ => rfl
  | f + 1, m, l, s => by
    have ih := fun m l s => boF_e ls f m l s
    unfold boF
    show (if s.why = 0 then _ else _) = _
    by_cases h0 : s.why = 0
    · rw [if_pos h0, if_pos h0]
      have e1 : (nowR (eT ls) (eR s)).a = 0 := by rw [now_e]
      have e2 : (if 10 ≤ l.length then loR (eT ls) (eR s) (nowR (eT ls) (eR s)).a else eR s) = eR (if 10 ≤ l.length then loR ls s (nowR ls s).a else s) := by rw [e1, lo_e ls s (nowR ls s).a, ite_e]
      simp only [e2]
      generalize (if 10 ≤ l.length then loR ls s (nowR ls s).a else s) = s1
      simp only [liR_e, is_e, step_e]
      by_cases h1 : isR ls (liR ls m s1).2 wComma = true
      · rw [if_pos h1, if_pos h1]
        exact ih _ _ _
      · rw [if_neg h1, if_neg h1]
    · rw [if_neg h0, if_neg h0]
theorem kiK_e (ls : List Tok) (s : Rst) : kiK (eT ls) (eR s) = kiK ls s := by
  unfold kiK
  simp only [is_e]
theorem kiS_e (ls : List Tok) (s : Rst) : kiS (eT ls) (eR s) = eR (kiS ls s) := by
  unfold kiS
  rw [kiK_e, failn_e, step_e, ite_e]
theorem limS_e (ls : List Tok) (s : Rst) : limS (eT ls) (eR s) = eR (limS ls s) := by
  unfold limS
  have e2 : ∀ (c : Prop) [Decidable c] (a b : Rst), (if c then eR a else eR b) = eR (if c then a else b) := fun c _ a b => (ite_e c a b).symm
  simp only [must_e]
  generalize mustR ls s wLimit = s1
  have e3 : ((eR s1).why = 0 ∧ ((nowR (eT ls) (eR s1)).k ≠ 2 ∨ (nowR (eT ls) (eR s1)).v.k ≠ 2)) = (s1.why = 0 ∧ ((nowR ls s1).k ≠ 2 ∨ (nowR ls s1).v.k ≠ 2)) := by rw [now_e]
  simp only [e3, failn_e, e2, step_e]
theorem limV_e (ls : List Tok) (s : Rst) : limV (eT ls) (eR s) = limV ls s := by
  unfold limV
  rw [must_e, now_e]
theorem ruX_e (ls : List Tok) : ruX (eT ls) = ((ruX ls).1, eR (ruX ls).2) := by
  have e2 : ∀ (c : Prop) [Decidable c] (a b : Rst), (if c then eR a else eR b) = eR (if c then a else b) := fun c _ a b => (ite_e c a b).symm
  unfold ruX
  have k1 : kiK (eT ls) ⟨0, 0, 0⟩ = kiK ls ⟨0, 0, 0⟩ := kiK_e ls ⟨0, 0, 0⟩
  have k2 : kiS (eT ls) ⟨0, 0, 0⟩ = eR (kiS ls ⟨0, 0, 0⟩) := kiS_e ls ⟨0, 0, 0⟩
  simp only [k1, k2]
  generalize kiK ls ⟨0, 0, 0⟩ = k
  generalize kiS ls ⟨0, 0, 0⟩ = s1
  simp only [nmS_e, must_e, hdR_e, nmV_e]
  generalize hdR ls (mustR ls (nmS ls s1) wOpen) k = h
  simp only [must_e, limS_e, limV_e, e2, boF_e]
  generalize (boF ls 400 0 [] (mustR ls (if k = 3 then limS ls (mustR ls h.s wShut) else mustR ls h.s wShut) wIf)) = b
  have e3 : (nowR (eT ls) (eR b.2)).k = (nowR ls b.2).k := by rw [now_e]
  simp only [e3, failn_e, e2]
/-- Two texts whose tokens are alike but for their places: the same rule, or for the same reason none. -/
theorem ruleR_alike (l l' : List UInt8) (h : (lexR l).2.2 = 0) (h' : (lexR l').2.2 = 0) (he : (lexR l').1.map Tok.er = (lexR l).1.map Tok.er) : (ruleR l').1 = (ruleR l).1 ∧ (ruleR l').2.2 = (ruleR l).2.2 := by
  have e1 := ruX_e (lexR l).1
  have e2 := ruX_e (lexR l').1
  have e3 : ruX (eT (lexR l').1) = ruX (eT (lexR l).1) := congrArg ruX he
  rw [e1, e2] at e3
  have e4 : (ruX (lexR l').1).1 = (ruX (lexR l).1).1 := (Prod.mk.inj e3).1
  have e5 : (ruX (lexR l').1).2.why = (ruX (lexR l).1).2.why := by
    have h9 := (Prod.mk.inj e3).2
    injection h9
  have a1 : ruleR l = if (ruX (lexR l).1).2.why = 0 then ((ruX (lexR l).1).1, 0, 0) else (noRu, (ruX (lexR l).1).2.pos, (ruX (lexR l).1).2.why) := by
    unfold ruleR
    rw [if_neg (by rw [h]; decide)]
  have a2 : ruleR l' = if (ruX (lexR l').1).2.why = 0 then ((ruX (lexR l').1).1, 0, 0) else (noRu, (ruX (lexR l').1).2.pos, (ruX (lexR l').1).2.why) := by
    unfold ruleR
    rw [if_neg (by rw [h']; decide)]
  rw [a1, a2, e4, e5]
  split
  · exact ⟨rfl, rfl⟩
  · exact ⟨rfl, rfl⟩
end
end Go.Proofs.YtkobfngnnblpeaaGreatDoor
