/-
  The program's parser and the document's, as plain functions: over the tokens of a text both read the same, and refuse the same at the same place.
  No condition.
  The program's parser and the document's, as plain functions, go on: literals, heads, rules.
  No condition.
-/
import Derived.Test.YtkobfngnnblpeaaGreatDoorM23
namespace Go.Proofs.YtkobfngnnblpeaaGreatDoor
section
open Go.RowKit

/-- Where both may go on. -/
structure AtR (ls : List Tok) (s : Rst) : Prop where
  g : TkG ls ∧ ls.length ≤ 400
  i : s.i < ls.length
  w : s.why = 0
/-- What the program reads is what the document reads. -/
def Eqv {α : Type} (ls : List Tok) (p : PR α) (v : α) (s : Rst) : Prop := match p with
  | .ok a r => v = a ∧ s.why = 0 ∧ r = ls.drop s.i ∧ s.i < ls.length
  | .bad a y => s.why = y ∧ s.pos = a ∧ y ≠ 0
def Stk (s s' : Rst) : Prop := s.why ≠ 0 → s'.why = s.why ∧ s'.pos = s.pos
theorem Stk.refl (s : Rst) : Stk s s := fun _ => ⟨rfl, rfl⟩
theorem Stk.trans {s s1 s2 : Rst} (h : Stk s s1) (h2 : Stk s1 s2) : Stk s s2 := fun hw => by
  obtain ⟨a, b⟩ := h hw
  obtain ⟨c, d⟩ := h2 (by rw [a]; exact hw)
  exact ⟨c.trans a, d.trans b⟩
section
variable {ls : List Tok} {s s1 s2 : Rst}
theorem Eqv.bind {α β : Type} {p : PR α} {v : α} {f : α → List Tok → PR β} {v2 : β} (hg : TkG ls ∧ ls.length ≤ 400) (h : Eqv ls p v s1) (hok : AtR ls s1 → Eqv ls (f v (ls.drop s1.i)) v2 s2) (hbad : Stk s1 s2) : Eqv ls (p.bind f) v2 s2 := by
  cases p with
  | ok a r =>
    obtain ⟨rfl, h2, rfl, h4⟩ := h
    exact hok ⟨hg, h4, h2⟩
  | bad a y =>
    obtain ⟨h1, h2, h3⟩ := h
    obtain ⟨h4, h5⟩ := hbad (by rw [h1]; exact h3)
    exact ⟨h4.trans h1, h5.trans h2, h3⟩
theorem failR_stk (s : Rst) (y a : Int) : Stk s (failR s y a) := fun h => by unfold failR; rw [if_neg h]; exact ⟨rfl, rfl⟩
theorem stepR_stk (ls : List Tok) (s : Rst) : Stk s (stepR ls s) := fun _ => stepR_why ls s
theorem isR_stop (t : List UInt8) (h : s.why ≠ 0) : isR ls s t = false := by unfold isR; rw [decide_eq_false h]; rfl
theorem named_stop (h : s.why ≠ 0) : namedR ls s = false := by unfold namedR; rw [decide_eq_false h]; rfl
theorem con_stop (h : s.why ≠ 0) : conB ls s = false := by unfold conB; rw [decide_eq_false h]; rfl
theorem mustR_stk (ls : List Tok) (s : Rst) (t : List UInt8) : Stk s (mustR ls s t) := fun h => by unfold mustR; rw [isR_stop t h, if_neg Bool.false_ne_true]; exact failR_stk _ _ _ h
theorem takeR_stk (ls : List Tok) (s : Rst) (t : List UInt8) : Stk s (takeR ls s t) := fun h => by unfold takeR; rw [isR_stop t h, if_neg Bool.false_ne_true]; exact ⟨rfl, rfl⟩
theorem nmS_stk (ls : List Tok) (s : Rst) : Stk s (nmS ls s) := fun h => by unfold nmS; rw [named_stop h, if_neg Bool.false_ne_true]; exact failR_stk _ _ _ h
theorem tmS_stk (ls : List Tok) (s : Rst) : Stk s (tmS ls s) := fun h => by unfold tmS; rw [con_stop h, if_neg Bool.false_ne_true]; exact nmS_stk _ _ h
theorem arS_stk (ls : List Tok) (s : Rst) : Stk s (arS ls s) := fun h => by unfold arS; rw [isR_stop wAny h, if_neg Bool.false_ne_true]; exact tmS_stk _ _ h
theorem asF_stk (ls : List Tok) (f : Nat) (l : List TmP) (s : Rst) : Stk s (asF ls f l s).2 := fun h => by
  cases f with
  | zero => exact ⟨rfl, rfl⟩
  | succ f => unfold asF; rw [if_neg h]; exact ⟨rfl, rfl⟩
theorem asR_stk (ls : List Tok) (s : Rst) : Stk s (asR ls s).2 := fun h => by unfold asR; rw [isR_stop wShut h, if_neg Bool.false_ne_true]; exact asF_stk _ _ _ _ h
theorem agJ_stop (h : s.why ≠ 0) : aggJ ls s = 0 := by unfold aggJ; simp only [isR_stop _ h, if_neg Bool.false_ne_true]
theorem agS_stk (ls : List Tok) (s : Rst) (k : Int) : Stk s (agS ls s k) := fun h => by unfold agS; rw [if_pos (agJ_stop h)]; exact ⟨rfl, rfl⟩
theorem hdF_stk (ls : List Tok) (k : Int) (f : Nat) (y : HdP) : Stk y.s (hdF ls k f y).s := fun h => by
  cases f with
  | zero => exact ⟨rfl, rfl⟩
  | succ f => unfold hdF; rw [if_neg h]; exact ⟨rfl, rfl⟩
theorem boF_stk (ls : List Tok) (f m : Nat) (l : List LiP) (s : Rst) : Stk s (boF ls f m l s).2 := fun h => by
  cases f with
  | zero => exact ⟨rfl, rfl⟩
  | succ f => unfold boF; rw [if_neg h]; exact ⟨rfl, rfl⟩
theorem ite_stk {c : Prop} [Decidable c] {a b : Rst} (h1 : Stk s a) (h2 : Stk s b) : Stk s (if c then a else b) := by split; exact h1; exact h2
theorem atR_stk (ls : List Tok) (n : Bool) (m : Nat) (s : Rst) : Stk s (atR ls n m s).2 := by
  unfold atR
  exact (((nmS_stk ls s).trans (mustR_stk ls _ wOpen)).trans (ite_stk (failR_stk _ _ _) (Stk.refl _))).trans (asR_stk ls _)
theorem cmR_stk (ls : List Tok) (n : Bool) (s : Rst) : Stk s (cmR ls n s).2 := by
  unfold cmR
  exact ((((ite_stk (failR_stk _ _ _) (Stk.refl _)).trans (tmS_stk ls _)).trans (ite_stk (failR_stk _ _ _) (Stk.refl _))).trans (stepR_stk ls _)).trans (tmS_stk ls _)
theorem liR_stk (ls : List Tok) (m : Nat) (s : Rst) : Stk s (liR ls m s).2 := by
  have h : Stk s (if (namedR ls (takeR ls s wNot) && (isR ls s wNot || brB ls (takeR ls s wNot))) = true then (atR ls (isR ls s wNot) m (takeR ls s wNot)).2 else (cmR ls (isR ls s wNot) (takeR ls s wNot)).2) :=
    ite_stk ((takeR_stk ls s wNot).trans (atR_stk ls _ m _)) ((takeR_stk ls s wNot).trans (cmR_stk ls _ _))
  unfold liR
  simp only
  split
  · next e => rw [if_pos e] at h; exact h
  · next e => rw [if_neg e] at h; exact h

theorem stepR_le (ls : List Tok) (s : Rst) : s.i ≤ (stepR ls s).i := by
  unfold stepR
  split
  · exact Nat.le_succ _
  · exact Nat.le_refl _
theorem failR_le (s : Rst) (y a : Int) : s.i ≤ (failR s y a).i := Nat.le_of_eq (failR_i s y a).symm
theorem ite_le {c : Prop} [Decidable c] {a b : Rst} {n : Nat} (h1 : n ≤ a.i) (h2 : n ≤ b.i) : n ≤ (if c then a else b).i := by split; exact h1; exact h2
theorem mustR_le (ls : List Tok) (s : Rst) (t : List UInt8) : s.i ≤ (mustR ls s t).i := ite_le (stepR_le _ _) (failR_le _ _ _)
theorem takeR_le (ls : List Tok) (s : Rst) (t : List UInt8) : s.i ≤ (takeR ls s t).i := ite_le (stepR_le _ _) (Nat.le_refl _)
theorem nmS_le (ls : List Tok) (s : Rst) : s.i ≤ (nmS ls s).i := ite_le (stepR_le _ _) (failR_le _ _ _)
theorem tmS_le (ls : List Tok) (s : Rst) : s.i ≤ (tmS ls s).i := ite_le (stepR_le _ _) (nmS_le _ _)
theorem arS_le (ls : List Tok) (s : Rst) : s.i ≤ (arS ls s).i := ite_le (stepR_le _ _) (tmS_le _ _)
theorem asF_le (ls : List Tok) : ∀ (f : Nat) (l : List TmP) (s : Rst), s.i ≤ (asF ls f l s).2.i
  | 0, _, _ => Nat.le_refl _
  | f + 1, l, s => by
    unfold asF
    have h1 : s.i ≤ (if 40 ≤ l.length then failR (arS ls s) 9 (nowR ls s).a else arS ls s).i := ite_le (Nat.le_trans (arS_le ls s) (failR_le _ _ _)) (arS_le ls s)
    by_cases hw : s.why = 0
    · rw [if_pos hw]
      dsimp only
      generalize (if 40 ≤ l.length then failR (arS ls s) 9 (nowR ls s).a else arS ls s) = s1 at h1 ⊢
      split
      · exact Nat.le_trans (Nat.le_trans h1 (stepR_le ls _)) (asF_le ls f _ _)
      · exact Nat.le_trans h1 (mustR_le ls _ _)
    · rw [if_neg hw]
      exact Nat.le_refl _
theorem asR_le (ls : List Tok) (s : Rst) : s.i ≤ (asR ls s).2.i := by
  unfold asR
  split
  · exact stepR_le ls s
  · exact asF_le ls _ _ _
theorem atR_le (ls : List Tok) (n : Bool) (m : Nat) (s : Rst) : s.i ≤ (atR ls n m s).2.i := by
  unfold atR
  have h1 := Nat.le_trans (nmS_le ls s) (mustR_le ls _ wOpen)
  exact Nat.le_trans (ite_le (Nat.le_trans h1 (failR_le _ _ _)) h1) (asR_le ls _)
theorem cmR_le (ls : List Tok) (n : Bool) (s : Rst) : s.i ≤ (cmR ls n s).2.i := by
  unfold cmR
  have h1 := Nat.le_trans (ite_le (c := n = true) (failR_le s 7 (nowR ls s).a) (Nat.le_refl _)) (tmS_le ls _)
  exact Nat.le_trans (Nat.le_trans (ite_le (Nat.le_trans h1 (failR_le _ _ _)) h1) (stepR_le ls _)) (tmS_le ls _)
theorem liR_le (ls : List Tok) (m : Nat) (s : Rst) : s.i ≤ (liR ls m s).2.i := by
  unfold liR
  simp only
  split
  · exact Nat.le_trans (takeR_le ls s wNot) (atR_le ls _ m _)
  · exact Nat.le_trans (takeR_le ls s wNot) (cmR_le ls _ _)

/-! ### one token -/
theorem now_hd (h : s.i < ls.length) : hdT (ls.drop s.i) = nowR ls s := by
  unfold hdT nowR
  rw [List.drop_eq_getElem_cons h, List.headD_cons, List.getD_eq_getElem?_getD, List.getElem?_eq_getElem h]
  rfl
theorem TkG.drop : ∀ {ls : List Tok} (i : Nat), TkG ls → i < ls.length → TkG (ls.drop i)
  | [], _, h, _ => h.elim
  | _ :: _, 0, h, _ => h
  | x :: r, i + 1, h, hi => by
    rcases h with ⟨_, rfl⟩ | ⟨_, h⟩
    · simp at hi
    · exact TkG.drop i h (by simpa using hi)
theorem AtR.cases (h : AtR ls s) : TkE (nowR ls s) ∨ (TkI (nowR ls s) ∧ s.i + 1 < ls.length ∧ stepR ls s = { s with i := s.i + 1 } ∧ AtR ls { s with i := s.i + 1 }) := by
  have h1 := h.g.1.drop s.i h.i
  have h2 := now_hd h.i
  rw [List.drop_eq_getElem_cons h.i] at h1 h2
  have h2 : ls[s.i]'h.i = nowR ls s := h2
  rw [h2] at h1
  rcases h1 with ⟨h1, _⟩ | ⟨h1, h3⟩
  · exact .inl h1
  · have h4 : s.i + 1 < ls.length := by
      have h5 : ls.drop (s.i + 1) ≠ [] := fun e => by rw [e] at h3; exact h3
      have h6 := List.length_pos_iff.2 h5
      rw [List.length_drop] at h6
      omega
    exact .inr ⟨h1, h4, by unfold stepR; rw [if_pos h4], h.g, h4, h.w⟩
theorem AtR.tail (_h : AtR ls s) : (ls.drop s.i).tail = ls.drop (s.i + 1) := by rw [List.tail_drop]
theorem key_ne : ∀ t ∈ keyW, t ≠ [] := by decide
theorem AtR.has (h : AtR ls s) {t : List UInt8} (ht : t ∈ keyW) : isR ls s t = hasP (ls.drop s.i) t := by
  unfold isR hasP
  rw [now_hd h.i, decide_eq_true h.w, Bool.true_and]
  rcases h.cases with he | ⟨hi, _⟩
  · have e : (nowR ls s).t.data.toList = [] := by rw [he.2.1]
    rw [e, decide_eq_false (p := ([] : List UInt8) = t) (fun e' => key_ne t ht e'.symm), Bool.and_false]
  · rcases hi.k with hk | hk | hk
    · rw [hk]; rfl
    · rw [hk, decide_eq_false (p := (nowR ls s).t.data.toList = t) fun e => hi.key hk (by rw [e]; exact ht)]; rfl
    · rw [hk]; rfl
theorem AtR.hit (h : AtR ls s) {t : List UInt8} (ht : t ∈ keyW) (hh : hasP (ls.drop s.i) t = true) : stepR ls s = { s with i := s.i + 1 } ∧ AtR ls { s with i := s.i + 1 } := by
  rcases h.cases with he | ⟨_, _, h3, h4⟩
  · exfalso
    unfold hasP at hh
    rw [now_hd h.i] at hh
    have e : (nowR ls s).t.data.toList = [] := by rw [he.2.1]
    rw [e] at hh
    exact key_ne t ht (of_decide_eq_true hh).symm
  · exact ⟨h3, h4⟩
theorem AtR.fail (h : AtR ls s) (a : Int) (y : Int) : failR s y a = { s with why := y, pos := a } := by unfold failR; rw [if_pos h.w]
theorem AtR.need (h : AtR ls s) {t : List UInt8} (ht : t ∈ keyW) : Eqv ls (needP (ls.drop s.i) t) () (mustR ls s t) := by
  unfold needP mustR
  rw [h.has ht]
  by_cases hh : hasP (ls.drop s.i) t = true
  · rw [if_pos hh, if_pos hh]
    obtain ⟨h1, h2⟩ := h.hit ht hh
    rw [h1, h.tail]
    exact ⟨rfl, h2.w, rfl, h2.i⟩
  · rw [if_neg hh, if_neg hh, h.fail, now_hd h.i]
    exact ⟨rfl, rfl, by decide⟩
theorem nmB_k {x : Tok} (h : nmB x = true) : x.k = 1 := by
  unfold nmB at h
  simp only [Bool.and_eq_true, decide_eq_true_eq] at h
  exact h.1.1
theorem AtR.named (h : AtR ls s) : namedR ls s = nmB (nowR ls s) := by unfold namedR; rw [decide_eq_true h.w, Bool.true_and]
theorem AtR.stepI (h : AtR ls s) (hk : (nowR ls s).k ≠ 4) : TkI (nowR ls s) ∧ stepR ls s = { s with i := s.i + 1 } ∧ AtR ls { s with i := s.i + 1 } := by
  rcases h.cases with he | ⟨h1, _, h3, h4⟩
  · exact absurd he.1 hk
  · exact ⟨h1, h3, h4⟩
theorem AtR.name (h : AtR ls s) : Eqv ls (nameP (ls.drop s.i)) (nmV ls s) (nmS ls s) := by
  unfold nameP nmV nmS
  rw [now_hd h.i, h.named]
  by_cases hh : nmB (nowR ls s) = true
  · obtain ⟨_, h1, h2⟩ := h.stepI (by rw [nmB_k hh]; decide)
    rw [if_pos hh, if_pos hh, if_pos hh, h1, h.tail]
    exact ⟨rfl, h2.w, rfl, h2.i⟩
  · rw [if_neg hh, if_neg hh, if_neg hh, h.fail]
    exact ⟨rfl, rfl, by decide⟩
theorem AtR.con (h : AtR ls s) : conB ls s = decide ((nowR ls s).k = 2) := by unfold conB; rw [decide_eq_true h.w, Bool.true_and]
theorem AtR.term (h : AtR ls s) : Eqv ls (termP (ls.drop s.i)) (tmV ls s) (tmS ls s) := by
  unfold termP tmV tmS isTm
  rw [now_hd h.i, h.con]
  by_cases hk : (nowR ls s).k = 2
  · obtain ⟨_, h1, h2⟩ := h.stepI (by rw [hk]; decide)
    rw [decide_eq_true hk, Bool.true_or, if_pos rfl, if_pos rfl, if_pos rfl, if_pos hk, h1, h.tail]
    exact ⟨rfl, h2.w, rfl, h2.i⟩
  · rw [decide_eq_false hk, Bool.false_or, if_neg Bool.false_ne_true, if_neg Bool.false_ne_true, if_neg hk]
    have hn := h.name
    unfold nameP at hn
    rw [now_hd h.i] at hn
    by_cases hh : nmB (nowR ls s) = true
    · rw [if_pos hh] at hn ⊢
      obtain ⟨a, b, c, d⟩ := hn
      exact ⟨by rw [a], b, c, d⟩
    · rw [if_neg hh] at hn ⊢
      exact hn
theorem AtR.arg (h : AtR ls s) : Eqv ls (argP (ls.drop s.i)) (arV ls s) (arS ls s) := by
  unfold argP arV arS
  have hw : wAny ∈ keyW := by decide
  rw [h.has hw]
  by_cases hh : hasP (ls.drop s.i) wAny = true
  · rw [if_pos hh, if_pos hh, if_pos hh]
    obtain ⟨h1, h2⟩ := h.hit hw hh
    rw [h1, h.tail]
    exact ⟨rfl, h2.w, rfl, h2.i⟩
  · rw [if_neg hh, if_neg hh, if_neg hh]
    exact h.term
theorem Eqv.ok' {α : Type} {v : α} {r : List Tok} (h : AtR ls s) (hr : r = ls.drop s.i) : Eqv ls (.ok v r) v s := ⟨rfl, h.w, hr, h.i⟩
theorem asGo_eqv (hg : TkG ls ∧ ls.length ≤ 400) : ∀ (f : Nat) (l : List TmP) (s : Rst), AtR ls s → ls.length ≤ s.i + f → l.length ≤ 40 → Eqv ls (asGo f l (ls.drop s.i)) (asF ls f l s).1 (asF ls f l s).2
  | 0, _, s, h, hf, _ => by have := h.i; omega
  | f + 1, l, s, h, hf, hl => by
    have hc : wComma ∈ keyW := by decide
    unfold asGo asF
    rw [if_pos h.w, now_hd h.i]
    simp only
    by_cases h40 : l.length = 40
    · have hle : 40 ≤ l.length := by omega
      rw [if_pos hle]
      have hst : Stk (arS ls s) (failR (arS ls s) 9 (nowR ls s).a) := failR_stk _ _ _
      have hw : (failR (arS ls s) 9 (nowR ls s).a).why ≠ 0 := by
        unfold failR
        split
        · show (9 : Int) ≠ 0
          decide
        · assumption
      rw [isR_stop wComma hw, if_neg Bool.false_ne_true]
      refine Eqv.bind hg h.arg (fun ha => ?_) (hst.trans (mustR_stk _ _ _))
      rw [if_pos h40]
      obtain ⟨e1, e2⟩ := mustR_stk ls _ wShut hw
      rw [ha.fail] at e1 e2 ⊢
      exact ⟨e1, e2, show (9 : Int) ≠ 0 by decide⟩
    · have hle : ¬ 40 ≤ l.length := by omega
      rw [if_neg hle]
      by_cases hcm : isR ls (arS ls s) wComma = true
      · rw [if_pos hcm]
        refine Eqv.bind hg h.arg (fun ha => ?_) ((stepR_stk ls _).trans (asF_stk ls _ _ _))
        rw [if_neg h40]
        rw [ha.has hc] at hcm
        obtain ⟨h1, h2⟩ := ha.hit hc hcm
        rw [if_pos hcm, ha.tail, h1]
        have hi := arS_le ls s
        exact asGo_eqv hg f _ _ h2 (by show ls.length ≤ (arS ls s).i + 1 + f; omega) (by rw [List.length_append, List.length_singleton]; omega)
      · rw [if_neg hcm]
        refine Eqv.bind hg h.arg (fun ha => ?_) (mustR_stk _ _ _)
        rw [if_neg h40]
        rw [ha.has hc] at hcm
        rw [if_neg hcm]
        exact Eqv.bind hg (ha.need (by decide)) (fun hb => Eqv.ok' hb rfl) (Stk.refl _)
end
end
end Go.Proofs.YtkobfngnnblpeaaGreatDoor
namespace Go.Proofs.YtkobfngnnblpeaaGreatDoor
section
open Go.RowKit

section
variable {ls : List Tok} {s s1 s2 : Rst}
theorem AtR.args (h : AtR ls s) : Eqv ls (argsP (ls.drop s.i)) (asR ls (mustR ls s wOpen)).1 (asR ls (mustR ls s wOpen)).2 := by
  unfold argsP
  have hw : wShut ∈ keyW := by decide
  refine Eqv.bind h.g (h.need (by decide)) (fun ha => ?_) (asR_stk ls _)
  unfold asR
  rw [ha.has hw]
  by_cases hh : hasP (ls.drop (mustR ls s wOpen).i) wShut = true
  · rw [if_pos hh, if_pos hh]
    obtain ⟨h1, h2⟩ := ha.hit hw hh
    rw [h1, ha.tail]
    exact ⟨rfl, h2.w, rfl, h2.i⟩
  · rw [if_neg hh, if_neg hh]
    exact asGo_eqv h.g 400 [] _ ha (by have := h.g.2; omega) (by simp)
theorem hasP_at (h : s.i < ls.length) (t : List UInt8) : hasP (ls.drop s.i) t = decide ((nowR ls s).t.data.toList = t) := by unfold hasP; rw [now_hd h]
/-- A comparison behind its first term. -/
theorem AtR.cmp (h : AtR ls s) (h2 : AtR ls (tmS ls s)) : Eqv ls (cmpP (tmV ls s) (ls.drop (tmS ls s).i)) (cmR ls false s).1 (cmR ls false s).2 := by
  unfold cmpP cmR
  rw [now_hd h2.i, if_neg Bool.false_ne_true]
  dsimp only
  by_cases ho : opT (nowR ls (tmS ls s)) = 0
  · rw [if_pos ho, if_pos (Or.inr ho), h2.fail]
    obtain ⟨e1, e2⟩ := (Stk.trans (stepR_stk ls _) (tmS_stk ls _)) (show ({ tmS ls s with why := 7, pos := (nowR ls (tmS ls s)).a } : Rst).why ≠ 0 from by show (7 : Int) ≠ 0; decide)
    exact ⟨e1, e2, show (7 : Int) ≠ 0 by decide⟩
  · rw [if_neg ho]
    have h4 : (nowR ls (tmS ls s)).k ≠ 4 := by
      intro e
      rcases h2.cases with he | ⟨hi, _⟩
      · apply ho
        unfold opT
        rw [he.2.1]
        rfl
      · rcases hi.k with hk | hk | hk <;> rw [hk] at e <;> exact absurd e (by decide)
    obtain ⟨hi, e1, h3⟩ := h2.stepI h4
    rw [if_neg (by rintro (hk | hk); exact hk (hi.op ho); exact ho hk), e1, h2.tail]
    refine Eqv.bind h.g h3.term (fun ha => ?_) (Stk.refl _)
    exact ⟨rfl, ha.w, rfl, ha.i⟩
theorem isTm_stop (h : AtR ls s) (ht : isTm (nowR ls s) = false) : namedR ls s = false ∧ conB ls s = false ∧ tmS ls s = { s with why := 7, pos := (nowR ls s).a } := by
  unfold isTm at ht
  rw [Bool.or_eq_false_iff] at ht
  have h1 : namedR ls s = false := by rw [h.named]; exact ht.2
  have h2 : conB ls s = false := by rw [h.con]; exact ht.1
  refine ⟨h1, h2, ?_⟩
  unfold tmS nmS
  rw [h2, h1, if_neg Bool.false_ne_true, if_neg Bool.false_ne_true, h.fail]
theorem cmR_bad (ls : List Tok) (s : Rst) (a : Int) (h : tmS ls s = { s with why := 7, pos := a }) : (cmR ls false s).2.why = 7 ∧ (cmR ls false s).2.pos = a := by
  unfold cmR
  rw [if_neg Bool.false_ne_true]
  dsimp only
  have hk : Stk (tmS ls s) (tmS ls (stepR ls (if (nowR ls (tmS ls s)).k ≠ 3 ∨ opT (nowR ls (tmS ls s)) = 0 then failR (tmS ls s) 7 (nowR ls (tmS ls s)).a else tmS ls s))) :=
    ((ite_stk (failR_stk _ _ _) (Stk.refl _)).trans (stepR_stk ls _)).trans (tmS_stk ls _)
  obtain ⟨e1, e2⟩ := hk (by rw [h]; show (7 : Int) ≠ 0; decide)
  rw [e1, e2, h]
  exact ⟨rfl, rfl⟩
theorem cmR_stk0 (ls : List Tok) (s : Rst) : Stk (tmS ls s) (cmR ls false s).2 := by
  unfold cmR
  rw [if_neg Bool.false_ne_true]
  dsimp only
  exact ((ite_stk (failR_stk _ _ _) (Stk.refl _)).trans (stepR_stk ls _)).trans (tmS_stk ls _)
theorem cmR_stk1 (ls : List Tok) (s : Rst) : Stk (failR s 7 (nowR ls s).a) (cmR ls true s).2 := by
  unfold cmR
  rw [if_pos rfl]
  dsimp only
  exact (((tmS_stk ls _).trans (ite_stk (failR_stk _ _ _) (Stk.refl _))).trans (stepR_stk ls _)).trans (tmS_stk ls _)
theorem AtR.cmNot (h : AtR ls s) : (cmR ls true s).2.why = 7 ∧ (cmR ls true s).2.pos = (nowR ls s).a := by
  have hk := cmR_stk1 ls s
  rw [h.fail] at hk
  exact hk (by show (7 : Int) ≠ 0; decide)
theorem atR_eq (ls : List Tok) (n : Bool) (m : Nat) (s : Rst) (hm : ¬ (n = false ∧ 6 ≤ m)) : atR ls n m s = (⟨n, nmV ls s, (asR ls (mustR ls (nmS ls s) wOpen)).1, 0⟩, (asR ls (mustR ls (nmS ls s) wOpen)).2) := by
  unfold atR
  dsimp only
  rw [if_neg hm]
theorem atmN_eq (l : List LiP) (x : LiP) : atmN (l ++ [x]) = if atomB x = true then atmN l + 1 else atmN l := by
  unfold atmN
  rw [List.filter_append, List.length_append]
  cases h : atomB x <;> simp [h]
theorem AtR.lit (h : AtR ls s) (l : List LiP) (hl : l.length < 10) (hm : atmN l ≤ 6) : Eqv ls (litP l (ls.drop s.i)) (liR ls (atmN l) s).1 (liR ls (atmN l) s).2 := by
  have hn : wNot ∈ keyW := by decide
  unfold litP
  rw [now_hd h.i]
  by_cases hh : hasP (ls.drop s.i) wNot = true
  · have hr : isR ls s wNot = true := by rw [h.has hn]; exact hh
    obtain ⟨h1, h2⟩ := h.hit hn hh
    have ht : takeR ls s wNot = { s with i := s.i + 1 } := by unfold takeR; rw [if_pos hr, h1]
    rw [if_neg (by rw [hh]; simp), if_neg (by omega), if_pos hh]
    unfold liR
    rw [hr, ht, h.tail]
    dsimp only
    rw [Bool.true_or, Bool.and_true]
    have hnm := h2.name
    by_cases hb : namedR ls { s with i := s.i + 1 } = true
    · rw [if_pos hb, atR_eq _ _ _ _ (by simp)]
      refine Eqv.bind h.g hnm (fun ha => ?_) ((mustR_stk ls _ _).trans (asR_stk ls _))
      refine Eqv.bind h.g ha.args (fun hc => ?_) (Stk.refl _)
      exact ⟨rfl, hc.w, rfl, hc.i⟩
    · rw [if_neg hb]
      have e : nameP (ls.drop (s.i + 1)) = .bad (nowR ls { s with i := s.i + 1 }).a 7 := by
        unfold nameP
        rw [now_hd (s := { s with i := s.i + 1 }) h2.i, if_neg (by rw [← h2.named]; exact hb)]
      rw [e]
      obtain ⟨e1, e2⟩ := h2.cmNot
      exact ⟨e1, e2, by decide⟩
  · have hh : hasP (ls.drop s.i) wNot = false := by simpa using hh
    have hr : isR ls s wNot = false := by rw [h.has hn]; exact hh
    have ht : takeR ls s wNot = s := by unfold takeR; rw [hr, if_neg Bool.false_ne_true]
    have hli : ∀ m, liR ls m s = if (namedR ls s && brB ls s) = true then atR ls false m s else cmR ls false s := fun m => by
      unfold liR
      rw [hr, ht]
      dsimp only
      rw [Bool.false_or]
    rw [hli]
    by_cases hb : isTm (nowR ls s) = false
    · obtain ⟨e1, e2, e3⟩ := isTm_stop h hb
      rw [if_pos ⟨hh, hb⟩, e1, Bool.false_and, if_neg Bool.false_ne_true]
      obtain ⟨e4, e5⟩ := cmR_bad ls s _ e3
      exact ⟨e4, e5, by decide⟩
    · have hb' : isTm (nowR ls s) = true := by simpa using hb
      have hk4 : (nowR ls s).k ≠ 4 := by
        intro e
        unfold isTm at hb'
        rw [Bool.or_eq_true, decide_eq_true_eq] at hb'
        rcases hb' with e' | e'
        · rw [e] at e'; exact absurd e' (by decide)
        · rw [nmB_k e'] at e; exact absurd e (by decide)
      obtain ⟨hi, hs, h2⟩ := h.stepI hk4
      rw [if_neg (by rintro ⟨_, h⟩; exact hb h), if_neg (by omega), hh, if_neg Bool.false_ne_true]
      by_cases hk2 : (nowR ls s).k = 2
      · have hc : conB ls s = true := by rw [h.con, hk2]; rfl
        have hts : tmS ls s = { s with i := s.i + 1 } := by unfold tmS; rw [if_pos hc, hs]
        have htv : (tmV ls s).s = ⟨#[]⟩ := by unfold tmV; rw [if_pos hc]
        have hnm : namedR ls s = false := by
          rw [h.named]
          cases hq : nmB (nowR ls s) with
          | false => rfl
          | true => rw [nmB_k hq] at hk2; exact absurd hk2 (by decide)
        rw [hnm, Bool.false_and, if_neg Bool.false_ne_true]
        refine Eqv.bind h.g h.term (fun ha => ?_) (cmR_stk0 ls s)
        rw [if_pos (Or.inl (by rw [htv]))]
        exact h.cmp ha
      · have hnb : nmB (nowR ls s) = true := by
          unfold isTm at hb'
          rw [decide_eq_false hk2, Bool.false_or] at hb'
          exact hb'
        have hnm : namedR ls s = true := by rw [h.named]; exact hnb
        have hc : conB ls s = false := by rw [h.con, decide_eq_false hk2]
        have hns : nmS ls s = { s with i := s.i + 1 } := by unfold nmS; rw [if_pos hnm, hs]
        have hnv : nmV ls s = (nowR ls s).t := by unfold nmV; rw [if_pos hnm]
        have hts : tmS ls s = { s with i := s.i + 1 } := by unfold tmS; rw [hc, if_neg Bool.false_ne_true, hns]
        have htv : tmV ls s = ⟨(nowR ls s).t, false, noV⟩ := by unfold tmV; rw [hc, if_neg Bool.false_ne_true, hnv]
        have hbr : brB ls s = hasP (ls.drop (s.i + 1)) wOpen := by
          have h3 := hasP_at (s := { s with i := s.i + 1 }) h2.i wOpen
          have h3 : hasP (ls.drop (s.i + 1)) wOpen = decide ((ls.getD (s.i + 1) noT).t.data.toList = wOpen) := h3
          unfold brB
          rw [h3, decide_eq_true (p := s.i + 1 < ls.length) h2.i, Bool.true_and]
          by_cases hw : (ls.getD (s.i + 1) noT).t.data.toList = wOpen
          · have hw' : (nowR ls { s with i := s.i + 1 }).t.data.toList = wOpen := hw
            have hk3 : (ls.getD (s.i + 1) noT).k = 3 := by
              rcases h2.cases with he | ⟨hi2, _⟩
              · rw [he.2.1] at hw'
                exact absurd hw' (by decide)
              · exact hi2.br hw'
            rw [hk3, decide_eq_true hw]
            rfl
          · rw [decide_eq_false hw, Bool.and_false]
        have htm : termP (ls.drop s.i) = .ok ⟨(nowR ls s).t, false, noV⟩ (ls.drop (s.i + 1)) := by
          unfold termP
          rw [now_hd h.i, if_pos hb', if_neg hk2, h.tail]
        rw [hnm, Bool.true_and, hbr, htm]
        show Eqv ls (if (nowR ls s).t.data.toList = [] ∨ hasP (ls.drop (s.i + 1)) wOpen = false then cmpP ⟨(nowR ls s).t, false, noV⟩ (ls.drop (s.i + 1)) else if atmN l = 6 then PR.bad (nowR ls s).a 9 else (argsP (ls.drop (s.i + 1))).bind fun a r => .ok ⟨false, (nowR ls s).t, a, 0⟩ r) _ _
        by_cases ho : hasP (ls.drop (s.i + 1)) wOpen = true
        · rw [if_pos ho, if_neg (by rintro (e | e); exact hi.ne e; rw [ho] at e; cases e)]
          by_cases h6 : atmN l = 6
          · rw [if_pos h6]
            unfold atR
            dsimp only
            rw [if_pos ⟨rfl, by omega⟩, hns]
            have hm2 : mustR ls { s with i := s.i + 1 } wOpen = stepR ls { s with i := s.i + 1 } := by
              unfold mustR
              rw [h2.has (by decide), if_pos ho]
            obtain ⟨e1, h3⟩ := h2.hit (t := wOpen) (by decide) ho
            rw [hm2, e1, h3.fail]
            obtain ⟨e2, e3⟩ := asR_stk ls { ({ s with i := s.i + 1 + 1 } : Rst) with why := 9, pos := (nowR ls s).a } (by show (9 : Int) ≠ 0; decide)
            exact ⟨e2, e3, by decide⟩
          · rw [if_neg h6, atR_eq _ _ _ _ (by rintro ⟨_, e⟩; omega), hns]
            refine Eqv.bind h.g h2.args (fun hc => ?_) (Stk.refl _)
            exact ⟨by rw [hnv], hc.w, rfl, hc.i⟩
        · have ho : hasP (ls.drop (s.i + 1)) wOpen = false := by simpa using ho
          rw [ho, if_neg Bool.false_ne_true, if_pos (Or.inr rfl)]
          have h5 := h.cmp (by rw [hts]; exact h2)
          rw [hts, htv] at h5
          exact h5
end
end
end Go.Proofs.YtkobfngnnblpeaaGreatDoor
