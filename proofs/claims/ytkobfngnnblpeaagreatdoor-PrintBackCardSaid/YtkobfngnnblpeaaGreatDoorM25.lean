/-
  The program's parser and the document's, as plain functions, to the end: bodies, heads, a whole rule.
  No condition.
-/
import Derived.Test.YtkobfngnnblpeaaGreatDoorM24
namespace Go.Proofs.YtkobfngnnblpeaaGreatDoor
open Go.RowKit

/-- What is left is the end, or it is refused. -/
def enR (ls : List Tok) (s : Rst) : Rst := if (nowR ls s).k ≠ 4 then failR s 7 (nowR ls s).a else s
def EqvE {α : Type} (ls : List Tok) (p : PR α) (v : α) (s : Rst) : Prop := match p with
  | .ok a _ => v = a ∧ (enR ls s).why = 0
  | .bad a y => (enR ls s).why = y ∧ (enR ls s).pos = a ∧ y ≠ 0
section
variable {ls : List Tok} {s s1 s2 : Rst}
theorem enR_stk (ls : List Tok) (s : Rst) : Stk s (enR ls s) := ite_stk (failR_stk _ _ _) (Stk.refl _)
theorem EqvE.bind {α β : Type} {p : PR α} {v : α} {f : α → List Tok → PR β} {v2 : β} (hg : TkG ls ∧ ls.length ≤ 400) (h : Eqv ls p v s1) (hok : AtR ls s1 → p = .ok v (ls.drop s1.i) → EqvE ls (f v (ls.drop s1.i)) v2 s2) (hbad : Stk s1 s2) : EqvE ls (p.bind f) v2 s2 := by
  cases p with
  | ok a r =>
    obtain ⟨rfl, h2, rfl, h4⟩ := h
    exact hok ⟨hg, h4, h2⟩ rfl
  | bad a y =>
    obtain ⟨h1, h2, h3⟩ := h
    obtain ⟨h4, h5⟩ := (hbad.trans (enR_stk ls s2)) (by rw [h1]; exact h3)
    exact ⟨h4.trans h1, h5.trans h2, h3⟩
theorem EqvE.map {α β : Type} {p : PR α} {v : α} (h : EqvE ls p v s) (g : α → β) : EqvE ls (p.bind fun a r => .ok (g a) r) (g v) s := by
  cases p with
  | ok a r => exact ⟨congrArg g h.1, h.2⟩
  | bad a y => exact h
theorem bind_ok {α β : Type} {p : PR α} {f : α → List Tok → PR β} {v : β} {r : List Tok} (h : p.bind f = .ok v r) : ∃ a r1, p = .ok a r1 ∧ f a r1 = .ok v r := by
  cases p with
  | ok a r1 => exact ⟨a, r1, rfl, h⟩
  | bad a y => cases h
theorem litP_atoms {l : List LiP} {ts : List Tok} {x : LiP} {r : List Tok} (h : litP l ts = .ok x r) (hm : atmN l ≤ 6) : atmN (l ++ [x]) ≤ 6 := by
  rw [atmN_eq]
  split
  · next ha =>
    unfold litP at h
    split at h
    · cases h
    · split at h
      · cases h
      · split at h
        · obtain ⟨a, r1, _, h⟩ := bind_ok h
          obtain ⟨a', r2, _, h⟩ := bind_ok h
          injection h with h _
          rw [← h] at ha
          simp [atomB] at ha
        · obtain ⟨a, r1, _, h⟩ := bind_ok h
          split at h
          · unfold cmpP at h
            split at h
            · cases h
            · next ho =>
              obtain ⟨a', r2, _, h⟩ := bind_ok h
              injection h with h _
              rw [← h] at ha
              simp [atomB, ho] at ha
          · split at h
            · cases h
            · next h6 => omega
  · exact hm
theorem AtR.full (h : AtR ls s) (l : List LiP) (hl : l.length = 10) : ∃ y, litP l (ls.drop s.i) = .bad (nowR ls s).a y ∧ y ≠ 0 ∧ (loR ls s (nowR ls s).a).why = y ∧ (loR ls s (nowR ls s).a).pos = (nowR ls s).a := by
  unfold litP loR
  rw [now_hd h.i, h.has (by decide), h.named]
  have hh : (hasP (ls.drop s.i) wNot || (nmB (nowR ls s) || decide ((nowR ls s).k = 2))) = (hasP (ls.drop s.i) wNot || isTm (nowR ls s)) := by
    unfold isTm
    cases nmB (nowR ls s) <;> cases decide ((nowR ls s).k = 2) <;> rfl
  rw [hh]
  by_cases hb : hasP (ls.drop s.i) wNot = false ∧ isTm (nowR ls s) = false
  · rw [if_pos hb, hb.1, hb.2, Bool.or_false, if_neg Bool.false_ne_true, h.fail]
    exact ⟨7, rfl, by decide, rfl, rfl⟩
  · have e : (hasP (ls.drop s.i) wNot || isTm (nowR ls s)) = true := by
      cases h1 : hasP (ls.drop s.i) wNot with
      | true => rfl
      | false =>
        cases h2 : isTm (nowR ls s) with
        | true => rfl
        | false => exact absurd ⟨h1, h2⟩ hb
    rw [if_neg hb, if_pos hl, e, if_pos rfl, h.fail]
    obtain ⟨e1, e2⟩ := failR_stk { s with why := 9, pos := (nowR ls s).a } 7 (nowR ls s).a (by show (9 : Int) ≠ 0; decide)
    exact ⟨9, rfl, by decide, e1, e2⟩
theorem boGo_eqv (hg : TkG ls ∧ ls.length ≤ 400) : ∀ (f : Nat) (l : List LiP) (s : Rst), AtR ls s → ls.length ≤ s.i + f → l.length ≤ 10 → atmN l ≤ 6 → EqvE ls (boGo f l (ls.drop s.i)) (boF ls f (atmN l) l s).1 (boF ls f (atmN l) l s).2
  | 0, _, s, h, hf, _, _ => by have := h.i; omega
  | f + 1, l, s, h, hf, hl, hm => by
    have hc : wComma ∈ keyW := by decide
    unfold boGo boF
    rw [if_pos h.w]
    dsimp only
    by_cases h10 : l.length = 10
    · obtain ⟨y, e1, e2, e3, e4⟩ := h.full l h10
      rw [if_pos (show 10 ≤ l.length by omega), e1]
      obtain ⟨e5, e6⟩ := liR_stk ls (atmN l) (loR ls s (nowR ls s).a) (by rw [e3]; exact e2)
      rw [isR_stop wComma (by rw [e5, e3]; exact e2), if_neg Bool.false_ne_true]
      obtain ⟨e7, e8⟩ := enR_stk ls (liR ls (atmN l) (loR ls s (nowR ls s).a)).2 (by rw [e5, e3]; exact e2)
      exact ⟨by rw [e7, e5, e3], by rw [e8, e6, e4], e2⟩
    · rw [if_neg (show ¬ 10 ≤ l.length by omega)]
      have hlit := h.lit l (by omega) hm
      have hle := liR_le ls (atmN l) s
      by_cases hcm : isR ls (liR ls (atmN l) s).2 wComma = true
      · rw [if_pos hcm]
        refine EqvE.bind hg hlit (fun ha hok => ?_) ((stepR_stk ls _).trans (boF_stk ls _ _ _ _))
        rw [ha.has hc] at hcm
        obtain ⟨h1, h2⟩ := ha.hit hc hcm
        rw [if_pos hcm, ha.tail, h1, ← atmN_eq]
        exact boGo_eqv hg f _ _ h2 (by show ls.length ≤ (liR ls (atmN l) s).2.i + 1 + f; omega) (by rw [List.length_append, List.length_singleton]; omega) (litP_atoms hok hm)
      · rw [if_neg hcm]
        refine EqvE.bind hg hlit (fun ha _ => ?_) (Stk.refl _)
        rw [ha.has hc] at hcm
        rw [if_neg hcm, now_hd ha.i]
        by_cases h4 : (nowR ls (liR ls (atmN l) s).2).k = 4
        · rw [if_pos h4]
          refine ⟨rfl, ?_⟩
          unfold enR
          rw [if_neg (fun e => e h4)]
          exact ha.w
        · rw [if_neg h4]
          unfold EqvE enR
          rw [if_pos h4, ha.fail]
          exact ⟨rfl, rfl, by decide⟩

/-! ### heads -/
theorem AtR.agg (h : AtR ls s) : aggJ ls s = agT (nowR ls s) := by
  have e : ∀ t ∈ keyW, isR ls s t = decide ((nowR ls s).t.data.toList = t) := fun t ht => by rw [h.has ht, hasP_at h.i]
  unfold aggJ agT
  rw [e _ (by decide), e _ (by decide), e _ (by decide), e _ (by decide)]
  simp only [decide_eq_true_eq]
theorem agT_key {x : Tok} (h : agT x ≠ 0) : x.t.data.toList ∈ keyW ∧ resB x.t.data.toList = true := by
  unfold agT at h
  split at h
  · next e => rw [e]; decide
  · split at h
    · next e => rw [e]; decide
    · split at h
      · next e => rw [e]; decide
      · split at h
        · next e => rw [e]; decide
        · exact absurd rfl h
theorem agT_le (x : Tok) : agT x ≤ 4 := by
  unfold agT
  split
  · omega
  · split
    · omega
    · split
      · omega
      · split <;> omega
theorem agT_nm {x : Tok} (h : agT x ≠ 0) : nmB x = false := by
  unfold nmB
  rw [(agT_key h).2]
  simp
theorem AtR.agStep (h : AtR ls s) (hj : agT (nowR ls s) ≠ 0) : stepR ls s = { s with i := s.i + 1 } ∧ AtR ls { s with i := s.i + 1 } :=
  h.hit (agT_key hj).1 (by rw [hasP_at h.i]; simp)
theorem AtR.aggp (h : AtR ls s) (k : Int) (hk : k = 2 ∨ k = 3) : Eqv ls (aggP k (ls.drop s.i)) (agA ls s k 0, agO ls s k ⟨#[]⟩) (if aggJ ls s = 0 then failR s 7 (nowR ls s).a else agS ls s k) := by
  unfold aggP
  rw [now_hd h.i, h.agg]
  by_cases h0 : agT (nowR ls s) = 0
  · rw [if_pos (Or.inl h0), if_pos h0, h.fail]
    exact ⟨rfl, rfl, by decide⟩
  · have h4 := agT_le (nowR ls s)
    obtain ⟨hs, h2⟩ := h.agStep h0
    rw [if_neg h0]
    by_cases hb : aggBad k (agT (nowR ls s)) = true
    · have hb' : k = 3 ∧ agT (nowR ls s) ≠ 1 ∧ agT (nowR ls s) ≠ 2 := by
        unfold aggBad at hb
        rcases hk with rfl | rfl
        · simp at hb
        · simp at hb
          omega
      have e : agS ls s k = failR s 7 (nowR ls s).a := by
        unfold agS
        rw [h.agg, if_neg h0, if_pos hb]
      rw [if_pos (Or.inr hb'), e, h.fail]
      exact ⟨rfl, rfl, by decide⟩
    · have hb' : ¬ (agT (nowR ls s) = 0 ∨ k = 3 ∧ agT (nowR ls s) ≠ 1 ∧ agT (nowR ls s) ≠ 2) := by
        rintro (e | ⟨rfl, e1, e2⟩)
        · exact h0 e
        · apply hb
          unfold aggBad
          have : 2 < agT (nowR ls s) := by omega
          simp [this]
      have eA : agA ls s k 0 = (agT (nowR ls s) : Int) := by
        unfold agA
        rw [h.agg, if_neg h0, if_neg hb]
      have eO : agO ls s k ⟨#[]⟩ = if 1 < agT (nowR ls s) then nmV ls (stepR ls s) else ⟨#[]⟩ := by
        unfold agO
        rw [h.agg, if_neg h0, if_neg hb]
      have eS : agS ls s k = if 1 < agT (nowR ls s) then nmS ls (stepR ls s) else stepR ls s := by
        unfold agS
        rw [h.agg, if_neg h0, if_neg hb]
      rw [if_neg hb', eA, eO, eS]
      by_cases h1 : agT (nowR ls s) = 1
      · rw [if_pos h1, h1, if_neg (by omega), if_neg (by omega), hs, h.tail]
        exact ⟨rfl, h2.w, rfl, h2.i⟩
      · rw [if_neg h1, if_pos (show 1 < agT (nowR ls s) by omega), if_pos (show 1 < agT (nowR ls s) by omega), hs, h.tail]
        exact Eqv.bind h.g h2.name (fun ha => ⟨rfl, ha.w, rfl, ha.i⟩) (Stk.refl _)
theorem heGo_eqv (hg : TkG ls ∧ ls.length ≤ 400) (k : Int) (hk : k = 1 ∨ k = 2) : ∀ (f : Nat) (h : List ByteArray) (s : Rst), AtR ls s → ls.length ≤ s.i + f → h.length ≤ 40 →
    Eqv ls (heGo k f h (ls.drop s.i)) ⟨(hdF ls k f ⟨h, 0, ⟨#[]⟩, s⟩).h, (hdF ls k f ⟨h, 0, ⟨#[]⟩, s⟩).ag, (hdF ls k f ⟨h, 0, ⟨#[]⟩, s⟩).ofv, 0⟩ (mustR ls (hdF ls k f ⟨h, 0, ⟨#[]⟩, s⟩).s wShut)
  | 0, _, s, h, hf, _ => by have := h.i; omega
  | f + 1, hh, s, h, hf, hl => by
    have hc : wComma ∈ keyW := by decide
    have hst : wShut ∈ keyW := by decide
    unfold heGo hdF
    dsimp only
    rw [if_pos h.w, h.agg, now_hd h.i]
    by_cases hj : agT (nowR ls s) ≠ 0
    · rw [if_pos hj]
      rcases hk with rfl | rfl
      · rw [if_neg (by rintro ⟨e, _⟩; exact absurd e (by decide))]
        have e : nameP (ls.drop s.i) = .bad (nowR ls s).a 7 := by
          unfold nameP
          rw [now_hd h.i, agT_nm hj, if_neg Bool.false_ne_true]
        have e2 : agS ls s 1 = failR s 7 (nowR ls s).a := by
          unfold agS
          rw [h.agg, if_neg hj, if_pos (by simp [aggBad])]
        rw [e, e2, h.fail]
        obtain ⟨e3, e4⟩ := mustR_stk ls { s with why := 7, pos := (nowR ls s).a } wShut (by show (7 : Int) ≠ 0; decide)
        exact ⟨e3, e4, by decide⟩
      · rw [if_pos ⟨rfl, hj⟩]
        have ha := h.aggp 2 (.inl rfl)
        rw [h.agg, if_neg hj] at ha
        refine Eqv.bind hg ha (fun hb => ?_) (mustR_stk ls _ _)
        exact Eqv.bind hg (hb.need hst) (fun hd => ⟨rfl, hd.w, rfl, hd.i⟩) (Stk.refl _)
    · rw [if_neg hj, if_neg (fun e => hj e.2)]
      by_cases h40 : hh.length = 40
      · have hle : 40 ≤ hh.length := by omega
        rw [if_pos hle]
        have hw : (failR (nmS ls s) 9 (nowR ls s).a).why ≠ 0 := by
          unfold failR
          split
          · show (9 : Int) ≠ 0
            decide
          · assumption
        rw [isR_stop wComma hw, if_neg Bool.false_ne_true]
        refine Eqv.bind hg h.name (fun ha => ?_) ((failR_stk _ _ _).trans (mustR_stk _ _ _))
        rw [if_pos h40]
        obtain ⟨e1, e2⟩ := mustR_stk ls _ wShut hw
        dsimp only
        rw [ha.fail] at e1 e2 ⊢
        exact ⟨e1, e2, show (9 : Int) ≠ 0 by decide⟩
      · have hle : ¬ 40 ≤ hh.length := by omega
        rw [if_neg hle]
        by_cases hcm : isR ls (nmS ls s) wComma = true
        · rw [if_pos hcm]
          refine Eqv.bind hg h.name (fun ha => ?_) (((stepR_stk ls _).trans (hdF_stk ls k f ⟨hh ++ [nmV ls s], 0, ⟨#[]⟩, stepR ls (nmS ls s)⟩)).trans (mustR_stk _ _ _))
          rw [if_neg h40]
          rw [ha.has hc] at hcm
          obtain ⟨h1, h2⟩ := ha.hit hc hcm
          rw [if_pos hcm, ha.tail, h1]
          have hi := nmS_le ls s
          exact heGo_eqv hg k hk f _ _ h2 (by show ls.length ≤ (nmS ls s).i + 1 + f; omega) (by rw [List.length_append, List.length_singleton]; omega)
        · rw [if_neg hcm]
          refine Eqv.bind hg h.name (fun ha => ?_) (mustR_stk _ _ _)
          rw [if_neg h40]
          rw [ha.has hc] at hcm
          rw [if_neg hcm]
          exact Eqv.bind hg (ha.need hst) (fun hb => ⟨rfl, hb.w, rfl, hb.i⟩) (Stk.refl _)
theorem AtR.num (h : AtR ls s) : Eqv ls (numP (ls.drop s.i)) (nowR ls s).v.n (stepR ls (if s.why = 0 ∧ ((nowR ls s).k ≠ 2 ∨ (nowR ls s).v.k ≠ 2) then failR s 7 (nowR ls s).a else s)) := by
  unfold numP
  rw [now_hd h.i]
  by_cases hv : (nowR ls s).v.k = 2
  · have hk : (nowR ls s).k = 2 := by
      rcases h.cases with he | ⟨hi, _⟩
      · rw [he.2.2] at hv
        exact absurd hv (by decide)
      · by_cases hk : (nowR ls s).k = 2
        · exact hk
        · rw [hi.v hk] at hv
          exact absurd hv (by decide)
    obtain ⟨_, h1, h2⟩ := h.stepI (by rw [hk]; decide)
    rw [if_pos hv, if_neg (by rintro ⟨_, e | e⟩; exact e hk; exact e hv), h1, h.tail]
    exact ⟨rfl, h2.w, rfl, h2.i⟩
  · rw [if_neg hv, if_pos ⟨h.w, .inr hv⟩, h.fail]
    obtain ⟨e1, e2⟩ := stepR_why ls { s with why := 7, pos := (nowR ls s).a }
    exact ⟨e1, e2, by decide⟩
theorem limS_stk (ls : List Tok) (s : Rst) : Stk s (limS ls s) := by
  unfold limS
  exact ((mustR_stk ls s wLimit).trans (ite_stk (failR_stk _ _ _) (Stk.refl _))).trans (stepR_stk ls _)
theorem quP_eqv (h : AtR ls s) : Eqv ls (quP (ls.drop s.i)) ⟨(hdQ ls s).h, (hdQ ls s).ag, (hdQ ls s).ofv, limV ls (mustR ls (hdQ ls s).s wShut)⟩ (limS ls (mustR ls (hdQ ls s).s wShut)) := by
  unfold quP
  have hst : wShut ∈ keyW := by decide
  obtain ⟨sQ, hsQ⟩ : ∃ sQ, (hdQ ls s).s = sQ := ⟨_, rfl⟩
  have hk1 : Stk (mustR ls (nmS ls s) wComma) sQ := by
    rw [← hsQ]
    unfold hdQ
    exact ite_stk (failR_stk _ _ _) (agS_stk ls _ _)
  have hk2 : Stk sQ (limS ls (mustR ls sQ wShut)) := (mustR_stk ls _ _).trans (limS_stk ls _)
  rw [hsQ]
  refine Eqv.bind h.g h.name (fun ha => ?_) (((mustR_stk ls _ _).trans hk1).trans hk2)
  refine Eqv.bind h.g (ha.need (by decide)) (fun hb => ?_) (hk1.trans hk2)
  have hag := hb.aggp 3 (.inr rfl)
  have e : (if aggJ ls (mustR ls (nmS ls s) wComma) = 0 then failR (mustR ls (nmS ls s) wComma) 7 (nowR ls (mustR ls (nmS ls s) wComma)).a else agS ls (mustR ls (nmS ls s) wComma) 3) = sQ := by rw [← hsQ]; rfl
  rw [e] at hag
  refine Eqv.bind h.g hag (fun hd => ?_) hk2
  refine Eqv.bind h.g (hd.need hst) (fun he => ?_) (limS_stk ls _)
  unfold limS limV
  dsimp only
  refine Eqv.bind h.g (he.need (by decide)) (fun hf => ?_) ((ite_stk (failR_stk _ _ _) (Stk.refl _)).trans (stepR_stk ls _))
  exact Eqv.bind h.g hf.num (fun hl => ⟨rfl, hl.w, rfl, hl.i⟩) (Stk.refl _)
theorem AtR.kind (h : AtR ls s) : Eqv ls (kindP (ls.drop s.i)) (kiK ls s) (kiS ls s) := by
  have e : ∀ t ∈ keyW, isR ls s t = decide ((nowR ls s).t.data.toList = t) := fun t ht => by rw [h.has ht, hasP_at h.i]
  have hk : kiK ls s = kindN (nowR ls s) := by
    unfold kiK kindN
    rw [e _ (by decide), e _ (by decide), e _ (by decide)]
    simp only [decide_eq_true_eq]
  unfold kindP kiS
  rw [hk, now_hd h.i]
  by_cases h0 : kindN (nowR ls s) = 0
  · rw [if_pos h0, if_pos h0, h.fail]
    exact ⟨rfl, rfl, by decide⟩
  · rw [if_neg h0, if_neg h0]
    have hm : (nowR ls s).t.data.toList ∈ keyW := by
      unfold kindN at h0
      split at h0
      · next e => rw [e]; decide
      · split at h0
        · next e => rw [e]; decide
        · split at h0
          · next e => rw [e]; decide
          · exact absurd rfl h0
    obtain ⟨h1, h2⟩ := h.hit hm (by rw [hasP_at h.i]; simp)
    rw [h1, h.tail]
    exact ⟨rfl, h2.w, rfl, h2.i⟩
theorem kindN_3 (x : Tok) : kindN x = 0 ∨ kindN x = 1 ∨ kindN x = 2 ∨ kindN x = 3 := by
  unfold kindN
  split
  · exact .inr (.inl rfl)
  · split
    · exact .inr (.inr (.inl rfl))
    · split
      · exact .inr (.inr (.inr rfl))
      · exact .inl rfl
/-- A whole rule. -/
theorem ruleP_eqv (hg : TkG ls ∧ ls.length ≤ 400) : match ruleP ls with
    | .ok r _ => (ruX ls).1 = r ∧ (ruX ls).2.why = 0
    | .bad a y => (ruX ls).2.why = y ∧ (ruX ls).2.pos = a ∧ y ≠ 0 := by
  have h0 : 0 < ls.length := by
    rcases ls with _ | ⟨x, r⟩
    · exact hg.1.elim
    · simp
  have h : AtR ls ⟨0, 0, 0⟩ := ⟨hg, h0, rfl⟩
  obtain ⟨k, hk⟩ : ∃ k, kiK ls ⟨0, 0, 0⟩ = k := ⟨_, rfl⟩
  obtain ⟨sN, hsN⟩ : ∃ sN, nmS ls (kiS ls ⟨0, 0, 0⟩) = sN := ⟨_, rfl⟩
  obtain ⟨sO, hsO⟩ : ∃ sO, mustR ls sN wOpen = sO := ⟨_, rfl⟩
  obtain ⟨y, hy⟩ : ∃ y, hdR ls sO k = y := ⟨_, rfl⟩
  obtain ⟨s3, hs3⟩ : ∃ s3, mustR ls y.s wShut = s3 := ⟨_, rfl⟩
  obtain ⟨s4, hs4⟩ : ∃ s4, (if k = 3 then limS ls s3 else s3) = s4 := ⟨_, rfl⟩
  obtain ⟨lm, hlm⟩ : ∃ lm, (if k = 3 then limV ls s3 else 0) = lm := ⟨_, rfl⟩
  obtain ⟨s5, hs5⟩ : ∃ s5, mustR ls s4 wIf = s5 := ⟨_, rfl⟩
  obtain ⟨b, hb⟩ : ∃ b, boF ls 400 0 [] s5 = b := ⟨_, rfl⟩
  have hru : ruX ls = (⟨k, nmV ls (kiS ls ⟨0, 0, 0⟩), y.h, y.ag, y.ofv, lm, b.1⟩, enR ls b.2) := by
    unfold ruX enR
    dsimp only
    rw [hk, hsN, hsO, hy, hs3, hs4, hlm, hs5, hb]
  rw [hru]
  have hkN : k = 0 ∨ k = 1 ∨ k = 2 ∨ k = 3 := by
    rw [← hk]
    unfold kiK
    split
    · exact .inr (.inl rfl)
    · split
      · exact .inr (.inr (.inl rfl))
      · split
        · exact .inr (.inr (.inr rfl))
        · exact .inl rfl
  have k1 : Stk sO y.s := by
    rw [← hy]
    unfold hdR
    split
    · unfold hdQ
      exact ((nmS_stk ls sO).trans (mustR_stk ls _ wComma)).trans (ite_stk (failR_stk _ _ _) (agS_stk ls _ _))
    · exact hdF_stk ls k 400 ⟨[], 0, ⟨#[]⟩, sO⟩
  have kN : Stk (kiS ls ⟨0, 0, 0⟩) sN := by rw [← hsN]; exact nmS_stk ls _
  have kO : Stk sN sO := by rw [← hsO]; exact mustR_stk ls _ _
  have k3 : Stk y.s s3 := by rw [← hs3]; exact mustR_stk ls _ _
  have k4 : Stk s3 s4 := by rw [← hs4]; exact ite_stk (limS_stk ls _) (Stk.refl _)
  have k5 : Stk s4 s5 := by rw [← hs5]; exact mustR_stk ls _ _
  have kB : Stk s5 b.2 := by rw [← hb]; exact boF_stk ls _ _ _ _
  have j4 := k5.trans kB
  have jO := ((k1.trans k3).trans k4).trans j4
  have hE : EqvE ls (ruleP ls) ⟨k, nmV ls (kiS ls ⟨0, 0, 0⟩), y.h, y.ag, y.ofv, lm, b.1⟩ b.2 := by
    unfold ruleP
    have hkd : Eqv ls (kindP ls) k (kiS ls ⟨0, 0, 0⟩) := by have h1 := h.kind; rw [hk] at h1; exact h1
    refine EqvE.bind hg hkd (fun ha hok => ?_) ((kN.trans kO).trans jO)
    have hk0 : k ≠ 0 := by
      unfold kindP at hok
      split at hok
      · cases hok
      · next h0 =>
        injection hok with e _
        rw [← e]
        exact h0
    have hnm := ha.name
    rw [hsN] at hnm
    refine EqvE.bind hg hnm (fun hb1 _ => ?_) (kO.trans jO)
    have hno := hb1.need (t := wOpen) (by decide)
    rw [hsO] at hno
    refine EqvE.bind hg hno (fun hb2 _ => ?_) jO
    have hH : Eqv ls (if k = 3 then quP (ls.drop sO.i) else heGo k 400 [] (ls.drop sO.i)) ⟨y.h, y.ag, y.ofv, lm⟩ s4 := by
      by_cases h3 : k = 3
      · have ey : hdQ ls sO = y := by rw [← hy]; unfold hdR; rw [if_pos h3]
        have h1 := quP_eqv hb2
        rw [ey, hs3] at h1
        rw [if_pos h3] at hs4 hlm ⊢
        rw [← hs4, ← hlm]
        exact h1
      · have ey : hdF ls k 400 ⟨[], 0, ⟨#[]⟩, sO⟩ = y := by rw [← hy]; unfold hdR; rw [if_neg h3]
        have h1 := heGo_eqv hg k (by omega) 400 [] sO hb2 (by have := hg.2; omega) (by simp)
        rw [ey, hs3] at h1
        rw [if_neg h3] at hs4 hlm ⊢
        rw [← hs4, ← hlm]
        exact h1
    refine EqvE.bind hg hH (fun hb3 _ => ?_) j4
    have hni := hb3.need (t := wIf) (by decide)
    rw [hs5] at hni
    refine EqvE.bind hg hni (fun hb4 _ => ?_) kB
    have hbo := boGo_eqv hg 400 [] s5 hb4 (by have := hg.2; omega) (by simp) (by simp [atmN])
    have hbo' : EqvE ls (boGo 400 [] (ls.drop s5.i)) (boF ls 400 0 [] s5).1 (boF ls 400 0 [] s5).2 := hbo
    rw [hb] at hbo'
    exact hbo'.map fun l => (⟨k, nmV ls (kiS ls ⟨0, 0, 0⟩), y.h, y.ag, y.ofv, lm, l⟩ : RuP)
  cases hP : ruleP ls with
  | ok r t =>
    rw [hP] at hE
    exact ⟨hE.1, hE.2⟩
  | bad a y' =>
    rw [hP] at hE
    exact hE
end
end Go.Proofs.YtkobfngnnblpeaaGreatDoor
