/-
  Rows that are told once, as plain lists: what changes of how often rows came make of what is told, and that changes that come and go again leave all as it was.
  No Go in it.
-/
import Derived.Test.YtpliofhphijdkaaMsp
import Derived.Test.YtpliofhphijdkaaBof
namespace Go.Proofs.Ytpliofhphijdkaa
open Go.RowKit

theorem goodp_ext {a b : List En} (ha : Good a) (hb : Good b) (h : ∀ x, manyL x a = manyL x b) : a = b := by
  have key : ∀ {a b : List En}, Good a → Good b → (∀ x, manyL x a = manyL x b) → a.length ≤ b.length := fun {a b} ha hb h => sub_len b a ha hb fun e he => by
    rw [← h, manyL_in a ha.1 e he]
    exact (ha.2 e he).1
  exact one_bag a b ha hb (Nat.le_antisymm (key ha hb h) (key hb ha fun x => (h x).symm)) fun e he => by rw [← h, manyL_in a ha.1 e he]
theorem manyL_sump (y : List V) : ∀ (l : List En), Ord l → manyL y l = sumF y l
  | [], _ => rfl
  | e :: l, h => by
    have ih := manyL_sump y l h.2
    show _ = (if cmpR e.1 y = 0 then e.2 else 0) + sumF y l
    rw [manyL_cons]
    by_cases h1 : cmpR e.1 y < 0
    · rw [if_pos h1, if_neg (by omega), ih]
      omega
    · rw [if_neg h1]
      have hno : sumF y l = 0 := sumF_none y l fun f hf => by
        have h3 := h.1 f hf
        have h4 := cmpR_flip (a := e.1) (b := y)
        have h5 := cmpR_le_lt (a := y) (b := e.1) (c := f.1) (by omega) h3
        have h6 := cmpR_flip (a := y) (b := f.1)
        omega
      rw [hno]
      omega

theorem of_len : ∀ (es : List En), (ofL es).1.length ≤ es.length := by
  have key : ∀ (es : List En) (s : List En × Int), (es.foldl ofStep s).1.length ≤ s.1.length + es.length := by
    intro es
    induction es with
    | nil => exact fun _ => Nat.le_refl _
    | cons e es ih =>
      intro s
      have h1 := ih (ofStep s e)
      have h2 : (ofStep s e).1.length ≤ s.1.length + 1 := by
        unfold ofStep
        split
        · exact addL_len _ _ _
        · exact Nat.le_succ _
      rw [List.foldl_cons, List.length_cons]
      omega
  intro es
  have := key es ([], 0)
  simpa [ofL] using this

/-! ### what a row's change makes -/
theorem addL_okp {x : List V} {k : Int} {l : List En} (hl : Good l) (h : (addL x k l).2 = 0) (y : List V) : manyL y (addL x k l).1 = if cmpR x y = 0 then manyL x l + k else manyL y l := by
  unfold addL at h ⊢
  split
  · next hr => rw [if_pos hr] at h; simp at h
  · next hr =>
    rw [if_neg hr] at h
    split
    · next hk => rw [if_pos hk] at h; simp at h
    · exact manyL_set x _ y l hl.1
theorem addL_fits {x : List V} {k : Int} {l : List En} (hr : rightR x = true) (h : -1073741824 ≤ manyL x l + k ∧ manyL x l + k ≤ 1073741824) : (addL x k l).2 = 0 := by
  unfold addL
  rw [if_neg (by simp [hr]), if_neg (by omega)]

/-- The net of changes, and why there is none. -/
def netP (es : List En) : List En := if (ofL es).2 = 0 then (ofL es).1 else []

/-- What is told of one row's change, if B is how often rows came. -/
def tellP (B : List En) (e : En) : List En := if manyL e.1 B = 0 then [(e.1, 1)] else if manyL e.1 B + e.2 = 0 then [(e.1, -1)] else []
/-- A row's change: how often rows came, what is told, why not. -/
def onceStep (B : List En) (s : List En × List En × Int) (e : En) : List En × List En × Int :=
  if s.2.2 = 0 then
    if manyL e.1 B + e.2 < 0 then (s.1, s.2.1, 10)
    else if (addL e.1 e.2 s.1).2 = 0 then ((addL e.1 e.2 s.1).1, s.2.1 ++ tellP B e, 0)
    else (s.1, s.2.1, (addL e.1 e.2 s.1).2)
  else s
def onceF (B N : List En) : List En × List En × Int := N.foldl (onceStep B) (B, [], 0)
def onceL (B es : List En) : List En × List En × Int :=
  if (ofL es).2 = 0 then
    if (onceF B (ofL es).1).2.2 = 0 then
      if 1500 < (onceF B (ofL es).1).1.length then (B, [], 6) else onceF B (ofL es).1
    else (B, [], (onceF B (ofL es).1).2.2)
  else (B, [], (ofL es).2)

theorem once_fold_err (B : List En) : ∀ (o : List En) (s : List En × List En × Int), ¬ s.2.2 = 0 → o.foldl (onceStep B) s = s
  | [], _, _ => rfl
  | e :: o, s, h => by rw [List.foldl_cons, show onceStep B s e = s from if_neg h, once_fold_err B o s h]
theorem onceF_next (B N : List En) (k : Nat) (e : En) (he : N[k]? = some e) : onceF B (N.take (k + 1)) = onceStep B (onceF B (N.take k)) e := by
  unfold onceF
  rw [List.take_add_one, he, List.foldl_append]
  rfl
theorem onceF_stop (B N : List En) (k : Nat) (h : ¬ (onceF B (N.take k)).2.2 = 0) : onceF B N = onceF B (N.take k) := by
  unfold onceF at h ⊢
  conv => lhs; rw [← List.take_append_drop k N, List.foldl_append]
  exact once_fold_err B _ _ h

/-- Rows that are there, each more often than never. -/
def Pos (l : List En) : Prop := Good l ∧ ∀ x, 0 ≤ manyL x l
theorem Pos.nil : Pos [] := ⟨Good.nil, fun _ => Int.le_refl _⟩
def onceOf (l : List En) : List En := l.map fun e => (e.1, 1)

def addsP (es : List En) (A : List En) : List En := es.foldl (fun E e => (addL e.1 e.2 E).1) A
theorem addsP_append (a b A : List En) : addsP (a ++ b) A = addsP b (addsP a A) := List.foldl_append
theorem addsP_next (es A : List En) (k : Nat) (e : En) (he : es[k]? = some e) : addsP (es.take (k + 1)) A = (addL e.1 e.2 (addsP (es.take k) A)).1 := by
  unfold addsP
  rw [List.take_add_one, he, List.foldl_append]
  rfl
theorem addsP_len : ∀ (es A : List En), (addsP es A).length ≤ A.length + es.length
  | [], A => Nat.le_refl _
  | e :: es, A => by
    have h1 := addsP_len es (addL e.1 e.2 A).1
    have h2 := addL_len e.1 e.2 A
    show (addsP es (addL e.1 e.2 A).1).length ≤ A.length + (es.length + 1)
    omega
/-- Each of these can be added, one behind the other. -/
def AddsOk : List En → List En → Prop
  | [], _ => True
  | e :: es, A => (addL e.1 e.2 A).2 = 0 ∧ AddsOk es (addL e.1 e.2 A).1
theorem AddsOk.append : ∀ {a b A : List En}, AddsOk a A → AddsOk b (addsP a A) → AddsOk (a ++ b) A
  | [], _, _, _, h => h
  | _ :: _, _, _, h1, h2 => ⟨h1.1, AddsOk.append h1.2 h2⟩
theorem AddsOk.at : ∀ {es A : List En}, AddsOk es A → ∀ (k : Nat) (e : En), es[k]? = some e → (addL e.1 e.2 (addsP (es.take k) A)).2 = 0
  | [], _, _, _, _, h => by simp at h
  | a :: es, A, h, 0, e, he => by
    have : a = e := by simpa using he
    subst this
    exact h.1
  | a :: es, A, h, k + 1, e, he => by
    rw [List.take_succ_cons]
    exact AddsOk.at h.2 k e (by simpa using he)

/-- What holds behind some rows' changes. -/
structure InvP (B : List En) (s : List En × List En × Int) : Prop where
  good : Good s.1
  pos : ∀ x, 0 ≤ manyL x s.1
  ok : AddsOk s.2.1 (onceOf B)
  goodA : Good (addsP s.2.1 (onceOf B))
  many : ∀ x, manyL x (addsP s.2.1 (onceOf B)) = if 0 < manyL x s.1 then 1 else 0

theorem once_step {B : List En} {s : List En × List En × Int} (h : InvP B s) (e : En) (hr : rightR e.1 = true) (hne : ¬ e.2 = 0) (hm : manyL e.1 s.1 = manyL e.1 B) (h0 : s.2.2 = 0) (hk : (onceStep B s e).2.2 = 0) :
    InvP B (onceStep B s e) ∧ (onceStep B s e).2.1 = s.2.1 ++ tellP B e ∧ (∀ x, manyL x (onceStep B s e).1 = if cmpR e.1 x = 0 then manyL e.1 B + e.2 else manyL x s.1) := by
  unfold onceStep at hk ⊢
  rw [if_pos h0] at hk ⊢
  by_cases hlt : manyL e.1 B + e.2 < 0
  · rw [if_pos hlt] at hk
    simp at hk
  · rw [if_neg hlt] at hk ⊢
    by_cases ha : (addL e.1 e.2 s.1).2 = 0
    · rw [if_pos ha]
      have hmany : ∀ x, manyL x (addL e.1 e.2 s.1).1 = if cmpR e.1 x = 0 then manyL e.1 B + e.2 else manyL x s.1 := fun x => by rw [addL_okp h.good ha, hm]
      refine ⟨?_, rfl, hmany⟩
      have hA := h.many e.1
      rw [hm] at hA
      have hBp := h.pos e.1
      rw [hm] at hBp
      unfold tellP
      by_cases hz : manyL e.1 B = 0
      · have hz' : manyL e.1 (addsP s.2.1 (onceOf B)) = 0 := by rw [hA, hz]; rfl
        have hok : (addL e.1 1 (addsP s.2.1 (onceOf B))).2 = 0 := addL_fits hr (by omega)
        have hadd : addsP (s.2.1 ++ [(e.1, 1)]) (onceOf B) = (addL e.1 1 (addsP s.2.1 (onceOf B))).1 := by rw [addsP_append]; rfl
        simp only [if_pos hz]
        refine ⟨addL_good _ _ _ h.good, fun x => ?_, h.ok.append ⟨hok, trivial⟩, ?_, fun x => ?_⟩
        · show 0 ≤ manyL x (addL e.1 e.2 s.1).1
          rw [hmany]
          split
          · omega
          · exact h.pos x
        · show Good (addsP (s.2.1 ++ [(e.1, 1)]) (onceOf B))
          rw [hadd]
          exact addL_good _ _ _ h.goodA
        · show manyL x (addsP (s.2.1 ++ [(e.1, 1)]) (onceOf B)) = if 0 < manyL x (addL e.1 e.2 s.1).1 then 1 else 0
          rw [hadd, addL_okp h.goodA hok, hmany]
          by_cases hx : cmpR e.1 x = 0
          · rw [if_pos hx, if_pos hx, hz', if_pos (by omega)]
            rfl
          · rw [if_neg hx, if_neg hx]
            exact h.many x
      · have hone : manyL e.1 (addsP s.2.1 (onceOf B)) = 1 := by rw [hA, if_pos (by omega)]
        by_cases hn : manyL e.1 B + e.2 = 0
        · have hok : (addL e.1 (-1) (addsP s.2.1 (onceOf B))).2 = 0 := addL_fits hr (by omega)
          have hadd : addsP (s.2.1 ++ [(e.1, -1)]) (onceOf B) = (addL e.1 (-1) (addsP s.2.1 (onceOf B))).1 := by rw [addsP_append]; rfl
          simp only [if_neg hz, if_pos hn]
          refine ⟨addL_good _ _ _ h.good, fun x => ?_, h.ok.append ⟨hok, trivial⟩, ?_, fun x => ?_⟩
          · show 0 ≤ manyL x (addL e.1 e.2 s.1).1
            rw [hmany]
            split
            · omega
            · exact h.pos x
          · show Good (addsP (s.2.1 ++ [(e.1, -1)]) (onceOf B))
            rw [hadd]
            exact addL_good _ _ _ h.goodA
          · show manyL x (addsP (s.2.1 ++ [(e.1, -1)]) (onceOf B)) = if 0 < manyL x (addL e.1 e.2 s.1).1 then 1 else 0
            rw [hadd, addL_okp h.goodA hok, hmany]
            by_cases hx : cmpR e.1 x = 0
            · rw [if_pos hx, if_pos hx, hone, if_neg (by omega)]
              rfl
            · rw [if_neg hx, if_neg hx]
              exact h.many x
        · simp only [if_neg hz, if_neg hn, List.append_nil]
          refine ⟨addL_good _ _ _ h.good, fun x => ?_, h.ok, h.goodA, fun x => ?_⟩
          · show 0 ≤ manyL x (addL e.1 e.2 s.1).1
            rw [hmany]
            split
            · omega
            · exact h.pos x
          · show manyL x (addsP s.2.1 (onceOf B)) = if 0 < manyL x (addL e.1 e.2 s.1).1 then 1 else 0
            rw [hmany]
            by_cases hx : cmpR e.1 x = 0
            · rw [if_pos hx, if_pos (by omega), ← hone]
              exact (manyL_same hx _).symm
            · rw [if_neg hx]
              exact h.many x
    · rw [if_neg ha] at hk
      exact absurd hk ha

theorem once_fold {B : List En} : ∀ (N : List En) (s : List En × List En × Int), Good N → (∀ e ∈ N, manyL e.1 s.1 = manyL e.1 B) → InvP B s → s.2.2 = 0 → (N.foldl (onceStep B) s).2.2 = 0 →
    InvP B (N.foldl (onceStep B) s) ∧ (N.foldl (onceStep B) s).2.1 = s.2.1 ++ N.flatMap (tellP B) ∧ ∀ x, manyL x (N.foldl (onceStep B) s).1 = manyL x s.1 + sumF x N
  | [], s, _, _, h, _, _ => ⟨h, by simp, fun x => by show _ = _ + (0 : Int); simp⟩
  | e :: N, s, hN, hm, h, h0, hk => by
    obtain ⟨hNe, hNr⟩ := hN.2 e (by simp) |> fun h => (⟨h.1, h.2.2⟩ : ¬ e.2 = 0 ∧ rightR e.1 = true)
    rw [List.foldl_cons] at hk ⊢
    have hs0 : (onceStep B s e).2.2 = 0 := Classical.byContradiction fun hne => by
      rw [once_fold_err B N _ hne] at hk
      exact hne hk
    obtain ⟨h1, h2, h3⟩ := once_step h e hNr hNe (hm e (by simp)) h0 hs0
    have hapart : ∀ f ∈ N, ¬ cmpR e.1 f.1 = 0 := fun f hf => by
      have := hN.1.1 f hf
      omega
    obtain ⟨g1, g2, g3⟩ := once_fold N (onceStep B s e) hN.tail (fun f hf => by rw [h3, if_neg (hapart f hf)]; exact hm f (by simp [hf])) h1 hs0 hk
    refine ⟨g1, ?_, fun x => ?_⟩
    · rw [g2, h2, List.flatMap_cons, List.append_assoc]
    · rw [g3, h3]
      show _ = manyL x s.1 + ((if cmpR e.1 x = 0 then e.2 else 0) + sumF x N)
      by_cases hx : cmpR e.1 x = 0
      · rw [if_pos hx, if_pos hx, ← hm e (by simp), manyL_same hx]
        omega
      · rw [if_neg hx, if_neg hx]
        omega

theorem onceOf_good {B : List En} (h : Pos B) : Good (onceOf B) ∧ ∀ x, manyL x (onceOf B) = if 0 < manyL x B then 1 else 0 := by
  obtain ⟨⟨ho, hg⟩, hp⟩ := h
  have key : ∀ (l : List En), Ord l → (∀ e ∈ l, ¬ e.2 = 0 ∧ fewN e.2 = true ∧ rightR e.1 = true) → (∀ e ∈ l, 0 < e.2) → Good (onceOf l) ∧ ∀ x, manyL x (onceOf l) = if 0 < manyL x l then 1 else 0 := by
    intro l
    induction l with
    | nil => exact fun _ _ _ => ⟨Good.nil, fun x => rfl⟩
    | cons e l ih =>
      intro h1 h2 h3
      obtain ⟨i1, i2⟩ := ih h1.2 (fun f hf => h2 f (by simp [hf])) (fun f hf => h3 f (by simp [hf]))
      refine ⟨⟨⟨fun f hf => ?_, i1.1⟩, fun f hf => ?_⟩, fun x => ?_⟩
      · obtain ⟨g, hg1, rfl⟩ := List.mem_map.1 hf
        exact h1.1 g hg1
      · rcases List.mem_cons.1 hf with rfl | hf
        · exact ⟨by show ¬ (1 : Int) = 0; decide, by show fewN 1 = true; decide, (h2 e (by simp)).2.2⟩
        · exact i1.2 f hf
      · show manyL x ((e.1, 1) :: onceOf l) = _
        rw [manyL_cons, manyL_cons]
        by_cases ha : cmpR e.1 x < 0
        · rw [if_pos ha, if_pos ha]
          exact i2 x
        · rw [if_neg ha, if_neg ha]
          by_cases hb : cmpR e.1 x = 0
          · rw [if_pos hb, if_pos hb, if_pos (h3 e (by simp))]
          · rw [if_neg hb, if_neg hb]
            rfl
  refine key B ho hg fun e he => ?_
  have h1 := hp e.1
  rw [manyL_in B ho e he] at h1
  have := (hg e he).1
  omega

theorem invP_nil {B : List En} (h : Pos B) : InvP B (B, [], 0) := ⟨h.1, h.2, trivial, (onceOf_good h).1, (onceOf_good h).2⟩

/-- The net of a list in order is the list. -/
theorem ofL_self (M : List En) (hM : Good M) : ofL M = (M, 0) := by
  have key : ∀ (N pre : List En), Good (pre ++ N) → N.foldl ofStep (pre, 0) = (pre ++ N, 0) := by
    intro N
    induction N with
    | nil => intro pre _; simp
    | cons e N ih =>
      intro pre hp
      have hpre : Good pre := ⟨((ord_append _ _).1 hp.1).1, fun f hf => hp.2 f (by simp [hf])⟩
      have hpe : Good (pre ++ [e]) := by
        have h2 : pre ++ e :: N = (pre ++ [e]) ++ N := by simp
        rw [h2] at hp
        exact ⟨((ord_append _ _).1 hp.1).1, fun f hf => hp.2 f (List.mem_append_left _ hf)⟩
      obtain ⟨hne, hfew, hrt⟩ := hp.2 e (by simp)
      have hz : manyL e.1 pre = 0 := by
        rw [manyL_sump e.1 pre hpre.1]
        refine sumF_none e.1 pre fun f hf => ?_
        have := ((ord_append _ _).1 hp.1).2.2 f hf e (by simp)
        omega
      have hfw := (fewN_iff _).1 hfew
      have hok : (addL e.1 e.2 pre).2 = 0 := addL_fits hrt (by omega)
      have h1 : addL e.1 e.2 pre = (pre ++ [e], 0) := by
        refine Prod.ext (goodp_ext (addL_good _ _ _ hpre) hpe fun x => ?_) hok
        rw [addL_okp hpre hok, manyL_sump x (pre ++ [e]) hpe.1, sumF_append, ← manyL_sump x pre hpre.1]
        show _ = _ + ((if cmpR e.1 x = 0 then e.2 else 0) + 0)
        by_cases hx : cmpR e.1 x = 0
        · rw [if_pos hx, if_pos hx, manyL_same hx]
          omega
        · rw [if_neg hx, if_neg hx]
          omega
      rw [List.foldl_cons, show ofStep (pre, 0) e = (pre ++ [e], 0) from h1, ih (pre ++ [e]) (by simpa using hp)]
      simp
  exact key M [] hM

/-! ### what comes, and goes again -/
def backP (N : List En) : List En := N.map fun e => (e.1, -e.2)
theorem backP_good {N : List En} (h : Good N) : Good (backP N) := by
  obtain ⟨ho, hg⟩ := h
  have key : ∀ (l : List En), Ord l → Ord (backP l) := by
    intro l
    induction l with
    | nil => exact fun h => h
    | cons e l ih =>
      rintro ⟨h1, h2⟩
      refine ⟨fun f hf => ?_, ih h2⟩
      obtain ⟨g, hg1, rfl⟩ := List.mem_map.1 hf
      exact h1 g hg1
  refine ⟨key N ho, fun f hf => ?_⟩
  obtain ⟨e, he, rfl⟩ := List.mem_map.1 hf
  obtain ⟨h1, h2, h3⟩ := hg e he
  have h4 := (fewN_iff _).1 h2
  exact ⟨by show ¬ -e.2 = 0; omega, (fewN_iff _).2 (by show -1073741824 ≤ -e.2 ∧ -e.2 ≤ 1073741824; omega), h3⟩

theorem once_fits (B : List En) : ∀ (N : List En) (s : List En × List En × Int), Good N → Good s.1 → (∀ e ∈ N, manyL e.1 s.1 = manyL e.1 B) → (∀ e ∈ N, 0 ≤ manyL e.1 B + e.2 ∧ manyL e.1 B + e.2 ≤ 1073741824) → s.2.2 = 0 → (N.foldl (onceStep B) s).2.2 = 0
  | [], _, _, _, _, _, h => h
  | e :: N, s, hN, hs, hm, hf, h0 => by
    have hr := (hN.2 e (by simp)).2.2
    have hfe := hf e (by simp)
    have hme := hm e (by simp)
    have hok : (addL e.1 e.2 s.1).2 = 0 := addL_fits hr (by rw [hme]; omega)
    have hst : onceStep B s e = ((addL e.1 e.2 s.1).1, s.2.1 ++ tellP B e, 0) := by
      unfold onceStep
      rw [if_pos h0, if_neg (by omega), if_pos hok]
    rw [List.foldl_cons, hst]
    refine once_fits B N _ hN.tail (addL_good _ _ _ hs) (fun f hf2 => ?_) (fun f hf2 => hf f (by simp [hf2])) rfl
    have := hN.1.1 f hf2
    show manyL f.1 (addL e.1 e.2 s.1).1 = _
    rw [addL_okp hs hok, if_neg (by omega)]
    exact hm f (by simp [hf2])

theorem told_len (B C : List En) : ∀ (N : List En), (∀ e ∈ N, ¬ e.2 = 0 ∧ manyL e.1 C = manyL e.1 B + e.2) → ((backP N).flatMap (tellP C)).length = (N.flatMap (tellP B)).length
  | [], _ => rfl
  | e :: N, h => by
    have ih := told_len B C N fun f hf => h f (by simp [hf])
    obtain ⟨h1, h2⟩ := h e (by simp)
    show ((tellP C (e.1, -e.2)) ++ (backP N).flatMap (tellP C)).length = (tellP B e ++ N.flatMap (tellP B)).length
    rw [List.length_append, List.length_append, ih]
    congr 1
    unfold tellP
    show (if manyL e.1 C = 0 then [(e.1, (1 : Int))] else if manyL e.1 C + -e.2 = 0 then [(e.1, -1)] else []).length = _
    by_cases a : manyL e.1 B = 0
    · rw [if_pos a, if_neg (by omega), if_pos (by omega)]
      rfl
    · rw [if_neg a]
      by_cases b : manyL e.1 B + e.2 = 0
      · rw [if_pos b, if_pos (by omega)]
        rfl
      · rw [if_neg b, if_neg (by omega), if_neg (by omega)]

theorem onceF_facts {B N : List En} (hB : Pos B) (hN : Good N) (h : (onceF B N).2.2 = 0) : InvP B (onceF B N) ∧ (onceF B N).2.1 = N.flatMap (tellP B) ∧ ∀ x, manyL x (onceF B N).1 = manyL x B + sumF x N :=
  once_fold N (B, [], 0) hN (fun _ _ => rfl) (invP_nil hB) rfl h

theorem once_back {B N : List En} (hB : Pos B) (hN : Good N) (h : (onceF B N).2.2 = 0) (hlen : B.length ≤ 1500) :
    (onceL (onceF B N).1 (backP N)).1 = B ∧ (onceL (onceF B N).1 (backP N)).2.2 = 0 ∧ (onceL (onceF B N).1 (backP N)).2.1.length = (onceF B N).2.1.length := by
  obtain ⟨i1, i2, i3⟩ := onceF_facts hB hN h
  have hbk := backP_good hN
  have hof := ofL_self _ hbk
  have hC : Pos (onceF B N).1 := ⟨i1.good, i1.pos⟩
  have hsum : ∀ e ∈ N, manyL e.1 (onceF B N).1 = manyL e.1 B + e.2 := fun e he => by rw [i3, sumF_in N hN.1 e he]
  have hfit : (onceF (onceF B N).1 (backP N)).2.2 = 0 := by
    refine once_fits _ _ _ hbk i1.good (fun _ _ => rfl) (fun f hf => ?_) rfl
    obtain ⟨e, he, rfl⟩ := List.mem_map.1 hf
    show 0 ≤ manyL e.1 (onceF B N).1 + -e.2 ∧ manyL e.1 (onceF B N).1 + -e.2 ≤ 1073741824
    rw [hsum e he]
    have h1 := hB.2 e.1
    have h2 := hB.1.many e.1
    omega
  obtain ⟨j1, j2, j3⟩ := onceF_facts hC hbk hfit
  have hneg : ∀ (x : List V) (l : List En), sumF x (backP l) = - sumF x l := by
    intro x l
    induction l with
    | nil => rfl
    | cons e l ih =>
      show (if cmpR e.1 x = 0 then -e.2 else 0) + sumF x (backP l) = -((if cmpR e.1 x = 0 then e.2 else 0) + sumF x l)
      rw [ih]
      split <;> omega
  have hEq : (onceF (onceF B N).1 (backP N)).1 = B := goodp_ext j1.good hB.1 fun x => by
    rw [j3, i3, hneg]
    omega
  have hL : onceL (onceF B N).1 (backP N) = onceF (onceF B N).1 (backP N) := by
    unfold onceL
    rw [hof, if_pos rfl, if_pos hfit, if_neg (by rw [hEq]; omega)]
  rw [hL]
  refine ⟨hEq, hfit, ?_⟩
  rw [j2, i2]
  exact told_len B (onceF B N).1 N fun e he => ⟨(hN.2 e he).1, hsum e he⟩

/-- What a call of Apply keeps. -/
theorem onceL_pos {B es : List En} (hB : Pos B) (hg : Good (ofL es).1) : Pos (onceL B es).1 := by
  unfold onceL
  split
  · split
    · split
      · exact hB
      · next h _ => exact ⟨(onceF_facts hB hg h).1.good, (onceF_facts hB hg h).1.pos⟩
    · exact hB
  · exact hB
theorem onceL_len {B es : List En} (hl : B.length ≤ 1500) : (onceL B es).1.length ≤ 1500 := by
  unfold onceL
  split
  · split
    · split
      · exact hl
      · next h => exact Nat.le_of_not_lt h
    · exact hl
  · exact hl
theorem ofL_good : ∀ (es : List En), Good (ofL es).1 := by
  have key : ∀ (es : List En) (s : List En × Int), Good s.1 → Good (es.foldl ofStep s).1 := by
    intro es
    induction es with
    | nil => exact fun _ h => h
    | cons e es ih =>
      intro s h
      refine ih _ ?_
      unfold ofStep
      split
      · exact addL_good _ _ _ h
      · exact h
  exact fun es => key es _ Good.nil
/-- What is told can be added to what was told, and makes what is told now. -/
theorem onceL_told {B es : List En} (hB : Pos B) : AddsOk (onceL B es).2.1 (onceOf B) ∧ addsP (onceL B es).2.1 (onceOf B) = onceOf (onceL B es).1 := by
  have none : AddsOk [] (onceOf B) ∧ addsP [] (onceOf B) = onceOf B := ⟨trivial, rfl⟩
  unfold onceL
  split
  · split
    · next h =>
      split
      · exact none
      · obtain ⟨i1, _, _⟩ := onceF_facts hB (ofL_good es) h
        refine ⟨i1.ok, goodp_ext i1.goodA (onceOf_good ⟨i1.good, i1.pos⟩).1 fun x => ?_⟩
        rw [i1.many, (onceOf_good ⟨i1.good, i1.pos⟩).2]
    · exact none
  · exact none
theorem onceL_outlen (B es : List En) : (onceL B es).2.1.length ≤ es.length := by
  have key : ∀ (N : List En) (s : List En × List En × Int), (N.foldl (onceStep B) s).2.1.length ≤ s.2.1.length + N.length := by
    intro N
    induction N with
    | nil => exact fun _ => Nat.le_refl _
    | cons e N ih =>
      intro s
      have h1 := ih (onceStep B s e)
      have h2 : (onceStep B s e).2.1.length ≤ s.2.1.length + 1 := by
        unfold onceStep
        split
        · split
          · exact Nat.le_succ _
          · split
            · show (s.2.1 ++ tellP B e).length ≤ _
              rw [List.length_append]
              unfold tellP
              split
              · exact Nat.le_refl _
              · split
                · exact Nat.le_refl _
                · exact Nat.le_succ _
            · exact Nat.le_succ _
        · exact Nat.le_succ _
      rw [List.foldl_cons, List.length_cons]
      omega
  have hlen : (ofL es).1.length ≤ es.length := of_len es
  unfold onceL
  split
  · split
    · split
      · exact Nat.zero_le _
      · have h := key (ofL es).1 (B, [], 0)
        simp only [List.length_nil] at h
        unfold onceF
        omega
    · exact Nat.zero_le _
  · exact Nat.zero_le _
theorem onceL_err {B es : List En} (h : ¬ (onceL B es).2.2 = 0) : (onceL B es).1 = B ∧ (onceL B es).2.1 = [] := by
  unfold onceL at h ⊢
  split
  · next h1 =>
    rw [if_pos h1] at h
    split
    · next h2 =>
      rw [if_pos h2] at h
      split
      · exact ⟨rfl, rfl⟩
      · next h3 =>
        rw [if_neg h3] at h
        exact absurd h2 h
    · exact ⟨rfl, rfl⟩
  · exact ⟨rfl, rfl⟩
theorem onceL_ok {B es : List En} (h : (onceL B es).2.2 = 0) : (ofL es).2 = 0 ∧ (onceF B (ofL es).1).2.2 = 0 ∧ onceL B es = onceF B (ofL es).1 := by
  unfold onceL at h ⊢
  split
  · next h1 =>
    rw [if_pos h1] at h
    split
    · next h2 =>
      rw [if_pos h2] at h
      split
      · next h3 =>
        rw [if_pos h3] at h
        simp at h
      · exact ⟨h1, h2, rfl⟩
    · next h2 =>
      rw [if_neg h2] at h
      exact absurd h h2
  · next h1 =>
    rw [if_neg h1] at h
    exact absurd h h1
end Go.Proofs.Ytpliofhphijdkaa
