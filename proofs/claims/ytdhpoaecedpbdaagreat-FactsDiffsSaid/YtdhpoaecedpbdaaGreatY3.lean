/-
  What comes of a row in a list of entries: a sum.
  No Go in it.
  Two rows that can be, and are the same, are one row; so two bags in which each row is as often are one list.
  No Go in it.
  Pure: what changes between two lists of rows in order, by a bag and by definition; the rows ahead, with all changes, are those behind.
  No Go in it.
  has of the document's layer 10: whether a row is one of some; same of verdererlaw10, at the same changes.
  At lists of at most 1000 rows that can be; of at most 100000 changes.
-/
import Derived.Test.YtdhpoaecedpbdaaGreatY1
import Derived.Test.YtdhpoaecedpbdaaGreatZ3
import Derived.Test.YtdhpoaecedpbdaaGreatZ43
import Derived.Test.YtdhpoaecedpbdaaGreatZ48
import Derived.Test.YtdhpoaecedpbdaaGreatZ8
namespace Go.Proofs.YtdhpoaecedpbdaaGreat
section
open Go.RowKit

/-- What comes of row x. -/
def sumF (x : List V) : List En → Int
  | [] => 0
  | e :: l => (if cmpR e.1 x = 0 then e.2 else 0) + sumF x l
theorem sumF_append (x : List V) : ∀ a b : List En, sumF x (a ++ b) = sumF x a + sumF x b
  | [], b => by simp [sumF]
  | e :: a, b => by
    rw [List.cons_append]
    show _ + sumF x (a ++ b) = _ + sumF x a + sumF x b
    rw [sumF_append x a b]
    omega
theorem sumF_reverse (x : List V) : ∀ l : List En, sumF x l.reverse = sumF x l
  | [] => rfl
  | e :: l => by
    rw [List.reverse_cons, sumF_append, sumF_reverse x l]
    show _ + ((if cmpR e.1 x = 0 then e.2 else 0) + 0) = (if cmpR e.1 x = 0 then e.2 else 0) + sumF x l
    omega
theorem sumF_none (x : List V) : ∀ l : List En, (∀ e ∈ l, ¬ cmpR e.1 x = 0) → sumF x l = 0
  | [], _ => rfl
  | e :: l, h => by
    show (if cmpR e.1 x = 0 then e.2 else 0) + sumF x l = 0
    rw [if_neg (h e (by simp)), sumF_none x l fun f hf => h f (by simp [hf])]
    rfl
theorem sumF_in : ∀ (l : List En), Ord l → ∀ e ∈ l, sumF e.1 l = e.2
  | [], _, e, he => by cases he
  | a :: l, h, e, he => by
    obtain ⟨h1, h2⟩ := h
    show (if cmpR a.1 e.1 = 0 then a.2 else 0) + sumF e.1 l = e.2
    rcases List.mem_cons.1 he with rfl | he
    · rw [if_pos (cmpR_ordered.self e.1), sumF_none e.1 l fun f hf => by
        have := h1 f hf
        have := cmpR_flip (a := e.1) (b := f.1)
        omega]
      omega
    · have := h1 e he
      rw [if_neg (by omega), sumF_in l h2 e he]
      omega

theorem manyL_same {x y : List V} (h : cmpR x y = 0) : ∀ l : List En, manyL x l = manyL y l
  | [] => rfl
  | e :: l => by
    have h1 := cmpR_zero h e.1
    have f1 := cmpR_flip (a := x) (b := e.1)
    have f2 := cmpR_flip (a := y) (b := e.1)
    have h2 : cmpR e.1 x = cmpR e.1 y := by omega
    rw [manyL_cons, manyL_cons, h2, manyL_same h l]
end
end Go.Proofs.YtdhpoaecedpbdaaGreat
namespace Go.Proofs.YtdhpoaecedpbdaaGreat
section
open Go.RowKit

theorem cmpB_eq (a b : Bool) (h : cmpB a b = 0) : a = b := by
  cases a <;> cases b <;> first | rfl | (exact absurd h (by decide))
theorem cmpI_eq (a b : Int) (h : cmpI a b = 0) : a = b := by
  unfold cmpI at h
  split at h
  · omega
  · split at h <;> omega
theorem cmpL_eq : ∀ (x y : List UInt8), cmpL x y = 0 → x = y
  | [], [], _ => rfl
  | [], _ :: _, h => by simp [cmpL] at h
  | _ :: _, [], h => by simp [cmpL] at h
  | a :: x, b :: y, h => by
    unfold cmpL at h
    by_cases h1 : a < b
    · rw [if_pos h1] at h
      omega
    · by_cases h2 : b < a
      · rw [if_neg h1, if_pos h2] at h
        omega
      · rw [if_neg h1, if_neg h2] at h
        have e : a = b := by
          apply UInt8.toNat_inj.1
          rw [UInt8.lt_iff_toNat_lt] at h1 h2
          omega
        rw [e, cmpL_eq x y h]
theorem cmpS_eq (a b : ByteArray) (h : cmpS a b = 0) : a = b := by
  rw [cmpS_list] at h
  have := cmpL_eq _ _ h
  obtain ⟨⟨l⟩⟩ := a
  obtain ⟨⟨l'⟩⟩ := b
  have e : l = l' := this
  rw [e]
theorem cmpV_eq (a b : V) (ha : rightV a = true) (hb : rightV b = true) : (cmpV a b == 0) = eqV a b := by
  have key : cmpV a b = 0 → a = b := by
    intro h
    rw [cmpV_kind] at h
    split at h
    · omega
    · split at h
      · omega
      · have e : a.k = b.k := by omega
        obtain ⟨k, f, n, t⟩ := a
        obtain ⟨k', f', n', t'⟩ := b
        obtain rfl : k = k' := e
        have t0 : ∀ s : ByteArray, s.size = 0 → s = ⟨#[]⟩ := by
          intro s hs
          obtain ⟨⟨l⟩⟩ := s
          have : l = [] := by simpa [ByteArray.size] using hs
          rw [this]
        simp only [rightV, Bool.and_eq_true, Bool.or_eq_true, decide_eq_true_eq, beq_iff_eq, Bool.not_eq_true'] at ha hb
        obtain ⟨⟨⟨⟨⟨_, _⟩, f1⟩, n1⟩, s1⟩, _⟩ := ha
        obtain ⟨⟨⟨⟨⟨_, _⟩, f2⟩, n2⟩, s2⟩, _⟩ := hb
        unfold sameKind at h
        by_cases k1 : k = 1
        · subst k1
          rw [if_pos rfl] at h
          have e1 := cmpB_eq _ _ h
          have e2 : n = n' := by omega
          have e3 : t = t' := by rw [t0 t (by omega), t0 t' (by omega)]
          simp only at e1
          rw [e1, e2, e3]
        · have e1 : f = f' := by
            rw [f1.resolve_left k1, f2.resolve_left k1]
          rw [if_neg k1] at h
          by_cases k2 : k = 2
          · rw [if_pos k2] at h
            have e2 := cmpI_eq _ _ h
            have e3 : t = t' := by rw [t0 t (by omega), t0 t' (by omega)]
            simp only at e2
            rw [e1, e2, e3]
          · have e2 : n = n' := by
              rw [n1.resolve_left k2, n2.resolve_left k2]
            rw [if_neg k2] at h
            by_cases k3 : k = 3
            · rw [if_pos k3] at h
              have e3 := cmpS_eq _ _ h
              simp only at e3
              rw [e1, e2, e3]
            · have e3 : t = t' := by rw [t0 t (s1.resolve_left k3), t0 t' (s2.resolve_left k3)]
              rw [e1, e2, e3]
  rcases Bool.eq_false_or_eq_true (eqV a b) with h | h
  · rw [h, (eqV_iff a b).1 h, cmpV_ordered.self]
    rfl
  · rw [h, beq_eq_false_iff_ne]
    intro h0
    rw [(eqV_iff a b).2 (key h0)] at h
    cases h

theorem row_one : ∀ (x y : List V), x.all rightV = true → y.all rightV = true → cmpR x y = 0 → x = y
  | [], [], _, _, _ => rfl
  | [], _ :: _, _, _, h => by simp [cmpR] at h
  | _ :: _, [], _, _, h => by simp [cmpR] at h
  | a :: x, b :: y, hx, hy, h => by
    rw [List.all_cons, Bool.and_eq_true] at hx hy
    unfold cmpR at h
    by_cases h1 : cmpV a b = 0
    · rw [if_pos h1] at h
      have h2 := cmpV_eq a b hx.1 hy.1
      rw [h1] at h2
      have h3 := (eqV_iff a b).1 h2.symm
      rw [h3, row_one x y hx.2 hy.2 h]
    · rw [if_neg h1] at h
      exact absurd h h1
theorem rights_one (x y : List V) (hx : rightR x = true) (hy : rightR y = true) (h : cmpR x y = 0) : x = y := by
  unfold rightR at hx hy
  rw [Bool.and_eq_true] at hx hy
  exact row_one x y hx.2 hy.2 h

theorem Good.tail {e : En} {l : List En} (h : Good (e :: l)) : Good l := ⟨h.1.2, fun f hf => h.2 f (by simp [hf])⟩
theorem sub_len : ∀ (b a : List En), Good a → Good b → (∀ e ∈ a, ¬ manyL e.1 b = 0) → a.length ≤ b.length
  | b, [], _, _, _ => Nat.zero_le _
  | [], e :: a, _, _, h => absurd rfl (h e (by simp))
  | f :: b, e :: a, ha, hb, h => by
    have he := h e (by simp)
    rw [List.length_cons, List.length_cons]
    have hlow : ¬ cmpR e.1 f.1 < 0 := by
      intro hl
      apply he
      refine manyL_above _ _ fun g hg => ?_
      rcases List.mem_cons.1 hg with rfl | hg
      · exact hl
      · exact cmpR_lt3 hl (hb.1.1 g hg)
    have fl := cmpR_flip (a := e.1) (b := f.1)
    have hin : ∀ g ∈ a, ¬ manyL g.1 b = 0 := by
      intro g hg
      have h1 := h g (by simp [hg])
      have h2 := cmpR_le_lt (show cmpR f.1 e.1 ≤ 0 by omega) (ha.1.1 g hg)
      rw [manyL_cons, if_pos h2] at h1
      exact h1
    exact Nat.succ_le_succ (sub_len b a ha.tail hb.tail hin)
theorem one_bag : ∀ (a b : List En), Good a → Good b → a.length = b.length → (∀ e ∈ a, manyL e.1 b = e.2) → a = b
  | [], [], _, _, _, _ => rfl
  | [], _ :: _, _, _, h, _ => by simp at h
  | _ :: _, [], _, _, h, _ => by simp at h
  | e :: a, f :: b, ha, hb, hl, h => by
    have he := h e (by simp)
    have ne := (ha.2 e (by simp)).1
    have hl' : a.length = b.length := by simpa using hl
    have hlow : ¬ cmpR e.1 f.1 < 0 := by
      intro hl
      apply ne
      rw [← he]
      refine manyL_above _ _ fun g hg => ?_
      rcases List.mem_cons.1 hg with rfl | hg
      · exact hl
      · exact cmpR_lt3 hl (hb.1.1 g hg)
    have fl := cmpR_flip (a := e.1) (b := f.1)
    have hz : cmpR e.1 f.1 = 0 := by
      rcases cmpR_rng e.1 f.1 with h1 | h1 | h1
      · omega
      · exact h1
      · have hsub : (e :: a).length ≤ b.length := sub_len b (e :: a) ha hb.tail fun g hg => by
          have hg2 := h g hg
          have hlt : cmpR f.1 g.1 < 0 := by
            rcases List.mem_cons.1 hg with rfl | hg
            · omega
            · exact cmpR_lt3 (show cmpR f.1 e.1 < 0 by omega) (ha.1.1 g hg)
          rw [manyL_cons, if_pos hlt] at hg2
          rw [hg2]
          exact (ha.2 g hg).1
        rw [List.length_cons] at hsub
        omega
    have hr := rights_one e.1 f.1 (ha.2 e (by simp)).2.2 (hb.2 f (by simp)).2.2 hz
    have h2 : manyL e.1 (f :: b) = f.2 := by rw [manyL_same hz, manyL_self]
    have hef : e = f := Prod.ext hr (by omega)
    rw [hef, one_bag a b ha.tail hb.tail hl' fun g hg => by
      have h3 := h g (by simp [hg])
      have h4 := ha.1.1 g hg
      rw [hef] at h4
      rw [manyL_cons, if_pos h4] at h3
      exact h3]
end
end Go.Proofs.YtdhpoaecedpbdaaGreat
namespace Go.Proofs.YtdhpoaecedpbdaaGreat
section
open Go.RowKit

theorem good_ext {a b : List En} (ha : Good a) (hb : Good b) (h : ∀ x, manyL x a = manyL x b) : a = b := by
  have key : ∀ {a b : List En}, Good a → Good b → (∀ x, manyL x a = manyL x b) → a.length ≤ b.length := fun {a b} ha hb h => sub_len b a ha hb fun e he => by
    rw [← h, manyL_in a ha.1 e he]
    exact (ha.2 e he).1
  exact one_bag a b ha hb (Nat.le_antisymm (key ha hb h) (key hb ha fun x => (h x).symm)) fun e he => by rw [← h, manyL_in a ha.1 e he]
/-- Rows in order, each once. -/
def SrtR (xs : List (List V)) : Prop := xs.Pairwise fun a b => cmpR a b < 0
def RightAll (xs : List (List V)) : Prop := ∀ x ∈ xs, rightR x = true
/-- Is a row one of some? -/
def hasR (xs : List (List V)) (y : List V) : Bool := xs.any fun x => cmpR x y == 0
theorem hasR_cons (x : List V) (xs : List (List V)) (y : List V) : hasR (x :: xs) y = ((cmpR x y == 0) || hasR xs y) := rfl
theorem hasR_append (a b : List (List V)) (y : List V) : hasR (a ++ b) y = (hasR a y || hasR b y) := List.any_append
theorem hasR_same {x y : List V} (h : cmpR x y = 0) (a : List (List V)) : hasR a x = hasR a y := by
  unfold hasR
  congr 1
  funext z
  have h1 := cmpR_zero h z
  have f1 := cmpR_flip (a := x) (b := z)
  have f2 := cmpR_flip (a := y) (b := z)
  have : cmpR z x = cmpR z y := by omega
  rw [this]
theorem hasR_mem {xs : List (List V)} {x : List V} (h : x ∈ xs) : hasR xs x = true := by
  unfold hasR
  rw [List.any_eq_true]
  exact ⟨x, h, by simpa using cmpR_ordered.self x⟩
theorem hasR_sort (l : List (List V)) (y : List V) : hasR (sortL l) y = hasR l y := by
  obtain ⟨_, h2, h3, _⟩ := sortL_facts l
  rw [Bool.eq_iff_iff]
  unfold hasR
  simp only [List.any_eq_true, beq_iff_eq]
  constructor
  · rintro ⟨x, hx, h⟩
    exact ⟨x, h2 x hx, h⟩
  · rintro ⟨x, hx, h⟩
    obtain ⟨z, hz, hzx⟩ := h3 x hx
    exact ⟨z, hz, by rw [cmpR_zero hzx]; exact h⟩

/-! ### entries added one behind the other -/
def addE (es : List En) (E : List En) : List En := es.foldl (fun E e => (addL e.1 e.2 E).1) E
theorem addsL_E (m : Int) (xs : List (List V)) (E : List En) : addsL m xs E = addE (xs.map fun x => (x, m)) E := by
  unfold addsL addE
  rw [List.foldl_map]
theorem addE_append (a b : List En) (E : List En) : addE (a ++ b) E = addE b (addE a E) := List.foldl_append
theorem addE_good : ∀ (es : List En) (E : List En), Good E → Good (addE es E)
  | [], _, h => h
  | e :: es, E, h => addE_good es _ (addL_good e.1 e.2 E h)
theorem addE_len : ∀ (es : List En) (E : List En), (addE es E).length ≤ E.length + es.length
  | [], E => Nat.le_refl _
  | e :: es, E => by
    have h1 := addE_len es (addL e.1 e.2 E).1
    have h2 := addL_len e.1 e.2 E
    show (addE es (addL e.1 e.2 E).1).length ≤ E.length + (es.length + 1)
    omega
theorem addL_many (x y : List V) (k : Int) (l : List En) (hl : Good l) (hx : rightR x = true) (hk : -1000000 ≤ manyL x l + k ∧ manyL x l + k ≤ 1000000) : manyL y (addL x k l).1 = manyL y l + if cmpR x y = 0 then k else 0 := by
  unfold addL
  rw [if_neg (by simp [hx]), if_neg (by omega)]
  simp only
  rw [manyL_set x _ y l hl.1]
  split
  · next h => rw [manyL_same h]
  · omega
theorem addE_many : ∀ (es : List En) (E : List En) (M : Nat), Good E → (∀ x, -(M : Int) ≤ manyL x E ∧ manyL x E ≤ M) → (∀ e ∈ es, rightR e.1 = true ∧ -1 ≤ e.2 ∧ e.2 ≤ 1) → M + es.length ≤ 100000 → ∀ y, manyL y (addE es E) = manyL y E + sumF y es
  | [], E, M, _, _, _, _, y => by
    show manyL y E = manyL y E + 0
    omega
  | e :: es, E, M, hE, hM, hes, hl, y => by
    obtain ⟨h1, h2, h3⟩ := hes e (by simp)
    rw [List.length_cons] at hl
    have hme := hM e.1
    have hk : -1000000 ≤ manyL e.1 E + e.2 ∧ manyL e.1 E + e.2 ≤ 1000000 := by omega
    have ih := addE_many es (addL e.1 e.2 E).1 (M + 1) (addL_good e.1 e.2 E hE) (fun x => by
      have hx := hM x
      rw [addL_many e.1 x e.2 E hE h1 hk]
      split <;> omega) (fun f hf => hes f (by simp [hf])) (by omega) y
    show manyL y (addE es (addL e.1 e.2 E).1) = manyL y E + ((if cmpR e.1 y = 0 then e.2 else 0) + sumF y es)
    rw [ih, addL_many e.1 y e.2 E hE h1 hk]
    omega
theorem sumF_picked (p : List V → Bool) (v : List V → Int) (hp : ∀ x y, cmpR x y = 0 → p x = p y ∧ v x = v y) (y : List V) : ∀ (S : List (List V)), SrtR S → sumF y ((S.filter p).map fun x => (x, v x)) = if (hasR S y && p y) = true then v y else 0
  | [], _ => rfl
  | x :: S, h => by
    obtain ⟨h1, h2⟩ := List.pairwise_cons.1 h
    have ih := sumF_picked p v hp y S h2
    rw [List.filter_cons, hasR_cons]
    by_cases hxy : cmpR x y = 0
    · have hno : hasR S y = false := by
        unfold hasR
        rw [List.any_eq_false]
        intro z hz
        have h3 := h1 z hz
        rw [cmpR_zero hxy z] at h3
        have := cmpR_flip (a := y) (b := z)
        simp
        omega
      rw [hno] at ih ⊢
      simp only [Bool.false_and, Bool.false_eq_true, if_false] at ih
      obtain ⟨e1, e2⟩ := hp x y hxy
      rw [e1]
      cases hpy : p y with
      | true =>
        simp only [if_true, List.map_cons]
        show (if cmpR x y = 0 then v x else 0) + sumF y _ = _
        rw [ih, if_pos hxy, e2]
        simp [hxy]
      | false =>
        simp only [Bool.false_eq_true, if_false, Bool.and_false]
        exact ih
    · have hb : (cmpR x y == 0) = false := by simpa using hxy
      rw [hb, Bool.false_or, ← ih]
      split
      · rw [List.map_cons]
        show (if cmpR x y = 0 then v x else 0) + sumF y _ = _
        rw [if_neg hxy]
        omega
      · rfl
theorem sumF_srt (m : Int) {xs : List (List V)} (h : SrtR xs) (y : List V) : sumF y (xs.map fun x => (x, m)) = if hasR xs y = true then m else 0 := by
  have h1 := sumF_picked (fun _ => true) (fun _ => m) (fun _ _ _ => ⟨rfl, rfl⟩) y xs h
  rw [List.filter_eq_self.2 (fun _ _ => rfl)] at h1
  rw [h1, Bool.and_true]
theorem manyL_sum (y : List V) : ∀ (l : List En), Ord l → manyL y l = sumF y l
  | [], _ => rfl
  | e :: l, h => by
    have ih := manyL_sum y l h.2
    show _ = (if cmpR e.1 y = 0 then e.2 else 0) + sumF y l
    rw [manyL_cons]
    by_cases h1 : cmpR e.1 y < 0
    · rw [if_pos h1, if_neg (by omega), ih]
      omega
    · rw [if_neg h1]
      have hno : sumF y l = 0 := sumF_none y l fun f hf => by
        have h3 := h.1 f hf
        have h4 := cmpR_flip (a := e.1) (b := y)
        have h5 := cmpR_le_lt (a := y) (b := e.1) (c := f.1) (by omega) h3
        have h6 := cmpR_flip (a := y) (b := f.1)
        omega
      rw [hno]
      omega
theorem srt_good {S : List (List V)} (h : SrtR S) (hr : RightAll S) (v : List V → Int) (hv : ∀ x ∈ S, v x = 1 ∨ v x = -1) : Good (S.map fun x => (x, v x)) := by
  refine ⟨?_, ?_⟩
  · induction S with
    | nil => trivial
    | cons x S ih =>
      obtain ⟨h1, h2⟩ := List.pairwise_cons.1 h
      refine ⟨fun f hf => ?_, ih h2 (fun z hz => hr z (by simp [hz])) (fun z hz => hv z (by simp [hz]))⟩
      obtain ⟨z, hz, rfl⟩ := List.mem_map.1 hf
      exact h1 z hz
  · intro e he
    obtain ⟨z, hz, rfl⟩ := List.mem_map.1 he
    refine ⟨?_, ?_, hr z hz⟩
    · rcases hv z hz with h | h <;> simp [h]
    · rw [fewN_iff]
      rcases hv z hz with h | h <;> simp [h]

/-! ### the net of two lists -/
theorem netL_many {a b : List (List V)} (ha : SrtR a) (hb : SrtR b) (ra : RightAll a) (rb : RightAll b) (la : a.length ≤ 1000) (lb : b.length ≤ 1000) (y : List V) : manyL y (netL a b) = (if hasR b y = true then 1 else 0) - (if hasR a y = true then 1 else 0) := by
  unfold netL
  rw [addsL_E, addsL_E, ← addE_append, addE_many _ [] 0 Good.nil (fun x => ⟨by simp [manyL], by simp [manyL]⟩) ?_ ?_ y, sumF_append, sumF_srt _ ha, sumF_srt _ hb]
  · show (0 : Int) + _ = _
    split <;> split <;> omega
  · intro e he
    rcases List.mem_append.1 he with he | he
    · obtain ⟨z, hz, rfl⟩ := List.mem_map.1 he
      exact ⟨ra z hz, by simp, by simp⟩
    · obtain ⟨z, hz, rfl⟩ := List.mem_map.1 he
      exact ⟨rb z hz, by simp, by simp⟩
  · rw [List.length_append, List.length_map, List.length_map]
    omega
/-- What is in one of the lists alone, by definition. -/
def dL (a b : List (List V)) : List En := ((sortL (a ++ b)).filter fun x => hasR a x != hasR b x).map fun x => (x, if hasR a x = true then -1 else 1)
theorem dL_good {a b : List (List V)} (ra : RightAll a) (rb : RightAll b) : Good (dL a b) := by
  obtain ⟨h1, h2, _, _⟩ := sortL_facts (a ++ b)
  refine srt_good (List.Pairwise.filter _ h1) (fun x hx => ?_) _ (fun x _ => ?_)
  · rcases List.mem_append.1 (h2 x (List.mem_filter.1 hx).1) with h | h
    · exact ra x h
    · exact rb x h
  · split
    · exact .inr rfl
    · exact .inl rfl
theorem netL_dL {a b : List (List V)} (ha : SrtR a) (hb : SrtR b) (ra : RightAll a) (rb : RightAll b) (la : a.length ≤ 1000) (lb : b.length ≤ 1000) : netL a b = dL a b := by
  refine good_ext (netL_good a b) (dL_good ra rb) fun y => ?_
  rw [netL_many ha hb ra rb la lb, manyL_sum y _ (dL_good ra rb).1]
  unfold dL
  rw [sumF_picked (fun x => hasR a x != hasR b x) (fun x => if hasR a x = true then -1 else 1) (fun x z h => by simp only [hasR_same h, and_self]) y _ (sortL_facts (a ++ b)).1, hasR_sort, hasR_append]
  cases hasR a y <;> cases hasR b y <;> rfl

/-! ### the document's list of changes -/
theorem hasX_dd (l : List ByteArray) : ∀ (pre : List ByteArray) (s : ByteArray), hasX s (ddL (pre ++ l)) = (hasX s (ddL pre) || hasX s l) := by
  induction l with
  | nil => intro pre s; rw [List.append_nil]; simp [hasX]
  | cons x l ih =>
    intro pre s
    rw [show pre ++ x :: l = (pre ++ [x]) ++ l by simp, ih, ddL_snoc]
    have e : hasX s (x :: l) = ((x.toList == s.toList) || hasX s l) := rfl
    rw [e]
    split
    · next h =>
      by_cases hx : x = s
      · subst hx
        rw [h]
        simp
      · rw [toListB, decide_eq_false hx, Bool.false_or]
    · rw [hasX_snoc, Bool.or_assoc]
theorem hasX_ddL (l : List ByteArray) (s : ByteArray) : hasX s (ddL l) = hasX s l := by
  have h := hasX_dd l [] s
  rw [List.nil_append] at h
  rw [h]
  rfl
theorem hasX_memF {l : List ByteArray} {s : ByteArray} : hasX s l = true ↔ s ∈ l := by
  unfold hasX
  rw [List.any_eq_true]
  constructor
  · rintro ⟨x, hx, h⟩
    rw [toListB, decide_eq_true_eq] at h
    rw [← h]
    exact hx
  · intro h
    exact ⟨s, h, by simp⟩
theorem ddL_nodup (l : List ByteArray) : ∀ k, (ddL (l.take k)).Nodup
  | 0 => by simp [ddL]
  | k + 1 => by
    have ih := ddL_nodup l k
    cases h : l[k]? with
    | none => rw [List.take_add_one, h]; simpa using ih
    | some s =>
      rw [ddL_take l k s h]
      split
      · exact ih
      · next hn =>
        rw [List.nodup_append]
        refine ⟨ih, by simp, fun x hx y hy => ?_⟩
        rw [List.mem_singleton.1 hy]
        intro e
        exact hn (hasX_memF.2 (e ▸ hx))

/-! ### the rows ahead, with all changes -/
def addC (r : ByteArray) (cs : List Ch) (E : List En) : List En := cs.foldl (fun E c => if c.1 = r then (addL c.2.1 c.2.2 E).1 else E) E
theorem addC_append (r : ByteArray) (a b : List Ch) (E : List En) : addC r (a ++ b) E = addC r b (addC r a E) := List.foldl_append
theorem addC_take (r : ByteArray) (cs : List Ch) (k : Nat) (c : Ch) (h : cs[k]? = some c) (E : List En) : addC r (cs.take (k + 1)) E = if c.1 = r then (addL c.2.1 c.2.2 (addC r (cs.take k) E)).1 else addC r (cs.take k) E := by
  rw [List.take_add_one, h, addC_append]
  rfl
theorem addC_good (r : ByteArray) : ∀ (cs : List Ch) (E : List En), Good E → Good (addC r cs E)
  | [], _, h => h
  | c :: cs, E, h => by
    show Good (addC r cs (if c.1 = r then (addL c.2.1 c.2.2 E).1 else E))
    refine addC_good r cs _ ?_
    split
    · exact addL_good _ _ _ h
    · exact h
theorem addC_len (r : ByteArray) : ∀ (cs : List Ch) (E : List En), (addC r cs E).length ≤ E.length + cs.length
  | [], E => Nat.le_refl _
  | c :: cs, E => by
    have h1 := addC_len r cs (if c.1 = r then (addL c.2.1 c.2.2 E).1 else E)
    have h2 := addL_len c.2.1 c.2.2 E
    show (addC r cs (if c.1 = r then (addL c.2.1 c.2.2 E).1 else E)).length ≤ E.length + (cs.length + 1)
    split at h1 <;> rename_i h3
    · rw [if_pos h3]; omega
    · rw [if_neg h3]; omega
theorem addC_other (r s : ByteArray) (h : s ≠ r) : ∀ (es : List En) (E : List En), addC r (es.map fun e => (s, e)) E = E
  | [], _ => rfl
  | e :: es, E => by
    show addC r (es.map fun e => (s, e)) (if s = r then _ else E) = E
    rw [if_neg h]
    exact addC_other r s h es E
theorem addC_own (r : ByteArray) : ∀ (es : List En) (E : List En), addC r (es.map fun e => (r, e)) E = addE es E
  | [], _ => rfl
  | e :: es, E => by
    show addC r (es.map fun e => (r, e)) (if r = r then _ else E) = addE es (addL e.1 e.2 E).1
    rw [if_pos rfl]
    exact addC_own r es _
theorem addC_flat (R1 R2 : ByteArray → List (List V)) (r : ByteArray) : ∀ (l : List ByteArray) (E : List En), l.Nodup → addC r (l.flatMap (chgOf R1 R2)) E = if hasX r l = true then addE (netL (R1 r) (R2 r)) E else E
  | [], E, _ => rfl
  | s :: l, E, h => by
    obtain ⟨h1, h2⟩ := List.nodup_cons.1 h
    rw [List.flatMap_cons, addC_append, addC_flat R1 R2 r l _ h2]
    unfold chgOf
    have e : hasX r (s :: l) = ((s.toList == r.toList) || hasX r l) := rfl
    rw [e, toListB]
    by_cases hs : s = r
    · subst hs
      have h3 : hasX s l = false := by
        rw [← Bool.not_eq_true, hasX_memF]
        exact h1
      rw [addC_own, h3]
      simp
    · rw [addC_other r s hs, decide_eq_false hs, Bool.false_or]
theorem chgs_all (R1 R2 : ByteArray → List (List V)) (rels : List ByteArray) (r : ByteArray) (hr : r ∈ rels) (E : List En) : addC r (chgs R1 R2 rels) E = addE (netL (R1 r) (R2 r)) E := by
  unfold chgs
  have hn := ddL_nodup rels rels.length
  rw [List.take_length] at hn
  rw [addC_flat R1 R2 r _ E hn, if_pos]
  rw [hasX_ddL, hasX_memF]
  exact hr
/-- All rows that are there, each once. -/
def onesL (b : List (List V)) : List En := b.map fun x => (x, 1)
theorem onesL_good {b : List (List V)} (hb : SrtR b) (rb : RightAll b) : Good (onesL b) := srt_good hb rb (fun _ => 1) (fun _ _ => .inl rfl)
theorem behind_all {a b : List (List V)} (ha : SrtR a) (hb : SrtR b) (ra : RightAll a) (rb : RightAll b) (la : a.length ≤ 1000) (lb : b.length ≤ 1000) : addE (netL a b) (addsL 1 a []) = onesL b := by
  have hnl := netL_len a b
  have hng := netL_good a b
  have hnm : ∀ e ∈ netL a b, rightR e.1 = true ∧ -1 ≤ e.2 ∧ e.2 ≤ 1 := by
    intro e he
    have h1 := manyL_in _ hng.1 e he
    rw [netL_many ha hb ra rb la lb] at h1
    refine ⟨(hng.2 e he).2.2, ?_, ?_⟩ <;> rw [← h1] <;> split <;> split <;> omega
  refine good_ext (addE_good _ _ (addsL_good _ _ _ Good.nil)) (onesL_good hb rb) fun y => ?_
  rw [addsL_E, ← addE_append, addE_many _ [] 0 Good.nil (fun x => ⟨by simp [manyL], by simp [manyL]⟩) ?_ ?_ y, sumF_append, sumF_srt _ ha, ← manyL_sum y _ hng.1, netL_many ha hb ra rb la lb, manyL_sum y _ (onesL_good hb rb).1]
  · unfold onesL
    rw [sumF_srt _ hb]
    show (0 : Int) + _ = _
    split <;> split <;> omega
  · intro e he
    rcases List.mem_append.1 he with he | he
    · obtain ⟨z, hz, rfl⟩ := List.mem_map.1 he
      exact ⟨ra z hz, by simp, by simp⟩
    · exact hnm e he
  · rw [List.length_append, List.length_map]
    omega
theorem onesL_many {b : List (List V)} (hb : SrtR b) (rb : RightAll b) {x : List V} (hx : x ∈ b) : manyL x (onesL b) = 1 := by
  have h := manyL_in _ (onesL_good hb rb).1 (x, 1) (List.mem_map.2 ⟨x, hx, rfl⟩)
  exact h
end
end Go.Proofs.YtdhpoaecedpbdaaGreat
namespace Go.Proofs.YtdhpoaecedpbdaaGreat
section
open Go.RowKit

theorem hasR_snoc (xs : List (List V)) (x y : List V) : hasR (xs ++ [x]) y = (hasR xs y || (cmpR x y == 0)) := by
  rw [hasR_append]
  simp [hasR]

set_option maxRecDepth 100000 in
set_option maxHeartbeats 4000000 in
theorem r_has (Q R : Nat → Prop) (A : Option Addr) (n c : Nat) (us : List Value) (xs : List (List V)) (v : Value) (y : List V) (w : World) (hn : us.length = n) (hl : n ≤ 3000) (hA : CellsQ w Q A us) (hx : RwsQ w Q us xs) (hne : Ne xs) (hr : RightAll xs) (hv : IsRow w R v y) :
    Calls Tryz.prog 54 #[.slice A n c, v] w fun e w' => e = .returned (.bool (hasR xs y)) ∧ Below w.heap.size w w' := by
  have HA := Lib.hid hA
  have HX := Lib.hid hx
  have HN := Lib.hid (show n = xs.length by rw [← hn]; exact hx.len)
  have HNE := Lib.hid hne
  have HRI := Lib.hid hr
  have HV := Lib.hid hv
  obtain ⟨_, Av, cv, rfl, _, _⟩ := hv
  clear hA hx hn hne hr
  go_enter Tryz.func54, Tryz.ntmps54
  go_wp2
  go_loopw [5] (fun i wr => ∃ (k : Nat), k ≤ n ∧ i = .int .i64 k ∧ hasR (xs.take k) y = false ∧ Below w.heap.size w wr) (fun i _ => n - (intOf i).toNat)
  case atStart => exact ⟨0, Nat.zero_le _, rfl, rfl, Below.refl _ _⟩
  case round =>
    obtain ⟨k, hk, rfl, hno, hb⟩ := hrel
    have HB := Lib.hid hb
    have HNO := Lib.hid hno
    by_cases hlt : k < n
    · obtain ⟨x, hx⟩ : ∃ x, xs[k]? = some x := ⟨_, List.getElem?_eq_getElem (by rw [← HN.out]; exact hlt)⟩
      obtain ⟨uv, huv, hur⟩ := HX.out.get k x hx
      obtain ⟨a, rfl, hab, hac⟩ := HA.out k uv huv
      have e1 := (hb.cell (p := a.add k) (World.block_lt_of_cell? w _ hac)).trans hac
      obtain ⟨hxl, hxn⟩ := HNE.out x (List.mem_of_getElem? hx)
      have hrow := (hur.below hb).row hxl hxn
      have hxr := HRI.out x (List.mem_of_getElem? hx)
      have HSM := Lib.hid (ref_same_rows _ _ _ _ x y wr (right_fit x hxr) hrow (HV.out.keep (Below.keepQ hb R)))
      have htk : hasR (xs.take (k + 1)) y = (hasR (xs.take k) y || (cmpR x y == 0)) := by
        rw [List.take_add_one, hx]
        exact hasR_snoc _ _ _
      rw [hno, Bool.false_or] at htk
      have hall : (cmpR x y == 0) = true → hasR xs y = true := by
        intro h
        unfold hasR
        rw [List.any_eq_true]
        exact ⟨x, List.mem_of_getElem? hx, h⟩
      have HTK := Lib.hid htk
      have HALL := Lib.hid hall
      obtain ⟨_, A9, c9, rfl, _, _⟩ := hrow
      clear hx huv hur hac hb hno htk hall
      cases hq : (cmpR x y == 0) with
      | true =>
        rw [hq] at HSM HALL
        have HRES := Lib.hid (HALL.out rfl)
        go_wp2_with fail
        refine HSM.out.mono ?_
        rintro e w2 ⟨rfl, hb2⟩
        have HB2 := Lib.hid (HB.out.trans (hb2.mono HB.out.size))
        clear hb2
        go_wp2
        go_ret
        exact ⟨by rw [HRES.out]; rfl, HB2.out⟩
      | false =>
        rw [hq] at HSM HTK
        go_wp2_with fail
        refine HSM.out.mono ?_
        rintro e w2 ⟨rfl, hb2⟩
        have HB2 := Lib.hid (HB.out.trans (hb2.mono HB.out.size))
        clear hb2
        go_wp2
        go_roundw
        case rel => exact ⟨k + 1, by omega, by go_num, HTK.out, HB2.out⟩
        case measure => simp [intOf]; omega
    · obtain rfl : k = n := by omega
      have he : xs.take k = xs := List.take_of_length_le (by have := HN.out; omega)
      rw [he] at hno
      have HNO2 := Lib.hid hno
      clear hno hb
      go_wp2
      go_ret
      exact ⟨by rw [HNO2.out]; rfl, HB.out⟩

set_option maxRecDepth 100000 in
set_option maxHeartbeats 4000000 in
theorem l_same10 (P Q : Nat → Prop) (A B : Option Addr) (n c d : Nat) (cs : List Ch) (w : World) (hn : cs.length = n) (hl : n ≤ 100000) (hA : ChsQ w P A cs) (hB : ChsQ w Q B cs) :
    Calls Tryz.prog 22 #[.slice A n c, .slice B n d] w fun e w' => e = .returned (.bool true) ∧ Below w.heap.size w w' := by
  have HA := Lib.hid hA
  have HB' := Lib.hid hB
  have HN := Lib.hid hn
  clear hA hB hn
  go_enter Tryz.func22, Tryz.ntmps22
  go_wp2
  go_loopw [5] (fun i wr => ∃ (k : Nat), k ≤ n ∧ i = .int .i64 k ∧ Below w.heap.size w wr) (fun i _ => n - (intOf i).toNat)
  case atStart => exact ⟨0, Nat.zero_le _, rfl, Below.refl _ _⟩
  case round =>
    obtain ⟨k, hk, rfl, hb⟩ := hrel
    have HB := Lib.hid hb
    by_cases hlt : k < n
    · obtain ⟨⟨s, x, m⟩, hx⟩ : ∃ x, cs[k]? = some x := ⟨_, List.getElem?_eq_getElem (by rw [HN.out]; exact hlt)⟩
      obtain ⟨a, u, rfl, hrow, hal, q0, q1, q2⟩ := (HA.out.below hb).get k _ hx
      obtain ⟨b, v, rfl, hrow2, hbl, p0, p1, p2⟩ := (HB'.out.below hb).get k _ hx
      obtain ⟨hxl, A9, c9, hu, hr9⟩ := hrow
      obtain ⟨_, B9, d9, hv, hs9⟩ := hrow2
      have hu : u = .slice A9 x.length c9 := hu
      have hv : v = .slice B9 x.length d9 := hv
      subst hu
      subst hv
      dsimp only at q0 q1 q2 p0 p1 p2 hxl
      have HR9 := Lib.hid hr9.at
      have HS9 := Lib.hid hs9.at
      have hce : ∀ W, Below wr.heap.size wr W → (W.cell? (a.add (k * 3)) = some (.string s) ∧ W.cell? { block := (a.add (k * 3)).block, off := (a.add (k * 3)).off + 1 } = some (.slice A9 x.length c9) ∧ W.cell? { block := (a.add (k * 3)).block, off := (a.add (k * 3)).off + 2 } = some (.int .i64 m)) ∧ (W.cell? (b.add (k * 3)) = some (.string s) ∧ W.cell? { block := (b.add (k * 3)).block, off := (b.add (k * 3)).off + 1 } = some (.slice B9 x.length d9) ∧ W.cell? { block := (b.add (k * 3)).block, off := (b.add (k * 3)).off + 2 } = some (.int .i64 m)) := fun W hW =>
        ⟨⟨(hW.cell (p := a.add (k * 3)) hal).trans q0, (hW.cell (p := { block := (a.add (k * 3)).block, off := (a.add (k * 3)).off + 1 }) hal).trans q1, (hW.cell (p := { block := (a.add (k * 3)).block, off := (a.add (k * 3)).off + 2 }) hal).trans q2⟩, ⟨(hW.cell (p := b.add (k * 3)) hbl).trans p0, (hW.cell (p := { block := (b.add (k * 3)).block, off := (b.add (k * 3)).off + 1 }) hbl).trans p1, (hW.cell (p := { block := (b.add (k * 3)).block, off := (b.add (k * 3)).off + 2 }) hbl).trans p2⟩⟩
      have HCE := Lib.hid hce
      have HEQ := Lib.hid (fun W (hW : Below wr.heap.size wr W) => ref_equal A9 B9 x x x.length x.length c9 d9 W rfl rfl (by unfold maxLen; omega) (HR9.out.later hW) (HS9.out.later hW))
      simp only [eqR_self] at HEQ
      have n1 : (m != m) = false := by simp
      have n2 : (s.toList != s.toList) = false := by simp
      have hzw : wr.heap.size ≤ wr.heap.size := Nat.le_refl _
      clear hx hr9 hs9 hb hce
      go_wp2_with fail
      go_region_held3 (fun W : World => W.cell? (a.add (k * 3)) = some (.string s) ∧ W.cell? { block := (a.add (k * 3)).block, off := (a.add (k * 3)).off + 1 } = some (.slice A9 x.length c9) ∧ W.cell? { block := (a.add (k * 3)).block, off := (a.add (k * 3)).off + 2 } = some (.int .i64 m) ∧ W.cell? (b.add (k * 3)) = some (.string s) ∧ W.cell? { block := (b.add (k * 3)).block, off := (b.add (k * 3)).off + 1 } = some (.slice B9 x.length d9) ∧ W.cell? { block := (b.add (k * 3)).block, off := (b.add (k * 3)).off + 2 } = some (.int .i64 m)) (go_keep)
        (first
          | (go_at_call 12; refine (HEQ.out _ (by first | exact Below.drew (Below.refl _ _) | exact below_drewN' (Below.refl _ _) _)).mono ?_; rintro e w2 ⟨rfl, nd, hw2⟩; have HB2 : Hid (Below wr.heap.size wr w2) := Lib.hid (by rw [hw2]; exact below_drewN' (by first | exact Below.drew (Below.refl _ _) | exact below_drewN' (Below.refl _ _) _) nd); obtain ⟨⟨d0, d1, d2⟩, d3, d4, d5⟩ := HCE.out w2 HB2.out; clear hw2))
      go_wp2
      go_roundw
      case rel => exact ⟨k + 1, by omega, by go_num, HB.out.trans (HB2.out.mono HB.out.size)⟩
      case measure => simp [intOf]; omega
    · obtain rfl : k = n := by omega
      clear hb
      go_wp2
      go_ret
      exact ⟨rfl, HB.out⟩
end
end Go.Proofs.YtdhpoaecedpbdaaGreat
