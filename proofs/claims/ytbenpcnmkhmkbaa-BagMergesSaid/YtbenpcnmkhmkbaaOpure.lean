/-
  Bags in whatever order: how often a row is there is a sum over what came; two bags in which each row is as often are the same; what is merged, and merged the opposite times, leaves each row as it was.
  No Go in it.
-/
import Derived.Test.YtbenpcnmkhmkbaaBof
namespace Go.Proofs.Ytbenpcnmkhmkbaa
open Go.RowKit

/-- What comes of row x. -/
def sumF (x : List V) : List En → Int
  | [] => 0
  | e :: l => (if cmpR e.1 x = 0 then e.2 else 0) + sumF x l
theorem sumF_append (x : List V) : ∀ a b : List En, sumF x (a ++ b) = sumF x a + sumF x b
  | [], b => by simp [sumF]
  | e :: a, b => by
    rw [List.cons_append]
    show _ + sumF x (a ++ b) = _ + sumF x a + sumF x b
    rw [sumF_append x a b]
    omega
theorem sumF_reverse (x : List V) : ∀ l : List En, sumF x l.reverse = sumF x l
  | [] => rfl
  | e :: l => by
    rw [List.reverse_cons, sumF_append, sumF_reverse x l]
    show _ + ((if cmpR e.1 x = 0 then e.2 else 0) + 0) = (if cmpR e.1 x = 0 then e.2 else 0) + sumF x l
    omega
theorem sumF_none (x : List V) : ∀ l : List En, (∀ e ∈ l, ¬ cmpR e.1 x = 0) → sumF x l = 0
  | [], _ => rfl
  | e :: l, h => by
    show (if cmpR e.1 x = 0 then e.2 else 0) + sumF x l = 0
    rw [if_neg (h e (by simp)), sumF_none x l fun f hf => h f (by simp [hf])]
    rfl
theorem sumF_in : ∀ (l : List En), Ord l → ∀ e ∈ l, sumF e.1 l = e.2
  | [], _, e, he => by cases he
  | a :: l, h, e, he => by
    obtain ⟨h1, h2⟩ := h
    show (if cmpR a.1 e.1 = 0 then a.2 else 0) + sumF e.1 l = e.2
    rcases List.mem_cons.1 he with rfl | he
    · rw [if_pos (cmpR_ordered.self e.1), sumF_none e.1 l fun f hf => by
        have := h1 f hf
        have := cmpR_flip (a := e.1) (b := f.1)
        omega]
      omega
    · have := h1 e he
      rw [if_neg (by omega), sumF_in l h2 e he]
      omega

theorem manyL_same {x y : List V} (h : cmpR x y = 0) : ∀ l : List En, manyL x l = manyL y l
  | [] => rfl
  | e :: l => by
    have h1 := cmpR_zero h e.1
    have f1 := cmpR_flip (a := x) (b := e.1)
    have f2 := cmpR_flip (a := y) (b := e.1)
    have h2 : cmpR e.1 x = cmpR e.1 y := by omega
    rw [manyL_cons, manyL_cons, h2, manyL_same h l]

/-! ### What comes of entries -/

def Small (n : Nat) (es : List En) : Prop := es.length ≤ n ∧ ∀ e ∈ es, -1000 ≤ e.2 ∧ e.2 ≤ 1000
theorem sumF_small (x : List V) : ∀ es : List En, (∀ e ∈ es, -1000 ≤ e.2 ∧ e.2 ≤ 1000) → -1000 * (es.length : Int) ≤ sumF x es ∧ sumF x es ≤ 1000 * (es.length : Int)
  | [], _ => by simp [sumF]
  | e :: l, h => by
    have ih := sumF_small x l fun f hf => h f (by simp [hf])
    have he := h e (by simp)
    have hl : ((e :: l).length : Int) = (l.length : Int) + 1 := by simp
    rw [hl]
    show _ ≤ (if cmpR e.1 x = 0 then e.2 else 0) + sumF x l ∧ (if cmpR e.1 x = 0 then e.2 else 0) + sumF x l ≤ _
    split <;> omega

/-- Where few small entries come, those that can not be are refused, and no other ones. -/
theorem of_small : ∀ (es pre : List En) (s : List En × Int), Good s.1 → s.2 = 0 → (∀ x, manyL x s.1 = sumF x pre) → (∀ e ∈ pre, -1000 ≤ e.2 ∧ e.2 ≤ 1000) → (∀ e ∈ es, -1000 ≤ e.2 ∧ e.2 ≤ 1000) → pre.length + es.length ≤ 120 →
    ((es.all fun e => rightR e.1) = true → (es.foldl ofStep s).2 = 0 ∧ Good (es.foldl ofStep s).1 ∧ ∀ x, manyL x (es.foldl ofStep s).1 = sumF x (pre ++ es)) ∧ ((es.all fun e => rightR e.1) = false → (es.foldl ofStep s).2 = 2)
  | [], pre, s, hg, h0, hm, _, _, _ => ⟨fun _ => ⟨h0, hg, by simpa using hm⟩, fun h => by simp at h⟩
  | e :: es, pre, s, hg, h0, hm, hp, hs, hl => by
    have he := hs e (by simp)
    rw [List.length_cons] at hl
    rw [List.foldl_cons, List.all_cons, of_step h0]
    rcases Bool.eq_false_or_eq_true (rightR e.1) with hr | hr
    · have hpl := sumF_small e.1 pre hp
      have hpn : (pre.length : Int) ≤ 120 := by omega
      have hov : ¬ (e.2 < -1073741824 - manyL e.1 s.1 ∨ 1073741824 - manyL e.1 s.1 < e.2) := by
        rw [hm]
        omega
      have hadd : addL e.1 e.2 s.1 = (setL e.1 (manyL e.1 s.1 + e.2) s.1, 0) := by
        unfold addL
        rw [if_neg (by rw [hr]; simp), if_neg hov]
      have hgd := addL_good e.1 e.2 s.1 hg
      rw [hadd] at hgd ⊢
      have ih := of_small es (pre ++ [e]) (setL e.1 (manyL e.1 s.1 + e.2) s.1, 0) hgd rfl (fun x => by
        show manyL x (setL e.1 _ s.1) = _
        rw [manyL_set e.1 _ x s.1 hg.1, sumF_append]
        show _ = sumF x pre + ((if cmpR e.1 x = 0 then e.2 else 0) + 0)
        by_cases hx : cmpR e.1 x = 0
        · rw [if_pos hx, if_pos hx, manyL_same hx, hm]
          omega
        · rw [if_neg hx, if_neg hx, hm]
          omega) (fun f hf => by
        rcases List.mem_append.1 hf with h | h
        · exact hp f h
        · have : f = e := by simpa using h
          rw [this]
          exact he) (fun f hf => hs f (by simp [hf])) (by simp; omega)
      rw [hr, Bool.true_and]
      refine ⟨fun h => ?_, ih.2⟩
      obtain ⟨i1, i2, i3⟩ := ih.1 h
      refine ⟨i1, i2, fun x => ?_⟩
      rw [i3 x, List.append_assoc]
      rfl
    · have hadd : addL e.1 e.2 s.1 = (s.1, 2) := by
        unfold addL
        rw [if_pos hr]
      rw [hadd, hr, Bool.false_and]
      refine ⟨fun h => (by cases h), fun _ => ?_⟩
      rw [of_fold_err es (s.1, 2) (by show ¬ (2 : Int) = 0; omega)]

theorem ofL_small (es : List En) (hl : es.length ≤ 120) (hs : ∀ e ∈ es, -1000 ≤ e.2 ∧ e.2 ≤ 1000) :
    ((es.all fun e => rightR e.1) = true → (ofL es).2 = 0 ∧ Good (ofL es).1 ∧ ∀ x, manyL x (ofL es).1 = sumF x es) ∧ ((es.all fun e => rightR e.1) = false → (ofL es).2 = 2) :=
  of_small es [] ([], 0) Good.nil rfl (fun x => rfl) (fun e he => by cases he) hs (by simpa using hl)

/-! ### Where each row is as often -/

theorem manyL_head (x : List V) (e : En) (l : List En) (h : Ord (e :: l)) : manyL x (e :: l) = (if cmpR e.1 x = 0 then e.2 else 0) + manyL x l := by
  rw [manyL_cons]
  by_cases h1 : cmpR e.1 x < 0
  · rw [if_pos h1, if_neg (by omega)]
    omega
  · by_cases h2 : cmpR e.1 x = 0
    · rw [if_neg h1, if_pos h2, manyL_above x l fun f hf => by
        have hf := h.1 f hf
        have := cmpR_zero h2 f.1
        omega]
      omega
    · have f1 := cmpR_flip (a := e.1) (b := x)
      have r1 := cmpR_rng e.1 x
      rw [if_neg h1, if_neg h2, manyL_above x l fun f hf => cmpR_lt3 (by omega) (h.1 f hf)]
      rfl

theorem same_len : ∀ (a b : List En), Good a → Good b → (∀ x, manyL x a = manyL x b) → a.length = b.length
  | [], [], _, _, _ => rfl
  | [], e :: b, _, hb, h => by
    have h1 := h e.1
    rw [manyL_self] at h1
    exact absurd h1.symm (hb.2 e (by simp)).1
  | e :: a, [], ha, _, h => by
    have h1 := h e.1
    rw [manyL_self] at h1
    exact absurd h1 (ha.2 e (by simp)).1
  | e :: a, f :: b, ha, hb, h => by
    have he := h e.1
    have hf := h f.1
    rw [manyL_self] at he hf
    have fl := cmpR_flip (a := e.1) (b := f.1)
    have ne := (ha.2 e (by simp)).1
    have nf := (hb.2 f (by simp)).1
    have hz : cmpR e.1 f.1 = 0 := by
      rcases cmpR_rng e.1 f.1 with h1 | h1 | h1
      · have : manyL e.1 (f :: b) = 0 := manyL_above _ _ fun g hg => by
          rcases List.mem_cons.1 hg with rfl | hg
          · omega
          · exact cmpR_lt3 (show cmpR e.1 f.1 < 0 by omega) (hb.1.1 g hg)
        omega
      · exact h1
      · have : manyL f.1 (e :: a) = 0 := manyL_above _ _ fun g hg => by
          rcases List.mem_cons.1 hg with rfl | hg
          · omega
          · exact cmpR_lt3 (show cmpR f.1 e.1 < 0 by omega) (ha.1.1 g hg)
        omega
    have h2 : manyL e.1 (f :: b) = f.2 := by rw [manyL_same hz, manyL_self]
    have hef : e.2 = f.2 := by omega
    rw [List.length_cons, List.length_cons, same_len a b ⟨ha.1.2, fun g hg => ha.2 g (by simp [hg])⟩ ⟨hb.1.2, fun g hg => hb.2 g (by simp [hg])⟩ fun x => by
      have hx := h x
      have hzx := cmpR_zero hz x
      rw [manyL_head x e a ha.1, manyL_head x f b hb.1, hzx, hef] at hx
      omega]

theorem same_bags (a b : List En) (ha : Good a) (hb : Good b) (h : ∀ x, manyL x a = manyL x b) : sameL a b = true := by
  unfold sameL
  rw [same_len a b ha hb h]
  simp only [beq_self_eq_true, Bool.true_and, List.all_eq_true, beq_iff_eq]
  intro e he
  rw [← h, manyL_in a ha.1 e he]

/-! ### Merged, and merged back -/

theorem mstep_many (times : Int) (s : List En × Int) (e : En) (hg : Ord s.1) (h0 : s.2 = 0) (h : (mstep times s e).2 = 0) (x : List V) : manyL x (mstep times s e).1 = manyL x s.1 + (if cmpR e.1 x = 0 then e.2 else 0) * times := by
  unfold mstep at h ⊢
  rw [if_pos h0] at h ⊢
  by_cases ho : e.2 * times < -1073741824 - manyL e.1 s.1 ∨ 1073741824 - manyL e.1 s.1 < e.2 * times
  · rw [if_pos ho] at h
    exact absurd h (by show ¬ (10 : Int) = 0; omega)
  · rw [if_neg ho]
    show manyL x (setL e.1 _ s.1) = _
    rw [manyL_set e.1 _ x s.1 hg]
    by_cases hx : cmpR e.1 x = 0
    · rw [if_pos hx, if_pos hx, manyL_same hx]
    · rw [if_neg hx, if_neg hx, Int.zero_mul]
      omega
theorem mfold_many (times : Int) : ∀ (o : List En) (s : List En × Int), Good s.1 → (∀ e ∈ o, rightR e.1 = true) → s.2 = 0 → (o.foldl (mstep times) s).2 = 0 → ∀ x, manyL x (o.foldl (mstep times) s).1 = manyL x s.1 + sumF x o * times
  | [], s, _, _, _, _, x => by
    show manyL x s.1 = manyL x s.1 + 0 * times
    rw [Int.zero_mul]
    omega
  | e :: o, s, hg, hr, h0, h, x => by
    rw [List.foldl_cons] at h ⊢
    have h1 : (mstep times s e).2 = 0 := by
      by_cases h1 : (mstep times s e).2 = 0
      · exact h1
      · rw [mfold_err times o _ h1] at h
        exact absurd h h1
    rw [mfold_many times o _ (mstep_good times s e hg (hr e (by simp))) (fun f hf => hr f (by simp [hf])) h1 h x, mstep_many times s e hg.1 h0 h1 x]
    show _ = manyL x s.1 + ((if cmpR e.1 x = 0 then e.2 else 0) + sumF x o) * times
    rw [Int.add_mul]
    omega
theorem mfold_fits (times : Int) : ∀ (o : List En) (s : List En × Int), Good s.1 → Good o → s.2 = 0 → (∀ e ∈ o, -1073741824 ≤ manyL e.1 s.1 + e.2 * times ∧ manyL e.1 s.1 + e.2 * times ≤ 1073741824) → (o.foldl (mstep times) s).2 = 0
  | [], s, _, _, h0, _ => h0
  | e :: o, s, hg, ho, h0, h => by
    rw [List.foldl_cons]
    have he := h e (by simp)
    have hst : mstep times s e = (setL e.1 (manyL e.1 s.1 + e.2 * times) s.1, 0) := by
      unfold mstep
      rw [if_pos h0, if_neg (by omega)]
    have hgd := mstep_good times s e hg (ho.2 e (by simp)).2.2
    rw [hst] at hgd ⊢
    refine mfold_fits times o _ hgd ⟨ho.1.2, fun f hf => ho.2 f (by simp [hf])⟩ rfl fun f hf => ?_
    have hlt := ho.1.1 f hf
    show -1073741824 ≤ manyL f.1 (setL e.1 _ s.1) + _ ∧ _
    rw [manyL_set e.1 _ f.1 s.1 hg.1, if_neg (by omega)]
    exact h f (by simp [hf])

theorem merge_back (times : Int) (a c l : List En) (ha : Good a) (hc : Good c) (ht : -1000 ≤ times ∧ times ≤ 1000) (h : mergeL times a c = (l, 0)) : ∃ l3, mergeL (-times) l c = (l3, 0) ∧ Good l3 ∧ Good l ∧ ∀ x, manyL x l3 = manyL x a := by
  have hr : ∀ e ∈ c, rightR e.1 = true := fun e he => (hc.2 e he).2.2
  have hf1 : ¬ fewN times = false := by
    rw [Bool.not_eq_false, fewN_iff]
    omega
  have hf2 : ¬ fewN (-times) = false := by
    rw [Bool.not_eq_false, fewN_iff]
    omega
  unfold mergeL at h
  rw [if_neg hf1] at h
  by_cases h0 : (mergeS times a c).2 = 0
  · rw [if_pos h0] at h
    have hl : l = (mergeS times a c).1 := (congrArg Prod.fst h).symm
    have hgl : Good l := by
      rw [hl]
      exact mergeS_good times a c ha hr
    have hm : ∀ x, manyL x l = manyL x a + sumF x c * times := fun x => by
      rw [hl]
      exact mfold_many times c (a, 0) ha hr rfl h0 x
    have hok : (mergeS (-times) l c).2 = 0 := mfold_fits (-times) c (l, 0) hgl hc rfl fun e he => by
      show -1073741824 ≤ manyL e.1 l + _ ∧ manyL e.1 l + _ ≤ _
      have hin := sumF_in c hc.1 e he
      have hmany := ha.many e.1
      rw [hm, hin, Int.mul_neg]
      omega
    refine ⟨(mergeS (-times) l c).1, ?_, mergeS_good (-times) l c hgl hr, hgl, fun x => ?_⟩
    · unfold mergeL
      rw [if_neg hf2, if_pos hok]
    · have := mfold_many (-times) c (l, 0) hgl hr rfl hok x
      have h2 : manyL x (mergeS (-times) l c).1 = manyL x l + sumF x c * (-times) := this
      rw [h2, hm, Int.mul_neg]
      omega
  · rw [if_neg h0] at h
    exact absurd (congrArg Prod.snd h) (by show ¬ (10 : Int) = 0; omega)
theorem merge_not (times : Int) (a c l : List En) (k : Int) (h : mergeL times a c = (l, k)) (hk : ¬ k = 0) : l = a := by
  unfold mergeL at h
  split at h
  · exact (congrArg Prod.fst h).symm
  · split at h
    · exact absurd (congrArg Prod.snd h).symm hk
    · exact (congrArg Prod.fst h).symm
end Go.Proofs.Ytbenpcnmkhmkbaa
