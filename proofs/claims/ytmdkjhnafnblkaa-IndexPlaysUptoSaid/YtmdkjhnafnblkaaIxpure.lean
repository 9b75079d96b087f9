/-
  An index by keys as plain lists: each shelf has the rows of one bag's list whose key it is; what Add makes of both; how many keys and rows there are.
  No Go in it.
-/
import Derived.Test.YtmdkjhnafnblkaaIxl
import Derived.Test.YtmdkjhnafnblkaaIxr
namespace Go.Proofs.Ytmdkjhnafnblkaa
open Go.RowKit

theorem cmpB_eq (a b : Bool) (h : cmpB a b = 0) : a = b := by
  cases a <;> cases b <;> first | rfl | (exact absurd h (by decide))
theorem cmpI_eq (a b : Int) (h : cmpI a b = 0) : a = b := by
  unfold cmpI at h
  split at h
  · omega
  · split at h <;> omega
theorem cmpL_eq : ∀ (x y : List UInt8), cmpL x y = 0 → x = y
  | [], [], _ => rfl
  | [], _ :: _, h => by simp [cmpL] at h
  | _ :: _, [], h => by simp [cmpL] at h
  | a :: x, b :: y, h => by
    unfold cmpL at h
    by_cases h1 : a < b
    · rw [if_pos h1] at h
      omega
    · by_cases h2 : b < a
      · rw [if_neg h1, if_pos h2] at h
        omega
      · rw [if_neg h1, if_neg h2] at h
        have e : a = b := by
          apply UInt8.toNat_inj.1
          rw [UInt8.lt_iff_toNat_lt] at h1 h2
          omega
        rw [e, cmpL_eq x y h]
theorem cmpS_eq (a b : ByteArray) (h : cmpS a b = 0) : a = b := by
  rw [cmpS_list] at h
  have := cmpL_eq _ _ h
  obtain ⟨⟨l⟩⟩ := a
  obtain ⟨⟨l'⟩⟩ := b
  have e : l = l' := this
  rw [e]
theorem cmpV_eq (a b : V) (ha : rightV a = true) (hb : rightV b = true) : (cmpV a b == 0) = eqV a b := by
  have key : cmpV a b = 0 → a = b := by
    intro h
    rw [cmpV_kind] at h
    split at h
    · omega
    · split at h
      · omega
      · have e : a.k = b.k := by omega
        obtain ⟨k, f, n, t⟩ := a
        obtain ⟨k', f', n', t'⟩ := b
        obtain rfl : k = k' := e
        have t0 : ∀ s : ByteArray, s.size = 0 → s = ⟨#[]⟩ := by
          intro s hs
          obtain ⟨⟨l⟩⟩ := s
          have : l = [] := by simpa [ByteArray.size] using hs
          rw [this]
        simp only [rightV, Bool.and_eq_true, Bool.or_eq_true, decide_eq_true_eq, beq_iff_eq, Bool.not_eq_true'] at ha hb
        obtain ⟨⟨⟨⟨⟨_, _⟩, f1⟩, n1⟩, s1⟩, _⟩ := ha
        obtain ⟨⟨⟨⟨⟨_, _⟩, f2⟩, n2⟩, s2⟩, _⟩ := hb
        unfold sameKind at h
        by_cases k1 : k = 1
        · subst k1
          rw [if_pos rfl] at h
          have e1 := cmpB_eq _ _ h
          have e2 : n = n' := by omega
          have e3 : t = t' := by rw [t0 t (by omega), t0 t' (by omega)]
          simp only at e1
          rw [e1, e2, e3]
        · have e1 : f = f' := by
            rw [f1.resolve_left k1, f2.resolve_left k1]
          rw [if_neg k1] at h
          by_cases k2 : k = 2
          · rw [if_pos k2] at h
            have e2 := cmpI_eq _ _ h
            have e3 : t = t' := by rw [t0 t (by omega), t0 t' (by omega)]
            simp only at e2
            rw [e1, e2, e3]
          · have e2 : n = n' := by
              rw [n1.resolve_left k2, n2.resolve_left k2]
            rw [if_neg k2] at h
            by_cases k3 : k = 3
            · rw [if_pos k3] at h
              have e3 := cmpS_eq _ _ h
              simp only at e3
              rw [e1, e2, e3]
            · have e3 : t = t' := by rw [t0 t (s1.resolve_left k3), t0 t' (s2.resolve_left k3)]
              rw [e1, e2, e3]
  rcases Bool.eq_false_or_eq_true (eqV a b) with h | h
  · rw [h, (eqV_iff a b).1 h, cmpV_ordered.self]
    rfl
  · rw [h, beq_eq_false_iff_ne]
    intro h0
    rw [(eqV_iff a b).2 (key h0)] at h
    cases h

def fil (K : List V → ByteArray) (z : ByteArray) (L : List En) : List En := L.filter fun e => decide (K e.1 = z)
def sumM : List En → Int
  | [] => 0
  | e :: l => e.2 + sumM l
def contK (S : List Sh) (z : ByteArray) : Option (Int × List En) := (findK S z).map fun h => (h.tog, h.l)
def mkC (l : List En) : Option (Int × List En) := if l = [] then none else some (sumM l, l)
/-- Each shelf has the rows of L whose key it is. -/
def InvS (K : List V → ByteArray) (S : List Sh) (L : List En) : Prop := ∀ z, contK S z = mkC (fil K z L)
def listK (S : List Sh) (z : ByteArray) : List En := ((contK S z).map fun p => p.2).getD []
def togK (S : List Sh) (z : ByteArray) : Int := ((contK S z).map fun p => p.1).getD 0
/-- What put makes of the shelves. -/
def StepS (S : List Sh) (z : ByteArray) (k : Int) (r : List En × Int) (S' : List Sh) : Prop :=
  ∀ y, contK S' y = if y = z ∧ r.2 = 0 then (if r.1 = [] then none else some (togK S z + k, r.1)) else contK S y
theorem InvS.nil (K : List V → ByteArray) : InvS K [] [] := fun _ => rfl
theorem InvS.list {K : List V → ByteArray} {S : List Sh} {L : List En} (h : InvS K S L) (z : ByteArray) : listK S z = fil K z L ∧ togK S z = sumM (fil K z L) := by
  unfold listK togK
  rw [h z]
  unfold mkC
  by_cases e : fil K z L = []
  · rw [if_pos e, e]; exact ⟨rfl, rfl⟩
  · rw [if_neg e]; exact ⟨rfl, rfl⟩
theorem fil_cons (K : List V → ByteArray) (z : ByteArray) (a : En) (L : List En) : fil K z (a :: L) = if K a.1 = z then a :: fil K z L else fil K z L := by
  unfold fil
  rw [List.filter_cons]
  by_cases e : K a.1 = z <;> simp [e]
theorem fil_mem {K : List V → ByteArray} {z : ByteArray} {L : List En} {e : En} : e ∈ fil K z L ↔ e ∈ L ∧ K e.1 = z := by
  unfold fil
  rw [List.mem_filter, decide_eq_true_eq]
theorem setL_above (x : List V) (k : Int) (L : List En) (h : ∀ e ∈ L, cmpR x e.1 < 0) : setL x k L = if k = 0 then L else (x, k) :: L := by
  cases L with
  | nil => rfl
  | cons a L =>
    have h1 := h a (by simp)
    have hf := cmpR_flip (a := x) (b := a.1)
    rw [setL_cons, if_neg (by omega), if_neg (by omega)]
theorem above_of {x : List V} {a : En} {L : List En} (ho : Ord (a :: L)) (h1 : ¬ cmpR a.1 x < 0) (h2 : ¬ cmpR a.1 x = 0) : ∀ e ∈ L, cmpR x e.1 < 0 := by
  intro e he
  have := cmpR_rng a.1 x
  have hf := cmpR_flip (a := a.1) (b := x)
  exact cmpR_lt3 (by omega) (ho.1 e he)
theorem manyL_fil (K : List V → ByteArray) (x : List V) (z : ByteArray) : ∀ L : List En, Ord L → (∀ e ∈ L, cmpR e.1 x = 0 → K e.1 = z) → manyL x (fil K z L) = manyL x L
  | [], _, _ => rfl
  | a :: L, ho, h => by
    have ih := manyL_fil K x z L ho.2 (fun e he => h e (by simp [he]))
    rw [fil_cons, manyL_cons]
    by_cases e : K a.1 = z
    · rw [if_pos e, manyL_cons, ih]
    · rw [if_neg e]
      by_cases h1 : cmpR a.1 x < 0
      · rw [if_pos h1, ih]
      · have h2 : ¬ cmpR a.1 x = 0 := fun hz => e (h a (by simp) hz)
        rw [if_neg h1, if_neg h2]
        exact manyL_above x _ fun f hf => above_of ho h1 h2 f (fil_mem.1 hf).1
theorem setL_fil_in (K : List V → ByteArray) (x : List V) (k : Int) : ∀ L : List En, Ord L → (∀ e ∈ L, cmpR e.1 x = 0 → K e.1 = K x) → fil K (K x) (setL x k L) = setL x k (fil K (K x) L)
  | [], _, _ => by
    unfold setL
    by_cases h : k = 0
    · rw [if_pos h]; rfl
    · rw [if_neg h, fil_cons, if_pos rfl]
      have e : fil K (K x) [] = [] := by simp [fil]
      rw [e]
  | a :: L, ho, h => by
    have ih := setL_fil_in K x k L ho.2 (fun e he => h e (by simp [he]))
    rw [setL_cons]
    by_cases h1 : cmpR a.1 x < 0
    · rw [if_pos h1, fil_cons, fil_cons, ih]
      by_cases e : K a.1 = K x
      · rw [if_pos e, if_pos e, setL_cons, if_pos h1]
      · rw [if_neg e, if_neg e]
    · rw [if_neg h1]
      by_cases h2 : cmpR a.1 x = 0
      · have e := h a (by simp) h2
        rw [if_pos h2, fil_cons, if_pos e, setL_cons, if_neg h1, if_pos h2]
        by_cases hk : k = 0
        · rw [if_pos hk, if_pos hk]
        · rw [if_neg hk, if_neg hk, fil_cons, if_pos e]
      · rw [if_neg h2]
        have hab := above_of ho h1 h2
        have hax : cmpR x a.1 < 0 := by
          have := cmpR_rng a.1 x
          have hf := cmpR_flip (a := a.1) (b := x)
          omega
        have hall : ∀ e ∈ fil K (K x) (a :: L), cmpR x e.1 < 0 := by
          intro e he
          rcases List.mem_cons.1 (fil_mem.1 he).1 with rfl | he
          · exact hax
          · exact hab e he
        rw [setL_above x k _ hall]
        by_cases hk : k = 0
        · rw [if_pos hk, if_pos hk]
        · rw [if_neg hk, if_neg hk, fil_cons, if_pos rfl]
theorem setL_fil_out (K : List V → ByteArray) (x : List V) (k : Int) (y : ByteArray) (hy : K x ≠ y) : ∀ L : List En, (∀ e ∈ L, cmpR e.1 x = 0 → K e.1 = K x) → fil K y (setL x k L) = fil K y L
  | [], _ => by
    unfold setL
    by_cases h : k = 0
    · rw [if_pos h]
    · rw [if_neg h, fil_cons, if_neg hy]
  | a :: L, h => by
    have ih := setL_fil_out K x k y hy L (fun e he => h e (by simp [he]))
    rw [setL_cons]
    by_cases h1 : cmpR a.1 x < 0
    · rw [if_pos h1, fil_cons, fil_cons, ih]
    · rw [if_neg h1]
      by_cases h2 : cmpR a.1 x = 0
      · have e : ¬ K a.1 = y := by rw [h a (by simp) h2]; exact hy
        rw [if_pos h2, fil_cons, if_neg e]
        by_cases hk : k = 0
        · rw [if_pos hk]
        · rw [if_neg hk, fil_cons, if_neg e]
      · rw [if_neg h2]
        by_cases hk : k = 0
        · rw [if_pos hk]
        · rw [if_neg hk, fil_cons, if_neg hy]
theorem sum_setL (x : List V) (n : Int) : ∀ L : List En, sumM (setL x n L) = sumM L - manyL x L + n
  | [] => by
    unfold setL
    by_cases h : n = 0
    · rw [if_pos h, h]; rfl
    · rw [if_neg h]
      show n + 0 = 0 - 0 + n
      omega
  | a :: L => by
    have ih := sum_setL x n L
    rw [setL_cons, manyL_cons]
    by_cases h1 : cmpR a.1 x < 0
    · rw [if_pos h1, if_pos h1]
      show a.2 + sumM (setL x n L) = a.2 + sumM L - manyL x L + n
      omega
    · rw [if_neg h1, if_neg h1]
      by_cases h2 : cmpR a.1 x = 0
      · rw [if_pos h2, if_pos h2]
        by_cases hk : n = 0
        · rw [if_pos hk]
          show sumM L = a.2 + sumM L - a.2 + n
          omega
        · rw [if_neg hk]
          show n + sumM L = a.2 + sumM L - a.2 + n
          omega
      · rw [if_neg h2, if_neg h2]
        by_cases hk : n = 0
        · rw [if_pos hk]; omega
        · rw [if_neg hk]
          show n + sumM (a :: L) = sumM (a :: L) - 0 + n
          omega

theorem step_pure (K : List V → ByteArray) (S S' : List Sh) (L : List En) (xs : List V) (k : Int) (hg : Good L) (hi : InvS K S L) (hK : rightR xs = true → ∀ e ∈ L, cmpR e.1 xs = 0 → K e.1 = K xs) (hs : StepS S (K xs) k (addL xs k (listK S (K xs))) S') :
    (addL xs k (listK S (K xs))).2 = (addL xs k L).2 ∧ InvS K S' (addL xs k L).1 := by
  obtain ⟨hl, ht⟩ := hi.list (K xs)
  rw [hl] at hs ⊢
  have hs' := hs
  unfold StepS at hs'
  rw [ht] at hs'
  unfold addL at hs' ⊢
  by_cases hr : rightR xs = false
  · simp only [if_pos hr] at hs' ⊢
    refine ⟨trivial, fun z => ?_⟩
    rw [hs' z, if_neg (by simp)]
    exact hi z
  · have hr2 : rightR xs = true := by simpa using hr
    have hm := manyL_fil K xs (K xs) L hg.1 (hK hr2)
    simp only [if_neg hr, hm] at hs' ⊢
    by_cases ho : k < -1073741824 - manyL xs L ∨ 1073741824 - manyL xs L < k
    · simp only [if_pos ho] at hs' ⊢
      refine ⟨trivial, fun z => ?_⟩
      rw [hs' z, if_neg (by simp)]
      exact hi z
    · simp only [if_neg ho] at hs' ⊢
      refine ⟨trivial, fun z => ?_⟩
      rw [hs' z]
      by_cases e : z = K xs
      · subst e
        rw [if_pos ⟨rfl, trivial⟩, setL_fil_in K xs _ L hg.1 (hK hr2)]
        unfold mkC
        have h2 := sum_setL xs (manyL xs L + k) (fil K (K xs) L)
        rw [hm] at h2
        have h3 : sumM (setL xs (manyL xs L + k) (fil K (K xs) L)) = sumM (fil K (K xs) L) + k := by omega
        rw [h3]
      · rw [if_neg (fun h => e h.1), setL_fil_out K xs _ z (fun h => e h.symm) L (hK hr2)]
        exact hi z

/-! ### how many -/
noncomputable instance mem9 (a : ByteArray) (l : List ByteArray) : Decidable (a ∈ l) := Classical.propDecidable _
theorem nodup_len {α : Type} [DecidableEq α] : ∀ (A B : List α), A.Nodup → (∀ z ∈ A, z ∈ B) → A.length ≤ B.length
  | [], _, _, _ => Nat.zero_le _
  | a :: A, B, hn, h => by
    obtain ⟨h1, h2⟩ := List.nodup_cons.1 hn
    have ha := h a (by simp)
    have ih := nodup_len A (B.erase a) h2 (fun z hz => (List.mem_erase_of_ne (fun e => h1 (by rw [← e]; exact hz))).2 (h z (by simp [hz])))
    rw [List.length_erase_of_mem ha] at ih
    have := List.length_pos_of_mem ha
    rw [List.length_cons]
    omega
theorem find_of_mem : ∀ {S : List Sh}, S.Pairwise (fun a b => a.key ≠ b.key) → ∀ {h : Sh}, h ∈ S → findK S h.key = some h
  | [], _, _, hm => by cases hm
  | a :: S, hn, h, hm => by
    obtain ⟨h1, h2⟩ := List.pairwise_cons.1 hn
    unfold findK
    rw [List.find?_cons]
    rcases List.mem_cons.1 hm with rfl | hm
    · simp
    · have e : decide (a.key = h.key) = false := by simpa using h1 h hm
      rw [e]
      exact find_of_mem h2 hm
theorem InvS.mem {K : List V → ByteArray} {S : List Sh} {L : List En} (hi : InvS K S L) (hn : S.Pairwise (fun a b => a.key ≠ b.key)) {h : Sh} (hm : h ∈ S) : h.l = fil K h.key L ∧ h.tog = sumM (fil K h.key L) ∧ fil K h.key L ≠ [] := by
  have h1 := hi h.key
  unfold contK mkC at h1
  rw [find_of_mem hn hm] at h1
  by_cases e : fil K h.key L = []
  · rw [if_pos e] at h1; cases h1
  · rw [if_neg e] at h1
    simp only [Option.map_some] at h1
    injection h1 with h1
    injection h1 with h1 h2
    exact ⟨h2, h1, e⟩
theorem InvS.has {K : List V → ByteArray} {S : List Sh} {L : List En} (hi : InvS K S L) {e : En} (he : e ∈ L) : ∃ h, findK S (K e.1) = some h ∧ h.l = fil K (K e.1) L ∧ h ∈ S ∧ h.key = K e.1 := by
  have h1 := hi (K e.1)
  have hne : fil K (K e.1) L ≠ [] := List.ne_nil_of_mem (fil_mem.2 ⟨he, rfl⟩)
  unfold contK mkC at h1
  rw [if_neg hne] at h1
  cases hf : findK S (K e.1) with
  | none => rw [hf] at h1; cases h1
  | some h =>
    rw [hf] at h1
    simp only [Option.map_some] at h1
    injection h1 with h1
    injection h1 with h1 h2
    exact ⟨h, rfl, h2, (find_mem hf).1, (find_mem hf).2⟩
theorem cnt_split {α : Type} (p q : α → Bool) (hpq : ∀ a, p a = true → q a = false) : ∀ L : List α, (L.filter fun a => p a || q a).length = (L.filter p).length + (L.filter q).length
  | [] => rfl
  | a :: L => by
    have ih := cnt_split p q hpq L
    rw [List.filter_cons, List.filter_cons, List.filter_cons]
    cases hp : p a with
    | true =>
      have hq := hpq a hp
      simp only [hq, Bool.or_false, if_true]
      simp
      omega
    | false =>
      cases hq : q a with
      | true => simp; omega
      | false => simp; omega
theorem tot_fil (K : List V → ByteArray) (L : List En) : ∀ S : List Sh, S.Pairwise (fun a b => a.key ≠ b.key) → (∀ h ∈ S, h.l = fil K h.key L) → totL S = (L.filter fun e : En => decide (K e.1 ∈ S.map Sh.key)).length
  | [], _, _ => by
    show 0 = _
    rw [List.filter_eq_nil_iff.2 (by simp)]
    rfl
  | a :: S, hn, h => by
    obtain ⟨h1, h2⟩ := List.pairwise_cons.1 hn
    have ih := tot_fil K L S h2 (fun i hi => h i (by simp [hi]))
    have e1 : totL (a :: S) = a.l.length + totL S := by unfold totL; rw [List.map_cons, List.sum_cons]
    rw [e1, ih, h a (by simp)]
    unfold fil
    rw [← cnt_split (fun e : En => decide (K e.1 = a.key)) (fun e : En => decide (K e.1 ∈ S.map Sh.key)) (fun e he => by
      rw [decide_eq_true_eq] at he
      rw [decide_eq_false_iff_not, he]
      intro hm
      obtain ⟨i, hi, hik⟩ := List.mem_map.1 hm
      exact h1 i hi hik.symm) L]
    congr 1
    refine List.filter_congr ?_
    intro e _
    simp
theorem tot_all {K : List V → ByteArray} {S : List Sh} {L : List En} (hi : InvS K S L) (hn : S.Pairwise (fun a b => a.key ≠ b.key)) : totL S = L.length := by
  rw [tot_fil K L S hn (fun h hm => (hi.mem hn hm).1)]
  congr 1
  refine List.filter_eq_self.2 ?_
  intro e he
  obtain ⟨h, _, _, hm, hk⟩ := hi.has he
  rw [decide_eq_true_eq, ← hk]
  exact List.mem_map.2 ⟨h, hm, rfl⟩
/-- The keys of the first i rows, each once. -/
def KeysOf (K : List V → ByteArray) (L : List En) (i : Nat) (G : List ByteArray) : Prop := G.Nodup ∧ ∀ z, z ∈ G ↔ ∃ e ∈ L.take i, K e.1 = z
noncomputable def cntG (K : List V → ByteArray) (L : List En) (G : List ByteArray) : Nat := (L.filter fun e : En => decide (K e.1 ∈ G)).length
theorem KeysOf.nil (K : List V → ByteArray) (L : List En) : KeysOf K L 0 [] := ⟨List.nodup_nil, fun z => by simp⟩
theorem KeysOf.skip {K : List V → ByteArray} {L : List En} {i : Nat} {G : List ByteArray} (h : KeysOf K L i G) {e : En} (he : L[i]? = some e) (hm : ∃ f ∈ L.take i, K f.1 = K e.1) : KeysOf K L (i + 1) G := by
  refine ⟨h.1, fun z => ?_⟩
  rw [h.2 z, List.take_add_one, he]
  constructor
  · rintro ⟨f, hf, hz⟩
    exact ⟨f, by simp [hf], hz⟩
  · rintro ⟨f, hf, hz⟩
    rcases List.mem_append.1 hf with hf | hf
    · exact ⟨f, hf, hz⟩
    · simp at hf
      subst hf
      obtain ⟨f', hf', hk⟩ := hm
      exact ⟨f', hf', hk.trans hz⟩
theorem KeysOf.next {K : List V → ByteArray} {L : List En} {i : Nat} {G : List ByteArray} (h : KeysOf K L i G) {e : En} (he : L[i]? = some e) (hm : ∀ f ∈ L.take i, K f.1 ≠ K e.1) :
    KeysOf K L (i + 1) (K e.1 :: G) ∧ cntG K L (K e.1 :: G) = cntG K L G + (fil K (K e.1) L).length := by
  have hnot : K e.1 ∉ G := fun hg => by
    obtain ⟨f, hf, hk⟩ := (h.2 _).1 hg
    exact hm f hf hk
  refine ⟨⟨List.nodup_cons.2 ⟨hnot, h.1⟩, fun z => ?_⟩, ?_⟩
  · rw [List.mem_cons, h.2 z, List.take_add_one, he]
    constructor
    · rintro (rfl | ⟨f, hf, hz⟩)
      · exact ⟨e, by simp, rfl⟩
      · exact ⟨f, by simp [hf], hz⟩
    · rintro ⟨f, hf, hz⟩
      rcases List.mem_append.1 hf with hf | hf
      · exact .inr ⟨f, hf, hz⟩
      · simp at hf
        subst hf
        exact .inl hz.symm
  · unfold cntG fil
    rw [Nat.add_comm, ← cnt_split (fun f : En => decide (K f.1 = K e.1)) (fun f : En => decide (K f.1 ∈ G)) (fun f hf => by
      rw [decide_eq_true_eq] at hf
      rw [decide_eq_false_iff_not, hf]
      exact hnot) L]
    congr 1
    refine List.filter_congr ?_
    intro f _
    simp
theorem KeysOf.all {K : List V → ByteArray} {S : List Sh} {L : List En} {G : List ByteArray} (h : KeysOf K L L.length G) (hi : InvS K S L) (hn : S.Pairwise (fun a b => a.key ≠ b.key)) : G.length = S.length ∧ cntG K L G = L.length := by
  have ht : L.take L.length = L := List.take_length
  have hnd : (S.map Sh.key).Nodup := by
    unfold List.Nodup
    rw [List.pairwise_map]
    exact hn
  have h2 := h.2
  rw [ht] at h2
  refine ⟨Nat.le_antisymm ?_ ?_, ?_⟩
  · have := nodup_len G (S.map Sh.key) h.1 (fun z hz => by
      obtain ⟨e, he, rfl⟩ := (h2 z).1 hz
      obtain ⟨i, _, _, hm, hk⟩ := hi.has he
      exact List.mem_map.2 ⟨i, hm, hk⟩)
    simpa using this
  · have := nodup_len (S.map Sh.key) G hnd (fun z hz => by
      obtain ⟨i, hm, rfl⟩ := List.mem_map.1 hz
      obtain ⟨_, _, hne⟩ := hi.mem hn hm
      obtain ⟨e, he⟩ := List.exists_mem_of_ne_nil _ hne
      obtain ⟨he1, he2⟩ := fil_mem.1 he
      exact (h2 _).2 ⟨e, he1, he2⟩)
    simpa using this
  · unfold cntG
    congr 1
    refine List.filter_eq_self.2 ?_
    intro e he
    rw [decide_eq_true_eq, h2]
    exact ⟨e, he, rfl⟩
/-- The first row of a key. -/
theorem fil_first (K : List V → ByteArray) : ∀ (L : List En) (i : Nat) (e : En), L[i]? = some e → (∀ f ∈ L.take i, K f.1 ≠ K e.1) → (fil K (K e.1) L)[0]? = some e
  | [], _, _, h, _ => by simp at h
  | a :: L, 0, e, h, _ => by
    have : a = e := by simpa using h
    subst this
    rw [fil_cons, if_pos rfl]
    rfl
  | a :: L, i + 1, e, h, hm => by
    have h1 : K a.1 ≠ K e.1 := hm a (by simp)
    rw [fil_cons, if_neg h1]
    exact fil_first K L i e (by simpa using h) (fun f hf => hm f (by simp [hf]))
end Go.Proofs.Ytmdkjhnafnblkaa
