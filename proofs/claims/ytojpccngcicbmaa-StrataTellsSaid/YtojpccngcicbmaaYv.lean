/-
  How deep rules stand, as plain lists: what an order tells, and the depth along it; the order does not hang on how rules are handed on.
  No Go in it.
-/
import Derived.Test.YtojpccngcicbmaaYt
namespace Go.Proofs.Ytojpccngcicbmaa
open Go.RowKit Go.Maps

/-- The names of rules on which a rule of a name stands. -/
def bel (l : List Rl) (s : ByteArray) : List ByteArray := (asksN l s).filter fun y => hasX y (nms l)
theorem bel_at {l : List Rl} (hd : (nms l).Nodup) {r : Rl} (hr : r ∈ l) : bel l r.nm = belowA l r := by unfold bel belowA; rw [asksN_at hd hr]

theorem sub_len : ∀ {a b : List ByteArray}, a.Nodup → (∀ y ∈ a, y ∈ b) → a.length ≤ b.length := by
  intro a
  induction a with
  | nil => exact fun _ _ => Nat.zero_le _
  | cons x a ih =>
    intro b hn hs
    obtain ⟨h1, h2⟩ := List.nodup_cons.1 hn
    obtain ⟨p, q, rfl⟩ := List.append_of_mem (hs x List.mem_cons_self)
    have := ih (b := p ++ q) h2 fun y hy => by
      have hne : y ≠ x := fun e => h1 (e ▸ hy)
      have h3 := hs y (List.mem_cons_of_mem _ hy)
      rw [List.mem_append, List.mem_cons] at h3
      rw [List.mem_append]
      rcases h3 with h3 | h3 | h3
      · exact .inl h3
      · exact absurd h3 hne
      · exact .inr h3
    rw [List.length_append] at this
    rw [List.length_cons, List.length_append, List.length_cons]
    omega
theorem find_ext {p q : ByteArray → Bool} : ∀ {l : List ByteArray}, (∀ s ∈ l, p s = q s) → l.find? p = l.find? q := by
  intro l
  induction l with
  | nil => exact fun _ => rfl
  | cons x l ih =>
    intro h
    rw [List.find?_cons, List.find?_cons, h x List.mem_cons_self, ih fun s hs => h s (List.mem_cons_of_mem _ hs)]

/-- A beginning of an order: each name once, of a rule, behind all that it stands on. -/
structure OGood (l : List Rl) (out : List ByteArray) : Prop where
  nodup : out.Nodup
  names : ∀ s ∈ out, s ∈ nms l
  behind : ∀ (i : Nat) (s : ByteArray), out[i]? = some s → readyN l (out.take i) s = true
theorem OGood.nil (l : List Rl) : OGood l [] := ⟨List.nodup_nil, fun _ h => absurd h List.not_mem_nil, fun i s h => by simp at h⟩
theorem OGood.next {l : List Rl} {out : List ByteArray} (h : OGood l out) {s : ByteArray} (hs : nextS l out = some s) : OGood l (out ++ [s]) := by
  have h1 := (leftS_mem l out s).1 (List.mem_of_find?_eq_some hs)
  have h2 : readyN l out s = true := List.find?_some hs
  have hns : s ∉ out := fun hm => by rw [hasX_iff.2 hm] at h1; exact absurd h1.2 (by simp)
  refine ⟨?_, fun y hy => ?_, fun i y hy => ?_⟩
  · rw [List.nodup_append]
    refine ⟨h.nodup, by simp, fun a ha b hb e => ?_⟩
    rw [List.mem_singleton] at hb
    subst hb
    subst e
    exact hns ha
  · rcases List.mem_append.1 hy with hy | hy
    · exact h.names y hy
    · rw [List.mem_singleton.1 hy]
      exact h1.1
  · have hi := (List.getElem?_eq_some_iff.1 hy).1
    rw [List.length_append, List.length_singleton] at hi
    by_cases hlt : i < out.length
    · rw [List.getElem?_append_left hlt] at hy
      rw [List.take_append_of_le_length (by omega)]
      exact h.behind i y hy
    · obtain rfl : i = out.length := by omega
      rw [List.getElem?_append_right (Nat.le_refl _), Nat.sub_self] at hy
      have e : s = y := by simpa using hy
      subst e
      rw [List.take_left']
      · exact h2
      · rfl
theorem orderGo_good (l : List Rl) : ∀ (f : Nat) (out : List ByteArray), OGood l out → (orderGo l f out).2 = 0 → OGood l (orderGo l f out).1 ∧ (orderGo l f out).1.length = out.length + f := by
  intro f
  induction f with
  | zero => exact fun out h _ => ⟨h, rfl⟩
  | succ f ih =>
    intro out h h0
    cases hn : nextS l out with
    | none =>
      rw [orderGo_cycle hn] at h0
      exact absurd h0 (by decide)
    | some s =>
      rw [orderGo_next hn] at h0 ⊢
      obtain ⟨h1, h2⟩ := ih _ (h.next hn) h0
      refine ⟨h1, ?_⟩
      rw [h2, List.length_append, List.length_singleton]
      omega
/-- What there is behind an order that is told. -/
theorem order_good {l : List Rl} (h : (orderL l).2 = 0) : l.length ≤ 12 ∧ (nms l).Nodup ∧ OGood l (orderL l).1 ∧ (orderL l).1.length = l.length := by
  by_cases h1 : 12 < l.length
  · rw [order_long h1] at h
    exact absurd h (by decide)
  · by_cases h2 : (nms l).Nodup
    · rw [order_goes h1 h2] at h ⊢
      obtain ⟨h3, h4⟩ := orderGo_good l l.length [] (OGood.nil l) h
      exact ⟨by omega, h2, h3, by rw [h4]; simp⟩
    · rw [order_twice h1 h2] at h
      exact absurd h (by decide)
theorem OGood.full {l : List Rl} {out : List ByteArray} (h : OGood l out) (hd : (nms l).Nodup) (hl : out.length = l.length) {s : ByteArray} (hs : s ∈ nms l) : s ∈ out := by
  have h1 := sortN_nodup h.nodup
  have h2 := sortN_nodup hd
  rw [nms_len] at h2
  -- each name of out is one of nms; as many of them
  refine Classical.byContradiction fun hno => ?_
  have hnd : (s :: out).Nodup := List.nodup_cons.2 ⟨hno, h.nodup⟩
  have hsub : ∀ y ∈ s :: out, y ∈ nms l := fun y hy => by
    rcases List.mem_cons.1 hy with rfl | hy
    · exact hs
    · exact h.names y hy
  have h3 := sub_len hnd hsub
  rw [List.length_cons, nms_len] at h3
  omega

/-- How deep a name stands, looking down f times at most. -/
def dp (l : List Rl) : Nat → ByteArray → Nat
  | 0, _ => 0
  | f + 1, s => (bel l s).foldl (fun m y => max m (dp l f y)) 0 + 1
theorem foldl_max_le (g : ByteArray → Nat) (b : Nat) : ∀ (ys : List ByteArray) (m : Nat), m ≤ b → (∀ y ∈ ys, g y ≤ b) → ys.foldl (fun m y => max m (g y)) m ≤ b := by
  intro ys
  induction ys with
  | nil => exact fun m h _ => h
  | cons y ys ih => exact fun m h1 h2 => ih _ (Nat.max_le.2 ⟨h1, h2 y List.mem_cons_self⟩) fun z hz => h2 z (List.mem_cons_of_mem _ hz)
theorem foldl_max_ge (g : ByteArray → Nat) : ∀ (ys : List ByteArray) (m : Nat), m ≤ ys.foldl (fun m y => max m (g y)) m ∧ ∀ y ∈ ys, g y ≤ ys.foldl (fun m y => max m (g y)) m := by
  intro ys
  induction ys with
  | nil => exact fun m => ⟨Nat.le_refl _, fun _ h => absurd h List.not_mem_nil⟩
  | cons y ys ih =>
    intro m
    obtain ⟨h1, h2⟩ := ih (max m (g y))
    refine ⟨Nat.le_trans (Nat.le_max_left _ _) h1, fun z hz => ?_⟩
    rcases List.mem_cons.1 hz with rfl | hz
    · exact Nat.le_trans (Nat.le_max_right _ _) h1
    · exact h2 z hz
theorem foldl_max_ext (g g' : ByteArray → Nat) : ∀ (ys : List ByteArray) (m : Nat), (∀ y ∈ ys, g y = g' y) → ys.foldl (fun m y => max m (g y)) m = ys.foldl (fun m y => max m (g' y)) m := by
  intro ys
  induction ys with
  | nil => exact fun _ _ => rfl
  | cons y ys ih =>
    intro m h
    rw [List.foldl_cons, List.foldl_cons, h y List.mem_cons_self]
    exact ih _ fun z hz => h z (List.mem_cons_of_mem _ hz)
theorem dp_le (l : List Rl) : ∀ (f : Nat) (s : ByteArray), dp l f s ≤ f := by
  intro f
  induction f with
  | zero => exact fun s => Nat.le_refl _
  | succ f ih => exact fun s => Nat.succ_le_succ (foldl_max_le _ _ _ _ (Nat.zero_le _) fun y _ => ih y)
theorem OGood.before {l : List Rl} {out : List ByteArray} (h : OGood l out) {i : Nat} {s : ByteArray} (hs : out[i]? = some s) {y : ByteArray} (hy : y ∈ bel l s) : ∃ j, j < i ∧ out[j]? = some y := by
  have h1 := h.behind i s hs
  unfold readyN readyS at h1
  rw [List.all_eq_true] at h1
  unfold bel at hy
  obtain ⟨h2, h3⟩ := List.mem_filter.1 hy
  have h4 := h1 y h2
  rw [h3] at h4
  have h5 : y ∈ out.take i := hasX_iff.1 (by simpa using h4)
  obtain ⟨j, hj, e⟩ := List.getElem_of_mem h5
  rw [List.length_take] at hj
  rw [List.getElem_take] at e
  exact ⟨j, by omega, by rw [List.getElem?_eq_getElem (by omega), e]⟩
theorem dp_stable {l : List Rl} {out : List ByteArray} (h : OGood l out) : ∀ (i : Nat) (s : ByteArray), out[i]? = some s → ∀ f g, i < f → i < g → dp l f s = dp l g s := by
  intro i
  induction i using Nat.strongRecOn with
  | _ i ih =>
    intro s hs f g hf hg
    obtain ⟨f, rfl⟩ : ∃ f', f = f' + 1 := ⟨f - 1, by omega⟩
    obtain ⟨g, rfl⟩ : ∃ g', g = g' + 1 := ⟨g - 1, by omega⟩
    refine congrArg (· + 1) (foldl_max_ext _ _ _ _ fun y hy => ?_)
    obtain ⟨j, hj, hy2⟩ := h.before hs hy
    exact ih j hj y hy2 f g (by omega) (by omega)
/-- How deep a name stands, of rules that have an order. -/
def deepS (l : List Rl) (s : ByteArray) : Nat := dp l l.length s
theorem deepS_le (l : List Rl) (s : ByteArray) : deepS l s ≤ l.length := dp_le l _ s
theorem deepS_eq {l : List Rl} {out : List ByteArray} (h : OGood l out) (hl : out.length = l.length) {i : Nat} {s : ByteArray} (hs : out[i]? = some s) : deepS l s = (bel l s).foldl (fun m y => max m (deepS l y)) 0 + 1 := by
  have hi := (List.getElem?_eq_some_iff.1 hs).1
  unfold deepS
  obtain ⟨f, hf⟩ : ∃ f, l.length = f + 1 := ⟨l.length - 1, by omega⟩
  rw [hf]
  refine congrArg (· + 1) (foldl_max_ext _ _ _ _ fun y hy => ?_)
  obtain ⟨j, hj, hy2⟩ := h.before hs hy
  exact dp_stable h j y hy2 f (f + 1) (by omega) (by omega)
noncomputable def deepL (l : List Rl) (s : ByteArray) : Nat := if (orderL l).2 = 0 then (if hasX s (nms l) = true then deepS l s else 0) else 0
theorem deepL_no {l : List Rl} {s : ByteArray} (h : (orderL l).2 ≠ 0) : deepL l s = 0 := by unfold deepL; rw [if_neg h]
theorem deepL_none {l : List Rl} {s : ByteArray} (h : hasX s (nms l) = false) : deepL l s = 0 := by unfold deepL; rw [h]; simp
theorem deepL_at {l : List Rl} {s : ByteArray} (h : (orderL l).2 = 0) (hs : hasX s (nms l) = true) : deepL l s = deepS l s := by unfold deepL; rw [if_pos h, if_pos hs]

/-! ### Rules in another order -/
theorem asksN_perm {l m : List Rl} (hp : l.Perm m) (hd : (nms l).Nodup) (s : ByteArray) (hs : s ∈ nms l) : asksN l s = asksN m s := by
  obtain ⟨r, hr, rfl⟩ := List.mem_map.1 hs
  have hd2 : (nms m).Nodup := (hp.map _).nodup_iff.1 hd
  rw [asksN_at hd hr, asksN_at hd2 (hp.mem_iff.1 hr)]
theorem sortN_perm {l m : List Rl} (hp : l.Perm m) : sortN (nms l) = sortN (nms m) :=
  sortedS_one _ _ (sortN_srt _) (sortN_srt _) fun y => by rw [sortN_mem, sortN_mem]; exact (hp.map _).mem_iff
theorem hasX_perm {l m : List Rl} (hp : l.Perm m) (s : ByteArray) : hasX s (nms l) = hasX s (nms m) := by
  rw [Bool.eq_iff_iff, hasX_iff, hasX_iff]
  exact (hp.map _).mem_iff
theorem nextS_perm {l m : List Rl} (hp : l.Perm m) (hd : (nms l).Nodup) (out : List ByteArray) : nextS l out = nextS m out := by
  have e : leftS l out = leftS m out := by unfold leftS; rw [sortN_perm hp]
  unfold nextS
  rw [← e]
  refine find_ext fun s hs => ?_
  unfold readyN readyS
  rw [asksN_perm hp hd s ((leftS_mem l out s).1 hs).1]
  congr 1
  funext y
  rw [hasX_perm hp]
theorem orderGo_perm {l m : List Rl} (hp : l.Perm m) (hd : (nms l).Nodup) : ∀ (f : Nat) (out : List ByteArray), orderGo l f out = orderGo m f out := by
  intro f
  induction f with
  | zero => exact fun _ => rfl
  | succ f ih =>
    intro out
    have hn := nextS_perm hp hd out
    cases h : nextS l out with
    | none => rw [orderGo_cycle h, orderGo_cycle (hn ▸ h)]
    | some s => rw [orderGo_next h, orderGo_next (hn ▸ h)]; exact ih _
theorem orderL_perm {l m : List Rl} (hp : l.Perm m) : orderL l = orderL m := by
  have hl := hp.length_eq
  by_cases h1 : 12 < l.length
  · rw [order_long h1, order_long (by omega)]
  · by_cases h2 : (nms l).Nodup
    · rw [order_goes h1 h2, order_goes (by omega) ((hp.map _).nodup_iff.1 h2), orderGo_perm hp h2, hl]
    · rw [order_twice h1 h2, order_twice (by omega) (fun h => h2 ((hp.map _).nodup_iff.2 h))]
end Go.Proofs.Ytojpccngcicbmaa
