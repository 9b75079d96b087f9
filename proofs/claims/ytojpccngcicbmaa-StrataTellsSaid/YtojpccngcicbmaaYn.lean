/-
  The order of rules as plain lists: the next name is the least of those that stand on none that is left.
  No Go in it.
-/
import Derived.Test.YtojpccngcicbmaaYe
namespace Go.Proofs.Ytojpccngcicbmaa
open Go.RowKit

theorem nodup_inj {ns : List ByteArray} (h : ns.Nodup) {i j : Nat} (hi : i < ns.length) (hj : j < ns.length) (e : ns[i] = ns[j]) : i = j := by
  rcases Nat.lt_trichotomy i j with h1 | h1 | h1
  · exact absurd e (List.pairwise_iff_getElem.1 h i j hi hj h1)
  · exact h1
  · exact absurd e.symm (List.pairwise_iff_getElem.1 h j i hj hi h1)
/-- Names in order, each once. -/
def sortN (ns : List ByteArray) : List ByteArray := asksS (ns.map fun n => ((0 : Int), n))
theorem sortN_srt (ns : List ByteArray) : SrtS (sortN ns) := asksS_srt _
theorem sortN_mem (ns : List ByteArray) (y : ByteArray) : y ∈ sortN ns ↔ y ∈ ns := by
  unfold sortN
  rw [asksS_mem]
  constructor
  · rintro ⟨x, hx, _, rfl⟩
    obtain ⟨n, hn, rfl⟩ := List.mem_map.1 hx
    exact hn
  · intro h
    exact ⟨(0, y), List.mem_map.2 ⟨y, h, rfl⟩, rfl, rfl⟩
/-- What the rule of a name asks. -/
def asksN (l : List Rl) (s : ByteArray) : List ByteArray := match l.find? (fun r => r.nm.toList == s.toList) with
  | some r => r.asks
  | none => []
theorem asksN_at {l : List Rl} (hd : (nms l).Nodup) {r : Rl} (hr : r ∈ l) : asksN l r.nm = r.asks := by
  unfold asksN
  cases hf : l.find? (fun x => x.nm.toList == r.nm.toList) with
  | none =>
    have := List.find?_eq_none.1 hf r hr
    simp at this
  | some x =>
    have h1 := List.find?_some hf
    have h2 := List.mem_of_find?_eq_some hf
    have e : x.nm = r.nm := toList_eqT.1 h1
    have : x = r := by
      obtain ⟨i, hi, rfl⟩ := List.getElem_of_mem h2
      obtain ⟨j, hj, rfl⟩ := List.getElem_of_mem hr
      have hij : i = j := by
        have h3 : (nms l)[i]'(by rw [nms_len]; exact hi) = (nms l)[j]'(by rw [nms_len]; exact hj) := by
          unfold nms
          rw [List.getElem_map, List.getElem_map]
          exact e
        exact nodup_inj hd _ _ h3
      subst hij
      rfl
    subst this
    rfl
/-- The names that are left, in order. -/
def leftS (l : List Rl) (out : List ByteArray) : List ByteArray := (sortN (nms l)).filter fun s => !hasX s out
theorem leftS_srt (l : List Rl) (out : List ByteArray) : SrtS (leftS l out) := List.Pairwise.filter _ (sortN_srt _)
theorem leftS_mem (l : List Rl) (out : List ByteArray) (s : ByteArray) : s ∈ leftS l out ↔ s ∈ nms l ∧ hasX s out = false := by
  unfold leftS
  rw [List.mem_filter, sortN_mem]
  simp
def readyN (l : List Rl) (out : List ByteArray) (s : ByteArray) : Bool := readyS (nms l) out (asksN l s)
def nextS (l : List Rl) (out : List ByteArray) : Option ByteArray := (leftS l out).find? (readyN l out)
def orderGo (l : List Rl) : Nat → List ByteArray → List ByteArray × Int
  | 0, out => (out, 0)
  | f + 1, out => match nextS l out with
    | none => ([], 13)
    | some s => orderGo l f (out ++ [s])
open Classical in
/-- The order of rules, or why there is none. -/
noncomputable def orderL (l : List Rl) : List ByteArray × Int := if 12 < l.length then ([], 9) else if (nms l).Nodup then orderGo l l.length [] else ([], 4)

/-- May a rule be the next? -/
def okAt (l : List Rl) (out : List ByteArray) (r : Rl) : Bool := !hasX r.nm out && readyS (nms l) out r.asks
theorem ok_left {l : List Rl} (hd : (nms l).Nodup) {out : List ByteArray} {r : Rl} (hr : r ∈ l) (h : okAt l out r = true) : r.nm ∈ leftS l out ∧ readyN l out r.nm = true := by
  unfold okAt at h
  rw [Bool.and_eq_true] at h
  refine ⟨(leftS_mem _ _ _).2 ⟨List.mem_map.2 ⟨r, hr, rfl⟩, by simpa using h.1⟩, ?_⟩
  unfold readyN
  rw [asksN_at hd hr]
  exact h.2
theorem left_ok {l : List Rl} (hd : (nms l).Nodup) {out : List ByteArray} {s : ByteArray} (hs : s ∈ leftS l out) (h : readyN l out s = true) : ∃ r ∈ l, r.nm = s ∧ okAt l out r = true := by
  obtain ⟨h1, h2⟩ := (leftS_mem _ _ _).1 hs
  obtain ⟨r, hr, rfl⟩ := List.mem_map.1 h1
  refine ⟨r, hr, rfl, ?_⟩
  unfold readyN at h
  rw [asksN_at hd hr] at h
  unfold okAt
  rw [h2, h]
  rfl
theorem next_none {l : List Rl} (hd : (nms l).Nodup) {out : List ByteArray} (h : ∀ r ∈ l, okAt l out r = false) : nextS l out = none := by
  unfold nextS
  rw [List.find?_eq_none]
  intro s hs hr
  obtain ⟨r, hr1, _, h2⟩ := left_ok hd hs hr
  rw [h r hr1] at h2
  cases h2
theorem next_some {l : List Rl} (hd : (nms l).Nodup) {out : List ByteArray} {r : Rl} (hr : r ∈ l) (h : okAt l out r = true) (hl : ∀ q ∈ l, okAt l out q = true → cmpS r.nm q.nm ≤ 0) : nextS l out = some r.nm := by
  obtain ⟨h1, h2⟩ := ok_left hd hr h
  unfold nextS
  rw [List.find?_eq_some_iff_append]
  refine ⟨h2, ?_⟩
  obtain ⟨aa, bb, hab⟩ := List.append_of_mem h1
  refine ⟨aa, bb, hab, fun a ha => ?_⟩
  have hs := leftS_srt l out
  rw [hab] at hs
  have hlt := (List.pairwise_append.1 hs).2.2 a ha r.nm (by simp)
  have ham : a ∈ leftS l out := by rw [hab]; exact List.mem_append_left _ ha
  cases hra : readyN l out a with
  | false => rfl
  | true =>
    obtain ⟨q, hq1, hq2, hq3⟩ := left_ok hd ham hra
    have := hl q hq1 hq3
    have h3 := cmpS_antiY a r.nm
    rw [hq2] at this
    omega

/-- The best of the rules up to place k: its place, or -1. -/
def BestAt (l : List Rl) (out : List ByteArray) (k : Nat) (b : Int) : Prop :=
  (b = -1 ∧ ∀ i r, i < k → l[i]? = some r → okAt l out r = false) ∨ ∃ (n : Nat) (r : Rl), b = (n : Int) ∧ n < k ∧ l[n]? = some r ∧ okAt l out r = true ∧ ∀ i q, i < k → l[i]? = some q → okAt l out q = true → cmpS r.nm q.nm ≤ 0
theorem BestAt.zero (l : List Rl) (out : List ByteArray) : BestAt l out 0 (-1) := .inl ⟨rfl, fun i r h => by omega⟩
theorem BestAt.skip {l : List Rl} {out : List ByteArray} {k : Nat} {b : Int} (h : BestAt l out k b) {r : Rl} (hr : l[k]? = some r) (hn : okAt l out r = false) : BestAt l out (k + 1) b := by
  rcases h with ⟨h1, h2⟩ | ⟨n, q, h1, h2, h3, h4, h5⟩
  · refine .inl ⟨h1, fun i x hi hx => ?_⟩
    by_cases hik : i < k
    · exact h2 i x hik hx
    · obtain rfl : i = k := by omega
      rw [hr] at hx
      injection hx with hx
      subst hx
      exact hn
  · refine .inr ⟨n, q, h1, by omega, h3, h4, fun i x hi hx hok => ?_⟩
    by_cases hik : i < k
    · exact h5 i x hik hx hok
    · obtain rfl : i = k := by omega
      rw [hr] at hx
      injection hx with hx
      subst hx
      rw [hn] at hok
      cases hok
theorem BestAt.first {l : List Rl} {out : List ByteArray} {k : Nat} (h : BestAt l out k (-1)) {r : Rl} (hr : l[k]? = some r) (hok : okAt l out r = true) : BestAt l out (k + 1) (k : Int) := by
  rcases h with ⟨_, h2⟩ | ⟨n, q, h1, _⟩
  · refine .inr ⟨k, r, rfl, by omega, hr, hok, fun i x hi hx hx2 => ?_⟩
    by_cases hik : i < k
    · rw [h2 i x hik hx] at hx2
      cases hx2
    · obtain rfl : i = k := by omega
      rw [hr] at hx
      injection hx with hx
      subst hx
      rw [cmpS_reflY]
      omega
  · omega
theorem BestAt.less {l : List Rl} {out : List ByteArray} {k n : Nat} {q : Rl} (h : BestAt l out k (n : Int)) (hq : l[n]? = some q) {r : Rl} (hr : l[k]? = some r) (hok : okAt l out r = true) (hc : cmpS r.nm q.nm < 0) : BestAt l out (k + 1) (k : Int) := by
  rcases h with ⟨h1, _⟩ | ⟨n2, q2, h1, h2, h3, h4, h5⟩
  · omega
  · obtain rfl : n = n2 := by omega
    rw [h3] at hq
    injection hq with hq
    subst hq
    refine .inr ⟨k, r, rfl, by omega, hr, hok, fun i x hi hx hx2 => ?_⟩
    by_cases hik : i < k
    · have := h5 i x hik hx hx2
      have := cmpS_ordered.trl r.nm q2.nm x.nm (by omega) this (.inl hc)
      omega
    · obtain rfl : i = k := by omega
      rw [hr] at hx
      injection hx with hx
      subst hx
      rw [cmpS_reflY]
      omega
theorem BestAt.notLess {l : List Rl} {out : List ByteArray} {k n : Nat} {q : Rl} (h : BestAt l out k (n : Int)) (hq : l[n]? = some q) {r : Rl} (hr : l[k]? = some r) (hc : ¬ cmpS r.nm q.nm < 0) : BestAt l out (k + 1) (n : Int) := by
  rcases h with ⟨h1, _⟩ | ⟨n2, q2, h1, h2, h3, h4, h5⟩
  · omega
  · obtain rfl : n = n2 := by omega
    rw [h3] at hq
    injection hq with hq
    subst hq
    refine .inr ⟨n, q2, rfl, by omega, h3, h4, fun i x hi hx hx2 => ?_⟩
    by_cases hik : i < k
    · exact h5 i x hik hx hx2
    · obtain rfl : i = k := by omega
      rw [hr] at hx
      injection hx with hx
      subst hx
      have := cmpS_antiY r.nm q2.nm
      omega
theorem BestAt.done {l : List Rl} (hd : (nms l).Nodup) {out : List ByteArray} {b : Int} (h : BestAt l out l.length b) : (b = -1 ∧ nextS l out = none) ∨ ∃ (n : Nat) (r : Rl), b = (n : Int) ∧ l[n]? = some r ∧ nextS l out = some r.nm := by
  rcases h with ⟨h1, h2⟩ | ⟨n, r, h1, h2, h3, h4, h5⟩
  · refine .inl ⟨h1, next_none hd fun r hr => ?_⟩
    obtain ⟨i, hi, rfl⟩ := List.getElem_of_mem hr
    exact h2 i _ hi (List.getElem?_eq_getElem hi)
  · refine .inr ⟨n, r, h1, h3, next_some hd (List.mem_of_getElem? h3) h4 fun q hq hok => ?_⟩
    obtain ⟨i, hi, rfl⟩ := List.getElem_of_mem hq
    exact h5 i _ hi (List.getElem?_eq_getElem hi) hok

/-- Names are each once just if each is found at its place. -/
theorem nodup_pos (ns : List ByteArray) (h : ∀ (i : Nat) (s : ByteArray), ns[i]? = some s → posS ns s = (i : Int)) : ns.Nodup := by
  refine List.pairwise_iff_getElem.2 fun i j hi hj hij he => ?_
  have h1 := h j _ (List.getElem?_eq_getElem hj)
  have h2 := h i _ (List.getElem?_eq_getElem hi)
  rw [he] at h2
  omega
theorem pos_nodup {ns : List ByteArray} (h : ns.Nodup) (i : Nat) (s : ByteArray) (hs : ns[i]? = some s) : posS ns s = (i : Int) := by
  refine posS_at ?_ hs (toList_eqT.2 rfl)
  cases hx : hasX s (ns.take i) with
  | false => rfl
  | true =>
    obtain ⟨j, hj, e⟩ := List.getElem_of_mem (hasX_iff.1 hx)
    rw [List.length_take] at hj
    rw [List.getElem_take] at e
    obtain ⟨hi, e2⟩ := List.getElem?_eq_some_iff.1 hs
    have := nodup_inj h (i := j) (j := i) (by omega) hi (e.trans e2.symm)
    omega
theorem order_long {l : List Rl} (h : 12 < l.length) : orderL l = ([], 9) := by unfold orderL; rw [if_pos h]
theorem order_twice {l : List Rl} (h : ¬ 12 < l.length) (hd : ¬ (nms l).Nodup) : orderL l = ([], 4) := by unfold orderL; rw [if_neg h, if_neg hd]
theorem order_goes {l : List Rl} (h : ¬ 12 < l.length) (hd : (nms l).Nodup) : orderL l = orderGo l l.length [] := by unfold orderL; rw [if_neg h, if_pos hd]
theorem orderGo_next {l : List Rl} {f : Nat} {out : List ByteArray} {s : ByteArray} (h : nextS l out = some s) : orderGo l (f + 1) out = orderGo l f (out ++ [s]) := by
  show (match nextS l out with | none => _ | some s => _) = _
  rw [h]
theorem orderGo_cycle {l : List Rl} {f : Nat} {out : List ByteArray} (h : nextS l out = none) : orderGo l (f + 1) out = ([], 13) := by
  show (match nextS l out with | none => _ | some s => _) = _
  rw [h]
end Go.Proofs.Ytojpccngcicbmaa
