/-
  put of package store: an object in its place, with the next version.
  Condition: fewer than a million objects; versions that fit.
-/
import Derived.Test.YtoeggpoeongnhaaSte
namespace Go.Proofs.Ytoeggpoeongnhaa
open Go.RowKit Go.Maps

/-- Of what was there, blocks s and b alone may have changed. -/
def OnlyS (s b : Nat) (w w' : World) : Prop := Below 0 w w' ∧ ∀ k, k < w.heap.size → k ≠ s → k ≠ b → w'.heap[k]? = w.heap[k]?
theorem OnlyS.below {s b h : Nat} {w w' : World} (ho : OnlyS s b w w') (hs : h ≤ s) (hb : h ≤ b) (hw : h ≤ w.heap.size) : Below h w w' := by
  obtain ⟨h1, h2⟩ := ho
  exact ⟨h1.os, h1.tape, h1.output, h1.size, fun k hk => h2 k (by omega) (by omega) (by omega)⟩
theorem OnlyS.of {s b : Nat} {w w' : World} (hb : Below w.heap.size w w') : OnlyS s b w w' := ⟨hb.mono (Nat.zero_le _), fun k hk _ _ => hb.block k hk⟩
theorem OnlyS.trans {s b : Nat} {w w1 w2 : World} (h1 : OnlyS s b w w1) (h2 : OnlyS s b w1 w2) : OnlyS s b w w2 :=
  ⟨h1.1.trans h2.1, fun k hk hs hb => (h2.2 k (Nat.lt_of_lt_of_le hk h1.1.size) hs hb).trans (h1.2 k hk hs hb)⟩
theorem OnlyS.keepQ {s b : Nat} {w w' : World} {Q : Nat → Prop} (h : OnlyS s b w w') (hs : ¬ Q s) (hb : ¬ Q b) : KeepQ Q w w' := fun k hq hk => h.2 k hk (fun e => hs (e ▸ hq)) (fun e => hb (e ▸ hq))

/-! ### lists -/
theorem find_put {α : Type} {key : α → Ky} (L : List α) (p q : Nat) (x : α) (k : Ky) (hk : key x = k) (hn : L.Pairwise fun a b => key a ≠ key b)
    (hq : (q = p ∧ ∀ y ∈ L, key y ≠ k) ∨ (q = p + 1 ∧ ∃ y, L[p]? = some y ∧ key y = k)) (b : Ky) :
    (L.take p ++ x :: L.drop q).find? (fun y => decide (key y = b)) = if b = k then some x else L.find? (fun y => decide (key y = b)) := by
  have hsplit : L.find? (fun y => decide (key y = b)) = (L.take p ++ L.drop p).find? (fun y => decide (key y = b)) := by rw [List.take_append_drop]
  rw [List.find?_append]
  rcases hq with ⟨rfl, hno⟩ | ⟨rfl, y, hy, hyk⟩
  · by_cases hb : b = k
    · subst hb
      rw [if_pos rfl]
      have h1 : (L.take q).find? (fun y => decide (key y = b)) = none := by
        rw [List.find?_eq_none]
        intro z hz
        simpa using hno z (List.mem_of_mem_take hz)
      rw [h1]
      simp [hk]
    · rw [if_neg hb, hsplit, List.find?_append, List.find?_cons]
      have : decide (key x = b) = false := by rw [hk]; simpa using fun e => hb e.symm
      rw [this]
  · have hlt := (List.getElem?_eq_some_iff.1 hy).1
    have hye := (List.getElem?_eq_some_iff.1 hy).2
    have hd : L.drop p = y :: L.drop (p + 1) := by rw [List.drop_eq_getElem_cons hlt, hye]
    by_cases hb : b = k
    · subst hb
      rw [if_pos rfl]
      have h1 : (L.take p).find? (fun y => decide (key y = b)) = none := by
        rw [List.find?_eq_none]
        intro z hz
        obtain ⟨i, hi, he⟩ := List.mem_iff_getElem.1 hz
        rw [List.length_take] at hi
        rw [List.getElem_take] at he
        have h2 := List.pairwise_iff_getElem.1 hn i p (by omega) hlt (by omega)
        rw [he, hye, hyk] at h2
        simpa using h2
      rw [h1]
      simp [hk]
    · rw [if_neg hb, hsplit, List.find?_append, hd, List.find?_cons, List.find?_cons]
      have h1 : decide (key x = b) = false := by rw [hk]; simpa using fun e => hb e.symm
      have h2 : decide (key y = b) = false := by rw [hyk]; simpa using fun e => hb e.symm
      rw [h1, h2]
theorem put_apart {α : Type} {key : α → Ky} (L : List α) (p q : Nat) (x : α) (k : Ky) (hk : key x = k) (hn : L.Pairwise fun a b => key a ≠ key b)
    (hq : (q = p ∧ ∀ y ∈ L, key y ≠ k) ∨ (q = p + 1 ∧ ∃ y, L[p]? = some y ∧ key y = k)) : (L.take p ++ x :: L.drop q).Pairwise fun a b => key a ≠ key b := by
  have hpq : p ≤ q := by rcases hq with ⟨h, _⟩ | ⟨h, _⟩ <;> omega
  have hnok : (∀ y ∈ L.take p, key y ≠ k) ∧ ∀ y ∈ L.drop q, key y ≠ k := by
    rcases hq with ⟨rfl, hno⟩ | ⟨rfl, y, hy, hyk⟩
    · exact ⟨fun y hy => hno y (List.mem_of_mem_take hy), fun y hy => hno y (List.mem_of_mem_drop hy)⟩
    · have hlt := (List.getElem?_eq_some_iff.1 hy).1
      have hye := (List.getElem?_eq_some_iff.1 hy).2
      refine ⟨fun z hz => ?_, fun z hz => ?_⟩
      · obtain ⟨i, hi, he⟩ := List.mem_iff_getElem.1 hz
        rw [List.length_take] at hi
        rw [List.getElem_take] at he
        have h2 := List.pairwise_iff_getElem.1 hn i p (by omega) hlt (by omega)
        rw [he, hye, hyk] at h2
        exact h2
      · obtain ⟨i, hi, he⟩ := List.mem_iff_getElem.1 hz
        rw [List.length_drop] at hi
        rw [List.getElem_drop] at he
        have h2 := List.pairwise_iff_getElem.1 hn p (p + 1 + i) hlt (by omega) (by omega)
        rw [he, hye, hyk] at h2
        exact Ne.symm h2
  refine List.pairwise_append.2 ⟨hn.sublist (List.take_sublist _ _), List.pairwise_cons.2 ⟨fun y hy => by rw [hk]; exact Ne.symm (hnok.2 y hy), hn.sublist (List.drop_sublist _ _)⟩, fun a ha b hb => ?_⟩
  rcases List.mem_cons.1 hb with rfl | hb
  · rw [hk]; exact hnok.1 a ha
  · obtain ⟨i, hi, he⟩ := List.mem_iff_getElem.1 ha
    obtain ⟨j, hj, hf⟩ := List.mem_iff_getElem.1 hb
    rw [List.length_take] at hi
    rw [List.getElem_take] at he
    rw [List.length_drop] at hj
    rw [List.getElem_drop] at hf
    have h2 := List.pairwise_iff_getElem.1 hn i (q + j) (by omega) (by omega) (by omega)
    rw [he, hf] at h2
    exact h2
/-- Where an object goes. -/
def GoesAt (os : List Ob) (k : Ky) (p q : Nat) : Prop := p ≤ os.length ∧ ((q = p ∧ findB os k = none) ∨ (q = p + 1 ∧ ∃ y, os[p]? = some y ∧ y.key = k))
theorem GoesAt.es {w : World} {Q : Nat → Prop} {es : List OE} {os : List Ob} {k : Ky} {p q : Nat} (h : GoesAt os k p q) (hr : ObR w Q es os) : (q = p ∧ ∀ y ∈ es, y.key ≠ k) ∨ (q = p + 1 ∧ ∃ y, es[p]? = some y ∧ y.key = k) := by
  rcases h.2 with ⟨h1, h2⟩ | ⟨h1, y, h2, h3⟩
  · refine .inl ⟨h1, ?_⟩
    rcases hr.find k with ⟨f1, _⟩ | ⟨e, o, _, f2, _⟩
    · intro y hy
      have := List.find?_eq_none.1 f1 y hy
      simpa using this
    · rw [h2] at f2; cases f2
  · obtain ⟨e, h4, h5, _⟩ := hr.get p y h2
    exact .inr ⟨h1, e, h4, by rw [h5, h3]⟩
theorem StoB.put {w w' : World} {Q : Nat → Prop} {s b : Nat} {kv : Value} {KL : List Sc} {D : DataW Value} {es : List OE} {os : List Ob} {e : OE} {o : Ob} {p q : Nat} {last' : Int} {n : Nat}
    (h1 : w'.heap[s]? = some (.cells #[kv, .map (some b), .int .i64 last'] 101 (0, 0))) (h2 : IsKinds w' Q kv KL) (h3 : w'.ownsMap Try.prog 103 RpO b n (D.put (ko e.key) (.held (oV e)))) (h4 : RelO D es) (ht : Tidy D) (h5 : ObR w Q es os) (h5' : ObR w' Q es os)
    (h6 : s ≠ b) (h7 : b < w'.heap.size) (h8 : ¬ Q s) (h9 : ¬ Q b) (hk : kOk e.key) (he : e.key = o.key) (hv : e.v = o.v) (hrow : IsRow w' Q e.u o.c) (hg : GoesAt os o.key p q) : StoB w' Q s b (os.take p ++ o :: os.drop q) last' KL := by
  rw [← he] at hg
  have hq := hg.es h5
  have hlen := h5.len
  have hrel : RelO (D.put (ko e.key) (.held (oV e))) (es.take p ++ e :: es.drop q) := by
    refine RelO.put h4 ht hk (fun b => find_put es p q e e.key rfl h4.2.2.2.1 hq b) ?_ (put_apart es p q e e.key rfl h4.2.2.2.1 hq) ?_
    · have hp := hg.1
      rw [List.length_append, List.length_cons, List.length_take, List.length_drop]
      rcases hq with ⟨h, hno⟩ | ⟨h, y, hy, hyk⟩
      · have : findO es e.key = none := by unfold findO; rw [List.find?_eq_none]; intro y hy; simpa using hno y hy
        rw [this]
        simp only [Option.isSome_none, Bool.false_eq_true, if_false]
        omega
      · have hs : (findO es e.key).isSome = true := by unfold findO; rw [List.find?_isSome]; exact ⟨y, List.mem_of_getElem? hy, by simpa using hyk⟩
        rw [if_pos hs]
        have := (List.getElem?_eq_some_iff.1 hy).1
        omega
    · intro x hx
      rcases List.mem_append.1 hx with hx | hx
      · exact h4.2.2.2.2 x (List.mem_of_mem_take hx)
      · rcases List.mem_cons.1 hx with rfl | hx
        · exact hk
        · exact h4.2.2.2.2 x (List.mem_of_mem_drop hx)
  refine ⟨kv, _, es.take p ++ e :: es.drop q, h1, h2, ?_, hrel, ?_, h6, h7, h8, h9⟩
  · have := ownsMapO_tight h3
    rw [hrel.2.2.1] at this
    exact this
  · exact (h5'.take p).append (show ObR w' Q (e :: es.drop q) (o :: os.drop q) from ⟨⟨he, hv, hrow⟩, h5'.drop q⟩)
end Go.Proofs.Ytoeggpoeongnhaa
