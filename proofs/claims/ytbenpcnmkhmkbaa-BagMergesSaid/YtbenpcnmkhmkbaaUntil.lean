/-
  A region that draws its order, some of whose loads are of cells that its last calls write: the loads may be taken first all the same, if an operation that waits for them (the marker) comes ahead of those calls: what the cells hold is asked only until the marker has come up.
  Condition: the marker waits for each load itself.
-/
import Derived.Test.YtbenpcnmkhmkbaaMways
import Derived.OrdersHeld
namespace Go.Proofs.Ytbenpcnmkhmkbaa
open Go.RowKit

section
variable {P : Program} {ops : Array Oper} {Q : Exit → Act → World → Prop} {md : Region.Mode} {S : World → Prop} {m : Nat}

/-- Whatever order is picked from here on; S holds behind every operation until number m has come up. -/
def wpUntil (P : Program) (md : Region.Mode) (ops : Array Oper) (Q : Exit → Act → World → Prop) (S : World → Prop) (m : Nat) : Nat → Array Bool → Act → World → Prop
  | 0, listed, a, w => Region.ready md ops listed = [] ∧ Q .normal a w
  | fuel + 1, listed, a, w =>
    (Region.ready md ops listed = [] → Q .normal a w) ∧
    ∀ i ∈ Region.ready md ops listed, wpOp P ops Q i (fun a' w' => ((listed.setIfInBounds i true).getD m false = true ∨ S w') ∧ wpUntil P md ops Q S m fuel (listed.setIfInBounds i true) a' w') a w

theorem any_of_until : ∀ (fuel : Nat) (listed : Array Bool) (a : Act) (w : World), wpUntil P md ops Q S m fuel listed a w → wpAny P md ops Q fuel listed a w
  | 0, _, _, _, h => h
  | fuel + 1, _, _, _, h => ⟨h.1, fun i hi => wpOp_mono (fun a' w' h' => any_of_until fuel _ a' w' h'.2) (h.2 i hi)⟩

theorem getD_set (l : Array Bool) (i m : Nat) (h : l.getD m false = true) : (l.setIfInBounds i true).getD m false = true := by
  have hlt : m < l.size := by
    rcases Nat.lt_or_ge m l.size with h' | h'
    · exact h'
    · simp [Array.getElem?_eq_none h'] at h
  by_cases hi : i = m
  · subst hi
    simp [hlt]
  · simp only [Array.getD_eq_getD_getElem?] at h ⊢
    rw [Array.getElem?_setIfInBounds_ne hi]
    exact h
/-- Once the marker has come up nothing more is asked. -/
theorem until_of_any : ∀ (fuel : Nat) (listed : Array Bool) (a : Act) (w : World), listed.getD m false = true → wpAny P md ops Q fuel listed a w → wpUntil P md ops Q S m fuel listed a w
  | 0, _, _, _, _, h => h
  | fuel + 1, listed, _, _, hm, h => ⟨h.1, fun i hi => wpOp_mono (fun a' w' h' => ⟨Or.inl (getD_set listed i m hm), until_of_any fuel _ a' w' (getD_set listed i m hm) h'⟩) (h.2 i hi)⟩

theorem unlisted_ne (l : Array Bool) {i m : Nat} (h : i ≠ m) : (l.setIfInBounds i true).getD m false = l.getD m false := by
  simp only [Array.getD_eq_getD_getElem?]
  rw [Array.getElem?_setIfInBounds_ne h]

theorem until_first {i : Nat} {oi om : Oper} {v : Value} (hi : ops[i]? = some oi) (hsel : ∀ (j : Nat) (o : Oper) cs b, ops[j]? = some o → o.op ≠ .select cs b)
    (hQ : ∀ c a w, Q (.panic c) (a.put oi.dst v) w → Q (.panic c) a w) (hom : ops[m]? = some om) (hdep : ∃ e ∈ om.after, Region.binds md e = true ∧ e.on = i) (hne : i ≠ m) :
    ∀ (fuel : Nat) (listed : Array Bool) (a : Act) (w : World),
      (∀ j oj, ops[j]? = some oj → j ≠ i → listed.getD j true = false → (∀ e ∈ oj.after, Region.binds md e = true → e.on ≠ i) → oi.apart ops oj = true) →
      i ∈ Region.ready md ops listed → listed.getD m false = false → YieldsIf P ops S oi v a → S w →
      wpUntil P md ops Q S m fuel (listed.setIfInBounds i true) (a.put oi.dst v) w → wpUntil P md ops Q S m (fuel + 1) listed a w := by
  intro fuel
  induction fuel with
  | zero =>
    intro listed a w _ hr _ hy hS H
    refine ⟨fun h => (by rw [h] at hr; cases hr), fun j hj => ?_⟩
    by_cases hji : j = i
    · subst hji
      exact hy.wpOp hi hS ⟨Or.inr hS, H⟩
    · have h0 := ready_mono hj hji
      rw [H.1] at h0
      cases h0
  | succ fuel ih =>
    intro listed a w hfree hr hm hy hS H
    refine ⟨fun h => (by rw [h] at hr; cases hr), fun j hj => ?_⟩
    by_cases hji : j = i
    · subst hji
      exact hy.wpOp hi hS ⟨Or.inr hS, H⟩
    · have hback := H.2 j (ready_mono hj hji)
      obtain ⟨hjun, oj, hoj, hall⟩ := mem_ready.1 hj
      have hun := (mem_ready.1 hr).1
      have hnot : ∀ e ∈ oj.after, Region.binds md e = true → e.on ≠ i := by
        intro e he hb heq
        have h1 := hall e he hb
        rw [heq] at h1
        rcases Nat.lt_or_ge i listed.size with h' | h'
        · simp [h'] at hun h1
          rw [hun] at h1
          cases h1
        · simp [Array.getElem?_eq_none h'] at h1
      have hjm : j ≠ m := by
        rintro rfl
        rw [hom] at hoj
        injection hoj with hoj
        subst hoj
        obtain ⟨e, he, hb, heq⟩ := hdep
        exact hnot e he hb heq
      have hput := wpOp_putIf hoj (hfree j oj hoj hji hjun hnot) (fun cs b => hsel i oi cs b hi) (fun cs b => hsel j oj cs b hoj) hQ hy hback
      have hm2 : (listed.setIfInBounds j true).getD m false = false := (unlisted_ne listed hjm).trans hm
      refine wpOp_mono (fun a' w' h3 => ?_) hput
      obtain ⟨hy', hS', hrest⟩ := h3
      have hSw : S w' := by
        rcases hS' with h | h
        · rw [unlisted_ne _ hjm, unlisted_ne _ hne, hm] at h
          cases h
        · exact h
      refine ⟨Or.inr hSw, ih (listed.setIfInBounds j true) a' w' (fun k ok hk hki hkun hno => hfree k ok hk hki ?_ hno) (ready_mono hr (Ne.symm hji)) hm2 hy' hSw ?_⟩
      · by_cases hjk : j = k
        · subst hjk
          exact hjun
        · rw [getD_set_ne true hjk] at hkun
          exact hkun
      · rw [Array.setIfInBounds_comm _ _ hji]
        exact hrest

/-! ### The moves of a walk -/

/-- What is asked behind a statement that ends as it should. -/
def Goes1 (Q : Exit → Act → World → Prop) (e : Exit) (a : Act) (w : World) : Prop := e = .normal ∧ Q .normal a w

theorem any_begin {id : Nat} {a : Act} {w : World} (hm : P.follows .mixedOrders = true) (h : wpAny P .any ops (Goes1 Q) ops.size (Array.replicate ops.size false) a w.drew) : (Code.region id ops true).wp P Q a w :=
  Code.wp_mono (fun e a w h => by obtain ⟨rfl, h⟩ := h; exact h) (wp_region_any hm h)
theorem p_take {i d : Nat} {oi : Oper} {v : Value} {fuel : Nat} {listed : Array Bool} {a : Act} {w : World} (hi : ops[i]? = some oi) (hd : oi.dst = some d) (hs : Region.noSelect ops = true) (hf : Region.free md ops listed i = true) (hr : (Region.ready md ops listed).contains i = true)
    (hw : Region.wanted oi (yielded ops a.tmps) = true) (hy : ∀ w, (execOp a.eval oi).run P w = .ok (.value v) w)
    (h : wpAny P md ops (Goes1 Q) fuel (listed.setIfInBounds i true) { tmps := a.tmps.setIfInBounds d v, defers := a.defers } w) : wpAny P md ops (Goes1 Q) (fuel + 1) listed a w :=
  wpAny_take hi hs hf hr (fun _ _ _ h => by cases h.1) (Or.inl ⟨hw, hy⟩) (by rw [hd]; exact h)
theorem p_next {i : Nat} {oi : Oper} {fuel : Nat} {listed : Array Bool} {a : Act} {w : World} (hr : Region.ready md ops listed = [i]) (hi : ops[i]? = some oi) (hw : Region.wanted oi (yielded ops a.tmps) = true)
    (h : ∀ K : Act → World → Prop, Hid (∀ a w, wpAny P md ops (Goes1 Q) fuel (listed.setIfInBounds i true) a w → K a w) → Oper.wp P oi a w K (Goes1 Q)) : wpAny P md ops (Goes1 Q) (fuel + 1) listed a w := by
  refine wpAny_all hr (by simp) fun j hj => ?_
  obtain rfl := List.mem_singleton.1 hj
  unfold wpOp
  simp only [hi, hw, if_true]
  exact Or.inl (h _ (Lib.hid fun a w h => h))
theorem p_done {fuel : Nat} {listed : Array Bool} {a : Act} {w : World} (hr : Region.ready md ops listed = []) (h : Q .normal a w) : wpAny P md ops (Goes1 Q) fuel listed a w := wpAny_done hr ⟨rfl, h⟩ _
theorem u_take {i d : Nat} {oi om : Oper} {v : Value} {fuel : Nat} {listed : Array Bool} {a : Act} {w : World} (hi : ops[i]? = some oi) (hd : oi.dst = some d) (hs : Region.noSelect ops = true) (hf : Region.free md ops listed i = true) (hr : (Region.ready md ops listed).contains i = true)
    (hw : Region.wanted oi (yielded ops a.tmps) = true) (hom : ops[m]? = some om) (hdep : (om.after.any fun e => Region.binds md e && e.on == i) = true) (hne : i ≠ m) (hm : listed.getD m false = false) (hy : ∀ w, S w → (execOp a.eval oi).run P w = .ok (.value v) w) (hS : S w)
    (h : wpUntil P md ops (Goes1 Q) S m fuel (listed.setIfInBounds i true) { tmps := a.tmps.setIfInBounds d v, defers := a.defers } w) : wpUntil P md ops (Goes1 Q) S m (fuel + 1) listed a w := by
  refine until_first hi (Region.noSelect_spec hs) (fun _ _ _ h => by cases h.1) hom ?_ hne fuel listed a w (Region.free_spec hi hf) (by simpa using hr) hm (Or.inl ⟨hw, hy⟩) hS (by rw [hd]; exact h)
  obtain ⟨k, hk, hke⟩ := Array.any_eq_true.1 hdep
  rw [Bool.and_eq_true, beq_iff_eq] at hke
  exact ⟨_, Array.getElem_mem hk, hke.1, hke.2⟩
theorem u_next {i : Nat} {oi : Oper} {fuel : Nat} {listed : Array Bool} {a : Act} {w : World} (hr : Region.ready md ops listed = [i]) (hi : ops[i]? = some oi) (hw : Region.wanted oi (yielded ops a.tmps) = true)
    (h : ∀ K : Act → World → Prop, Hid (∀ a w, S w → wpUntil P md ops (Goes1 Q) S m fuel (listed.setIfInBounds i true) a w → K a w) → Oper.wp P oi a w K (Goes1 Q)) : wpUntil P md ops (Goes1 Q) S m (fuel + 1) listed a w := by
  refine ⟨fun h0 => (by rw [h0] at hr; cases hr), fun j hj => ?_⟩
  rw [hr] at hj
  obtain rfl := List.mem_singleton.1 hj
  unfold wpOp
  simp only [hi, hw, if_true]
  exact Or.inl (h _ (Lib.hid fun a w hS h => ⟨Or.inr hS, h⟩))
theorem u_mark {om : Oper} {fuel : Nat} {listed : Array Bool} {a : Act} {w : World} (hr : Region.ready md ops listed = [m]) (hi : ops[m]? = some om) (hw : Region.wanted om (yielded ops a.tmps) = true) (hlt : m < listed.size)
    (h : ∀ K : Act → World → Prop, Hid (∀ a w, wpAny P md ops (Goes1 Q) fuel (listed.setIfInBounds m true) a w → K a w) → Oper.wp P om a w K (Goes1 Q)) : wpUntil P md ops (Goes1 Q) S m (fuel + 1) listed a w := by
  have hset : (listed.setIfInBounds m true).getD m false = true := by simp [hlt]
  refine ⟨fun h0 => (by rw [h0] at hr; cases hr), fun j hj => ?_⟩
  rw [hr] at hj
  obtain rfl := List.mem_singleton.1 hj
  unfold wpOp
  simp only [hi, hw, if_true]
  exact Or.inl (h _ (Lib.hid fun a w h => ⟨Or.inl hset, until_of_any _ _ _ _ hset h⟩))
end
end Go.Proofs.Ytbenpcnmkhmkbaa
