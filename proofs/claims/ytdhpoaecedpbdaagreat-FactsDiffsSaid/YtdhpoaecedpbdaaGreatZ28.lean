/-
  The objects of a store's map, one after another in any order: what has come of them.
  No condition.
  Of of package store: how many objects stand in a space, whatever order the map tells them in.
  Condition: no more than a thousand objects.
-/
import Derived.Maps.RangeWalk
import Derived.Sort.KeysCollected
import Derived.Outline
import Derived.Test.YtdhpoaecedpbdaaGreatZ26
namespace Go.Proofs.YtdhpoaecedpbdaaGreat
section
open Go.RowKit Go.Maps

/-- A key as the map's datum has it. -/
def kb (o : Ob) : List UInt8 := keyBytes [.string o.key.1.data.toList, .string o.key.2.1.data.toList, .string o.key.2.2.data.toList]
theorem ko_kb (o : Ob) : ko o.key = .string (kb o) := rfl
theorem ObR.get2 {w : World} {Q : Nat → Prop} : ∀ {a : List OE} {b : List Ob}, ObR w Q a b → ∀ o ∈ b, ∃ e ∈ a, e.key = o.key
  | [], [], _, o, ho => by cases ho
  | e :: es, o' :: os, h, o, ho => by
    rcases List.mem_cons.1 ho with rfl | ho
    · exact ⟨e, by simp, h.1.1⟩
    · obtain ⟨e', h1, h2⟩ := h.2.get2 o ho
      exact ⟨e', List.mem_cons_of_mem _ h1, h2⟩
theorem ObR.okeys {w : World} {Q : Nat → Prop} {D : DataW Value} {es : List OE} {os : List Ob} (h : ObR w Q es os) (hr : RelO D es) : ∀ o ∈ os, kOk o.key := by
  intro o ho
  obtain ⟨e, h1, h2⟩ := h.get2 o ho
  rw [← h2]
  exact hr.2.2.2.2 e h1
/-- These have come. -/
def Seen (D : DataW Value) (left : Lit → Bool) (os ps : List Ob) : Prop := Collected D left (ps.map kb) ∧ ∀ p ∈ ps, p ∈ os
theorem Seen.start (D : DataW Value) (os : List Ob) : Seen D (Maps.has D) os [] := ⟨Collected.start D, by simp⟩
theorem Seen.step {w : World} {Q : Nat → Prop} {D : DataW Value} {left : Lit → Bool} {es : List OE} {os ps : List Ob} (h : Seen D left os ps) (hR : RelO D es) (hB : ObR w Q es os) {x : Ky} {kl : Lit} {c : Value} {y : DataW Value × List MemPlace}
    (hkey : keyOf Tryz.prog 103 (kV x) = some kl) (hl : left kl = true) (hv : RpO c = some y) (hat : ∀ zd, D.atKey kl zd = y.1) :
    ∃ e o, c = oV e ∧ e.key = x ∧ o.key = x ∧ e.v = o.v ∧ IsRow w Q e.u o.c ∧ o ∈ os ∧ kl = ko o.key ∧ Seen D (fun z => left z && !z.sameKey kl) os (ps ++ [o]) := by
  obtain ⟨x', hx, he, rfl⟩ := keyOf_back hkey
  have hxx : x = x' := by
    obtain ⟨a1, a2, a3⟩ := x
    obtain ⟨b1, b2, b3⟩ := x'
    unfold kV at he
    simp only [Value.agg.injEq, Array.mk.injEq, List.cons.injEq, Value.string.injEq, and_true] at he
    obtain ⟨rfl, rfl, rfl⟩ := he
    rfl
  subst hxx
  unfold RpO at hv
  injection hv with hv
  subst hv
  have h1 := hR.1 x hx
  rw [hat] at h1
  injection h1 with h1
  have h2 : Maps.has D (ko x) = true := has_true_of_atKey (k := .string (keyBytes [.string x.1.data.toList, .string x.2.1.data.toList, .string x.2.2.data.toList])) hat
  rw [hR.2.1 x hx] at h2
  rcases hB.find x with ⟨f1, _⟩ | ⟨e, o, f1, f2, f3, f4, f5, f6⟩
  · rw [f1] at h2
    cases h2
  · rw [f1] at h1
    have hko : ko x = .string (kb o) := by rw [← ko_kb, f4]
    have ho := List.mem_of_find?_eq_some f2
    refine ⟨e, o, h1, f3, f4, f5, f6, ho, by rw [f4], ?_, fun p hp => ?_⟩
    · rw [List.map_append, List.map_cons, List.map_nil]
      rw [hko] at hl hat ⊢
      exact h.1.step hl hat
    · rcases List.mem_append.1 hp with hp | hp
      · exact h.2 p hp
      · rw [List.mem_singleton.1 hp]
        exact ho
/-- The same objects, in any order. -/
def AnyO (os ps : List Ob) : Prop := (ps.Pairwise fun a b => a.key ≠ b.key) ∧ ∀ x, x ∈ ps ↔ x ∈ os
theorem mem_key {os : List Ob} (hn : os.Pairwise fun a b => a.key ≠ b.key) {x y : Ob} (hx : x ∈ os) (hy : y ∈ os) (h : x.key = y.key) : x = y := by
  induction os with
  | nil => cases hx
  | cons a os ih =>
    obtain ⟨h1, h2⟩ := List.pairwise_cons.1 hn
    rcases List.mem_cons.1 hx with rfl | hx'
    · rcases List.mem_cons.1 hy with rfl | hy'
      · rfl
      · exact absurd h (h1 y hy')
    · rcases List.mem_cons.1 hy with rfl | hy'
      · exact absurd h.symm (h1 x hx')
      · exact ih h2 hx' hy'
theorem Seen.all {w : World} {Q : Nat → Prop} {D : DataW Value} {left : Lit → Bool} {es : List OE} {os ps : List Ob} (h : Seen D left os ps) (hR : RelO D es) (hB : ObR w Q es os) (hn : os.Pairwise fun a b => a.key ≠ b.key) (hl : ∀ k, left k = false) : AnyO os ps := by
  have hok := hB.okeys hR
  refine ⟨?_, fun x => ⟨h.2 x, fun hx => ?_⟩⟩
  · have h1 := List.pairwise_map.1 h.1.1
    exact List.Pairwise.imp (fun h e => h (by unfold kb; rw [e])) h1
  · have hh : Maps.has D (.string (kb x)) = true := by
      rw [← ko_kb, hR.2.1 _ (hok x hx)]
      obtain ⟨e, h1, h2⟩ := hB.get2 x hx
      unfold findO
      rw [List.find?_isSome]
      exact ⟨e, h1, by simpa using h2⟩
    obtain ⟨y, hy, hk⟩ := List.mem_map.1 ((h.1.2 (kb x)).2 ⟨hh, hl _⟩)
    have hyo := h.2 y hy
    have : y = x := mem_key hn hyo hx (ko_inj (hok y hyo) (hok x hx) (by rw [ko_kb, ko_kb, hk]))
    rw [← this]
    exact hy
theorem nodup_lenO {α : Type} [DecidableEq α] : ∀ (c M : List α), c.Nodup → (∀ y ∈ c, y ∈ M) → c.length ≤ M.length
  | [], _, _, _ => Nat.zero_le _
  | y :: c, M, hn, hm => by
    have h1 := List.nodup_cons.1 hn
    have hy := hm y (by simp)
    have h2 := nodup_lenO c (M.erase y) h1.2 fun z hz => (List.mem_erase_of_ne (show z ≠ y from fun e => h1.1 (by rw [← e]; exact hz))).2 (hm z (List.mem_cons_of_mem _ hz))
    rw [List.length_erase_of_mem hy] at h2
    have := List.length_pos_of_mem hy
    rw [List.length_cons]
    omega
theorem AnyO.count {os ps : List Ob} (h : AnyO os ps) (hn : os.Pairwise fun a b => a.key ≠ b.key) (p : Ob → Bool) : (ps.filter p).length = (os.filter p).length := by
  have g : ∀ a b : List Ob, (a.Pairwise fun x y => x.key ≠ y.key) → (∀ x, x ∈ a → x ∈ b) → (a.filter p).length ≤ (b.filter p).length := by
    intro a b ha hm
    have h1 : ((a.filter p).map (·.key)).Nodup := List.pairwise_map.2 (ha.sublist List.filter_sublist)
    have := nodup_lenO ((a.filter p).map (·.key)) ((b.filter p).map (·.key)) h1 fun y hy => by
      obtain ⟨x, hx, rfl⟩ := List.mem_map.1 hy
      obtain ⟨hx1, hx2⟩ := List.mem_filter.1 hx
      exact List.mem_map.2 ⟨x, List.mem_filter.2 ⟨hm x hx1, hx2⟩, rfl⟩
    simpa using this
  exact Nat.le_antisymm (g _ _ h.1 fun x hx => (h.2 x).1 hx) (g _ _ hn fun x hx => (h.2 x).2 hx)
theorem Seen.len {D : DataW Value} {left : Lit → Bool} {os ps : List Ob} (h : Seen D left os ps) : ps.length ≤ os.length := by
  have hn : (ps.map (·.key)).Nodup := by
    have h1 := List.pairwise_map.1 h.1.1
    exact List.pairwise_map.2 (List.Pairwise.imp (fun h e => h (by unfold kb; rw [e])) h1)
  have := nodup_lenO (ps.map (·.key)) (os.map (·.key)) hn fun y hy => by
    obtain ⟨x, hx, rfl⟩ := List.mem_map.1 hy
    exact List.mem_map.2 ⟨x, h.2 x hx, rfl⟩
  simpa using this
end
section
open Go.RowKit Go.Maps

theorem cntB_snoc (ps : List Ob) (o : Ob) (sp : ByteArray) : cntB (ps ++ [o]) sp = cntB ps sp + (if (o.key.2.1.toList == sp.toList) = true then 1 else 0) := by
  unfold cntB
  rw [List.filter_append]
  by_cases hc : (o.key.2.1.toList == sp.toList) = true <;> simp [hc]
theorem cntB_len (ps : List Ob) (sp : ByteArray) : cntB ps sp ≤ ps.length := List.length_filter_le _ _

end
end Go.Proofs.YtdhpoaecedpbdaaGreat
