/-
  A map from what tells objects apart to objects, read as a list; a store in memory.
  No condition but that texts are no longer than texts can be.
-/
import Derived.Test.YtoeggpoeongnhaaSta
import Derived.Test.YtoeggpoeongnhaaSset
import Derived.Test.YtoeggpoeongnhaaOf
namespace Go.Proofs.Ytoeggpoeongnhaa
open Go.RowKit Go.Maps

/-- An object as the map has it: what tells it apart, its version, its cells as a slice. -/
structure OE where
  key : Ky
  v : Int
  u : Value
/-- An object as a plain thing. -/
structure Ob where
  key : Ky
  v : Int
  c : List V
def oV (e : OE) : Value := .agg #[.string e.key.1, .string e.key.2.1, .string e.key.2.2, .int .i64 e.v, e.u]
def noO : Value := .agg #[.string ⟨#[]⟩, .string ⟨#[]⟩, .string ⟨#[]⟩, .int .i64 0, .slice none 0 0]
def RpO (v : Value) : Option (DataW Value × List MemPlace) := some (.held v, [])
def findO (L : List OE) (k : Ky) : Option OE := L.find? fun x => decide (x.key = k)
def orO : Option OE → Value
  | none => noO
  | some x => oV x
theorem zeroO (w : World) : (zeroValue 30).run Try.prog w = .ok noO w := by kernel_rfl
/-- The map reads as these objects. -/
def RelO (D : DataW Value) (L : List OE) : Prop := (∀ k, kOk k → D.atKey (ko k) (.held noO) = .held (orO (findO L k))) ∧ (∀ k, kOk k → Maps.has D (ko k) = (findO L k).isSome) ∧ Maps.size D = L.length ∧ (L.Pairwise fun a b => a.key ≠ b.key) ∧ ∀ e ∈ L, kOk e.key
theorem RelO.empty : RelO (.map []) [] := ⟨fun _ _ => rfl, fun _ _ => rfl, rfl, List.Pairwise.nil, by simp⟩
theorem RelO.put {D : DataW Value} {L L' : List OE} {k : Ky} {x : OE} (r : RelO D L) (ht : Tidy D) (hk : kOk k) (hp : ∀ b, findO L' b = if b = k then some x else findO L b)
    (hl : L'.length = if (findO L k).isSome = true then L.length else L.length + 1) (hn : L'.Pairwise fun a b => a.key ≠ b.key) (ho : ∀ e ∈ L', kOk e.key) : RelO (D.put (ko k) (.held (oV x))) L' := by
  obtain ⟨r1, r2, r3, _, _⟩ := r
  have hkl : WideAt.IsKeyLit (ko k) := trivial
  refine ⟨fun b hb => ?_, fun b hb => ?_, ?_, hn, ho⟩
  · rw [hp b]
    by_cases e : b = k
    · subst e; rw [if_pos rfl, atKey_put_same ht.isMap hkl]; rfl
    · rw [if_neg e, atKey_put_other (fun e2 => e (ko_inj hb hk e2)), r1 b hb]
  · rw [hp b]
    by_cases e : b = k
    · subst e; rw [has_put_same ht.isMap hkl]; simp
    · rw [has_put_other (fun e2 => e (ko_inj hb hk e2)), r2 b hb]; simp [e]
  · rw [size_put ht, r2 k hk, r3, hl]
theorem RelO.del {D : DataW Value} {L L' : List OE} {k : Ky} (r : RelO D L) (ht : Tidy D) (hk : kOk k) (hp : ∀ b, findO L' b = if b = k then none else findO L b)
    (hl : L.length = L'.length + 1) (hs : (findO L k).isSome = true) (hn : L'.Pairwise fun a b => a.key ≠ b.key) (ho : ∀ e ∈ L', kOk e.key) : RelO (D.del (ko k)) L' := by
  obtain ⟨r1, r2, r3, _, _⟩ := r
  refine ⟨fun b hb => ?_, fun b hb => ?_, ?_, hn, ho⟩
  · rw [hp b]
    by_cases e : b = k
    · subst e; rw [if_pos rfl, atKey_del_same]; rfl
    · rw [if_neg e, atKey_del_other (fun e2 => e (ko_inj hb hk e2)), r1 b hb]
  · rw [hp b]
    by_cases e : b = k
    · subst e; rw [has_del_same]; simp
    · rw [has_del_other (fun e2 => e (ko_inj hb hk e2)), r2 b hb]; simp [e]
  · have h := size_del (k := ko k) ht
    rw [r2 k hk, hs, if_pos rfl, r3, hl] at h
    omega

/-- The objects' cells lie in memory, in blocks of Q. -/
def ObR (w : World) (Q : Nat → Prop) : List OE → List Ob → Prop
  | [], [] => True
  | e :: es, o :: os => (e.key = o.key ∧ e.v = o.v ∧ IsRow w Q e.u o.c) ∧ ObR w Q es os
  | _, _ => False
theorem ObR.len {w : World} {Q : Nat → Prop} : ∀ {es : List OE} {os : List Ob}, ObR w Q es os → es.length = os.length
  | [], [], _ => rfl
  | _ :: _, _ :: _, h => by simp [h.2.len]
theorem ObR.keep {w w' : World} {Q : Nat → Prop} (hk : KeepQ Q w w') : ∀ {es : List OE} {os : List Ob}, ObR w Q es os → ObR w' Q es os
  | [], [], _ => trivial
  | _ :: _, _ :: _, h => ⟨⟨h.1.1, h.1.2.1, h.1.2.2.keep hk⟩, h.2.keep hk⟩
theorem ObR.imp {w : World} {Q Q' : Nat → Prop} (hq : ∀ k, k < w.heap.size → Q k → Q' k) : ∀ {es : List OE} {os : List Ob}, ObR w Q es os → ObR w Q' es os
  | [], [], _ => trivial
  | _ :: _, _ :: _, h => ⟨⟨h.1.1, h.1.2.1, h.1.2.2.imp hq⟩, h.2.imp hq⟩
theorem ObR.append {w : World} {Q : Nat → Prop} : ∀ {a c : List OE} {b d : List Ob}, ObR w Q a b → ObR w Q c d → ObR w Q (a ++ c) (b ++ d)
  | [], _, [], _, _, h2 => h2
  | _ :: _, _, _ :: _, _, h1, h2 => ⟨h1.1, h1.2.append h2⟩
theorem ObR.take {w : World} {Q : Nat → Prop} : ∀ {a : List OE} {b : List Ob} (n : Nat), ObR w Q a b → ObR w Q (a.take n) (b.take n)
  | [], [], n, _ => by simp [ObR]
  | _ :: _, _ :: _, 0, _ => trivial
  | _ :: _, _ :: _, n + 1, h => ⟨h.1, h.2.take n⟩
theorem ObR.drop {w : World} {Q : Nat → Prop} : ∀ {a : List OE} {b : List Ob} (n : Nat), ObR w Q a b → ObR w Q (a.drop n) (b.drop n)
  | [], [], n, _ => by simp [ObR]
  | _ :: _, _ :: _, 0, h => h
  | _ :: _, _ :: _, n + 1, h => h.2.drop n
theorem ObR.get {w : World} {Q : Nat → Prop} : ∀ {a : List OE} {b : List Ob} (i : Nat) (o : Ob), ObR w Q a b → b[i]? = some o → ∃ e, a[i]? = some e ∧ e.key = o.key ∧ e.v = o.v ∧ IsRow w Q e.u o.c
  | [], [], i, o, _, h => by simp at h
  | e :: _, o' :: _, 0, o, h1, h => by
    have : o' = o := by simpa using h
    subst this
    exact ⟨e, rfl, h1.1⟩
  | _ :: _, _ :: _, i + 1, o, h1, h => by
    obtain ⟨e, h2, h3⟩ := h1.2.get i o (by simpa using h)
    exact ⟨e, by simpa using h2, h3⟩
def findB (L : List Ob) (k : Ky) : Option Ob := L.find? fun x => decide (x.key = k)
theorem ObR.find {w : World} {Q : Nat → Prop} (k : Ky) : ∀ {a : List OE} {b : List Ob}, ObR w Q a b → (findO a k = none ∧ findB b k = none) ∨ ∃ e o, findO a k = some e ∧ findB b k = some o ∧ e.key = k ∧ o.key = k ∧ e.v = o.v ∧ IsRow w Q e.u o.c
  | [], [], _ => .inl ⟨rfl, rfl⟩
  | e :: es, o :: os, h => by
    unfold findO findB
    rw [List.find?_cons, List.find?_cons]
    by_cases hk : e.key = k
    · have hk2 : o.key = k := by rw [← h.1.1]; exact hk
      simp only [hk, hk2, decide_true]
      exact .inr ⟨e, o, rfl, rfl, hk, hk2, h.1.2.1, h.1.2.2⟩
    · have hk2 : ¬ o.key = k := by rw [← h.1.1]; exact hk
      simp only [hk, hk2, decide_false]
      exact ObR.find k h.2

/-- A store at block s, its map at block b. -/
def StoB (w : World) (Q : Nat → Prop) (s b : Nat) (os : List Ob) (last : Int) (KL : List Sc) : Prop :=
  ∃ kv D es, w.heap[s]? = some (.cells #[kv, .map (some b), .int .i64 last] 101 (0, 0)) ∧ IsKinds w Q kv KL ∧ w.ownsMap Try.prog 103 RpO b es.length D ∧ RelO D es ∧ ObR w Q es os ∧ s ≠ b ∧ b < w.heap.size ∧ ¬ Q s ∧ ¬ Q b
theorem ownsMapO_block {w w' : World} {b n : Nat} {D : DataW Value} (h : w.ownsMap Try.prog 103 RpO b n D) (he : w'.heap[b]? = w.heap[b]?) : w'.ownsMap Try.prog 103 RpO b n D := by
  obtain ⟨es, clock, hb, r⟩ := h
  exact ⟨es, clock, he.trans hb, r⟩
theorem ownsMapO_tight {w : World} {b n : Nat} {D : DataW Value} (h : w.ownsMap Try.prog 103 RpO b n D) : w.ownsMap Try.prog 103 RpO b (Maps.size D) D := by
  obtain ⟨es, clock, hb, F, _, rfl⟩ := h
  refine ⟨es, clock, hb, F, ?_, rfl⟩
  rw [size_eq, length_sorted]
  simp
theorem StoB.keep {w w' : World} {Q : Nat → Prop} {s b : Nat} {os : List Ob} {last : Int} {KL : List Sc} (h : StoB w Q s b os last KL) (hk : KeepQ Q w w') (hs : w'.heap[s]? = w.heap[s]?) (hb : w'.heap[b]? = w.heap[b]?) (hz : w.heap.size ≤ w'.heap.size) : StoB w' Q s b os last KL := by
  obtain ⟨kv, D, es, h1, h2, h3, h4, h5, h6, h7, h8⟩ := h
  exact ⟨kv, D, es, hs.trans h1, h2.keep hk, ownsMapO_block h3 hb, h4, h5.keep hk, h6, Nat.lt_of_lt_of_le h7 hz, h8⟩
theorem StoB.lt {w : World} {Q : Nat → Prop} {s b : Nat} {os : List Ob} {last : Int} {KL : List Sc} (h : StoB w Q s b os last KL) : s < w.heap.size ∧ b < w.heap.size := by
  obtain ⟨kv, D, es, h1, h2, h3, h4, h5, h6, h7, h8⟩ := h
  exact ⟨(Array.getElem?_eq_some_iff.1 h1).1, h7⟩
theorem StoB.below {w w' : World} {Q : Nat → Prop} {s b : Nat} {os : List Ob} {last : Int} {KL : List Sc} (h : StoB w Q s b os last KL) (hb : Below w.heap.size w w') : StoB w' Q s b os last KL :=
  h.keep (Below.keepQ hb Q) (hb.block s h.lt.1) (hb.block b h.lt.2) hb.size
theorem StoB.len {w : World} {Q : Nat → Prop} {s b : Nat} {os : List Ob} {last : Int} {KL : List Sc} (h : StoB w Q s b os last KL) : ∃ D es, w.ownsMap Try.prog 103 RpO b (es : List OE).length D ∧ Maps.size D = os.length := by
  obtain ⟨kv, D, es, h1, h2, h3, h4, h5, h6, h7, h8⟩ := h
  exact ⟨D, es, h3, by rw [h4.2.2.1, h5.len]⟩
end Go.Proofs.Ytoeggpoeongnhaa
