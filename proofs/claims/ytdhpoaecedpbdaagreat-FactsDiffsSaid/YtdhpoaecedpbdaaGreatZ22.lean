/-
  Objects and what tells them apart, as plain things; keys of a map that are three texts; a map from keys to objects, read as a list.
  No condition but that texts are no longer than texts can be.
  A map from what tells objects apart to objects, read as a list; a store in memory.
  No condition but that texts are no longer than texts can be.
  placeOf, own of package store, Find of package schema: what tells an object apart; an object with cells of its own; whether a kind is there.
  No condition but that a row has no more than a million cells.
  What no store answers.
  No condition but that a row has no more than a million cells.
-/
import Derived.Maps.OwnSet
import Derived.Maps.OwnOps
import Derived.WalkSpells
import Derived.DeepKeys5
import Derived.Test.YtdhpoaecedpbdaaGreatZ18
import Derived.Test.YtdhpoaecedpbdaaGreatZ21
import Derived.Test.YtdhpoaecedpbdaaGreatZ4
import Derived.Test.YtdhpoaecedpbdaaGreatZ7
namespace Go.Proofs.YtdhpoaecedpbdaaGreat
section
section
open Go.RowKit Go.Maps

/-- What tells an object from all others: its kind, its space, its name. -/
abbrev Ky := ByteArray × ByteArray × ByteArray
def kV (k : Ky) : Value := .agg #[.string k.1, .string k.2.1, .string k.2.2]
def kOk (k : Ky) : Prop := k.1.size ≤ maxLen ∧ k.2.1.size ≤ maxLen ∧ k.2.2.size ≤ maxLen
def ko (k : Ky) : Lit := .string (keyBytes [.string k.1.data.toList, .string k.2.1.data.toList, .string k.2.2.data.toList])

theorem lawO : Keyed Tryz.prog 103 := Keyed.of_law (deep_law_gate Tryz.laidOut (of_decide_eq_true (by kernel_rfl)) (of_decide_eq_true (by kernel_rfl)) (by kernel_rfl) (by kernel_rfl))

theorem fieldsO : Tryz.prog.underlying 103 = some (.struct (Tryz.prog.fieldsOf 103)) := by kernel_rfl
theorem cellsK : Tryz.prog.cellsOf 103 = 3 := by kernel_rfl
theorem lits_str (d : Nat) (a : ByteArray) : Tryz.prog.keyLits (d + 1) 9 [.string a] = if a.size ≤ maxLen then some [.string a.data.toList] else none := by
  unfold Program.keyLits
  rw [Tryz.underlying9]
theorem lits_ky (d : Nat) (k : Ky) (h : kOk k) : Tryz.prog.keyLits (d + 1 + 1) 103 [.string k.1, .string k.2.1, .string k.2.2] = some [.string k.1.data.toList, .string k.2.1.data.toList, .string k.2.2.data.toList] := by
  obtain ⟨h1, h2, h3⟩ := h
  have c0 : Tryz.prog.cellsOf 9 = 1 := by kernel_rfl
  unfold Program.keyLits
  rw [Tryz.underlying103]
  show (if _ ∧ _ then _ else _) = _
  rw [if_pos ⟨cellsK.symm, by kernel_rfl⟩]
  simp [List.mapM_cons, c0, lits_str, h1, h2, h3]
theorem sizeO : ∃ m, Tryz.prog.types.size = m + 1 := ⟨Tryz.prog.types.size - 1, by
  have h : decide (0 < Tryz.prog.types.size) = true := by kernel_rfl
  have := of_decide_eq_true h
  omega⟩
theorem keyOf_ky {k : Ky} (h : kOk k) : keyOf Tryz.prog 103 (kV k) = some (ko k) := by
  have hk : Tryz.prog.keyType 103 = true := by kernel_rfl
  obtain ⟨m, hm⟩ : ∃ m, Tryz.prog.types.size = m + 1 := sizeO
  have hf : Value.formed Tryz.prog 103 (kV k) = true := by
    unfold kV Value.formed
    rw [fieldsO]
    simp only [cellsK]
    rfl
  unfold keyOf
  rw [fieldsO]
  simp only [hk, hf, Bool.and_self, if_true, hm]
  unfold kV ko
  simp only [Value.cells]
  rw [lits_ky m k h]
  rfl
set_option maxRecDepth 100000 in
theorem lits_inv (m : Nat) (v : Value) (r : List Lit) (hv : Tryz.prog.keyLits (m + 1) 9 [v] = some r) : ∃ s : ByteArray, v = .string s ∧ s.size ≤ maxLen ∧ r = [.string s.data.toList] := by
  cases v with
  | string s =>
    rw [lits_str] at hv
    split at hv
    · rename_i hs
      injection hv with hv
      exact ⟨s, rfl, hs, hv.symm⟩
    · cases hv
  | _ =>
    exfalso
    unfold Program.keyLits at hv
    rw [Tryz.underlying9] at hv
    cases hv
theorem three_of {α : Type} {l : List α} (h : l.length = 3) : ∃ x y z, l = [x, y, z] := by
  match l, h with
  | [x, y, z], _ => exact ⟨x, y, z, rfl⟩
theorem lits_three (d : Nat) (x y z : Value) : Tryz.prog.keyLits (d + 1 + 1) 103 [x, y, z] = (Tryz.prog.keyLits (d + 1) 9 [x]).bind fun a => (Tryz.prog.keyLits (d + 1) 9 [y]).bind fun b => (Tryz.prog.keyLits (d + 1) 9 [z]).bind fun c => some (a ++ (b ++ c)) := by
  have c0 : Tryz.prog.cellsOf 9 = 1 := by kernel_rfl
  conv => lhs; unfold Program.keyLits
  rw [Tryz.underlying103]
  show (if _ ∧ _ then _ else _) = _
  rw [if_pos ⟨cellsK.symm, by kernel_rfl⟩]
  simp only [List.mapM_cons, List.mapM_nil, c0]
  cases hx : Tryz.prog.keyLits (d + 1) 9 [x] with
  | none => simp [hx]
  | some a =>
    cases hy : Tryz.prog.keyLits (d + 1) 9 [y] with
    | none => simp [hx, hy]
    | some b =>
      cases hz : Tryz.prog.keyLits (d + 1) 9 [z] with
      | none => simp [hx, hy, hz]
      | some c => simp [hx, hy, hz]
/-- What reads as a key is one. -/
theorem keyOf_back {v : Value} {l : Lit} (h : keyOf Tryz.prog 103 v = some l) : ∃ k, kOk k ∧ v = kV k ∧ l = ko k := by
  have hk : Tryz.prog.keyType 103 = true := by kernel_rfl
  obtain ⟨m, hm⟩ : ∃ m, Tryz.prog.types.size = m + 1 := sizeO
  unfold keyOf at h
  rw [fieldsO] at h
  simp only [hk, Bool.true_and] at h
  split at h
  · rename_i hf
    cases v <;> simp only [Value.formed, fieldsO, cellsK, Bool.false_eq_true] at hf
    rename_i xs
    obtain ⟨l0⟩ := xs
    obtain ⟨x, y, z, rfl⟩ := three_of (l := l0) (by simpa using hf)
    · simp only [hm, Value.cells, lits_three] at h
      cases hx : Tryz.prog.keyLits (m + 1) 9 [x] with
      | none => simp [hx] at h
      | some a =>
        cases hy : Tryz.prog.keyLits (m + 1) 9 [y] with
        | none => simp [hx, hy] at h
        | some b =>
          cases hz : Tryz.prog.keyLits (m + 1) 9 [z] with
          | none => simp [hx, hy, hz] at h
          | some c =>
            obtain ⟨s1, rfl, g1, rfl⟩ := lits_inv _ _ _ hx
            obtain ⟨s2, rfl, g2, rfl⟩ := lits_inv _ _ _ hy
            obtain ⟨s3, rfl, g3, rfl⟩ := lits_inv _ _ _ hz
            simp [hx, hy, hz] at h
            exact ⟨(s1, s2, s3), ⟨g1, g2, g3⟩, rfl, by unfold ko; rw [← h]⟩
  · cases h
theorem ko_inj {a b : Ky} (ha : kOk a) (hb : kOk b) (h : ko a = ko b) : a = b := by
  have h1 := keyOf_ky ha
  have h2 := keyOf_ky hb
  rw [← h] at h2
  have h3 := lawO.inj h1 h2
  obtain ⟨a1, a2, a3⟩ := a
  obtain ⟨b1, b2, b3⟩ := b
  unfold kV at h3
  simp only [Value.agg.injEq, Array.mk.injEq, List.cons.injEq, Value.string.injEq, and_true] at h3
  obtain ⟨rfl, rfl, rfl⟩ := h3
  rfl
end
section
open Go.RowKit Go.Maps

/-- An object as the map has it: what tells it apart, its version, its cells as a slice. -/
structure OE where
  key : Ky
  v : Int
  u : Value
/-- An object as a plain thing. -/
structure Ob where
  key : Ky
  v : Int
  c : List V
def oV (e : OE) : Value := .agg #[.string e.key.1, .string e.key.2.1, .string e.key.2.2, .int .i64 e.v, e.u]
def noO : Value := .agg #[.string ⟨#[]⟩, .string ⟨#[]⟩, .string ⟨#[]⟩, .int .i64 0, .slice none 0 0]
def RpO (v : Value) : Option (DataW Value × List MemPlace) := some (.held v, [])
def findO (L : List OE) (k : Ky) : Option OE := L.find? fun x => decide (x.key = k)
def orO : Option OE → Value
  | none => noO
  | some x => oV x
theorem zeroO (w : World) : (zeroValue 25).run Tryz.prog w = .ok noO w := by kernel_rfl
/-- The map reads as these objects. -/
def RelO (D : DataW Value) (L : List OE) : Prop := (∀ k, kOk k → D.atKey (ko k) (.held noO) = .held (orO (findO L k))) ∧ (∀ k, kOk k → Maps.has D (ko k) = (findO L k).isSome) ∧ Maps.size D = L.length ∧ (L.Pairwise fun a b => a.key ≠ b.key) ∧ ∀ e ∈ L, kOk e.key
theorem RelO.empty : RelO (.map []) [] := ⟨fun _ _ => rfl, fun _ _ => rfl, rfl, List.Pairwise.nil, by simp⟩
theorem RelO.put {D : DataW Value} {L L' : List OE} {k : Ky} {x : OE} (r : RelO D L) (ht : Tidy D) (hk : kOk k) (hp : ∀ b, findO L' b = if b = k then some x else findO L b)
    (hl : L'.length = if (findO L k).isSome = true then L.length else L.length + 1) (hn : L'.Pairwise fun a b => a.key ≠ b.key) (ho : ∀ e ∈ L', kOk e.key) : RelO (D.put (ko k) (.held (oV x))) L' := by
  obtain ⟨r1, r2, r3, _, _⟩ := r
  have hkl : WideAt.IsKeyLit (ko k) := trivial
  refine ⟨fun b hb => ?_, fun b hb => ?_, ?_, hn, ho⟩
  · rw [hp b]
    by_cases e : b = k
    · subst e; rw [if_pos rfl, atKey_put_same ht.isMap hkl]; rfl
    · rw [if_neg e, atKey_put_other (fun e2 => e (ko_inj hb hk e2)), r1 b hb]
  · rw [hp b]
    by_cases e : b = k
    · subst e; rw [has_put_same ht.isMap hkl]; simp
    · rw [has_put_other (fun e2 => e (ko_inj hb hk e2)), r2 b hb]; simp [e]
  · rw [size_put ht, r2 k hk, r3, hl]
theorem RelO.del {D : DataW Value} {L L' : List OE} {k : Ky} (r : RelO D L) (ht : Tidy D) (hk : kOk k) (hp : ∀ b, findO L' b = if b = k then none else findO L b)
    (hl : L.length = L'.length + 1) (hs : (findO L k).isSome = true) (hn : L'.Pairwise fun a b => a.key ≠ b.key) (ho : ∀ e ∈ L', kOk e.key) : RelO (D.del (ko k)) L' := by
  obtain ⟨r1, r2, r3, _, _⟩ := r
  refine ⟨fun b hb => ?_, fun b hb => ?_, ?_, hn, ho⟩
  · rw [hp b]
    by_cases e : b = k
    · subst e; rw [if_pos rfl, atKey_del_same]; rfl
    · rw [if_neg e, atKey_del_other (fun e2 => e (ko_inj hb hk e2)), r1 b hb]
  · rw [hp b]
    by_cases e : b = k
    · subst e; rw [has_del_same]; simp
    · rw [has_del_other (fun e2 => e (ko_inj hb hk e2)), r2 b hb]; simp [e]
  · have h := size_del (k := ko k) ht
    rw [r2 k hk, hs, if_pos rfl, r3, hl] at h
    omega

/-- The objects' cells lie in memory, in blocks of Q. -/
def ObR (w : World) (Q : Nat → Prop) : List OE → List Ob → Prop
  | [], [] => True
  | e :: es, o :: os => (e.key = o.key ∧ e.v = o.v ∧ IsRow w Q e.u o.c) ∧ ObR w Q es os
  | _, _ => False
theorem ObR.len {w : World} {Q : Nat → Prop} : ∀ {es : List OE} {os : List Ob}, ObR w Q es os → es.length = os.length
  | [], [], _ => rfl
  | _ :: _, _ :: _, h => by simp [h.2.len]
theorem ObR.keep {w w' : World} {Q : Nat → Prop} (hk : KeepQ Q w w') : ∀ {es : List OE} {os : List Ob}, ObR w Q es os → ObR w' Q es os
  | [], [], _ => trivial
  | _ :: _, _ :: _, h => ⟨⟨h.1.1, h.1.2.1, h.1.2.2.keep hk⟩, h.2.keep hk⟩
theorem ObR.imp {w : World} {Q Q' : Nat → Prop} (hq : ∀ k, k < w.heap.size → Q k → Q' k) : ∀ {es : List OE} {os : List Ob}, ObR w Q es os → ObR w Q' es os
  | [], [], _ => trivial
  | _ :: _, _ :: _, h => ⟨⟨h.1.1, h.1.2.1, h.1.2.2.imp hq⟩, h.2.imp hq⟩
theorem ObR.append {w : World} {Q : Nat → Prop} : ∀ {a c : List OE} {b d : List Ob}, ObR w Q a b → ObR w Q c d → ObR w Q (a ++ c) (b ++ d)
  | [], _, [], _, _, h2 => h2
  | _ :: _, _, _ :: _, _, h1, h2 => ⟨h1.1, h1.2.append h2⟩
theorem ObR.take {w : World} {Q : Nat → Prop} : ∀ {a : List OE} {b : List Ob} (n : Nat), ObR w Q a b → ObR w Q (a.take n) (b.take n)
  | [], [], n, _ => by simp [ObR]
  | _ :: _, _ :: _, 0, _ => trivial
  | _ :: _, _ :: _, n + 1, h => ⟨h.1, h.2.take n⟩
theorem ObR.drop {w : World} {Q : Nat → Prop} : ∀ {a : List OE} {b : List Ob} (n : Nat), ObR w Q a b → ObR w Q (a.drop n) (b.drop n)
  | [], [], n, _ => by simp [ObR]
  | _ :: _, _ :: _, 0, h => h
  | _ :: _, _ :: _, n + 1, h => h.2.drop n
theorem ObR.get {w : World} {Q : Nat → Prop} : ∀ {a : List OE} {b : List Ob} (i : Nat) (o : Ob), ObR w Q a b → b[i]? = some o → ∃ e, a[i]? = some e ∧ e.key = o.key ∧ e.v = o.v ∧ IsRow w Q e.u o.c
  | [], [], i, o, _, h => by simp at h
  | e :: _, o' :: _, 0, o, h1, h => by
    have : o' = o := by simpa using h
    subst this
    exact ⟨e, rfl, h1.1⟩
  | _ :: _, _ :: _, i + 1, o, h1, h => by
    obtain ⟨e, h2, h3⟩ := h1.2.get i o (by simpa using h)
    exact ⟨e, by simpa using h2, h3⟩
def findB (L : List Ob) (k : Ky) : Option Ob := L.find? fun x => decide (x.key = k)
theorem ObR.find {w : World} {Q : Nat → Prop} (k : Ky) : ∀ {a : List OE} {b : List Ob}, ObR w Q a b → (findO a k = none ∧ findB b k = none) ∨ ∃ e o, findO a k = some e ∧ findB b k = some o ∧ e.key = k ∧ o.key = k ∧ e.v = o.v ∧ IsRow w Q e.u o.c
  | [], [], _ => .inl ⟨rfl, rfl⟩
  | e :: es, o :: os, h => by
    unfold findO findB
    rw [List.find?_cons, List.find?_cons]
    by_cases hk : e.key = k
    · have hk2 : o.key = k := by rw [← h.1.1]; exact hk
      simp only [hk, hk2, decide_true]
      exact .inr ⟨e, o, rfl, rfl, hk, hk2, h.1.2.1, h.1.2.2⟩
    · have hk2 : ¬ o.key = k := by rw [← h.1.1]; exact hk
      simp only [hk, hk2, decide_false]
      exact ObR.find k h.2

/-- A store at block s, its map at block b. -/
def StoB (w : World) (Q : Nat → Prop) (s b : Nat) (os : List Ob) (last : Int) (KL : List Sc) : Prop :=
  ∃ kv D es, w.heap[s]? = some (.cells #[kv, .map (some b), .int .i64 last] 100 (0, 0)) ∧ IsKinds w Q kv KL ∧ w.ownsMap Tryz.prog 103 RpO b es.length D ∧ RelO D es ∧ ObR w Q es os ∧ s ≠ b ∧ b < w.heap.size ∧ ¬ Q s ∧ ¬ Q b
theorem ownsMapO_block {w w' : World} {b n : Nat} {D : DataW Value} (h : w.ownsMap Tryz.prog 103 RpO b n D) (he : w'.heap[b]? = w.heap[b]?) : w'.ownsMap Tryz.prog 103 RpO b n D := by
  obtain ⟨es, clock, hb, r⟩ := h
  exact ⟨es, clock, he.trans hb, r⟩
theorem ownsMapO_tight {w : World} {b n : Nat} {D : DataW Value} (h : w.ownsMap Tryz.prog 103 RpO b n D) : w.ownsMap Tryz.prog 103 RpO b (Maps.size D) D := by
  obtain ⟨es, clock, hb, F, _, rfl⟩ := h
  refine ⟨es, clock, hb, F, ?_, rfl⟩
  rw [size_eq, length_sorted]
  simp
theorem StoB.keep {w w' : World} {Q : Nat → Prop} {s b : Nat} {os : List Ob} {last : Int} {KL : List Sc} (h : StoB w Q s b os last KL) (hk : KeepQ Q w w') (hs : w'.heap[s]? = w.heap[s]?) (hb : w'.heap[b]? = w.heap[b]?) (hz : w.heap.size ≤ w'.heap.size) : StoB w' Q s b os last KL := by
  obtain ⟨kv, D, es, h1, h2, h3, h4, h5, h6, h7, h8⟩ := h
  exact ⟨kv, D, es, hs.trans h1, h2.keep hk, ownsMapO_block h3 hb, h4, h5.keep hk, h6, Nat.lt_of_lt_of_le h7 hz, h8⟩
theorem StoB.lt {w : World} {Q : Nat → Prop} {s b : Nat} {os : List Ob} {last : Int} {KL : List Sc} (h : StoB w Q s b os last KL) : s < w.heap.size ∧ b < w.heap.size := by
  obtain ⟨kv, D, es, h1, h2, h3, h4, h5, h6, h7, h8⟩ := h
  exact ⟨(Array.getElem?_eq_some_iff.1 h1).1, h7⟩
theorem StoB.below {w w' : World} {Q : Nat → Prop} {s b : Nat} {os : List Ob} {last : Int} {KL : List Sc} (h : StoB w Q s b os last KL) (hb : Below w.heap.size w w') : StoB w' Q s b os last KL :=
  h.keep (Below.keepQ hb Q) (hb.block s h.lt.1) (hb.block b h.lt.2) hb.size
theorem StoB.len {w : World} {Q : Nat → Prop} {s b : Nat} {os : List Ob} {last : Int} {KL : List Sc} (h : StoB w Q s b os last KL) : ∃ D es, w.ownsMap Tryz.prog 103 RpO b (es : List OE).length D ∧ Maps.size D = os.length := by
  obtain ⟨kv, D, es, h1, h2, h3, h4, h5, h6, h7, h8⟩ := h
  exact ⟨D, es, h3, by rw [h4.2.2.1, h5.len]⟩
end
section
open Go.RowKit Go.Maps

set_option maxRecDepth 100000 in
set_option maxHeartbeats 1000000 in
theorem o_place (e : OE) (w : World) : Calls Tryz.prog 75 #[oV e] w fun r w' => r = .returned (kV e.key) ∧ Below w.heap.size w w' := by
  obtain ⟨⟨k1, k2, k3⟩, v, u⟩ := e
  unfold oV kV
  go_enter Tryz.func75, Tryz.ntmps75
  go_wp2
  exact bodyPost_ret (v := .agg #[.string k1, .string k2, .string k3]) (by simp [results, Tryz.results75, go_sem]) rfl ⟨rfl, two_new w _ _⟩
theorem alloc2_new (w : World) (o1 o2 : Obj) : ((w.alloc o1).alloc o2).heap[w.heap.size + 1]? = some o2 := by
  have h := World.alloc_heap_new (w.alloc o1) o2
  rw [World.size_alloc] at h
  exact h
/-- Five cells that are set. -/
def set5 (W : World) (p : Nat) (a0 a1 a2 a3 a4 : Value) : World := ((((W.setCell ⟨p, 0, none⟩ a0).setCell ⟨p, 1, none⟩ a1).setCell ⟨p, 2, none⟩ a2).setCell ⟨p, 3, none⟩ a3).setCell ⟨p, 4, none⟩ a4
theorem set5_heap {W : World} {p : Nat} {T : TypeId} {z0 z1 z2 z3 z4 : Value} (h : W.heap[p]? = some (.cells #[z0, z1, z2, z3, z4] T (0, 0))) (a0 a1 a2 a3 a4 : Value) : (set5 W p a0 a1 a2 a3 a4).heap[p]? = some (.cells #[a0, a1, a2, a3, a4] T (0, 0)) := by
  have h0 := heap_setCell_same W p 0 _ _ a0 h
  have h1 := heap_setCell_same _ p 1 _ _ a1 h0
  have h2 := heap_setCell_same _ p 2 _ _ a2 h1
  have h3 := heap_setCell_same _ p 3 _ _ a3 h2
  exact heap_setCell_same _ p 4 _ _ a4 h3
theorem set5_below {w W : World} {p : Nat} (hb : Below w.heap.size w W) (hp : w.heap.size ≤ p) (a0 a1 a2 a3 a4 : Value) : Below w.heap.size w (set5 W p a0 a1 a2 a3 a4) :=
  ((((hb.setCell (p := ⟨p, 0, none⟩) hp a0).setCell (p := ⟨p, 1, none⟩) hp a1).setCell (p := ⟨p, 2, none⟩) hp a2).setCell (p := ⟨p, 3, none⟩) hp a3).setCell (p := ⟨p, 4, none⟩) hp a4
theorem set5_far {W : World} {p k : Nat} (hk : k ≠ p) (a0 a1 a2 a3 a4 : Value) : (set5 W p a0 a1 a2 a3 a4).heap[k]? = W.heap[k]? := by
  unfold set5
  rw [Below.heap_setCell _ ⟨p, 4, none⟩ _ k hk, Below.heap_setCell _ ⟨p, 3, none⟩ _ k hk, Below.heap_setCell _ ⟨p, 2, none⟩ _ k hk, Below.heap_setCell _ ⟨p, 1, none⟩ _ k hk, Below.heap_setCell _ ⟨p, 0, none⟩ _ k hk]
theorem five_cells {W : World} {p : Nat} {T : TypeId} {z0 z1 z2 z3 z4 : Value} (h : W.heap[p]? = some (.cells #[z0, z1, z2, z3, z4] T (0, 0))) :
    W.cell? ⟨p, 0, none⟩ = some z0 ∧ W.cell? ⟨p, 1, none⟩ = some z1 ∧ W.cell? ⟨p, 2, none⟩ = some z2 ∧ W.cell? ⟨p, 3, none⟩ = some z3 ∧ W.cell? ⟨p, 4, none⟩ = some z4 :=
  ⟨cell_of_row W p 0 _ _ _ h, cell_of_row W p 1 _ _ _ h, cell_of_row W p 2 _ _ _ h, cell_of_row W p 3 _ _ _ h, cell_of_row W p 4 _ _ _ h⟩
theorem five_thaw {W : World} {p : Nat} {T : TypeId} {z0 z1 z2 z3 z4 : Value} (h : W.heap[p]? = some (.cells #[z0, z1, z2, z3, z4] T (0, 0))) :
    W.frozen? ⟨p, 0, none⟩ = false ∧ W.frozen? ⟨p, 1, none⟩ = false ∧ W.frozen? ⟨p, 2, none⟩ = false ∧ W.frozen? ⟨p, 3, none⟩ = false ∧ W.frozen? ⟨p, 4, none⟩ = false :=
  ⟨frozen_of_row W p 0 _ _ h, frozen_of_row W p 1 _ _ h, frozen_of_row W p 2 _ _ h, frozen_of_row W p 3 _ _ h, frozen_of_row W p 4 _ _ h⟩
theorem IsRow.ofOwn {w w' : World} {v : Value} {xs : List V} (h : Own w' w.heap.size v xs) (hl : xs.length ≤ 1000000) : IsRow w' (fun j => w.heap.size ≤ j) v xs := by
  obtain ⟨A, c, rfl, hA, hr⟩ := h.row
  refine ⟨hl, A, c, rfl, hA, fun i x hi => ?_⟩
  obtain ⟨a, ha, hb, hv⟩ := hr i x hi
  refine ⟨a, ha, ?_, hv⟩
  subst ha
  rcases h.2 with ⟨hn, _⟩ | ⟨g, cap, cur, hv', hg, _⟩
  · cases hn
  · injection hv' with h1
    injection h1 with h1
    subst h1
    rw [show ((⟨g, 0, none⟩ : Addr).add (i * 4)).block = g from by unfold Addr.add; split <;> rfl]
    exact hg

set_option maxRecDepth 100000 in
set_option maxHeartbeats 2000000 in
theorem o_own (Q : Nat → Prop) (e : OE) (xs : List V) (w : World) (hr : IsRow w Q e.u xs) : Calls Tryz.prog 86 #[oV e] w fun r w' => ∃ u', r = .returned (oV ⟨e.key, e.v, u'⟩) ∧ IsRow w' (fun j => w.heap.size ≤ j) u' xs ∧ Below w.heap.size w w' := by
  obtain ⟨⟨k1, k2, k3⟩, v, u⟩ := e
  obtain ⟨hl, A, c, rfl, hA, hrow⟩ := hr
  unfold oV
  have hba := two_new w (.cells #[.string k1, .string k2, .string k3, .int .i64 v, .slice A xs.length c] 25) (.cells #[.string ⟨#[]⟩, .string ⟨#[]⟩, .string ⟨#[]⟩, .int .i64 0, .slice none 0 0] 25)
  have HC := Lib.hid (clone_V A xs xs.length c _ rfl hA hl (hrow.keep (Below.keepQ hba Q)).at)
  have HBA := Lib.hid hba
  clear hrow hba
  go_enter Tryz.func86, Tryz.ntmps86
  go_wp2_with fail
  refine HC.out.mono ?_
  rintro r w1 ⟨u', rfl, hown, hb1⟩
  have hsz : (((w.alloc (.cells #[.string k1, .string k2, .string k3, .int .i64 v, .slice A xs.length c] 25)).alloc (.cells #[.string ⟨#[]⟩, .string ⟨#[]⟩, .string ⟨#[]⟩, .int .i64 0, .slice none 0 0] 25))).heap.size = w.heap.size + 2 := by simp
  have x1 := (hb1.block w.heap.size (by rw [hsz]; omega)).trans ((one_new _ _).block w.heap.size (by simp) |>.trans (World.alloc_heap_new w _))
  have x2 := (hb1.block (w.heap.size + 1) (by rw [hsz]; omega)).trans (alloc2_new w _ _)
  have HB1 := Lib.hid (HBA.out.trans (hb1.mono (by rw [hsz]; omega)))
  have hrow1 := IsRow.ofOwn hown hl
  rw [hsz] at hrow1
  obtain ⟨A', c', hv', _, _⟩ := hown.row
  subst hv'
  have HR1 := Lib.hid hrow1
  obtain ⟨a0, a1, a2, a3, a4⟩ := five_cells x1
  obtain ⟨f0, f1, f2, f3, f4⟩ := five_thaw x1
  obtain ⟨b0, b1, b2, b3, b4⟩ := five_cells x2
  obtain ⟨g0, g1, g2, g3, g4⟩ := five_thaw x2
  have y1 := heap_setCell_same w1 w.heap.size 4 _ _ (.slice A' xs.length c') x1
  have y2 := (Below.heap_setCell w1 ⟨w.heap.size, 4, none⟩ (.slice A' xs.length c') (w.heap.size + 1) (by show w.heap.size + 1 ≠ w.heap.size; omega)).trans x2
  have z2 := set5_heap y2 (.string k1) (.string k2) (.string k3) (.int .i64 v) (.slice A' xs.length c')
  obtain ⟨r0, r1, r2, r3, r4⟩ := five_cells z2
  have hfb := set5_below (HB1.out.setCell (p := ⟨w.heap.size, 4, none⟩) (Nat.le_refl _) (.slice A' xs.length c')) (Nat.le_succ w.heap.size) (.string k1) (.string k2) (.string k3) (.int .i64 v) (.slice A' xs.length c')
  have hrf : IsRow (set5 (w1.setCell ⟨w.heap.size, 4, none⟩ (.slice A' xs.length c')) (w.heap.size + 1) (.string k1) (.string k2) (.string k3) (.int .i64 v) (.slice A' xs.length c')) (fun j => w.heap.size ≤ j) (.slice A' xs.length c') xs := by
    refine (HR1.out.keep fun k hk _ => ?_).imp fun k _ hk => by omega
    rw [set5_far (by omega), Below.heap_setCell w1 ⟨w.heap.size, 4, none⟩ _ k (by show k ≠ w.heap.size; omega)]
  unfold set5 at r0 r1 r2 r3 r4 hfb hrf
  have HFB := Lib.hid hfb
  have HRF := Lib.hid hrf
  clear hown hb1 hrow1 x1 x2 y1 y2 z2 hfb hrf
  go_wp2
  exact bodyPost_ret (v := .agg #[.string k1, .string k2, .string k3, .int .i64 v, .slice A' xs.length c']) (by simp [results, Tryz.results86, r0, r1, r2, r3, r4, go_sem]) rfl ⟨_, rfl, HRF.out, HFB.out⟩
end
end
end Go.Proofs.YtdhpoaecedpbdaaGreat
namespace Go.Proofs.YtdhpoaecedpbdaaGreat
section
open Go.RowKit Go.Maps

set_option maxRecDepth 100000 in
set_option maxHeartbeats 1000000 in
theorem o_find_nil (k : Ky) (w : World) : Calls Tryz.prog 80 #[.pointer none, kV k] w fun r w' => r = .returned (.tuple #[noO, .int .i64 1]) ∧ Below w.heap.size w w' := by
  obtain ⟨k1, k2, k3⟩ := k
  unfold kV
  go_enter Tryz.func80, Tryz.ntmps80
  go_wp2
  exact bodyPost_ret (v := .tuple #[noO, .int .i64 1]) (by simp [results, noO, Tryz.results80, go_sem]) rfl ⟨rfl, two_new w _ _⟩
set_option maxRecDepth 100000 in
set_option maxHeartbeats 1000000 in
theorem o_fault_nil (k1 k2 k3 : ByteArray) (v : Int) (A : Option Addr) (n c : Nat) (w : World) : Calls Tryz.prog 74 #[.pointer none, .agg #[.string k1, .string k2, .string k3, .int .i64 v, .slice A n c]] w fun r w' => r = .returned (.int .i64 1) ∧ Below w.heap.size w w' := by
  go_enter Tryz.func74, Tryz.ntmps74
  go_wp2
  go_ret
  exact ⟨rfl, one_new w _⟩
set_option maxRecDepth 100000 in
set_option maxHeartbeats 1000000 in
theorem o_insert_nil (k1 k2 k3 : ByteArray) (v : Int) (A : Option Addr) (n c : Nat) (w : World) : Calls Tryz.prog 36 #[.pointer none, .agg #[.string k1, .string k2, .string k3, .int .i64 v, .slice A n c]] w fun r w' => r = .returned (.tuple #[.int .i64 0, .int .i64 1]) ∧ Below w.heap.size w w' := by
  go_enter Tryz.func36, Tryz.ntmps36
  go_wp2_with fail
  refine (o_fault_nil k1 k2 k3 v A n c _).mono ?_
  rintro r w1 ⟨rfl, hb1⟩
  have HB1 := Lib.hid ((one_new w _).trans (hb1.mono (by simp)))
  clear hb1
  go_wp2
  go_ret2
  exact ⟨rfl, HB1.out⟩
set_option maxRecDepth 100000 in
set_option maxHeartbeats 1000000 in
theorem o_update_nil (k1 k2 k3 : ByteArray) (v : Int) (A : Option Addr) (n c : Nat) (w : World) : Calls Tryz.prog 38 #[.pointer none, .agg #[.string k1, .string k2, .string k3, .int .i64 v, .slice A n c]] w fun r w' => r = .returned (.tuple #[.int .i64 0, .int .i64 1]) ∧ Below w.heap.size w w' := by
  go_enter Tryz.func38, Tryz.ntmps38
  go_wp2_with fail
  refine (o_fault_nil k1 k2 k3 v A n c _).mono ?_
  rintro r w1 ⟨rfl, hb1⟩
  have HB1 := Lib.hid ((one_new w _).trans (hb1.mono (by simp)))
  clear hb1
  go_wp2
  go_ret2
  exact ⟨rfl, HB1.out⟩
set_option maxRecDepth 100000 in
set_option maxHeartbeats 1000000 in
theorem o_delete_nil (k1 k2 k3 : ByteArray) (v : Int) (w : World) : Calls Tryz.prog 40 #[.pointer none, .string k1, .string k2, .string k3, .int .i64 v] w fun r w' => r = .returned (.int .i64 1) ∧ Below w.heap.size w w' := by
  have HF := Lib.hid (fun W => o_find_nil (k1, k2, k3) W)
  unfold kV noO at HF
  simp only at HF
  go_enter Tryz.func40, Tryz.ntmps40
  go_wp2_with fail
  refine (HF.out _).mono ?_
  rintro r w1 ⟨rfl, hb1⟩
  have HB1 := Lib.hid ((one_new w _).trans (hb1.mono (by simp)))
  clear hb1
  go_wp2
  go_ret
  exact ⟨rfl, HB1.out.trans ((one_new w1 _).mono HB1.out.size)⟩
set_option maxHeartbeats 400000 in
theorem o_all_nil (k : ByteArray) (w : World) : Calls Tryz.prog 45 #[.pointer none, .string k] w fun r w' => r = .returned (.slice none 0 0) ∧ w = w' := by
  go_enter Tryz.func45, Tryz.ntmps45
  go_wp2
  go_ret
  exact ⟨rfl, rfl⟩
set_option maxHeartbeats 400000 in
theorem o_copy_nil (w : World) : Calls Tryz.prog 17 #[.pointer none] w fun r w' => r = .returned (.pointer none) ∧ w = w' := by
  go_enter Tryz.func17, Tryz.ntmps17
  go_wp2
  go_ret
  exact ⟨rfl, rfl⟩
end
end Go.Proofs.YtdhpoaecedpbdaaGreat
