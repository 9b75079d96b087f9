/-
  The cells of objects that are sorted by their spaces and names, as the library's sort has them.
  No condition.
  All of package store: the objects of a kind, with cells of their own, in order; what it asks of the library's sort is a premise here.
  Condition: no more than a thousand objects.
  Equal, Same of the document's store: two objects that are one, two lists that are one.
  Condition: no more than a thousand objects.
  All, Copy of the document's store.
  Condition: no more than a thousand objects.
-/
import Derived.Shelf.GgSortFunc.InsertionK
import Derived.Sort.LotA
import Derived.Shelf.SlSortCmp.Insertion
import Derived.Outline
import Derived.BigQuiet
import Derived.Test.YtdhpoaecedpbdaaGreatZ26
import Derived.Test.YtdhpoaecedpbdaaGreatZ27
import Derived.Test.YtdhpoaecedpbdaaGreatZ28
namespace Go.Proofs.YtdhpoaecedpbdaaGreat
section
section
open Go.RowKit Go.Maps Go.Shelf Go.Sort

instance : Inhabited OE := ⟨⟨(⟨#[]⟩, ⟨#[]⟩, ⟨#[]⟩), 0, .slice none 0 0⟩⟩
def normU (u : Value) : Value := if u.oneCell' = true then u else .int .i64 0
theorem normU_one (u : Value) : (normU u).oneCell' = true := by
  unfold normU
  split
  · assumption
  · rfl
def encO (e : OE) : List Value := [.string e.key.1, .string e.key.2.1, .string e.key.2.2, .int .i64 e.v, normU e.u]
theorem encO_one (x : OE) : ∀ v ∈ encO x, v.oneCell' = true := by
  intro v hv
  simp only [encO, List.mem_cons, List.not_mem_nil, or_false] at hv
  rcases hv with rfl | rfl | rfl | rfl | rfl
  · rfl
  · rfl
  · rfl
  · rfl
  · exact normU_one _
/-- The order of those of one kind. -/
def cmpN (a b : Ky) : Int := if cmpS a.2.1 b.2.1 = 0 then cmpS a.2.2 b.2.2 else cmpS a.2.1 b.2.1
def cfO (x y : OE) : Int := cmpN x.key y.key
theorem cmpN_ordered : Ordered cmpN := pair_ordered cmpS_ordered cmpS_ordered (fun k : Ky => k.2.1) (fun k => k.2.2)
theorem cmpN_K (a b : Ky) (h : a.1 = b.1) : cmpK a b = cmpN a b := by
  unfold cmpK cmpN
  rw [h, cmpS_ordered.self, if_pos rfl]
theorem swoO : SWO (ltOf cfO) where
  irrefl x := by unfold ltOf cfO; rw [cmpN_ordered.self]; rfl
  trans x y z h1 h2 := by
    unfold ltOf cfO at *
    simp only [decide_eq_true_eq] at *
    exact cmpN_ordered.trl _ _ _ (Int.le_of_lt h1) (Int.le_of_lt h2) (.inl h1)
  ntrans x y z h1 h2 := by
    unfold ltOf cfO at *
    simp only [decide_eq_false_iff_not] at *
    have a1 := cmpN_ordered.anti x.key y.key
    have a2 := cmpN_ordered.anti y.key z.key
    have a3 := cmpN_ordered.anti x.key z.key
    have := cmpN_ordered.le z.key y.key x.key (by omega) (by omega)
    omega
def flatES (zs : List OE) : List Value := zs.flatMap encO
theorem flatE_O {zs : List OE} (h : OneU zs) : flatES zs = flatO zs := by
  unfold flatES flatO
  induction zs with
  | nil => rfl
  | cons x zs ih =>
    rw [List.flatMap_cons, List.flatMap_cons, ih (fun e he => h e (List.mem_cons_of_mem _ he))]
    have : normU x.u = x.u := by unfold normU; rw [if_pos (h x (by simp))]
    unfold encO
    rw [this]
theorem flatES_at : ∀ (zs : List OE) (t : Nat), (flatES zs)[t]? = (zs[t / 5]?).bind fun x => (encO x)[t % 5]?
  | [], t => by simp [flatES]
  | x :: zs, 0 => rfl
  | x :: zs, 1 => rfl
  | x :: zs, 2 => rfl
  | x :: zs, 3 => rfl
  | x :: zs, 4 => rfl
  | x :: zs, t + 5 => by
    have ih := flatES_at zs t
    rw [show (t + 5) / 5 = t / 5 + 1 from by omega, show (t + 5) % 5 = t % 5 from by omega]
    exact ih
theorem flatK_flatE (ts : List OE) : (flatK encO 5 ts.toArray).toList = flatES ts := by
  apply List.ext_getElem?
  intro t
  rw [flatES_at]
  by_cases ht : t < ts.length * 5
  · have h1 := get_flatK encO 5 ts.toArray t (by simpa using ht)
    have hs : t < (flatK encO 5 ts.toArray).size := by simpa using ht
    rw [getElem!_pos _ t hs] at h1
    rw [Array.getElem?_toList, Array.getElem?_eq_getElem hs, h1]
    have hi : t / 5 < ts.length := by omega
    rw [List.getElem?_eq_getElem hi]
    simp only [Option.bind_some]
    rw [getElem!_pos ts.toArray (t / 5) (by simpa using hi)]
    simp only [List.getElem_toArray]
    generalize ts[t / 5] = x
    rcases (show t % 5 = 0 ∨ t % 5 = 1 ∨ t % 5 = 2 ∨ t % 5 = 3 ∨ t % 5 = 4 by omega) with h | h | h | h | h <;> rw [h] <;> rfl
  · rw [Array.getElem?_toList, Array.getElem?_eq_none (by simpa using ht), List.getElem?_eq_none (show ts.length ≤ t / 5 by omega)]
    rfl
theorem flatES_len (ts : List OE) : (flatES ts).length = ts.length * 5 := by
  rw [← flatK_flatE]
  simp
theorem heap_sortedO {w : World} {g n : Nat} {os : Array Obj} {cur : Array Value} {e : TypeId} {fr : Nat × Nat} (d : Array OE) (hb : w.heap[g]? = some (.cells cur e fr)) :
    (sortWorldK encO 5 w g 0 n d os).heap[g]? = some (.cells (putCells id 0 (flatK encO 5 d) cur) e fr) := by
  have hg : g < w.heap.size := (Array.getElem?_eq_some_iff.1 hb).1
  unfold sortWorldK putRowK
  rw [heap_grow_old _ _ (by simpa [putRow, mapBlock, Sort.ahead] using hg)]
  simp [putRow, mapBlock, Sort.ahead, Array.getElem?_modify, hb, onCells]
theorem grownBy_sortedO {w : World} {g n : Nat} {os : Array Obj} (d : Array OE) : w.grownBy (sortWorldK encO 5 w g 0 n d os) (some g) := by
  refine ⟨rfl, rfl, rfl, by simp [sortWorldK, putRowK, putRow, mapBlock, Sort.ahead, grow], fun k hk hne => ?_⟩
  unfold sortWorldK putRowK
  rw [heap_grow_old _ _ (by simpa [putRow, mapBlock, Sort.ahead] using hk)]
  have : g ≠ k := fun e => hne (by rw [e])
  simp [putRow, mapBlock, Sort.ahead, Array.getElem?_modify, this]
theorem take_putCellsO (cur : Array Value) (ts : List OE) (h : ts.length * 5 ≤ cur.size) : (putCells id 0 (flatK encO 5 ts.toArray) cur).toList.take (ts.length * 5) = flatES ts := by
  rw [← flatK_flatE]
  apply List.ext_getElem?
  intro j
  have hF : (flatK encO 5 ts.toArray).size = ts.length * 5 := by simp
  generalize flatK encO 5 ts.toArray = F at *
  by_cases hj : j < ts.length * 5
  · rw [List.getElem?_take_of_lt hj, Array.getElem?_toList, Array.getElem?_toList]
    simp [putCells, hj, hF, show j < cur.size by omega]
  · rw [List.getElem?_take_eq_none (by omega), List.getElem?_eq_none (by simp [hF]; omega)]
theorem holdsO {w : World} {base g cap : Nat} {zs : List OE} (h : OwnO w base (.slice (some ⟨g, 0, none⟩) zs.length cap) zs) (h1u : OneU zs) : HoldsK encO 5 w g 0 zs.toArray ∧ g < w.heap.size ∧ base ≤ g := by
  rcases h.2 with ⟨h, _⟩ | ⟨g', cap', cur, hv, hg, hb, h1, h2, h3, h4⟩
  · cases h
  · injection hv with e1 _ _
    injection e1 with e1
    injection e1 with e1
    subst e1
    refine ⟨fun j hj => ?_, (Array.getElem?_eq_some_iff.1 hb).1, hg⟩
    have hj2 : j < zs.length * 5 := by simpa using hj
    refine ⟨?_, by simp [World.frozen?, hb]⟩
    have e2 : (cur.toList.take (zs.length * 5))[j]? = (flatK encO 5 zs.toArray).toList[j]? := by rw [h4, flatK_flatE, flatE_O h1u]
    rw [List.getElem?_take_of_lt hj2, Array.getElem?_toList, Array.getElem?_toList] at e2
    simp only [World.cell?, hb, Nat.zero_add]
    simp only [Option.isSome_none, Bool.false_eq_true, if_false]
    rw [e2, Array.getElem?_eq_getElem hj, getElem!_pos _ j hj]
    rfl
theorem ownO_sorted {w : World} {base g cap n : Nat} {os : Array Obj} {zs ts : List OE} (h : OwnO w base (.slice (some ⟨g, 0, none⟩) zs.length cap) zs) (hl : ts.length = zs.length) (h1u : OneU ts) :
    OwnO (sortWorldK encO 5 w g 0 n ts.toArray os) base (.slice (some ⟨g, 0, none⟩) zs.length cap) ts := by
  rcases h.2 with ⟨h, _⟩ | ⟨g', cap', cur, hv, hg, hb, h1, h2, h3, h4⟩
  · cases h
  · injection hv with e1 _ e2
    injection e1 with e1
    injection e1 with e1
    subst e1
    subst e2
    unfold OwnO
    rw [hl]
    refine ⟨by rw [flatO_len, hl], .inr ⟨g, cap, _, rfl, hg, heap_sortedO _ hb, h1, h2, by simp [putCells, h3], ?_⟩⟩
    rw [← hl, take_putCellsO cur ts (by omega), flatE_O h1u]
theorem ObR.perm {w : World} {Q : Nat → Prop} {es es' : List OE} (hp : es.Perm es') : ∀ {os : List Ob}, ObR w Q es os → ∃ os', os.Perm os' ∧ ObR w Q es' os' := by
  induction hp with
  | nil =>
    intro os h
    exact ⟨os, List.Perm.refl _, h⟩
  | cons x hp ih =>
    intro os h
    match os, h with
    | o :: os, h =>
      obtain ⟨os', h1, h2⟩ := ih h.2
      exact ⟨o :: os', h1.cons o, h.1, h2⟩
  | swap x y l =>
    intro os h
    match os, h with
    | a :: b :: os, h => exact ⟨b :: a :: os, List.Perm.swap _ _ _, h.2.1, h.1, h.2.2⟩
  | trans _ _ ih1 ih2 =>
    intro os h
    obtain ⟨os1, h1, h2⟩ := ih1 h
    obtain ⟨os2, h3, h4⟩ := ih2 h2
    exact ⟨os2, h1.trans h3, h4⟩
theorem ObR.keys {w : World} {Q : Nat → Prop} : ∀ {es : List OE} {os : List Ob}, ObR w Q es os → es.map (·.key) = os.map (·.key)
  | [], [], _ => rfl
  | _ :: _, _ :: _, h => by rw [List.map_cons, List.map_cons, h.2.keys, h.1.1]
theorem SrtO.ext {L : List Ob} (h : SrtO L) : ∀ {L' : List Ob}, SrtO L' → (∀ x, x ∈ L ↔ x ∈ L') → L = L' := by
  induction L with
  | nil =>
    intro L' _ hm
    cases L' with
    | nil => rfl
    | cons y L' => exact absurd ((hm y).2 (by simp)) (by simp)
  | cons x L ih =>
    intro L' h' hm
    cases L' with
    | nil => exact absurd ((hm x).1 (by simp)) (by simp)
    | cons y L' =>
      have h1 := List.pairwise_cons.1 h
      have h2 := List.pairwise_cons.1 h'
      have e : x = y := by
        rcases List.mem_cons.1 ((hm x).1 (by simp)) with e | hx
        · exact e
        · rcases List.mem_cons.1 ((hm y).2 (by simp)) with e | hy
          · exact e.symm
          · have := cmpK_tr (h2.1 x hx) (h1.1 y hy)
            rw [cmpK_self] at this
            omega
      subst e
      rw [ih h1.2 h2.2 fun z => ?_]
      constructor
      · intro hz
        rcases List.mem_cons.1 ((hm z).1 (List.mem_cons_of_mem _ hz)) with e | hz'
        · subst e
          exact absurd rfl (cmpK_ne (h1.1 z hz))
        · exact hz'
      · intro hz
        rcases List.mem_cons.1 ((hm z).2 (List.mem_cons_of_mem _ hz)) with e | hz'
        · subst e
          exact absurd rfl (cmpK_ne (h2.1 z hz))
        · exact hz'
/-- The objects of a kind. -/
def ofKind (os : List Ob) (k : ByteArray) : List Ob := os.filter fun x => x.key.1.toList == k.toList
theorem toList_eqO {a b : ByteArray} : (a.toList == b.toList) = true ↔ a = b := by
  constructor
  · intro h
    have h := eq_of_beq h
    rw [ByteArray.toList_eq, ByteArray.toList_eq] at h
    obtain ⟨⟨l⟩⟩ := a
    obtain ⟨⟨l'⟩⟩ := b
    have e : l = l' := h
    rw [e]
  · rintro rfl; simp
/-- Sorted by space and name, objects of one kind are the sorted ones of that kind. -/
theorem sortedO_is {w : World} {Q : Nat → Prop} {zs : List OE} {os ps : List Ob} {kd : ByteArray} (hs : SrtO os) (hb : ObR w Q zs (ofKind ps kd)) (hn : ps.Pairwise fun a b => a.key ≠ b.key) (hm : ∀ x, x ∈ ps ↔ x ∈ os)
    {d' : Array OE} (hp : PermIn 0 zs.toArray.size zs.toArray d') (hsd : SortedIn (ltOf cfO) 0 zs.toArray.size d') : ObR w Q d'.toList (ofKind os kd) ∧ d'.toList.length = zs.length := by
  obtain ⟨p1, _, p3⟩ := hp
  have hx1 : zs.toArray.extract 0 zs.toArray.size = zs.toArray := Array.extract_size
  have hx2 : d'.extract 0 zs.toArray.size = d' := by rw [← p1]; exact Array.extract_size
  rw [hx1, hx2] at p3
  have hperm : d'.toList.Perm zs := p3
  obtain ⟨fs, hf1, hf2⟩ := ObR.perm hperm.symm hb
  have hkey := hf2.keys
  have hkd : ∀ x ∈ fs, x.key.1 = kd := by
    intro x hx
    have := (List.mem_filter.1 (hf1.mem_iff.2 hx)).2
    exact toList_eqO.1 this
  have hap : fs.Pairwise fun a b => a.key ≠ b.key := (hf1.pairwise_iff (fun {x y} h => Ne.symm h)).1 (hn.sublist List.filter_sublist)
  have hlen := hf2.len
  have hsf : SrtO fs := by
    unfold SrtO
    rw [List.pairwise_iff_getElem] at hap ⊢
    intro i j hi hj hij
    have h1 := hap i j hi hj hij
    have hi' : i < d'.size := by simpa using (by omega : i < d'.toList.length)
    have hj' : j < d'.size := by simpa using (by omega : j < d'.toList.length)
    have h2 := hsd i j (Nat.zero_le _) hij (by rw [← p1]; exact hj')
    rw [getElem!_pos d' i hi', getElem!_pos d' j hj'] at h2
    unfold ltOf cfO at h2
    simp only [decide_eq_false_iff_not] at h2
    have ki : d'[i].key = fs[i].key := by
      have h3 := congrArg (fun l => l[i]?) hkey
      simp only [List.getElem?_map] at h3
      rw [List.getElem?_eq_getElem (show i < d'.toList.length by simpa using hi'), List.getElem?_eq_getElem hi] at h3
      simpa using h3
    have kj : d'[j].key = fs[j].key := by
      have h3 := congrArg (fun l => l[j]?) hkey
      simp only [List.getElem?_map] at h3
      rw [List.getElem?_eq_getElem (show j < d'.toList.length by simpa using hj'), List.getElem?_eq_getElem hj] at h3
      simpa using h3
    rw [ki, kj] at h2
    have hk1 : fs[i].key.1 = fs[j].key.1 := (hkd _ (List.getElem_mem hi)).trans (hkd _ (List.getElem_mem hj)).symm
    rw [cmpN_K _ _ hk1]
    have h3 := cmpN_ordered.anti fs[i].key fs[j].key
    have h4 : cmpN fs[i].key fs[j].key ≠ 0 := fun e => h1 (cmpK_eq (by rw [cmpN_K _ _ hk1]; exact e))
    omega
  have : fs = ofKind os kd := by
    refine SrtO.ext hsf (hs.sublist List.filter_sublist) fun x => ?_
    rw [← hf1.mem_iff]
    unfold ofKind
    rw [List.mem_filter, List.mem_filter, hm]
  rw [← this]
  exact ⟨hf2, hperm.length_eq⟩
end
section
open Go.RowKit Go.Maps

/-- What the sort must do. -/
def SortOk : Prop := ∀ (Q : Nat → Prop) (os ps : List Ob) (kd : ByteArray) (zs : List OE) (W : World) (base : Nat) (v : Value), SrtO os → AnyO os ps → ObR W Q zs (ofKind ps kd) → OwnO W base v zs → base ≤ W.heap.size → os.length ≤ 1000 → (∀ k, v.ownBlock = some k → ¬ Q k) →
  Calls Tryz.prog 87 #[v, .func (.func 88) #[] #[]] W fun e w' => e = .returned (.tuple #[]) ∧ (∃ ts, OwnO w' base v ts ∧ ObR w' Q ts (ofKind os kd)) ∧ Below base W w'
theorem ranges_block {w w' : World} {b r n : Nat} {D : DataW Value} {left : Lit → Bool} {cnt : Nat} (h : w.ranges Tryz.prog 103 RpO b r n D left cnt) (hb : w'.heap[b]? = w.heap[b]?) (hr : w'.heap[r]? = w.heap[r]?) : w'.ranges Tryz.prog 103 RpO b r n D left cnt := by
  obtain ⟨es, clock, since, seen, c0, h1, h2, h3, h4, h5, h6⟩ := h
  exact ⟨es, clock, since, seen, c0, hb.trans h1, h2, h3, h4, hr.trans h5, h6⟩
theorem ofKind_snoc (ps : List Ob) (o : Ob) (kd : ByteArray) : ofKind (ps ++ [o]) kd = ofKind ps kd ++ (if (o.key.1.toList == kd.toList) = true then [o] else []) := by
  unfold ofKind
  rw [List.filter_append]
  by_cases hc : (o.key.1.toList == kd.toList) = true <;> simp [hc]
theorem ofKind_len (ps : List Ob) (kd : ByteArray) : (ofKind ps kd).length ≤ ps.length := List.length_filter_le _ _
/-- What has been collected: the objects, and their rows beside them. -/
def AllJ (H : Nat) (v : Value) (ps : List Ob) (kd : ByteArray) (W : World) : Prop := ∃ zs, OwnO W H v zs ∧ ObR W (fun j => H ≤ j ∧ v.ownBlock ≠ some j) zs (ofKind ps kd)
theorem AllJ.start (H : Nat) (W : World) (kd : ByteArray) : AllJ H (.slice none 0 0) [] kd W := ⟨[], OwnO.nil _ _, trivial⟩
theorem AllJ.below {H : Nat} {v : Value} {ps : List Ob} {kd : ByteArray} {W W' : World} (h : AllJ H v ps kd W) (hb : Below W.heap.size W W') : AllJ H v ps kd W' := by
  obtain ⟨zs, h1, h2⟩ := h
  exact ⟨zs, h1.below hb, h2.keep (Below.keepQ hb _)⟩

theorem OwnO.same {w w' : World} {base : Nat} {v : Value} {zs : List OE} (h : OwnO w base v zs) (he : ∀ k, v.ownBlock = some k → w'.heap[k]? = w.heap[k]?) : OwnO w' base v zs := by
  refine ⟨h.1, ?_⟩
  rcases h.2 with hn | ⟨g, cap, cur, rfl, hg, hh, r⟩
  · exact Or.inl hn
  · exact Or.inr ⟨g, cap, cur, rfl, hg, (he g rfl).trans hh, r⟩
theorem OwnO.lower {w : World} {base b2 : Nat} {v : Value} {ss : List OE} (h : OwnO w base v ss) (hb : b2 ≤ base) : OwnO w b2 v ss := by
  refine ⟨h.1, ?_⟩
  rcases h.2 with hn | ⟨g, cap, cur, hv, hg, hh, r⟩
  · exact Or.inl hn
  · exact Or.inr ⟨g, cap, cur, hv, Nat.le_trans hb hg, hh, r⟩
theorem AllJ.keep {H : Nat} {v : Value} {ps : List Ob} {kd : ByteArray} {W W' : World} (h : AllJ H v ps kd W) (hk : ∀ k, H ≤ k → k < W.heap.size → W'.heap[k]? = W.heap[k]?) : AllJ H v ps kd W' := by
  obtain ⟨zs, h1, h2⟩ := h
  exact ⟨zs, h1.same fun k e => hk k (h1.base_le k e) (World.ownsRow.lt h1 k e).2, h2.keep fun k hq hl => hk k hq.1 hl⟩
theorem AllJ.more {H : Nat} {v v8 u' : Value} {ps : List Ob} {o : Ob} {kd : ByteArray} {W W2 W8 : World} {B : Nat} {zs : List OE} (h2 : ObR W (fun j => H ≤ j ∧ v.ownBlock ≠ some j) zs (ofKind ps kd)) (hc : (o.key.1.toList == kd.toList) = true) (hown8 : OwnO W8 H v8 (zs ++ [⟨o.key, o.v, u'⟩]))
    (hW : ∀ k, k < W.heap.size → W2.heap[k]? = W.heap[k]?) (hg : W2.grownBy W8 v.ownBlock) (hd : v8.ownBlock = v.ownBlock ∨ v8.ownBlock = some W2.heap.size) (hr : IsRow W2 (fun j => B ≤ j) u' o.c) (hB : H ≤ B) (hvB : ∀ k, v.ownBlock = some k → k < B) : AllJ H v8 (ps ++ [o]) kd W8 := by
  refine ⟨_, hown8, ?_⟩
  rw [ofKind_snoc, if_pos hc]
  have hne : ∀ j, j < W2.heap.size → v.ownBlock ≠ some j → v8.ownBlock ≠ some j := by
    intro j hj hv
    rcases hd with e | e
    · rw [e]; exact hv
    · rw [e]
      intro h
      injection h with h
      omega
  refine ObR.append ?_ ⟨⟨rfl, rfl, ?_⟩, trivial⟩
  · have h3 : ObR W2 (fun j => H ≤ j ∧ v.ownBlock ≠ some j) zs (ofKind ps kd) := h2.keep fun k _ hk => hW k hk
    have h4 : ObR W2 (fun j => H ≤ j ∧ v.ownBlock ≠ some j ∧ v8.ownBlock ≠ some j) zs (ofKind ps kd) := h3.imp fun k hk hq => ⟨hq.1, hq.2, hne k hk hq.2⟩
    exact (h4.keep fun k hq hk => hg.block k hk (fun e => hq.2.1 e.symm)).imp fun k _ hq => ⟨hq.1, hq.2.2⟩
  · have h3 : IsRow W2 (fun j => B ≤ j ∧ v.ownBlock ≠ some j ∧ v8.ownBlock ≠ some j) u' o.c := hr.imp fun k hk hq => by
      have hv : v.ownBlock ≠ some k := fun e => by have := hvB k e; omega
      exact ⟨hq, hv, hne k hk hv⟩
    exact (h3.keep fun k hq hk => hg.block k hk (fun e => hq.2.1 e.symm)).imp fun k _ hq => ⟨Nat.le_trans hB hq.1, hq.2.2⟩

set_option maxRecDepth 100000 in
set_option maxHeartbeats 4000000 in
theorem o_all0 (HSO : SortOk) (Q : Nat → Prop) (s b : Nat) (os : List Ob) (last : Int) (KL : List Sc) (kd : ByteArray) (w : World) (hS : StoB w Q s b os last KL) (hg : GoodO os) :
    Calls Tryz.prog 45 #[.pointer (some ⟨s, 0, none⟩), .string kd] w fun e w' => (∃ v zs, e = .returned v ∧ OwnO w' w.heap.size v zs ∧ ObR w' (fun j => w.heap.size ≤ j ∧ v.ownBlock ≠ some j) zs (ofKind os kd)) ∧ Below w.heap.size w w' := by
  have HSO2 := Lib.hid HSO
  have HG := Lib.hid hg
  have hfew := hg.few
  obtain ⟨kv, D, es, h1, -, h3, h4, h5, -, h7, -, -⟩ := hS
  have c1 : w.cell? ⟨s, 1, none⟩ = some (.map (some b)) := cell_of_row w s 1 _ _ _ h1
  have H3 := Lib.hid h3
  have H4 := Lib.hid h4
  have H5 := Lib.hid h5
  clear h1 h3 h4 h5 hg HSO
  go_enter Tryz.func45, Tryz.ntmps45
  go_wp2_with (at_range; refine wpList_range_own _ rfl _ 98 rfl 103 25 lawO Tryz.underlying98 RpO b es.length D rfl H3.out ?_; intro w0 hrg0 hg0 hs0)
  go_frame
  have HRG0 := Lib.hid hrg0
  have HB0 : Hid (Below w.heap.size w w0) := Lib.hid ((Below.refl _ _).grown hg0 (Nat.le_refl _) (fun j hj => by cases hj))
  clear hrg0 hg0 hs0
  go_loopw [5] (fun v wr => ∃ (left : Lit → Bool) (cnt : Nat) (ps : List Ob) (v1 : Value), v1 = v ∧ wr.ranges Tryz.prog 103 RpO b w.heap.size es.length D left cnt ∧ Hid (AllJ (w.heap.size + 1) v1 ps kd wr) ∧ Hid (Seen D left os ps) ∧ Below w.heap.size w wr ∧ w.heap.size + 1 ≤ wr.heap.size) (fun _ wr => wr.rangeLeft b w.heap.size)
  case atStart => exact ⟨_, _, [], _, rfl, HRG0.out, Lib.hid (AllJ.start _ _ _), Lib.hid (Seen.start D os), HB0.out, HRG0.out.lt⟩
  case round =>
    obtain ⟨left, cnt, ps, v1, rfl, hrg, HJ, HSE, hb, hsz⟩ := hrel
    have HRG := Lib.hid hrg
    have HB := Lib.hid hb
    clear hrg hb
    go_wp2_with (at_next; refine wpList_next_ranges _ rfl _ rfl 103 lawO RpO kV (fun v : Value => v) (fun key k h => by obtain ⟨x, _, hx, _⟩ := keyOf_back h; exact ⟨x, hx⟩) (fun v _ _ => ⟨v, rfl⟩) b w.heap.size es.length D _ _ rfl HRG.out ?_ ?_)
    · intro hc0 hl0
      have HAN := Lib.hid (HSE.out.all H4.out H5.out HG.out.srt.apart hl0)
      clear hc0 hl0
      obtain ⟨zs, hown, hob⟩ := HJ.out
      have HCS := Lib.hid (HSO2.out _ os ps kd zs wr _ _ HG.out.srt HAN.out hob hown hsz (by omega) (fun k hk h => h.2 hk))
      clear hown hob
      go_wp2_with fail
      refine HCS.out.mono ?_
      rintro e w2 ⟨rfl, ⟨ts, ho2, hb2⟩, hbl2⟩
      have HO2 := Lib.hid ho2
      have HB2 := Lib.hid hb2
      have HBL := Lib.hid (HB.out.trans (hbl2.mono (by omega)))
      clear ho2 hb2 hbl2 HCS
      obtain ⟨A9, c9, hv9⟩ := HO2.out.form
      subst hv9
      go_wp2
      go_ret
      exact ⟨⟨_, ts, rfl, HO2.out.lower (Nat.le_succ _), HB2.out.imp fun k _ hq => ⟨Nat.le_of_succ_le hq.1, hq.2⟩⟩, HBL.out⟩
    · intro x1 x2 x3 cv kl y1 y2 w1 cnt1 hkey hlk hv hat hrg1 hlt hg1 hs1 hen
      obtain ⟨e, o, he, hek, hok, hev, hrow, ho, hkl, hse⟩ := HSE.out.step (x := (x1, x2, x3)) (y := (y1, y2)) H4.out H5.out hkey hlk hv hat
      subst he
      have HB1 : Hid (Below w.heap.size w w1) := Lib.hid (HB.out.grown hg1 (Nat.le_trans (Nat.le_succ _) hsz) (fun j hj => by cases hj; exact Nat.le_refl _))
      have HJ1 : Hid (AllJ (w.heap.size + 1) v1 ps kd w1) := Lib.hid (HJ.out.keep fun k hk hl => hg1.block k hl (fun e => by injection e with e; omega))
      have HRG1 := Lib.hid hrg1
      have HLT := Lib.hid hlt
      have HSE1 := Lib.hid hse
      have hpl : ps.length ≤ 120 := Nat.le_trans HSE.out.len hfew
      have hz1 : w.heap.size + 1 ≤ w1.heap.size := by rw [hs1]; exact hsz
      have HROW := Lib.hid hrow
      obtain ⟨⟨ek1, ek2, ek3⟩, ev, eu⟩ := e
      obtain ⟨ok, ov, oc⟩ := o
      simp only [Prod.mk.injEq] at hek hok hev hrow
      obtain ⟨rfl, rfl, rfl⟩ := hek
      subst hok
      subst hev
      obtain ⟨_, Au, cu, rfl, _, _⟩ := hrow
      simp only at HROW
      unfold kV oV at hen
      have HSN := Lib.hid (ofKind_snoc ps ⟨(ek1, ek2, ek3), ev, oc⟩ kd)
      clear hkey hlk hv hat hg1 hs1 hrg1 hlt hse ho hkl
      unfold kV
      simp only at HSN hen
      have hba := two_new w1 (.cells #[.string ek1, .string ek2, .string ek3] 103) (.cells #[.string ek1, .string ek2, .string ek3, .int .i64 ev, .slice Au oc.length cu] 25)
      have HBA := Lib.hid hba
      have hszb : ((w1.alloc (.cells #[.string ek1, .string ek2, .string ek3] 103)).alloc (.cells #[.string ek1, .string ek2, .string ek3, .int .i64 ev, .slice Au oc.length cu] 25)).heap.size = w1.heap.size + 2 := by simp
      have HSB := Lib.hid hszb
      have HOW := Lib.hid (o_own Q ⟨(ek1, ek2, ek3), ev, .slice Au oc.length cu⟩ oc _ (HROW.out.below (HB1.out.trans (hba.mono HB1.out.size))))
      unfold oV at HOW
      simp only at HOW
      clear hba hszb
      by_cases hc : (ek1.toList == kd.toList) = true
      · have HC := Lib.hid hc
        obtain ⟨zs, hown1, hob1⟩ := HJ1.out
        have hzl : zs.length ≤ 120 := by have h1 := hob1.len; have h2 := ofKind_len ps kd; omega
        have HN1 := Lib.hid hown1
        have HOB := Lib.hid hob1
        clear hown1 hob1
        generalize oc.length = nc at *
        go_upto_region 8 with (fail)
        have hxb := alloc2_new w1 (.cells #[.string ek1, .string ek2, .string ek3] 103) (.cells #[.string ek1, .string ek2, .string ek3, .int .i64 ev, .slice Au nc cu] 25)
        obtain ⟨a0, a1, a2, a3, a4⟩ := five_cells hxb
        clear hxb
        go_wp2_with fail
        refine HOW.out.mono ?_
        rintro x w2 ⟨u', rfl, hrow2, hb2⟩
        have HR2 := Lib.hid hrow2
        have HB2 := Lib.hid (HBA.out.trans (hb2.mono (by rw [HSB.out]; omega)))
        have hz2 := hb2.size
        rw [HSB.out] at hz2
        obtain ⟨_, A2, c2, rfl, _, _⟩ := hrow2
        generalize hnc : oc.length = nc2 at *
        have HLIT := Lib.hid (lit_O w2 ⟨(ek1, ek2, ek3), ev, .slice A2 nc2 c2⟩ 25)
        simp only at HLIT
        clear a0 a1 a2 a3 a4 hb2 HOW
        go_wp2_with (at_builtin; go_must (refine wp_append_O _ rfl (.tmp 24) (.tmp 27) rfl (w.heap.size + 1) v1 zs [(⟨(ek1, ek2, ek3), ev, .slice A2 nc2 c2⟩ : OE)] rfl ((HN1.out.below HB2.out).alloc _) _ (some ⟨w2.heap.size, 0, none⟩) 1 _ rfl rfl HLIT.out (by intro e he; rw [List.mem_singleton.1 he]; rfl) (by simp; omega) (by simp; omega) ?_; intro v8 w8 hown8 hb8 hg8 hd8; have HO8 := Lib.hid hown8; have HG8 := Lib.hid hg8; have HD8 := Lib.hid hd8; have HB8 := Lib.hid hb8; clear hown8 hb8 hg8 hd8))
        have HRG8 : Hid (w8.ranges Tryz.prog 103 RpO b w.heap.size es.length D (fun z => left z && !z.sameKey kl) cnt1) := Lib.hid (by
          have hon := one_new w2 (.cells #[.string ek1, .string ek2, .string ek3, .int .i64 ev, .slice A2 nc2 c2] 25)
          have hb18 : Below (w.heap.size + 1) w1 w8 := (HB2.out.mono hz1).trans ((hon.mono (by omega)).trans HB8.out)
          exact ranges_block HRG1.out (hb18.block b (by omega)) (hb18.block w.heap.size (by omega)))
        go_roundw
        case rel =>
          have hon := one_new w2 (.cells #[.string ek1, .string ek2, .string ek3, .int .i64 ev, .slice A2 nc2 c2] 25)
          have hb18 : Below (w.heap.size + 1) w1 w8 := (HB2.out.mono hz1).trans ((hon.mono (by omega)).trans HB8.out)
          refine ⟨_, cnt1, _, v8, rfl, HRG8.out, Lib.hid ?_, HSE1, HB1.out.trans (hb18.mono (Nat.le_succ _)), by have := hb18.size; omega⟩
          refine AllJ.more (W := w1) (W2 := w2.alloc (.cells #[.string ek1, .string ek2, .string ek3, .int .i64 ev, .slice A2 nc2 c2] 25)) (B := w1.heap.size + 2) HOB.out HC.out HO8.out (fun k hk => (hon.block k (by omega)).trans (HB2.out.block k hk)) HG8.out HD8.out ?_ (by omega) (fun k hk => by have := (World.ownsRow.lt HN1.out k hk).2; omega)
          have h9 := HR2.out.below hon
          rw [HSB.out] at h9
          exact h9
        case measure => rw [HRG8.out.left_eq, HRG.out.left_eq]; exact HLT.out
      · have hc' : (ek1.toList == kd.toList) = false := by simpa using hc
        have HS2 : Hid (ofKind (ps ++ [⟨(ek1, ek2, ek3), ev, oc⟩]) kd = ofKind ps kd) := Lib.hid (by rw [HSN.out, if_neg hc, List.append_nil])
        clear hc HSN
        go_wp2
        go_roundw
        case rel =>
          obtain ⟨zs, h1, h2⟩ := HJ1.out.below HBA.out
          exact ⟨_, cnt1, _, v1, rfl, (HRG1.out.alloc _).alloc _, Lib.hid ⟨zs, h1, by rw [HS2.out]; exact h2⟩, HSE1, HB1.out.trans (HBA.out.mono HB1.out.size), by simp; omega⟩
        case measure => rw [((HRG1.out.alloc _).alloc _).left_eq, HRG.out.left_eq]; exact HLT.out
end
end
end Go.Proofs.YtdhpoaecedpbdaaGreat
namespace Go.Proofs.YtdhpoaecedpbdaaGreat
section
section
open Go.RowKit Go.Maps

/-- An object of a list, cell by cell. -/
theorem cells_atO {w : World} {Q Q' : Nat → Prop} {A : Option Addr} {es : List OE} {os : List Ob} (h4 : ObR w Q' es os) (h5 : CellsQ w Q A (flatO es)) (i : Nat) (o : Ob) (ho : os[i]? = some o) :
    ∃ (a : Addr) (u : Value), A = some a ∧ IsRow w Q' u o.c ∧ w.cell? (a.add (i * 5)) = some (.string o.key.1) ∧ w.cell? { block := (a.add (i * 5)).block, off := (a.add (i * 5)).off + 1 } = some (.string o.key.2.1) ∧ w.cell? { block := (a.add (i * 5)).block, off := (a.add (i * 5)).off + 2 } = some (.string o.key.2.2) ∧ w.cell? { block := (a.add (i * 5)).block, off := (a.add (i * 5)).off + 3 } = some (.int .i64 o.v) ∧ w.cell? { block := (a.add (i * 5)).block, off := (a.add (i * 5)).off + 4 } = some u := by
  obtain ⟨e, he, hk, hv, hr⟩ := h4.get i o ho
  have g : ∀ j u, j < 5 → [Value.string e.key.1, .string e.key.2.1, .string e.key.2.2, .int .i64 e.v, e.u][j]? = some u → ∃ a : Addr, A = some a ∧ w.cell? (a.add (i * 5 + j)) = some u := by
    intro j u hj hu
    obtain ⟨a, h1, _, h3⟩ := h5 (i * 5 + j) u ((flatO_get es i e j he hj).trans hu)
    exact ⟨a, h1, h3⟩
  obtain ⟨a, rfl, g0⟩ := g 0 _ (by omega) rfl
  have gg : ∀ j u, j < 4 → [Value.string e.key.2.1, .string e.key.2.2, .int .i64 e.v, e.u][j]? = some u → w.cell? { block := (a.add (i * 5)).block, off := (a.add (i * 5)).off + (j + 1) } = some u := by
    intro j u hj hu
    obtain ⟨a', h1, h3⟩ := g (j + 1) u (by omega) (by simpa using hu)
    injection h1 with h1
    subst h1
    have z : a.add (i * 5 + (j + 1)) = { block := (a.add (i * 5)).block, off := (a.add (i * 5)).off + (j + 1) } := by
      unfold Addr.add
      split
      · omega
      · split <;> simp_all <;> omega
    rw [← z]
    exact h3
  rw [hk, hv] at gg
  rw [hk] at g0
  exact ⟨a, e.u, rfl, hr, g0, gg 0 _ (by omega) rfl, gg 1 _ (by omega) rfl, gg 2 _ (by omega) rfl, gg 3 _ (by omega) rfl⟩
theorem ObR.below {w w' : World} {Q : Nat → Prop} {es : List OE} {os : List Ob} (h : ObR w Q es os) (hb : Below w.heap.size w w') : ObR w' Q es os := h.keep (Below.keepQ hb Q)

end
section
open Go.RowKit Go.Maps

def kOf (es : List OE) (kd : ByteArray) : List OE := es.filter fun x => x.key.1.toList == kd.toList
theorem ObR.kind {w : World} {Q : Nat → Prop} (kd : ByteArray) : ∀ {es : List OE} {os : List Ob}, ObR w Q es os → ObR w Q (kOf es kd) (ofKind os kd)
  | [], [], _ => trivial
  | e :: es, o :: os, h => by
    have ih := h.2.kind kd
    unfold kOf ofKind at ih ⊢
    rw [List.filter_cons, List.filter_cons, h.1.1]
    split
    · exact ⟨h.1, ih⟩
    · exact ih
theorem kOf_step (es : List OE) (kd : ByteArray) (k : Nat) (e : OE) (h : es[k]? = some e) : kOf (es.take (k + 1)) kd = kOf (es.take k) kd ++ (if (e.key.1.toList == kd.toList) = true then [e] else []) := by
  unfold kOf
  rw [List.take_add_one, h, List.filter_append]
  by_cases hc : (e.key.1.toList == kd.toList) = true <;> simp [hc]
theorem kOf_len (es : List OE) (kd : ByteArray) (k : Nat) : (kOf (es.take k) kd).length ≤ k := by
  unfold kOf
  refine Nat.le_trans (List.length_filter_le _ _) ?_
  rw [List.length_take]
  omega
theorem ObR.get3 {w : World} {Q : Nat → Prop} : ∀ {a : List OE} {b : List Ob} (i : Nat) (e : OE), ObR w Q a b → a[i]? = some e → ∃ o, b[i]? = some o ∧ e.key = o.key ∧ e.v = o.v ∧ IsRow w Q e.u o.c
  | [], [], i, o, _, h => by simp at h
  | e :: _, o' :: _, 0, o, h1, h => by
    have : e = o := by simpa using h
    subst this
    exact ⟨o', rfl, h1.1⟩
  | _ :: _, _ :: _, i + 1, o, h1, h => by
    obtain ⟨e, h2, h3⟩ := h1.2.get3 i o (by simpa using h)
    exact ⟨e, by simpa using h2, h3⟩
/-- An entry of a list, cell by cell. -/
theorem cells_atE {w : World} {Q : Nat → Prop} {A : Option Addr} {es : List OE} (h5 : CellsQ w Q A (flatO es)) (i : Nat) (e : OE) (he : es[i]? = some e) :
    ∃ a : Addr, A = some a ∧ w.cell? (a.add (i * 5)) = some (.string e.key.1) ∧ w.cell? { block := (a.add (i * 5)).block, off := (a.add (i * 5)).off + 1 } = some (.string e.key.2.1) ∧ w.cell? { block := (a.add (i * 5)).block, off := (a.add (i * 5)).off + 2 } = some (.string e.key.2.2) ∧ w.cell? { block := (a.add (i * 5)).block, off := (a.add (i * 5)).off + 3 } = some (.int .i64 e.v) ∧ w.cell? { block := (a.add (i * 5)).block, off := (a.add (i * 5)).off + 4 } = some e.u := by
  have g : ∀ j u, j < 5 → [Value.string e.key.1, .string e.key.2.1, .string e.key.2.2, .int .i64 e.v, e.u][j]? = some u → ∃ a : Addr, A = some a ∧ w.cell? (a.add (i * 5 + j)) = some u := by
    intro j u hj hu
    obtain ⟨a, h1, _, h3⟩ := h5 (i * 5 + j) u ((flatO_get es i e j he hj).trans hu)
    exact ⟨a, h1, h3⟩
  obtain ⟨a, rfl, g0⟩ := g 0 _ (by omega) rfl
  have gg : ∀ j u, j < 4 → [Value.string e.key.2.1, .string e.key.2.2, .int .i64 e.v, e.u][j]? = some u → w.cell? { block := (a.add (i * 5)).block, off := (a.add (i * 5)).off + (j + 1) } = some u := by
    intro j u hj hu
    obtain ⟨a', h1, h3⟩ := g (j + 1) u (by omega) (by simpa using hu)
    injection h1 with h1
    subst h1
    have z : a.add (i * 5 + (j + 1)) = { block := (a.add (i * 5)).block, off := (a.add (i * 5)).off + (j + 1) } := by
      unfold Addr.add
      split
      · omega
      · split <;> simp_all <;> omega
    rw [← z]
    exact h3
  exact ⟨a, rfl, g0, gg 0 _ (by omega) rfl, gg 1 _ (by omega) rfl, gg 2 _ (by omega) rfl, gg 3 _ (by omega) rfl⟩

set_option maxRecDepth 100000 in
set_option maxHeartbeats 4000000 in
theorem r_allO (Q : Nat → Prop) (r : Nat) (A : Option Addr) (c : Nat) (os : List Ob) (last : Int) (KL : List Sc) (kd : ByteArray) (w : World) (hR : RefO w Q r A c os last KL) (hl : os.length ≤ 1000) :
    Calls Tryz.prog 46 #[.pointer (some ⟨r, 0, none⟩), .string kd] w fun e w' => (∃ v zs, e = .returned v ∧ OwnO w' w.heap.size v zs ∧ ObR w' Q zs (ofKind os kd)) ∧ Below w.heap.size w w' := by
  have hrl := hR.lt
  obtain ⟨kv, es, h1, h2, h3, h4, h5, h6, h7⟩ := hR
  have hlen := h4.len
  have HLEN := Lib.hid hlen
  have HCL := Lib.hid (fun W (hW : Below w.heap.size w W) => show W.cell? ⟨r, 1, none⟩ = some (.slice A os.length c) from cell_of_row W r 1 _ _ _ ((hW.block r hrl).trans h1))
  have HAT := Lib.hid (fun W (hW : Below w.heap.size w W) (i : Nat) (e : OE) (he : es[i]? = some e) => cells_atE (h5.keep (Below.keepQ hW Q)) i e he)
  have H4 := Lib.hid h4
  have HONE := Lib.hid h4.one
  clear h1 h2 h3 h4 h5 h6 h7 hlen
  go_enter Tryz.func46, Tryz.ntmps46
  go_wp2
  go_loopw [5, 6] (fun v i wr => ∃ (k : Nat), k ≤ os.length ∧ i = .int .i64 k ∧ Hid (OwnO wr w.heap.size v (kOf (es.take k) kd)) ∧ Below w.heap.size w wr) (fun _ i _ => os.length - (intOf i).toNat)
  case atStart => exact ⟨0, Nat.zero_le _, rfl, Lib.hid (OwnO.nil _ _), Below.refl _ _⟩
  case round =>
    obtain ⟨k, hk, rfl, HOW, hb⟩ := hrel
    have HB := Lib.hid hb
    have c1 := HCL.out wr hb
    have hsz := hb.size
    clear hb
    by_cases hlt : k < os.length
    · obtain ⟨e, he⟩ : ∃ e, es[k]? = some e := ⟨_, List.getElem?_eq_getElem (by rw [HLEN.out]; exact hlt)⟩
      obtain ⟨a, rfl, d0, d1, d2, d3, d4⟩ := HAT.out wr HB.out k e he
      have HST := Lib.hid (kOf_step es kd k e he)
      have hkl := kOf_len es kd k
      have h1u := HONE.out e (List.mem_of_getElem? he)
      obtain ⟨Au, nu, cu, hu⟩ : ∃ A n c, e.u = .slice A n c := by
        obtain ⟨o, _, _, _, _, A', c', hu', _⟩ := H4.out.get3 k e he
        exact ⟨_, _, _, hu'⟩
      obtain ⟨⟨e1, e2, e3⟩, ev, eu⟩ := e
      simp only at hu d0 d1 d2 d3 d4 h1u
      subst hu
      clear he
      by_cases hc : (e1.toList == kd.toList) = true
      · have HLIT := Lib.hid (lit_O wr ⟨(e1, e2, e3), ev, .slice Au nu cu⟩ 25)
        have HST2 : Hid (kOf (es.take (k + 1)) kd = kOf (es.take k) kd ++ [⟨(e1, e2, e3), ev, .slice Au nu cu⟩]) := Lib.hid (by rw [HST.out, if_pos hc])
        simp only at HLIT
        clear HST
        generalize kOf (es.take k) kd = acc at *
        go_wp2_with (at_builtin; go_must (refine wp_append_O _ rfl (.tmp 26) (.tmp 34) rfl w.heap.size _ acc [(⟨(e1, e2, e3), ev, .slice Au nu cu⟩ : OE)] rfl (HOW.out.alloc _) _ (some ⟨wr.heap.size, 0, none⟩) 1 _ rfl rfl HLIT.out (by intro e he; rw [List.mem_singleton.1 he]; rfl) (by simp; omega) (by simp; omega) ?_; intro v8 w8 hown8 hb8 _ _; have HO8 := Lib.hid hown8; obtain ⟨A8, c8, hv8⟩ := hown8.form; rw [List.length_append, List.length_singleton] at hv8; subst hv8; have HB8 := Lib.hid (HB.out.trans (((one_new wr _).mono hsz).trans hb8)); clear hown8 hb8))
        go_roundw
        case rel => exact ⟨k + 1, by omega, by go_num, Lib.hid (by rw [HST2.out]; exact HO8.out), HB8.out⟩
        case measure => simp [intOf]; omega
      · have hc' : (e1.toList == kd.toList) = false := by simpa using hc
        have HST2 : Hid (kOf (es.take (k + 1)) kd = kOf (es.take k) kd) := Lib.hid (by rw [HST.out, if_neg hc, List.append_nil])
        clear hc HST
        go_wp2
        go_roundw
        case rel => exact ⟨k + 1, by omega, by go_num, Lib.hid (by rw [HST2.out]; exact HOW.out), HB.out⟩
        case measure => simp [intOf]; omega
    · have hke : k = os.length := by omega
      subst hke
      have HFI : Hid (kOf (es.take os.length) kd = kOf es kd) := Lib.hid (by rw [← HLEN.out, List.take_length])
      obtain ⟨A9, c9, hv9⟩ := HOW.out.form
      go_wp2
      go_ret
      exact ⟨⟨_, kOf es kd, rfl, by rw [← HFI.out]; exact HOW.out, (H4.out.keep (Below.keepQ HB.out Q)).kind kd⟩, HB.out⟩
end
end
end Go.Proofs.YtdhpoaecedpbdaaGreat
