/-
  A map from names to lists of names in memory: each list is of the call's own, in a block of its own; looking up, putting, adding one more name.
  No condition but that names are no longer than they can be.
-/
import Derived.Test.YtojpccngcicbmaaYm
import Derived.Test.YtojpccngcicbmaaYn
import Derived.Maps.OwnSet
import Derived.Maps.OwnOps
import Derived.Sort.KeysCollected
namespace Go.Proofs.Ytojpccngcicbmaa
open Go.RowKit Go.Maps

def kM (b : ByteArray) : Lit := .string b.data.toList
theorem kM_inj {a b : ByteArray} (h : kM a = kM b) : a = b := by
  unfold kM at h
  injection h with h
  obtain ⟨⟨l⟩⟩ := a
  obtain ⟨⟨l'⟩⟩ := b
  simp only at h
  rw [h]
/-- An element of the map is read as it is. -/
def RpM (v : Value) : Option (DataW Value × List MemPlace) := some (.held v, [])
theorem lawM : Keyed Try.prog 9 := string_keyed Try.underlying9
theorem zeroM (w : World) : (zeroValue 26).run Try.prog w = .ok (.slice none 0 0) w := by kernel_rfl
/-- A name, the value of its list, the list. -/
abbrev Mn := ByteArray × Value × List ByteArray
def findM (S : List Mn) (b : ByteArray) : Option Mn := S.find? fun h => decide (h.1 = b)
def valM : Option Mn → Value
  | none => .slice none 0 0
  | some h => h.2.1
theorem findM_none {S : List Mn} {b : ByteArray} (h : findM S b = none) : ∀ x ∈ S, x.1 ≠ b := fun x hx e => by
  have := List.find?_eq_none.1 h x hx
  simp [e] at this
theorem findM_some {S : List Mn} {b : ByteArray} {x : Mn} (h : findM S b = some x) : x ∈ S ∧ x.1 = b := by
  have h1 := List.mem_of_find?_eq_some h
  have h2 := List.find?_some h
  exact ⟨h1, of_decide_eq_true h2⟩
/-- The map reads as these. -/
def RelM (D : DataW Value) (S : List Mn) : Prop := (∀ b, D.atKey (kM b) (.held (.slice none 0 0)) = .held (valM (findM S b))) ∧ (∀ b, Maps.has D (kM b) = (findM S b).isSome) ∧ Maps.size D = S.length ∧ S.Pairwise fun a b => a.1 ≠ b.1
theorem RelM.empty : RelM (.map []) [] := ⟨fun _ => rfl, fun _ => rfl, rfl, List.Pairwise.nil⟩
theorem RelM.put {D : DataW Value} {S S' : List Mn} {key : ByteArray} {p : Value} (r : RelM D S) (ht : Tidy D) (hp : ∀ b, valM (findM S' b) = if b = key then p else valM (findM S b)) (hs : ∀ b, (findM S' b).isSome = (decide (b = key) || (findM S b).isSome))
    (hl : S'.length = if (findM S key).isSome = true then S.length else S.length + 1) (hn : S'.Pairwise fun a b => a.1 ≠ b.1) : RelM (D.put (kM key) (.held p)) S' := by
  obtain ⟨r1, r2, r3, _⟩ := r
  have hk : WideAt.IsKeyLit (kM key) := trivial
  refine ⟨fun b => ?_, fun b => ?_, ?_, hn⟩
  · rw [hp b]
    by_cases e : b = key
    · subst e; rw [if_pos rfl, atKey_put_same ht.isMap hk]
    · rw [if_neg e, atKey_put_other (fun e2 => e (kM_inj e2)), r1 b]
  · rw [hs b]
    by_cases e : b = key
    · subst e; rw [has_put_same ht.isMap hk]; simp
    · rw [has_put_other (fun e2 => e (kM_inj e2)), r2 b]; simp [e]
  · rw [size_put ht, r2 key, r3, hl]

/-- A name with another list, or a name more. -/
def updM (S : List Mn) (key : ByteArray) (p : Value) (t : List ByteArray) : List Mn := S.map fun x => if x.1 = key then (key, p, t) else x
theorem findM_upd (key : ByteArray) (p : Value) (t : List ByteArray) (b : ByteArray) : ∀ S : List Mn, findM (updM S key p t) b = (findM S b).map fun x => if x.1 = key then (key, p, t) else x
  | [] => rfl
  | x :: S => by
    have ih := findM_upd key p t b S
    unfold findM updM at ih ⊢
    rw [List.map_cons, List.find?_cons, List.find?_cons]
    by_cases h : x.1 = key
    · rw [if_pos h]
      by_cases hb : x.1 = b
      · rw [decide_eq_true (show (key, p, t).1 = b from h ▸ hb), decide_eq_true hb]
        simp [h]
      · rw [decide_eq_false (show ¬ (key, p, t).1 = b from fun e => hb (h.trans e)), decide_eq_false hb]
        exact ih
    · rw [if_neg h]
      by_cases hb : x.1 = b
      · rw [decide_eq_true hb]
        simp [h]
      · rw [decide_eq_false hb]
        exact ih
theorem findM_app (S : List Mn) (x : Mn) (b : ByteArray) : findM (S ++ [x]) b = (findM S b).or (if x.1 = b then some x else none) := by
  unfold findM
  rw [List.find?_append]
  congr 1
  rw [List.find?_cons]
  by_cases h : x.1 = b
  · rw [decide_eq_true h, if_pos h]
  · rw [decide_eq_false h, if_neg h]
    rfl
def putM (S : List Mn) (key : ByteArray) (p : Value) (t : List ByteArray) : List Mn := if (findM S key).isSome = true then updM S key p t else S ++ [(key, p, t)]
theorem findM_put (S : List Mn) (key : ByteArray) (p : Value) (t : List ByteArray) (b : ByteArray) : findM (putM S key p t) b = if b = key then some (key, p, t) else findM S b := by
  unfold putM
  split
  · next h =>
    rw [findM_upd]
    by_cases e : b = key
    · subst e
      rw [if_pos rfl]
      obtain ⟨x, hx⟩ := Option.isSome_iff_exists.1 h
      rw [hx, Option.map_some, if_pos (findM_some hx).2]
    · rw [if_neg e]
      cases hf : findM S b with
      | none => rfl
      | some x =>
        rw [Option.map_some, if_neg (fun e2 => e ((findM_some hf).2.symm.trans e2))]
  · next h =>
    rw [findM_app]
    have hn : findM S key = none := by
      cases hf : findM S key with
      | none => rfl
      | some x => rw [hf] at h; simp at h
    by_cases e : b = key
    · subst e
      rw [if_pos rfl, hn, if_pos rfl]
      rfl
    · rw [if_neg e, if_neg (fun e2 => e e2.symm)]
      cases findM S b <;> rfl
theorem putM_len (S : List Mn) (key : ByteArray) (p : Value) (t : List ByteArray) : (putM S key p t).length = if (findM S key).isSome = true then S.length else S.length + 1 := by
  unfold putM
  split
  · unfold updM
    rw [List.length_map]
  · rw [List.length_append]
    rfl
theorem upd_fst (S : List Mn) (key : ByteArray) (p : Value) (t : List ByteArray) : (updM S key p t).map (·.1) = S.map (·.1) := by
  unfold updM
  rw [List.map_map]
  refine List.map_congr_left fun x _ => ?_
  show (if x.1 = key then (key, p, t) else x).1 = x.1
  split
  · next h => exact h.symm
  · rfl
theorem putM_apart {S : List Mn} (h : S.Pairwise fun a b => a.1 ≠ b.1) (key : ByteArray) (p : Value) (t : List ByteArray) : (putM S key p t).Pairwise fun a b => a.1 ≠ b.1 := by
  unfold putM
  split
  · have h2 := List.pairwise_map.2 h
    rw [← upd_fst S key p t] at h2
    exact List.pairwise_map.1 h2
  · next hk =>
    refine List.pairwise_append.2 ⟨h, List.pairwise_singleton _ _, fun a ha b hb => ?_⟩
    rw [List.mem_singleton.1 hb]
    have hn : findM S key = none := by
      cases hf : findM S key with
      | none => rfl
      | some x => rw [hf] at hk; simp at hk
    exact findM_none hn a ha

/-- The map at block b holds these names, each with its own list. -/
structure MapsTo (W : World) (n0 b : Nat) (S : List Mn) : Prop where
  map : ∃ D, W.ownsMap Try.prog 9 RpM b S.length D ∧ RelM D S
  own : ∀ x ∈ S, OwnL W n0 x.2.1 x.2.2
  apart : S.Pairwise fun x y => ∀ k, x.2.1.ownBlock = some k → y.2.1.ownBlock ≠ some k
theorem ownsMapM_block {w w' : World} {b n : Nat} {D : DataW Value} (h : w.ownsMap Try.prog 9 RpM b n D) (he : w'.heap[b]? = w.heap[b]?) : w'.ownsMap Try.prog 9 RpM b n D := by
  obtain ⟨es, clock, hb, r⟩ := h
  exact ⟨es, clock, he.trans hb, r⟩
theorem ownsMapM_tight {w : World} {b n : Nat} {D : DataW Value} (h : w.ownsMap Try.prog 9 RpM b n D) : w.ownsMap Try.prog 9 RpM b (Maps.size D) D := by
  obtain ⟨es, clock, hb, F, _, rfl⟩ := h
  refine ⟨es, clock, hb, F, ?_, rfl⟩
  rw [size_eq, length_sorted]
  simp
theorem ownsMapM_lt {w : World} {b n : Nat} {D : DataW Value} (h : w.ownsMap Try.prog 9 RpM b n D) : b < w.heap.size := by
  obtain ⟨es, clock, hb, _⟩ := h
  exact (Array.getElem?_eq_some_iff.1 hb).1
theorem OwnL.byBlock {w w' : World} {base : Nat} {v : Value} {ss : List ByteArray} (h : OwnL w base v ss) (hb : ∀ k, v.ownBlock = some k → w'.heap[k]? = w.heap[k]?) : OwnL w' base v ss := by
  refine ⟨h.1, ?_⟩
  rcases h.2 with hn | ⟨g, cap, cur, hv, hg, hh, r⟩
  · exact Or.inl hn
  · exact Or.inr ⟨g, cap, cur, hv, hg, (hb g (by rw [hv]; rfl)).trans hh, r⟩
theorem MapsTo.lt {W : World} {n0 b : Nat} {S : List Mn} (h : MapsTo W n0 b S) : b < W.heap.size := by
  obtain ⟨D, h1, _⟩ := h.map
  exact ownsMapM_lt h1
theorem MapsTo.notMap {W : World} {n0 b : Nat} {S : List Mn} (h : MapsTo W n0 b S) {x : Mn} (hx : x ∈ S) : x.2.1.ownBlock ≠ some b := by
  obtain ⟨D, ⟨es, clock, hb, _⟩, _⟩ := h.map
  rcases (h.own x hx).2 with ⟨hv, _⟩ | ⟨g, cap, cur, hv, _, hg, _⟩
  · rw [hv]
    simp [Value.ownBlock]
  · rw [hv]
    intro e
    have e2 : g = b := by simpa [Value.ownBlock] using e
    subst e2
    rw [hb] at hg
    cases hg
theorem MapsTo.below {W W' : World} {n0 b : Nat} {S : List Mn} (h : MapsTo W n0 b S) (hb : Below W.heap.size W W') : MapsTo W' n0 b S := by
  obtain ⟨D, h1, h2⟩ := h.map
  exact ⟨⟨D, ownsMapM_block h1 (hb.block b (ownsMapM_lt h1)), h2⟩, fun x hx => (h.own x hx).below hb (Nat.le_refl _), h.apart⟩
theorem mapsTo_new (w : World) (n0 : Nat) : MapsTo (w.alloc (.map #[] 0)) n0 w.heap.size [] :=
  ⟨⟨.map [], World.ownsMap_made _ _ _ _, RelM.empty⟩, fun _ h => absurd h List.not_mem_nil, List.Pairwise.nil⟩

set_option maxRecDepth 10000 in
theorem look_M {W : World} {n0 b : Nat} {S : List Mn} (h : MapsTo W n0 b S) (key : ByteArray) (hk : key.size ≤ maxLen) :
    (Instr.lookup 49 (.map (some b)) (.string key) false).run Try.prog W = .ok (valM (findM S key)) W := by
  obtain ⟨D, h3, h4⟩ := h.map
  obtain ⟨v, ps, hrun, hv⟩ := h3.lookup lawM Try.underlying49 (zeroM W) (zd := .held (.slice none 0 0)) (zp := []) rfl (Go.WideMaps.keyOf_string_mk Try.underlying9 hk)
  rw [hrun]
  unfold RpM at hv
  injection hv with hv
  injection hv with hv _
  have h5 := h4.1 key
  unfold kM at h5
  rw [h5] at hv
  injection hv with hv
  rw [hv]
set_option maxRecDepth 100000 in
theorem look_M2 {W : World} {n0 b : Nat} {S : List Mn} (h : MapsTo W n0 b S) (key : ByteArray) (hk : key.size ≤ maxLen) :
    (Instr.lookup 49 (.map (some b)) (.string key) true).run Try.prog W = .ok (.tuple #[valM (findM S key), .bool (findM S key).isSome]) W := by
  obtain ⟨D, h3, h4⟩ := h.map
  obtain ⟨v, ps, hrun, hv⟩ := h3.look_ok (t := 49) lawM Try.underlying49 (zeroM W) (show RpM (.slice none 0 0) = some (.held (.slice none 0 0), []) from rfl) (Go.WideMaps.keyOf_string_mk Try.underlying9 hk)
  have h6 := h4.2.1 key
  have h5 := h4.1 key
  unfold kM at h5 h6
  rw [h6] at hrun
  unfold RpM at hv
  rw [h5] at hv
  injection hv with hv
  injection hv with hv _
  injection hv with hv
  rw [hv] at hrun
  exact hrun
set_option maxRecDepth 100000 in
theorem put_M {W : World} {n0 b : Nat} {S : List Mn} (h : MapsTo W n0 b S) (key : ByteArray) (hk : key.size ≤ maxLen) (hl : S.length ≤ 1000) (p : Value) (t : List ByteArray) :
    ∃ W', (Instr.mapUpdate 49 (.map (some b)) (.string key) p).run Try.prog W = .ok () W' ∧ W.grownBy W' (some b) ∧ ∃ D', W'.ownsMap Try.prog 9 RpM b (putM S key p t).length D' ∧ RelM D' (putM S key p t) := by
  obtain ⟨D, h3, h4⟩ := h.map
  obtain ⟨W', hrun, ho, hg⟩ := h3.update (t := 49) (val := p) lawM Try.underlying49 (by unfold maxLen; omega) (Go.WideMaps.keyOf_string_mk Try.underlying9 hk) (show RpM p = some (.held p, []) from rfl)
  have hrel : RelM (D.put (kM key) (.held p)) (putM S key p t) := h4.put (h3.tidy lawM) (fun b => by rw [findM_put]; split <;> rfl) (fun b => by
    rw [findM_put]
    split
    · next e => simp [e]
    · next e => simp [e]) (putM_len S key p t) (putM_apart h4.2.2.2 key p t)
  refine ⟨W', hrun, hg, _, ?_, hrel⟩
  have h5 := ownsMapM_tight ho
  have h6 := hrel.2.2.1
  unfold kM at h6
  rw [h6] at h5
  exact h5
theorem put_rel {W W' : World} {n0 b : Nat} {S : List Mn} {D : DataW Value} (h3 : W.ownsMap Try.prog 9 RpM b S.length D) (h4 : RelM D S) (key : ByteArray) (p : Value) (t : List ByteArray) {n : Nat} (ho : W'.ownsMap Try.prog 9 RpM b n (D.put (kM key) (.held p))) (hg : W.grownBy W' (some b))
    (hown : ∀ x ∈ S, x.1 ≠ key → OwnL W n0 x.2.1 x.2.2) (hap : S.Pairwise fun x y => ∀ k, x.2.1.ownBlock = some k → y.2.1.ownBlock ≠ some k) (hnm : ∀ x ∈ S, x.1 ≠ key → x.2.1.ownBlock ≠ some b) (hpn : p.ownBlock ≠ some b) (hpo : OwnL W n0 p t) (hpa : ∀ x ∈ S, x.1 ≠ key → ∀ k, p.ownBlock = some k → x.2.1.ownBlock ≠ some k) : MapsTo W' n0 b (putM S key p t) := by
  have hrel : RelM (D.put (kM key) (.held p)) (putM S key p t) := h4.put (h3.tidy lawM) (fun b => by rw [findM_put]; split <;> rfl) (fun b => by
    rw [findM_put]
    split
    · next e => simp [e]
    · next e => simp [e]) (putM_len S key p t) (putM_apart h4.2.2.2 key p t)
  have h5 := ownsMapM_tight ho
  rw [hrel.2.2.1] at h5
  have keep : ∀ (v : Value) (ss : List ByteArray), v.ownBlock ≠ some b → OwnL W n0 v ss → OwnL W' n0 v ss := fun v ss hv h => h.byBlock fun k hk => hg.block k (World.ownsRow.lt h k hk).2 (fun e => hv (by rw [hk]; exact e))
  have hmem : ∀ x ∈ putM S key p t, (x ∈ S ∧ x.1 ≠ key) ∨ x = (key, p, t) := by
    intro x hx
    unfold putM at hx
    split at hx
    · unfold updM at hx
      obtain ⟨y, hy, rfl⟩ := List.mem_map.1 hx
      split
      · exact .inr rfl
      · next h => exact .inl ⟨hy, h⟩
    · next hk =>
      rcases List.mem_append.1 hx with h | h
      · refine .inl ⟨h, ?_⟩
        have hn : findM S key = none := by
          cases hf : findM S key with
          | none => rfl
          | some x => rw [hf] at hk; simp at hk
        exact findM_none hn x h
      · exact .inr (List.mem_singleton.1 h)
  refine ⟨⟨_, h5, hrel⟩, fun x hx => ?_, ?_⟩
  · rcases hmem x hx with ⟨h, hk⟩ | rfl
    · exact keep _ _ (hnm x h hk) (hown x h hk)
    · exact keep _ _ hpn hpo
  · unfold putM
    split
    · unfold updM
      rw [List.pairwise_map]
      refine List.Pairwise.imp_of_mem (fun {x y} hx hy hxy => ?_) (List.Pairwise.and hap h4.2.2.2)
      obtain ⟨h1, h2⟩ := hxy
      split
      · next e1 =>
        split
        · next e2 => exact absurd (e1.trans e2.symm) h2
        · next e2 => exact hpa y hy e2
      · next e1 =>
        split
        · exact fun k hk hp => hpa x hx e1 k hp hk
        · exact h1
    · next hk =>
      refine List.pairwise_append.2 ⟨hap, List.pairwise_singleton _ _, fun x hx y hy => ?_⟩
      rw [List.mem_singleton.1 hy]
      have hn : findM S key = none := by
        cases hf : findM S key with
        | none => rfl
        | some x => rw [hf] at hk; simp at hk
      exact fun k hk2 hp => hpa x hx (findM_none hn x hx) k hp hk2
/-- The list of a name has grown by one: what storing it makes. -/
theorem put_grown {W w5 : World} {n0 b : Nat} {S : List Mn} (h : MapsTo W n0 b S) (key : ByteArray) (hk : key.size ≤ maxLen) (hl : S.length ≤ 1000) {v : Value} {ts : List ByteArray} (hf : findM S key = some (key, v, ts)) (v' : Value) (ts' : List ByteArray)
    (hown : OwnL w5 n0 v' ts') (hsame : ∀ k, k < W.heap.size → some k ≠ v.ownBlock → w5.heap[k]? = W.heap[k]?) (hvb : ∀ k, v'.ownBlock = some k → v.ownBlock = some k ∨ W.heap.size ≤ k) :
    ∃ w7, (Instr.mapUpdate 49 (.map (some b)) (.string key) v').run Try.prog w5 = .ok () w7 ∧ w5.grownBy w7 (some b) ∧ MapsTo w7 n0 b (putM S key v' ts') := by
  obtain ⟨D, h3, h4⟩ := h.map
  have hx := (findM_some hf).1
  have hvnb := h.notMap hx
  have hbl := h.lt
  have h35 := ownsMapM_block h3 (hsame b hbl (fun e => hvnb e.symm))
  obtain ⟨w7, hrun, ho, hg⟩ := h35.update (t := 49) (val := v') lawM Try.underlying49 (by unfold maxLen; omega) (Go.WideMaps.keyOf_string_mk Try.underlying9 hk) (show RpM v' = some (.held v', []) from rfl)
  have hap : ∀ y ∈ S, y.1 ≠ key → ∀ k, v.ownBlock = some k → y.2.1.ownBlock ≠ some k := by
    intro y hy hne k hk1 hk2
    obtain ⟨i, hi, e1⟩ := List.getElem_of_mem hx
    obtain ⟨j, hj, e2⟩ := List.getElem_of_mem hy
    have hij : i ≠ j := by
      rintro rfl
      rw [e1] at e2
      exact hne (by rw [← e2])
    rcases Nat.lt_or_gt_of_ne hij with hlt | hlt
    · have := List.pairwise_iff_getElem.1 h.apart i j hi hj hlt k
      rw [e1, e2] at this
      exact this hk1 hk2
    · have := List.pairwise_iff_getElem.1 h.apart j i hj hi hlt k
      rw [e1, e2] at this
      exact this hk2 hk1
  refine ⟨w7, hrun, hg, put_rel h35 h4 key v' ts' ho hg (fun x hx hne => (h.own x hx).byBlock fun k hk2 => hsame k (World.ownsRow.lt (h.own x hx) k hk2).2 (fun e => hap x hx hne k e.symm hk2)) h.apart (fun x hx _ => h.notMap hx) (fun e => ?_) hown (fun x hx hne k hk1 hk2 => ?_)⟩
  · rcases hvb b e with h1 | h1
    · exact hvnb h1
    · omega
  · rcases hvb k hk1 with h1 | h1
    · exact hap x hx hne k h1 hk2
    · have := (World.ownsRow.lt (h.own x hx) k hk2).2
      omega
/-- A name is put with no list. -/
theorem put_nil {W w7 : World} {n0 b : Nat} {S : List Mn} (h : MapsTo W n0 b S) {D : DataW Value} (h3 : W.ownsMap Try.prog 9 RpM b S.length D) (h4 : RelM D S) (key : ByteArray) {n : Nat} (ho : w7.ownsMap Try.prog 9 RpM b n (D.put (kM key) (.held (.slice none 0 0)))) (hg : W.grownBy w7 (some b)) : MapsTo w7 n0 b (putM S key (.slice none 0 0) []) :=
  put_rel h3 h4 key (.slice none 0 0) [] ho hg (fun x hx _ => h.own x hx) h.apart (fun x hx _ => h.notMap hx) (by simp [Value.ownBlock]) (OwnL.nil _ _) (fun x _ _ k hk => by simp [Value.ownBlock] at hk)
theorem putM_in {S : List Mn} {key : ByteArray} {p : Value} {t : List ByteArray} {x : Mn} (hx : x ∈ putM S key p t) : (x ∈ S ∧ x.1 ≠ key) ∨ x = (key, p, t) := by
  unfold putM at hx
  split at hx
  · unfold updM at hx
    obtain ⟨y, hy, rfl⟩ := List.mem_map.1 hx
    split
    · exact .inr rfl
    · next h => exact .inl ⟨hy, h⟩
  · next hk =>
    rcases List.mem_append.1 hx with h | h
    · refine .inl ⟨h, ?_⟩
      have hn : findM S key = none := by
        cases hf : findM S key with
        | none => rfl
        | some x => rw [hf] at hk; simp at hk
      exact findM_none hn x h
    · exact .inr (List.mem_singleton.1 h)
theorem MapsTo.find {W : World} {n0 b : Nat} {S : List Mn} (h : MapsTo W n0 b S) {x : Mn} (hx : x ∈ S) : findM S x.1 = some x := by
  obtain ⟨D, _, _, _, _, hd⟩ := h.map
  cases hf : findM S x.1 with
  | none => exact absurd rfl (findM_none hf x hx)
  | some y =>
    obtain ⟨hy, he⟩ := findM_some hf
    congr 1
    obtain ⟨i, hi, e1⟩ := List.getElem_of_mem hx
    obtain ⟨j, hj, e2⟩ := List.getElem_of_mem hy
    rcases Nat.lt_trichotomy i j with hlt | hlt | hlt
    · exact absurd (by rw [e1, e2]; exact he.symm) (List.pairwise_iff_getElem.1 hd i j hi hj hlt)
    · subst hlt
      exact e2.symm.trans e1
    · exact absurd (by rw [e1, e2]; exact he) (List.pairwise_iff_getElem.1 hd j i hj hi hlt)
end Go.Proofs.Ytojpccngcicbmaa
