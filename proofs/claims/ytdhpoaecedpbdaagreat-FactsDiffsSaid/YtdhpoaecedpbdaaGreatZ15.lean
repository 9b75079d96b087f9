/-
  All tenants of the program's tree, by rising names; those under one.
  Condition: no more than a thousand tenants; names are no longer than texts can be.
-/
import Derived.Shelf.GgSortFunc.InsertionK
import Derived.Sort.LotA
import Derived.Shelf.SlSortCmp.Insertion
import Derived.Test.YtdhpoaecedpbdaaGreatZ14
namespace Go.Proofs.YtdhpoaecedpbdaaGreat
open Go.RowKit Go.Maps Go.Shelf Go.Sort

def encT (x : Tn) : List Value := [.string x.1, .string x.2]
def cfT (x y : Tn) : Int := cmpS x.1 y.1
theorem swoT : SWO (ltOf cfT) where
  irrefl x := by unfold ltOf cfT; rw [cmpS_ordered.self]; rfl
  trans x y z h1 h2 := by
    unfold ltOf cfT at *
    simp only [decide_eq_true_eq] at *
    exact cmpS_tr h1 h2
  ntrans x y z h1 h2 := by
    unfold ltOf cfT at *
    simp only [decide_eq_false_iff_not] at *
    have a1 := cmpS_ordered.anti x.1 y.1
    have a2 := cmpS_ordered.anti y.1 z.1
    have a3 := cmpS_ordered.anti x.1 z.1
    have := cmpS_ordered.le z.1 y.1 x.1 (by omega) (by omega)
    omega
set_option maxHeartbeats 1000000 in
theorem t_cmp (x y : Tn) (W : World) : Calls Tryz.prog 84 #[.agg #[.string x.1, .string x.2], .agg #[.string y.1, .string y.2]] W fun e w' => e = .returned (.int .i64 (cmpS x.1 y.1)) ∧ ∃ q os', w' = grow (W.drewN q) os' := by
  obtain ⟨x1, x2⟩ := x
  obtain ⟨y1, y2⟩ := y
  have hc := fun W' => cmp_string x1 y1 W'
  generalize cmpS x1 y1 = r at hc
  go_enter Tryz.func84, Tryz.ntmps84
  go_wp2_with (go_at_call 85; refine (hc _).mono ?_; rintro e w' ⟨rfl, rfl⟩)
  go_ret
  exact ⟨rfl, 0, _, by rw [alloc_eq_grow, alloc_eq_grow, grow_grow]; rfl⟩
theorem flatT_at : ∀ (zs : List Tn) (t : Nat), (flatT zs)[t]? = (zs[t / 2]?).bind fun x => (encT x)[t % 2]?
  | [], t => by simp [flatT]
  | x :: zs, 0 => rfl
  | x :: zs, 1 => rfl
  | x :: zs, t + 2 => by
    have ih := flatT_at zs t
    rw [show (t + 2) / 2 = t / 2 + 1 from by omega, show (t + 2) % 2 = t % 2 from by omega]
    exact ih
theorem flatK_flatT (ts : List Tn) : (flatK encT 2 ts.toArray).toList = flatT ts := by
  apply List.ext_getElem?
  intro t
  rw [flatT_at]
  by_cases ht : t < ts.length * 2
  · have h1 := get_flatK encT 2 ts.toArray t (by simpa using ht)
    have hs : t < (flatK encT 2 ts.toArray).size := by simpa using ht
    rw [getElem!_pos _ t hs] at h1
    rw [Array.getElem?_toList, Array.getElem?_eq_getElem hs, h1]
    have hi : t / 2 < ts.length := by omega
    rw [List.getElem?_eq_getElem hi]
    simp only [Option.bind_some]
    rw [getElem!_pos ts.toArray (t / 2) (by simpa using hi)]
    simp only [List.getElem_toArray]
    generalize ts[t / 2] = x
    rcases (show t % 2 = 0 ∨ t % 2 = 1 by omega) with h | h <;> rw [h] <;> rfl
  · rw [Array.getElem?_toList, Array.getElem?_eq_none (by simpa using ht), List.getElem?_eq_none (show ts.length ≤ t / 2 by omega)]
    rfl
theorem heap_sortedT {w : World} {g n : Nat} {os : Array Obj} {cur : Array Value} {e : TypeId} {fr : Nat × Nat} (d : Array Tn) (hb : w.heap[g]? = some (.cells cur e fr)) :
    (sortWorldK encT 2 w g 0 n d os).heap[g]? = some (.cells (putCells id 0 (flatK encT 2 d) cur) e fr) := by
  have hg : g < w.heap.size := (Array.getElem?_eq_some_iff.1 hb).1
  unfold sortWorldK putRowK
  rw [heap_grow_old _ _ (by simpa [putRow, mapBlock, Sort.ahead] using hg)]
  simp [putRow, mapBlock, Sort.ahead, Array.getElem?_modify, hb, onCells]
theorem grownBy_sortedT {w : World} {g n : Nat} {os : Array Obj} (d : Array Tn) : w.grownBy (sortWorldK encT 2 w g 0 n d os) (some g) := by
  refine ⟨rfl, rfl, rfl, by simp [sortWorldK, putRowK, putRow, mapBlock, Sort.ahead, grow], fun k hk hne => ?_⟩
  unfold sortWorldK putRowK
  rw [heap_grow_old _ _ (by simpa [putRow, mapBlock, Sort.ahead] using hk)]
  have : g ≠ k := fun e => hne (by rw [e])
  simp [putRow, mapBlock, Sort.ahead, Array.getElem?_modify, this]
theorem take_putCellsT (cur : Array Value) (ts : List Tn) (h : ts.length * 2 ≤ cur.size) : (putCells id 0 (flatK encT 2 ts.toArray) cur).toList.take (ts.length * 2) = flatT ts := by
  rw [← flatK_flatT]
  apply List.ext_getElem?
  intro j
  have hF : (flatK encT 2 ts.toArray).size = ts.length * 2 := by simp
  generalize flatK encT 2 ts.toArray = F at *
  by_cases hj : j < ts.length * 2
  · rw [List.getElem?_take_of_lt hj, Array.getElem?_toList, Array.getElem?_toList]
    simp [putCells, hj, hF, show j < cur.size by omega]
  · rw [List.getElem?_take_eq_none (by omega), List.getElem?_eq_none (by simp [hF]; omega)]
theorem holdsT {w : World} {base g cap : Nat} {zs : List Tn} (h : OwnN w base (.slice (some ⟨g, 0, none⟩) zs.length cap) zs) : HoldsK encT 2 w g 0 zs.toArray ∧ g < w.heap.size ∧ base ≤ g := by
  rcases h.2 with ⟨h, _⟩ | ⟨g', cap', cur, hv, hg, hb, h1, h2, h3, h4⟩
  · cases h
  · injection hv with e1 _ _
    injection e1 with e1
    injection e1 with e1
    subst e1
    refine ⟨fun j hj => ?_, (Array.getElem?_eq_some_iff.1 hb).1, hg⟩
    have hj2 : j < zs.length * 2 := by simpa using hj
    refine ⟨?_, by simp [World.frozen?, hb]⟩
    have e2 : (cur.toList.take (zs.length * 2))[j]? = (flatK encT 2 zs.toArray).toList[j]? := by rw [h4, flatK_flatT]
    rw [List.getElem?_take_of_lt hj2, Array.getElem?_toList, Array.getElem?_toList] at e2
    simp only [World.cell?, hb, Nat.zero_add]
    simp only [Option.isSome_none, Bool.false_eq_true, if_false]
    rw [e2, Array.getElem?_eq_getElem hj, getElem!_pos _ j hj]
    rfl
theorem ownT_sorted {w : World} {base g cap n : Nat} {os : Array Obj} {zs ts : List Tn} (h : OwnN w base (.slice (some ⟨g, 0, none⟩) zs.length cap) zs) (hl : ts.length = zs.length) :
    OwnN (sortWorldK encT 2 w g 0 n ts.toArray os) base (.slice (some ⟨g, 0, none⟩) zs.length cap) ts := by
  rcases h.2 with ⟨h, _⟩ | ⟨g', cap', cur, hv, hg, hb, h1, h2, h3, h4⟩
  · cases h
  · injection hv with e1 _ e2
    injection e1 with e1
    injection e1 with e1
    subst e1
    subst e2
    unfold OwnN
    rw [hl]
    refine ⟨by rw [flatT_len, hl], .inr ⟨g, cap, _, rfl, hg, heap_sortedT _ hb, h1, h2, by simp [putCells, h3], ?_⟩⟩
    rw [← hl]
    exact take_putCellsT cur ts (by omega)
theorem sorted_is {L zs : List Tn} (hS : SrtT L) (ha : AnyT L zs) {d' : Array Tn} (hp : PermIn 0 zs.toArray.size zs.toArray d') (hs : SortedIn (ltOf cfT) 0 zs.toArray.size d') : d' = L.toArray := by
  obtain ⟨p1, _, p3⟩ := hp
  have hx1 : zs.toArray.extract 0 zs.toArray.size = zs.toArray := Array.extract_size
  have hx2 : d'.extract 0 zs.toArray.size = d' := by rw [← p1]; exact Array.extract_size
  rw [hx1, hx2] at p3
  have hperm : d'.toList.Perm zs := p3
  have hap : d'.toList.Pairwise fun a b => a.1 ≠ b.1 := (hperm.pairwise_iff (fun {x y} h => Ne.symm h)).2 ha.2.1
  have hsr : SrtT d'.toList := by
    unfold SrtT
    rw [List.pairwise_iff_getElem] at hap ⊢
    intro i j hi hj hij
    have h1 := hap i j hi hj hij
    have hi' : i < d'.size := by simpa using hi
    have hj' : j < d'.size := by simpa using hj
    have h2 := hs i j (Nat.zero_le _) hij (by rw [← p1]; exact hj')
    rw [getElem!_pos d' i hi', getElem!_pos d' j hj'] at h2
    unfold ltOf cfT at h2
    simp only [decide_eq_false_iff_not] at h2
    simp only [Array.getElem_toList] at h1 ⊢
    have h3 := cmpS_ordered.anti d'[i].1 d'[j].1
    have h4 : cmpS d'[i].1 d'[j].1 ≠ 0 := fun e => h1 (cmpS_eqT _ _ e)
    omega
  have := SrtT.ext hsr hS fun x => by rw [hperm.mem_iff]; exact ha.2.2 x
  rw [← this]
theorem AnyT.len {L zs : List Tn} (hS : SrtT L) (ha : AnyT L zs) : zs.length = L.length := by
  refine Nat.le_antisymm ha.1 ?_
  have h1 : (L.map (·.1)).Nodup := List.pairwise_map.2 hS.apart
  have := nodup_len (L.map (·.1)) (zs.map (·.1)) h1 fun y hy => by
    obtain ⟨x, hx, rfl⟩ := List.mem_map.1 hy
    exact List.mem_map.2 ⟨x, (ha.2.2 x).2 hx, rfl⟩
  simpa using this
end Go.Proofs.YtdhpoaecedpbdaaGreat
