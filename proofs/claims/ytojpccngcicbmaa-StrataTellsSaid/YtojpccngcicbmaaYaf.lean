/-
  The document's Deep.
  No condition but that rules are few, and names no longer than they can be.
-/
import Derived.Test.YtojpccngcicbmaaYae
namespace Go.Proofs.Ytojpccngcicbmaa
open Go.RowKit Go.Maps

/-- The depths that are told behind k names of an order. -/
def depAt (l : List Rl) (ord : List ByteArray) (k q : Nat) : Nat := match l[q]? with
  | some r => if hasX r.nm (ord.take k) = true then deepS l r.nm else 0
  | none => 0
theorem depAt_zero (l : List Rl) (ord : List ByteArray) : depAt l ord 0 = fun _ => 0 := by
  funext q
  unfold depAt
  split
  · rw [if_neg]
    rw [List.take_zero, hasX_iff]
    exact List.not_mem_nil
  · rfl
/-- The greatest depth of those of some that are rules. -/
def topP (l : List Rl) (ys : List ByteArray) : Nat := ys.foldl (fun m y => if hasX y (nms l) = true then max m (deepS l y) else m) 0
theorem topP_next (l : List Rl) (ys : List ByteArray) (k : Nat) (y : ByteArray) (h : ys[k]? = some y) : topP l (ys.take (k + 1)) = if hasX y (nms l) = true then max (topP l (ys.take k)) (deepS l y) else topP l (ys.take k) := by
  unfold topP
  rw [List.take_add_one, h, List.foldl_append]
  rfl
theorem topP_bel (l : List Rl) (ys : List ByteArray) : topP l ys = (ys.filter fun y => hasX y (nms l)).foldl (fun m y => max m (deepS l y)) 0 := by
  unfold topP
  rw [List.foldl_filter]
theorem topP_le (l : List Rl) (ys : List ByteArray) : topP l ys ≤ l.length := by
  rw [topP_bel]
  exact foldl_max_le _ _ _ _ (Nat.zero_le _) fun y _ => deepS_le l y
theorem depAt_le (l : List Rl) (ord : List ByteArray) (k q : Nat) : depAt l ord k q ≤ l.length := by
  unfold depAt
  split
  · split
    · exact deepS_le l _
    · exact Nat.zero_le _
  · exact Nat.zero_le _
theorem place_of {l : List Rl} (hd : (nms l).Nodup) {s : ByteArray} (hs : hasX s (nms l) = true) : ∃ (p : Nat) (r : Rl), l[p]? = some r ∧ r.nm = s ∧ posS (nms l) s = (p : Int) := by
  obtain ⟨r, hr, rfl⟩ := List.mem_map.1 (hasX_iff.1 hs)
  obtain ⟨p, hp, e⟩ := List.getElem_of_mem hr
  have h : l[p]? = some r := by rw [List.getElem?_eq_getElem hp, e]
  exact ⟨p, r, h, rfl, pos_nodup hd p _ (nms_at h)⟩
theorem depAt_next {l : List Rl} (hd : (nms l).Nodup) {ord : List ByteArray} {k p : Nat} {r : Rl} (hr : l[p]? = some r) (hk : ord[k]? = some r.nm) : depAt l ord (k + 1) = fun q => if q = p then deepS l r.nm else depAt l ord k q := by
  funext q
  unfold depAt
  by_cases e : q = p
  · subst e
    rw [if_pos rfl, hr]
    simp only
    rw [if_pos]
    rw [hasX_iff, List.take_add_one, hk]
    simp
  · rw [if_neg e]
    cases hq : l[q]? with
    | none => rfl
    | some x =>
      simp only
      have hne : x.nm ≠ r.nm := fun h => by
        have h1 := pos_nodup hd q _ (nms_at hq)
        have h2 := pos_nodup hd p _ (nms_at hr)
        rw [h] at h1
        omega
      have : hasX x.nm (ord.take (k + 1)) = hasX x.nm (ord.take k) := by
        rw [hasX_succ x.nm ord k r.nm hk]
        have : (r.nm.toList == x.nm.toList) = false := by
          cases h : (r.nm.toList == x.nm.toList) with
          | false => rfl
          | true => exact absurd (toList_eqT.1 h).symm hne
        rw [this, Bool.or_false]
      rw [this]
theorem str_apart {W : World} {g n : Nat} {F : Nat → Nat} (h : IntsB W g n F) {A : Option Addr} {ss : List ByteArray} (ht : TxsAt W A ss) (i : Nat) (v : Value) : TxsAt (W.setCell ⟨g, i, none⟩ v) A ss := by
  intro j s hj
  obtain ⟨a, ha, hc⟩ := ht j s hj
  refine ⟨a, ha, ?_⟩
  have hne : (a.add j).block ≠ g := fun e => by
    generalize a.add j = x at *
    obtain ⟨b, o, sp⟩ := x
    simp only at e
    subst e
    unfold IntsB at h
    simp only [World.cell?, h] at hc
    split at hc
    · cases hc
    · rw [Array.getElem?_map] at hc
      obtain ⟨z, _, hz⟩ := Option.map_eq_some_iff.1 hc
      cases hz
  rw [World.cell?_setCell_far W ⟨g, i, none⟩ (a.add j) v (fun e => hne e.symm)]
  exact hc
end Go.Proofs.Ytojpccngcicbmaa
