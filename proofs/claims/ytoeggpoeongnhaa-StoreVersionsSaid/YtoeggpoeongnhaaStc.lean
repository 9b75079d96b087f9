/-
  placeOf, own of package store, Find of package schema: what tells an object apart; an object with cells of its own; whether a kind is there.
  No condition but that a row has no more than a million cells.
-/
import Derived.Test.YtoeggpoeongnhaaStb
namespace Go.Proofs.Ytoeggpoeongnhaa
open Go.RowKit Go.Maps

set_option maxRecDepth 100000 in
set_option maxHeartbeats 1000000 in
theorem o_place (e : OE) (w : World) : Calls Try.prog 67 #[oV e] w fun r w' => r = .returned (kV e.key) ∧ Below w.heap.size w w' := by
  obtain ⟨⟨k1, k2, k3⟩, v, u⟩ := e
  unfold oV kV
  go_enter Try.func67, Try.ntmps67
  go_wp2
  exact bodyPost_ret (v := .agg #[.string k1, .string k2, .string k3]) (by simp [results, Try.results67, go_sem]) rfl ⟨rfl, two_new w _ _⟩
theorem alloc2_new (w : World) (o1 o2 : Obj) : ((w.alloc o1).alloc o2).heap[w.heap.size + 1]? = some o2 := by
  have h := World.alloc_heap_new (w.alloc o1) o2
  rw [World.size_alloc] at h
  exact h
/-- Five cells that are set. -/
def set5 (W : World) (p : Nat) (a0 a1 a2 a3 a4 : Value) : World := ((((W.setCell ⟨p, 0, none⟩ a0).setCell ⟨p, 1, none⟩ a1).setCell ⟨p, 2, none⟩ a2).setCell ⟨p, 3, none⟩ a3).setCell ⟨p, 4, none⟩ a4
theorem set5_heap {W : World} {p : Nat} {T : TypeId} {z0 z1 z2 z3 z4 : Value} (h : W.heap[p]? = some (.cells #[z0, z1, z2, z3, z4] T (0, 0))) (a0 a1 a2 a3 a4 : Value) : (set5 W p a0 a1 a2 a3 a4).heap[p]? = some (.cells #[a0, a1, a2, a3, a4] T (0, 0)) := by
  have h0 := heap_setCell_same W p 0 _ _ a0 h
  have h1 := heap_setCell_same _ p 1 _ _ a1 h0
  have h2 := heap_setCell_same _ p 2 _ _ a2 h1
  have h3 := heap_setCell_same _ p 3 _ _ a3 h2
  exact heap_setCell_same _ p 4 _ _ a4 h3
theorem set5_below {w W : World} {p : Nat} (hb : Below w.heap.size w W) (hp : w.heap.size ≤ p) (a0 a1 a2 a3 a4 : Value) : Below w.heap.size w (set5 W p a0 a1 a2 a3 a4) :=
  ((((hb.setCell (p := ⟨p, 0, none⟩) hp a0).setCell (p := ⟨p, 1, none⟩) hp a1).setCell (p := ⟨p, 2, none⟩) hp a2).setCell (p := ⟨p, 3, none⟩) hp a3).setCell (p := ⟨p, 4, none⟩) hp a4
theorem set5_far {W : World} {p k : Nat} (hk : k ≠ p) (a0 a1 a2 a3 a4 : Value) : (set5 W p a0 a1 a2 a3 a4).heap[k]? = W.heap[k]? := by
  unfold set5
  rw [Below.heap_setCell _ ⟨p, 4, none⟩ _ k hk, Below.heap_setCell _ ⟨p, 3, none⟩ _ k hk, Below.heap_setCell _ ⟨p, 2, none⟩ _ k hk, Below.heap_setCell _ ⟨p, 1, none⟩ _ k hk, Below.heap_setCell _ ⟨p, 0, none⟩ _ k hk]
theorem five_cells {W : World} {p : Nat} {T : TypeId} {z0 z1 z2 z3 z4 : Value} (h : W.heap[p]? = some (.cells #[z0, z1, z2, z3, z4] T (0, 0))) :
    W.cell? ⟨p, 0, none⟩ = some z0 ∧ W.cell? ⟨p, 1, none⟩ = some z1 ∧ W.cell? ⟨p, 2, none⟩ = some z2 ∧ W.cell? ⟨p, 3, none⟩ = some z3 ∧ W.cell? ⟨p, 4, none⟩ = some z4 :=
  ⟨cell_of_row W p 0 _ _ _ h, cell_of_row W p 1 _ _ _ h, cell_of_row W p 2 _ _ _ h, cell_of_row W p 3 _ _ _ h, cell_of_row W p 4 _ _ _ h⟩
theorem five_thaw {W : World} {p : Nat} {T : TypeId} {z0 z1 z2 z3 z4 : Value} (h : W.heap[p]? = some (.cells #[z0, z1, z2, z3, z4] T (0, 0))) :
    W.frozen? ⟨p, 0, none⟩ = false ∧ W.frozen? ⟨p, 1, none⟩ = false ∧ W.frozen? ⟨p, 2, none⟩ = false ∧ W.frozen? ⟨p, 3, none⟩ = false ∧ W.frozen? ⟨p, 4, none⟩ = false :=
  ⟨frozen_of_row W p 0 _ _ h, frozen_of_row W p 1 _ _ h, frozen_of_row W p 2 _ _ h, frozen_of_row W p 3 _ _ h, frozen_of_row W p 4 _ _ h⟩
theorem IsRow.ofOwn {w w' : World} {v : Value} {xs : List V} (h : Own w' w.heap.size v xs) (hl : xs.length ≤ 1000000) : IsRow w' (fun j => w.heap.size ≤ j) v xs := by
  obtain ⟨A, c, rfl, hA, hr⟩ := h.row
  refine ⟨hl, A, c, rfl, hA, fun i x hi => ?_⟩
  obtain ⟨a, ha, hb, hv⟩ := hr i x hi
  refine ⟨a, ha, ?_, hv⟩
  subst ha
  rcases h.2 with ⟨hn, _⟩ | ⟨g, cap, cur, hv', hg, _⟩
  · cases hn
  · injection hv' with h1
    injection h1 with h1
    subst h1
    rw [show ((⟨g, 0, none⟩ : Addr).add (i * 4)).block = g from by unfold Addr.add; split <;> rfl]
    exact hg

set_option maxRecDepth 100000 in
set_option maxHeartbeats 2000000 in
theorem o_own (Q : Nat → Prop) (e : OE) (xs : List V) (w : World) (hr : IsRow w Q e.u xs) : Calls Try.prog 60 #[oV e] w fun r w' => ∃ u', r = .returned (oV ⟨e.key, e.v, u'⟩) ∧ IsRow w' (fun j => w.heap.size ≤ j) u' xs ∧ Below w.heap.size w w' := by
  obtain ⟨⟨k1, k2, k3⟩, v, u⟩ := e
  obtain ⟨hl, A, c, rfl, hA, hrow⟩ := hr
  unfold oV
  have hba := two_new w (.cells #[.string k1, .string k2, .string k3, .int .i64 v, .slice A xs.length c] 30) (.cells #[.string ⟨#[]⟩, .string ⟨#[]⟩, .string ⟨#[]⟩, .int .i64 0, .slice none 0 0] 30)
  have HC := Lib.hid (clone_V A xs xs.length c _ rfl hA hl (hrow.keep (Below.keepQ hba Q)).at)
  have HBA := Lib.hid hba
  clear hrow hba
  go_enter Try.func60, Try.ntmps60
  go_wp2_with fail
  refine HC.out.mono ?_
  rintro r w1 ⟨u', rfl, hown, hb1⟩
  have hsz : (((w.alloc (.cells #[.string k1, .string k2, .string k3, .int .i64 v, .slice A xs.length c] 30)).alloc (.cells #[.string ⟨#[]⟩, .string ⟨#[]⟩, .string ⟨#[]⟩, .int .i64 0, .slice none 0 0] 30))).heap.size = w.heap.size + 2 := by simp
  have x1 := (hb1.block w.heap.size (by rw [hsz]; omega)).trans ((one_new _ _).block w.heap.size (by simp) |>.trans (World.alloc_heap_new w _))
  have x2 := (hb1.block (w.heap.size + 1) (by rw [hsz]; omega)).trans (alloc2_new w _ _)
  have HB1 := Lib.hid (HBA.out.trans (hb1.mono (by rw [hsz]; omega)))
  have hrow1 := IsRow.ofOwn hown hl
  rw [hsz] at hrow1
  obtain ⟨A', c', hv', _, _⟩ := hown.row
  subst hv'
  have HR1 := Lib.hid hrow1
  obtain ⟨a0, a1, a2, a3, a4⟩ := five_cells x1
  obtain ⟨f0, f1, f2, f3, f4⟩ := five_thaw x1
  obtain ⟨b0, b1, b2, b3, b4⟩ := five_cells x2
  obtain ⟨g0, g1, g2, g3, g4⟩ := five_thaw x2
  have y1 := heap_setCell_same w1 w.heap.size 4 _ _ (.slice A' xs.length c') x1
  have y2 := (Below.heap_setCell w1 ⟨w.heap.size, 4, none⟩ (.slice A' xs.length c') (w.heap.size + 1) (by show w.heap.size + 1 ≠ w.heap.size; omega)).trans x2
  have z2 := set5_heap y2 (.string k1) (.string k2) (.string k3) (.int .i64 v) (.slice A' xs.length c')
  obtain ⟨r0, r1, r2, r3, r4⟩ := five_cells z2
  have hfb := set5_below (HB1.out.setCell (p := ⟨w.heap.size, 4, none⟩) (Nat.le_refl _) (.slice A' xs.length c')) (Nat.le_succ w.heap.size) (.string k1) (.string k2) (.string k3) (.int .i64 v) (.slice A' xs.length c')
  have hrf : IsRow (set5 (w1.setCell ⟨w.heap.size, 4, none⟩ (.slice A' xs.length c')) (w.heap.size + 1) (.string k1) (.string k2) (.string k3) (.int .i64 v) (.slice A' xs.length c')) (fun j => w.heap.size ≤ j) (.slice A' xs.length c') xs := by
    refine (HR1.out.keep fun k hk _ => ?_).imp fun k _ hk => by omega
    rw [set5_far (by omega), Below.heap_setCell w1 ⟨w.heap.size, 4, none⟩ _ k (by show k ≠ w.heap.size; omega)]
  unfold set5 at r0 r1 r2 r3 r4 hfb hrf
  have HFB := Lib.hid hfb
  have HRF := Lib.hid hrf
  clear hown hb1 hrow1 x1 x2 y1 y2 z2 hfb hrf
  go_wp2
  exact bodyPost_ret (v := .agg #[.string k1, .string k2, .string k3, .int .i64 v, .slice A' xs.length c']) (by simp [results, Try.results60, r0, r1, r2, r3, r4, go_sem]) rfl ⟨_, rfl, HRF.out, HFB.out⟩
end Go.Proofs.Ytoeggpoeongnhaa
