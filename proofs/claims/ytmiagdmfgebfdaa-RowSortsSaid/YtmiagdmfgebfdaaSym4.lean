/-
  The comparison that row.Sort hands to the stable sort: of two places, the order of their rows.
  No condition.
-/
import Derived.Test.YtmiagdmfgebfdaaSym3
import Derived.Test.YtmiagdmfgebfdaaSrl
import Derived.Test.YtmiagdmfgebfdaaJoin
namespace Go.Proofs.Ytmiagdmfgebfdaa
open Go.RowKit

/-- The row at a place. -/
def rwAt (rs : List Rw) (i : Nat) : List V := ((rs[i]?).map (·.xs)).getD []
def ltR (rs : List Rw) (x y : Nat) : Bool := decide (cmpR (rwAt rs x) (rwAt rs y) < 0)
theorem rwAt_some {rs : List Rw} {i : Nat} {r : Rw} (h : rs[i]? = some r) : rwAt rs i = r.xs := by
  unfold rwAt
  rw [h]
  rfl
/-- The list lies below g, and the box that the function holds too. -/
structure Box (w0 : World) (g : Nat) (q : Addr) (L : Option Addr) (n c : Nat) (rs : List Rw) : Prop where
  len : n = rs.length
  rows : RowsAt w0 g L rs
  low : q.block < g
  cell : w0.cell? q = some (.slice L n c)
  few : ∀ r ∈ rs, r.xs.length ≤ 1000000
  g : g ≤ w0.heap.size
/-- A row of the list, later. -/
theorem Box.at {w0 W : World} {g : Nat} {q : Addr} {L : Option Addr} {n c : Nat} {rs : List Rw} (h : Box w0 g q L n c rs) (hW : Below g w0 W) (x : Nat) (hx : x < n) : ∃ (a : Addr) (A : Option Addr) (m cx : Nat) (xs : List V), L = some a ∧ rwAt rs x = xs ∧ m = xs.length ∧ m ≤ 1000000 ∧ (a.add x).block < g ∧ W.cell? (a.add x) = some (.slice A m cx) ∧ RowAt W g A xs ∧ (A = none → cx = 0) := by
  obtain ⟨r, hr⟩ : ∃ r, rs[x]? = some r := ⟨_, List.getElem?_eq_getElem (by rw [← h.len]; exact hx)⟩
  obtain ⟨a, ha, hab, hac, hra, hr0⟩ := h.rows x r hr
  exact ⟨a, r.A, r.xs.length, r.c, r.xs, ha, rwAt_some hr, rfl, h.few r (List.mem_of_getElem? hr), hab, (hW.cell hab).trans hac, hra.below hW, hr0⟩
theorem Box.box {w0 W : World} {g : Nat} {q : Addr} {L : Option Addr} {n c : Nat} {rs : List Rw} (h : Box w0 g q L n c rs) (hW : Below g w0 W) : W.cell? q = some (.slice L n c) := (hW.cell h.low).trans h.cell

set_option maxRecDepth 100000 in
set_option maxHeartbeats 2000000 in
theorem sort_cmp {w0 : World} {g : Nat} {q : Addr} {L : Option Addr} {n c : Nat} {rs : List Rw} (h : Box w0 g q L n c rs) : CmpIs g n (ltR rs) q w0 := by
  intro W hW x y hx hy
  have hgw : g ≤ W.heap.size := Nat.le_trans h.g hW.size
  obtain ⟨a, A, m, cx, xs, ha, e1, em, hm, hab, hac, hra, _⟩ := h.at hW x hx
  obtain ⟨a', B, k, cy, ys, ha', e2, ek, hk, hbb, hbc, hrb, _⟩ := h.at hW y hy
  rw [ha] at ha'
  injection ha' with ha'
  subst ha'
  have hqc := h.box hW
  have hql := h.low
  subst ha
  have HLT : Hid (decide (cmpR xs ys < 0) = ltR rs x y) := Lib.hid (by unfold ltR; rw [e1, e2])
  have HCM := Lib.hid (fun (W2 : World) (hb : Below W.heap.size W W2) => row_cmp A B xs ys m k cx cy W2 em ek (by unfold maxLen; omega) ((hra.more hgw).later hb) ((hrb.more hgw).later hb))
  clear h e1 e2 em ek hra hrb
  obtain ⟨XE, xf, hXN, hX1, hX0, hX2⟩ := ext_classS W.heap.size W (Nat.le_refl _)
  have HX1 := Lib.hid hX1
  have HX2 := Lib.hid hX2
  have hin := hX0 W.drew (Below.drew (Below.refl _ _))
  have b0 := fun e => (((HX1.out e).cell (p := q) (Nat.lt_of_lt_of_le hql hgw)).trans hqc : (xf e).cell? q = _)
  have b1 := fun e => (((HX1.out e).cell (p := a.add x) (Nat.lt_of_lt_of_le hab hgw)).trans hac : (xf e).cell? (a.add x) = _)
  have b2 := fun e => (((HX1.out e).cell (p := a.add y) (Nat.lt_of_lt_of_le hbb hgw)).trans hbc : (xf e).cell? (a.add y) = _)
  clear hX1 hX0 hX2 hac hbc hqc hW
  go_enter Try.func31, Try.ntmps31
  go_wp2_with fail
  refine wp_region_quiet (C := fun W => ∃ e, W = xf e) (by kernel_rfl) (by kernel_rfl) hin ?_
  clear hin
  dsimp only
  repeat (go_big_quiet_step ((go_at_call 32; refine (HCM.out _ (HX1.out _)).mono ?_; rintro e w5 ⟨rfl, hb5⟩; exact ⟨rfl, HX2.out _ _ hb5⟩)))
  refine wpQuiet_nil ?_
  intro w5 hW5
  obtain ⟨ee, hW5⟩ := hW5
  have hb5 : Below W.heap.size W w5 := by rw [hW5]; exact HX1.out ee
  clear hW5 b0 b1 b2
  go_wp2
  go_ret
  exact ⟨_, rfl, HLT.out, hb5⟩
end Go.Proofs.Ytmiagdmfgebfdaa
