/-
  The calls that turn a tree and put it in balance: raiseLow, raiseHigh, balanced, and the search for the first and the last node. What they answer is the plain tree.
  No condition but that a tree has no more rows than fits.
-/
import Derived.Test.YtpliofhphijdkaaTmem
import Derived.Deep.QuietTactic
import Derived.BigQuiet
namespace Go.Proofs.Ytpliofhphijdkaa
open Go.RowKit

theorem box_drew (w : World) (o : Obj) : Below w.heap.size w (w.alloc o).drew := (one_new w o).trans (below_drew _ _)
theorem cl_of {w w' : World} (hb : Below w.heap.size w w') : ∀ (b i : Nat), b < w.heap.size → w'.cell? ⟨b, i, none⟩ = w.cell? ⟨b, i, none⟩ := fun b i h => hb.cell (p := ⟨b, i, none⟩) h

set_option maxRecDepth 100000 in
set_option maxHeartbeats 2000000 in
theorem t_raiseLow (v : Value) (r : List V) (m : Int) (pl ph : Option Addr) (lr : List V) (lm : Int) (ll lh h : Tr) (w : World) (Q : Nat → Prop) (hQ : ∀ k, w.heap.size ≤ k → Q k) (hx : IsRow w Q v r) (hl : TreeAt w Q pl (.node lr lm ll lh)) (hh : TreeAt w Q ph h) (hc : (Tr.node lr lm ll lh).cnt + h.cnt ≤ 900000) :
    Calls Try.prog 85 #[.agg #[v, .int .i64 m], .pointer pl, .pointer ph] w (Trees w Q (Tr.raiseLow r m (.node lr lm ll lh) h)) := by
  obtain ⟨b, pll, plh, rfl, ⟨hb0, hb1, ⟨lv, hlv, c0⟩, c1, c2, c3, c4⟩, hll, hlh⟩ := hl
  have hc' : ll.cnt + 1 + lh.cnt + h.cnt ≤ 900000 := hc
  have hcn : (Tr.node r m lh h).cnt = lh.cnt + 1 + h.cnt := rfl
  have hcn' : (Tr.node r m lh h).cnt ≤ 1000000 := by rw [hcn]; omega
  have HX := Lib.hid hx
  have HQ := Lib.hid hQ
  have HV := Lib.hid hlv
  have HL := Lib.hid hll
  have HR := Lib.hid hlh
  have HH := Lib.hid hh
  obtain ⟨_, A, c, rfl, _, _⟩ := hx
  obtain ⟨_, A', c', rfl, _, _⟩ := hlv
  clear hh hQ hll hlh hc hcn
  go_enter Try.func85, Try.ntmps85
  go_wp2
  go_region_held3 (fun w' => w'.cell? { block := w.heap.size, off := 0 } = some (.slice A r.length c) ∧ w'.cell? { block := w.heap.size, off := 1 } = some (.int .i64 m) ∧
      w'.cell? { block := b, off := 0 } = some (.slice A' lr.length c') ∧ w'.cell? { block := b, off := 1 } = some (.int .i64 lm) ∧ w'.cell? { block := b, off := 3 } = some (.pointer pll) ∧ w'.cell? { block := b, off := 4 } = some (.pointer plh)) (go_keep)
    (first
      | (go_at_call_of 77 (Value.pointer ph); refine (t_fork _ r m plh ph lh h _ Q (by intro k hk; exact HQ.out k (by simp at hk; omega)) (by exact HX.out.below (box_drew _ _)) (by exact HR.out.below (box_drew _ _)) (by exact HH.out.below (box_drew _ _)) (by omega) (by omega)).mono ?_; rintro e w1 ⟨q, rfl, hT1, hbw⟩; have hbb := (box_drew w _).trans (hbw.mono (by simp)); have hcl := cl_of hbw; have hcb := fun i => cl_of hbb b i hb1)
      | (go_at_call_of 77 (Value.pointer pll); refine (t_fork _ lr lm pll q ll (.node r m lh h) _ Q (by intro k hk; exact HQ.out k (by have := hbb.size; omega)) (by exact HV.out.below hbb) (by exact HL.out.below hbb) (by exact hT1) (by omega) (by omega)).mono ?_; rintro e w2 ⟨q2, rfl, hT2, hbw2⟩; have hbb2 := hbb.trans (hbw2.mono hbb.size); have hcl2 := cl_of hbw2; have hcb2 := fun i => cl_of hbb2 b i hb1; have hcz := fun i => cl_of hbw2 w.heap.size i (by have := hbw.size; simp at this; omega)))
  go_wp2
  go_ret
  exact ⟨_, rfl, hT2, hbb2⟩

set_option maxRecDepth 100000 in
set_option maxHeartbeats 2000000 in
theorem t_raiseHigh (v : Value) (r : List V) (m : Int) (pl ph : Option Addr) (lr : List V) (lm : Int) (ll lh h : Tr) (w : World) (Q : Nat → Prop) (hQ : ∀ k, w.heap.size ≤ k → Q k) (hx : IsRow w Q v r) (hl : TreeAt w Q pl (.node lr lm ll lh)) (hh : TreeAt w Q ph h) (hc : (Tr.node lr lm ll lh).cnt + h.cnt ≤ 900000) :
    Calls Try.prog 84 #[.agg #[v, .int .i64 m], .pointer ph, .pointer pl] w (Trees w Q (Tr.raiseHigh r m h (.node lr lm ll lh))) := by
  obtain ⟨b, pll, plh, rfl, ⟨hb0, hb1, ⟨lv, hlv, c0⟩, c1, c2, c3, c4⟩, hll, hlh⟩ := hl
  have hc' : ll.cnt + 1 + lh.cnt + h.cnt ≤ 900000 := hc
  have hcn : (Tr.node r m h ll).cnt = h.cnt + 1 + ll.cnt := rfl
  have hcn' : (Tr.node r m h ll).cnt ≤ 1000000 := by rw [hcn]; omega
  have HX := Lib.hid hx
  have HQ := Lib.hid hQ
  have HV := Lib.hid hlv
  have HL := Lib.hid hll
  have HR := Lib.hid hlh
  have HH := Lib.hid hh
  obtain ⟨_, A, c, rfl, _, _⟩ := hx
  obtain ⟨_, A', c', rfl, _, _⟩ := hlv
  clear hh hQ hll hlh hc hcn
  go_enter Try.func84, Try.ntmps84
  go_wp2
  go_region_held3 (fun w' => w'.cell? { block := w.heap.size, off := 0 } = some (.slice A r.length c) ∧ w'.cell? { block := w.heap.size, off := 1 } = some (.int .i64 m) ∧
      w'.cell? { block := b, off := 0 } = some (.slice A' lr.length c') ∧ w'.cell? { block := b, off := 1 } = some (.int .i64 lm) ∧ w'.cell? { block := b, off := 3 } = some (.pointer pll) ∧ w'.cell? { block := b, off := 4 } = some (.pointer plh)) (go_keep)
    (first
      | (go_at_call_of 77 (Value.pointer ph); refine (t_fork _ r m ph pll h ll _ Q (by intro k hk; exact HQ.out k (by simp at hk; omega)) (by exact HX.out.below (box_drew _ _)) (by exact HH.out.below (box_drew _ _)) (by exact HL.out.below (box_drew _ _)) (by omega) (by omega)).mono ?_; rintro e w1 ⟨q, rfl, hT1, hbw⟩; have hbb := (box_drew w _).trans (hbw.mono (by simp)); have hcl := cl_of hbw; have hcb := fun i => cl_of hbb b i hb1)
      | (go_at_call_of 77 (Value.pointer plh); refine (t_fork _ lr lm q plh (.node r m h ll) lh _ Q (by intro k hk; exact HQ.out k (by have := hbb.size; omega)) (by exact HV.out.below hbb) (by exact hT1) (by exact HR.out.below hbb) (by omega) (by omega)).mono ?_; rintro e w2 ⟨q2, rfl, hT2, hbw2⟩; have hbb2 := hbb.trans (hbw2.mono hbb.size); have hcl2 := cl_of hbw2; have hcb2 := fun i => cl_of hbb2 b i hb1; have hcz := fun i => cl_of hbw2 w.heap.size i (by have := hbw.size; simp at this; omega)))
  go_wp2
  go_ret
  exact ⟨_, rfl, hT2, hbb2⟩

end Go.Proofs.Ytpliofhphijdkaa
