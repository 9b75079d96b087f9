/-
  Where the five listed variables read as the program's text lays them, the library's calls find what they ask.
  No condition.
-/
import Derived.Test.YtffgnienhjebbaaDoorKnown1
import Derived.Test.YtffgnienhjebbaaDoorRows
import Derived.Test.YtffgnienhjebbaaDoorLawv
import Derived.ProofKit
import Derived.LaidMore
import Derived.MakeChecks
import Derived.Lib.LaidTab
import Derived.Stop.Joined
namespace Go.Proofs.YtffgnienhjebbaaDoor
open Go.ChangeShapes Go.WideShapes Go.ChangeAt Go.RowKit

theorem g_d32 : Tryd.prog.globalNamed "math/bits.deBruijn32tab" = some 4 := by kernel_rfl
theorem g_d64 : Tryd.prog.globalNamed "math/bits.deBruijn64tab" = some 5 := by kernel_rfl
theorem t_pow : (Tryd.prog.globals[0]?).map (·.type) = some 125 := by kernel_rfl
theorem t_syn : (Tryd.prog.globals[1]?).map (·.type) = some 87 := by kernel_rfl
theorem t_rng : (Tryd.prog.globals[2]?).map (·.type) = some 87 := by kernel_rfl

set_option maxRecDepth 10000 in
/-- A variable of an interface type that does not read as nil holds a value. -/
theorem iface_held {H : Type} {enc : TypeId × Value → H} {w : World} {base fuel : Nat} {sp : Nat → Bool} {held : Bool} {cs : Array Value} {nm : String} {d : DataW H} {p : List MemPlace}
    (h : DataW.trod enc Tryd.prog w base sp held fuel 87 cs.toList = some (.iface nm d, p)) : ∃ tp v, cs = #[.iface tp v] := by
  obtain ⟨l⟩ := cs
  cases fuel with
  | zero => simp [DataW.trod] at h
  | succ fuel =>
    unfold DataW.trod at h
    rw [Tryd.underlying87] at h
    simp only at h
    split at h
    all_goals first | exact ⟨_, _, rfl⟩ | (simp_all; done)

/-- WHAT THE CONDITION GIVES. -/
theorem vars_of_laid {W : World} (h : laidMetH Tryd.prog Rows.valueReadsRow.laid W) : Vars W := by
  rw [MakeChecks.laidMetH_plain _ _ _ (by kernel_rfl)] at h
  obtain ⟨ps, ⟨g0, t0, cs0, f0, p0, q0, hg0, ht0, hv0, hd0, ⟨g1, t1, cs1, f1, p1, q1, hg1, ht1, hv1, hd1, ⟨g2, t2, cs2, f2, p2, q2, hg2, ht2, hv2, hd2, ⟨g3, t3, cs3, f3, p3, q3, hg3, ht3, hv3, hd3, ⟨g4, t4, cs4, f4, p4, q4, hg4, ht4, hv4, hd4, _, _⟩, _⟩, _⟩, _⟩, _⟩, _, _⟩ := h
  obtain rfl := Option.some.inj (g_pow.symm.trans hg2)
  obtain rfl := Option.some.inj (t_pow.symm.trans ht2)
  obtain rfl := Option.some.inj (g_rng.symm.trans hg3)
  obtain rfl := Option.some.inj (t_rng.symm.trans ht3)
  obtain rfl := Option.some.inj (g_syn.symm.trans hg4)
  obtain rfl := Option.some.inj (t_syn.symm.trans ht4)
  obtain rfl := Option.some.inj (g_d64.symm.trans hg1)
  have e2 : cs2.toList = Lib.pow10Tab.map fun z => Value.int .u64 z := Lib.cells_of_tab (zs := Lib.pow10Tab) Tryd.underlying125 Tryd.underlying90 (by kernel_rfl) (by kernel_rfl) hd2
  obtain ⟨tp, p, rfl⟩ := iface_held hd4
  obtain ⟨tq, q, rfl⟩ := iface_held hd3
  refine ⟨?_, ⟨tp, p, hv4⟩, ⟨tq, q, hv3⟩, ?_⟩
  · unfold Lib.TabIs
    rw [hv2, ← e2]
  · have h4 : 5 < W.heap.size := by
      unfold World.var? at hv1
      simp only [g_d64, Option.bind_some] at hv1
      rcases Nat.lt_or_ge 5 W.heap.size with h | h
      · exact h
      · rw [Array.getElem?_eq_none h] at hv1
        simp at hv1
    omega
/-- The door's own heap meets the condition. -/
theorem door_met (os : Os) (args : Array Value) : laidMetH Tryd.prog Rows.valueReadsRow.laid ((World.doorLaid Tryd.prog 400 os).forCall (fun _ _ => 0) ⟨#[], args, []⟩).memory :=
  laidMetH_of_parts3 (fuel := 8) (laidMet_of_run' 8 (by kernel_rfl) (by kernel_rfl)) (by kernel_rfl) (by kernel_rfl)
end Go.Proofs.YtffgnienhjebbaaDoor
