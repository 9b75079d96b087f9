/-
  Where the seven listed variables read as the program's text lays them, the library's calls find what they ask.
  No condition.
-/
import Derived.Test.YtkobfngnnblpeaaGreatDoorRows
import Derived.ProofKit
import Derived.LaidMore
import Derived.MakeChecks
import Derived.Lib.LaidTab
import Derived.Stop.Joined
import Derived.Test.YtkobfngnnblpeaaGreatDoorM14
import Derived.Test.YtkobfngnnblpeaaGreatDoorMLawv
namespace Go.Proofs.YtkobfngnnblpeaaGreatDoor
open Go.ChangeShapes Go.WideShapes Go.ChangeAt Go.RowKit

theorem g_d64 : Tryz.prog.globalNamed "math/bits.deBruijn64tab" = some 5 := by kernel_rfl
theorem t_pow : (Tryz.prog.globals[0]?).map (·.type) = some 151 := by kernel_rfl
theorem t_syn : (Tryz.prog.globals[6]?).map (·.type) = some 141 := by kernel_rfl
theorem t_rng : (Tryz.prog.globals[7]?).map (·.type) = some 141 := by kernel_rfl

set_option maxRecDepth 10000 in
/-- A variable of an interface type that does not read as nil holds a value. -/
theorem iface_held {H : Type} {enc : TypeId × Value → H} {w : World} {base fuel : Nat} {sp : Nat → Bool} {held : Bool} {cs : Array Value} {nm : String} {d : DataW H} {p : List MemPlace}
    (h : DataW.trod enc Tryz.prog w base sp held fuel 141 cs.toList = some (.iface nm d, p)) : ∃ tp v, cs = #[.iface tp v] := by
  obtain ⟨l⟩ := cs
  cases fuel with
  | zero => simp [DataW.trod] at h
  | succ fuel =>
    unfold DataW.trod at h
    rw [Tryz.underlying141] at h
    simp only at h
    split at h
    all_goals first | exact ⟨_, _, rfl⟩ | (simp_all; done)

/-- WHAT THE CONDITION GIVES. -/
theorem vars_of_laid {W : World} (h : laidMetH Tryz.prog Rows.parseTokensRow.laid W) : Vars W := by
  rw [MakeChecks.laidMetH_plain _ _ _ (by kernel_rfl)] at h
  obtain ⟨ps, ⟨g0, t0, cs0, f0, p0, q0, hg0, ht0, hv0, hd0, ⟨g1, t1, cs1, f1, p1, q1, hg1, ht1, hv1, hd1, ⟨g2, t2, cs2, f2, p2, q2, hg2, ht2, hv2, hd2, ⟨g3, t3, cs3, f3, p3, q3, hg3, ht3, hv3, hd3, ⟨g4, t4, cs4, f4, p4, q4, hg4, ht4, hv4, hd4, ⟨g5, t5, cs5, f5, p5, q5, hg5, ht5, hv5, hd5, _⟩, _⟩, _⟩, _⟩, _⟩, _⟩, _⟩ := h
  obtain rfl := Option.some.inj (g_pow.symm.trans hg2)
  obtain rfl := Option.some.inj (t_pow.symm.trans ht2)
  obtain rfl := Option.some.inj (g_rng.symm.trans hg4)
  obtain rfl := Option.some.inj (t_rng.symm.trans ht4)
  obtain rfl := Option.some.inj (g_syn.symm.trans hg5)
  obtain rfl := Option.some.inj (t_syn.symm.trans ht5)
  obtain rfl := Option.some.inj (g_d64.symm.trans hg1)
  have e2 : cs2.toList = Lib.pow10Tab.map fun z => Value.int .u64 z := Lib.cells_of_tab (zs := Lib.pow10Tab) Tryz.underlying151 Tryz.underlying132 (by kernel_rfl) (by kernel_rfl) hd2
  obtain ⟨tp, p, rfl⟩ := iface_held hd5
  obtain ⟨tq, q, rfl⟩ := iface_held hd4
  refine ⟨?_, ⟨tp, p, hv5⟩, ⟨tq, q, hv4⟩, ?_⟩
  · unfold Lib.TabIs
    rw [hv2, ← e2]
  · have h4 : 0 < W.heap.size := by
      have hv := hv2
      unfold World.var? at hv
      simp only [g_pow, Option.bind_some] at hv
      rcases Nat.lt_or_ge 0 W.heap.size with h | h
      · exact h
      · rw [Array.getElem?_eq_none h] at hv
        simp at hv
    have h5 : 6 < W.heap.size := by
      have hv := hv5
      unfold World.var? at hv
      simp only [g_syn, Option.bind_some] at hv
      rcases Nat.lt_or_ge 6 W.heap.size with h | h
      · exact h
      · rw [Array.getElem?_eq_none h] at hv
        simp at hv
    have h6 : 7 < W.heap.size := by
      have hv := hv4
      unfold World.var? at hv
      simp only [g_rng, Option.bind_some] at hv
      rcases Nat.lt_or_ge 7 W.heap.size with h | h
      · exact h
      · rw [Array.getElem?_eq_none h] at hv
        simp at hv
    omega
/-- The cells of the library's table. -/
def pinCells : Array Value := match Go.Pinned.utf8First with
  | .agg l => (l.map fun d => match d with | .lit (.int k n) => Value.int k n | _ => .bool false).toArray
  | _ => #[]
/-- The door's own heap, the library's table laid. -/
noncomputable def wPin (os : Os) : World :=
  { World.doorLaid Tryz.prog 400 os with heap := (World.doorLaid Tryz.prog 400 os).heap.modify 1 (fun o => match o with | .cells _ t f => .cells pinCells t f | o => o) }
/-- It meets the condition. -/
theorem door_met7 (os : Os) (args : Array Value) : laidMetH Tryz.prog Rows.parseTokensRow.laid ((wPin os).forCall (fun _ _ => 0) ⟨#[], args, []⟩).memory :=
  laidMetH_of_parts3 (fuel := 8) (laidMet_of_run' 8 (by kernel_rfl) (by kernel_rfl)) (by kernel_rfl) (by kernel_rfl)
end Go.Proofs.YtkobfngnnblpeaaGreatDoor
