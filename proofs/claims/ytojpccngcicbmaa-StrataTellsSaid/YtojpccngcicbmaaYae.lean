/-
  Numbers in a block of their own; the document's Deep.
  No condition but that rules are few, and names no longer than they can be.
-/
import Derived.Test.YtojpccngcicbmaaYz
import Derived.Deep.OwnRows
import Derived.Deep.RegionLaw
namespace Go.Proofs.Ytojpccngcicbmaa
open Go.RowKit Go.Maps

/-- Numbers lie in a block. -/
def IntsB (W : World) (g n : Nat) (F : Nat → Nat) : Prop := W.heap[g]? = some (.cells ((Array.range n).map fun k => Value.int .i64 (F k : Nat)) 3 (0, 0))
theorem IntsB.cell {W : World} {g n : Nat} {F : Nat → Nat} (h : IntsB W g n F) {k : Nat} (hk : k < n) : W.cell? ⟨g, k, none⟩ = some (.int .i64 (F k : Nat)) := by
  unfold IntsB at h
  simp [World.cell?, h, hk]
theorem IntsB.frozen {W : World} {g n : Nat} {F : Nat → Nat} (h : IntsB W g n F) (k : Nat) : W.frozen? ⟨g, k, none⟩ = false := by
  unfold IntsB at h
  simp [World.frozen?, h]
theorem IntsB.lt {W : World} {g n : Nat} {F : Nat → Nat} (h : IntsB W g n F) : g < W.heap.size := (Array.getElem?_eq_some_iff.1 h).1
theorem IntsB.below {W W' : World} {g n : Nat} {F : Nat → Nat} (h : IntsB W g n F) (hb : Below W.heap.size W W') : IntsB W' g n F := (hb.block g h.lt).trans h
theorem heap_setN {W : World} {B i : Nat} {cs : Array Value} {t : TypeId} {v : Value} (h : W.heap[B]? = some (.cells cs t (0, 0))) : (W.setCell ⟨B, i, none⟩ v).heap[B]? = some (.cells (cs.setIfInBounds i v) t (0, 0)) := heap_set1 h
theorem IntsB.set {W : World} {g n : Nat} {F : Nat → Nat} (h : IntsB W g n F) (k v : Nat) : IntsB (W.setCell ⟨g, k, none⟩ (.int .i64 (v : Nat))) g n (fun j => if j = k then v else F j) := by
  refine (heap_setN h).trans (congrArg (fun cs => some (Obj.cells cs 3 (0, 0))) ?_)
  refine Array.ext (by simp) fun j hj1 hj2 => ?_
  rw [Array.getElem_setIfInBounds (by simpa using hj2)]
  by_cases e : k = j
  · subst e
    simp
  · have e2 : ¬ j = k := fun h => e h.symm
    rw [if_neg e]
    simp [e2]
theorem info_I : (Try.prog.info? 3).map (fun i => (i.zero, i.size, i.bytes)) = some (some (.int .i64 0), 1, 8) := by kernel_rfl
theorem make_I (n : Nat) (hn : n ≤ 100) (W : World) : (Instr.makeSlice 65 (.int .i64 (n : Int)) (.int .i64 (n : Int))).run Try.prog W = .ok (.slice (some ⟨W.heap.size, 0, none⟩) n n) (W.alloc (.cells (madeCells #[.int .i64 0] n) 3)) :=
  run_make_row' 65 3 (.int .i64 0) 8 Try.underlying65 info_I rfl .i64 .i64 n (by omega) (by omega) W
theorem new_I (W : World) (n : Nat) : IntsB (W.alloc (.cells (madeCells #[.int .i64 0] n) 3)) W.heap.size n (fun _ => 0) := by
  refine (World.alloc_heap_new W _).trans (congrArg (fun cs => some (Obj.cells cs 3 (0, 0))) ?_)
  refine Array.ext (by simp [madeCells]) fun j hj1 hj2 => ?_
  simp [madeCells, Nat.mod_one]
end Go.Proofs.Ytojpccngcicbmaa
