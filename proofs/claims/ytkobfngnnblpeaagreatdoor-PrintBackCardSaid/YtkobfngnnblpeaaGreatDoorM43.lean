/-
  The program's parser: what is done when a panic is handed up.
  No condition.
-/
import Derived.Defers
import Derived.Recover
import Derived.Test.YtkobfngnnblpeaaGreatDoorM42
namespace Go.Proofs.YtkobfngnnblpeaaGreatDoor
open Go.RowKit

abbrev zeroFt : Obj := .cells #[.int .i64 0, .int .i64 0] 52
theorem ta_fault (a y : Int) (W : World) : (Instr.typeAssert (.iface 52 (.agg #[.int .i64 a, .int .i64 y])) 20 52 true).run Tryz.prog W = .ok (.tuple #[.agg #[.int .i64 a, .int .i64 y], .bool true]) W := by kernel_rfl
theorem ta_nil (W : World) : (Instr.typeAssert .nilIface 20 52 true).run Tryz.prog W = .ok (.tuple #[.agg #[.int .i64 0, .int .i64 0], .bool false]) W := by kernel_rfl
set_option maxRecDepth 100000 in
theorem k_idle (p0 p1 p2 : Addr) (w : World) :
    CallsD Tryz.prog 13 #[.pointer (some p0), .pointer (some p1), .pointer (some p2)] .returning w fun e u' w' =>
      e = .returned (.tuple #[]) ∧ u' = .returning ∧ w' = w.alloc zeroFt := by
  refine callsD_of_wpS Tryz.func13 rfl fun c₀ cs hu => ?_
  have tan := ta_nil
  simp only [Tryz.ntmps13, List.size_toArray, List.length_cons, List.length_nil, Nat.reduceAdd, Nat.reduceSub, Array.replicate_succ, Array.replicate_zero, List.push_toArray, List.append_toArray, List.nil_append, List.cons_append]
  apply wpS_seq
  apply wpS_region
  simp [wpOpsS, go_sem, recoverD, hu, tan, Exit.thenS]
  apply wpS_seq
  apply wpS_region
  simp [wpOpsS, go_sem, Exit.thenS]
  refine wpS_cond (t := false) (by simp [Act.eval]) ?_
  simp only [Bool.false_eq_true, if_false]
  refine wpS_of_wp (wp_skip ?_)
  cases c₀
  simp_all [bodyPostS, results, Tryz.results13]
/-- The world behind a fault that was caught. -/
def caught (w : World) (b : Nat) (a y : Int) : World :=
  ((((((((w.setCell ⟨b, 0, none⟩ (.int .i64 0)).setCell ⟨b, 1, none⟩ (.string ⟨#[]⟩)).setCell ⟨b, 2, none⟩ (.slice none 0 0)).setCell ⟨b, 3, none⟩ (.int .i64 0)).setCell ⟨b, 4, none⟩ (.string ⟨#[]⟩)).setCell ⟨b, 5, none⟩ (.int .i64 0)).setCell ⟨b, 6, none⟩ (.slice none 0 0)).setCell ⟨b + 1, 0, none⟩ (.int .i64 a)).setCell ⟨b + 2, 0, none⟩ (.int .i64 y)
set_option maxRecDepth 100000 in
set_option maxHeartbeats 2000000 in
theorem k_catch (b : Nat) (a y : Int) (older : List PanicEntry) (w : World) (u0 u1 : Int) (hb : w.heap[b]? = some zeroRu) (h1 : w.heap[b + 1]? = some (.cells #[.int .i64 u0] 3 (0, 0))) (h2 : w.heap[b + 2]? = some (.cells #[.int .i64 u1] 24 (0, 0))) :
    CallsD Tryz.prog 13 #[.pointer (some ⟨b, 0, none⟩), .pointer (some ⟨b + 1, 0, none⟩), .pointer (some ⟨b + 2, 0, none⟩)] (.panicking ({ v := .iface 52 (.agg #[.int .i64 a, .int .i64 y]), recovered := false } :: older)) w fun e u' w' =>
      e = .returned (.tuple #[]) ∧ u' = .panicking ({ v := .iface 52 (.agg #[.int .i64 a, .int .i64 y]), recovered := true } :: older) ∧ w' = ((caught w b a y).alloc (.cells #[.int .i64 a, .int .i64 y] 52)).drew := by
  refine callsD_of_wpS Tryz.func13 rfl fun c₀ cs hu => ?_
  have tan := ta_fault
  simp only [Tryz.ntmps13, List.size_toArray, List.length_cons, List.length_nil, Nat.reduceAdd, Nat.reduceSub, Array.replicate_succ, Array.replicate_zero, List.push_toArray, List.append_toArray, List.nil_append, List.cons_append]
  apply wpS_seq
  apply wpS_region
  simp [wpOpsS, go_sem, recoverD, hu, tan, Exit.thenS]
  apply wpS_seq
  apply wpS_region
  simp [wpOpsS, go_sem, Exit.thenS]
  refine wpS_cond (t := true) (by simp [Act.eval]) ?_
  simp only [if_true]
  refine wpS_of_wp ?_
  have hbl := (Array.getElem?_eq_some_iff.1 hb).1
  have hbl1 := (Array.getElem?_eq_some_iff.1 h1).1
  have hbl2 := (Array.getElem?_eq_some_iff.1 h2).1
  obtain ⟨c0, c1, c2, c3, c4, c5, c6, cf⟩ := box7r_of hb
  have f0 := cf 0
  have f1 := cf 1
  have f2 := cf 2
  have f3 := cf 3
  have f4 := cf 4
  have f5 := cf 5
  have f6 := cf 6
  have d1 := cell_of_row _ (b + 1) 0 _ _ (0, 0) h1
  have d2 := cell_of_row _ (b + 2) 0 _ _ (0, 0) h2
  have g1 : w.frozen? ⟨b + 1, 0, none⟩ = false := by simp [World.frozen?, h1]
  have g2 : w.frozen? ⟨b + 2, 0, none⟩ = false := by simp [World.frozen?, h2]
  have n0 := new_cellG w #[.int .i64 a, .int .i64 y] 52 0
  have n1 := new_cellG w #[.int .i64 a, .int .i64 y] 52 1
  clear hb h1 h2 cf tan
  go_region
  all_goals
    cases c₀
    simp_all [bodyPostS, results, Tryz.results13, caught]
end Go.Proofs.YtkobfngnnblpeaaGreatDoor
