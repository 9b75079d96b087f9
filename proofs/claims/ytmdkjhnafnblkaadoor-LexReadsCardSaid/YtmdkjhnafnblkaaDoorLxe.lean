/-
  Two tokens of the document that are the same are told to be the same.
  No condition.
-/
import Derived.Test.YtmdkjhnafnblkaaDoorLxk
import Derived.Laws.StructEq
namespace Go.Proofs.YtmdkjhnafnblkaaDoor
open Go.RowKit

theorem equal_val' (d : Nat) (k : Int) (f : Bool) (n : Int) (t : ByteArray) (w : World) :
    (Op.equalIn (d + 1 + 1) 37 (.agg #[.int .i64 k, .bool f, .int .i64 n, .string t]) (.agg #[.int .i64 k, .bool f, .int .i64 n, .string t])).run Tryd.prog w = .ok true w := by
  have hS : Tryd.prog.underlying 37 = some (.struct (Tryd.prog.fieldsOf 37)) := by kernel_rfl
  rw [run_equalIn_agg w (d + 1) 37 _ _ hS (by kernel_rfl)]
  simp only [Program.fieldsOf, Tryd.underlying37]
  go_simp
set_option maxHeartbeats 1000000 in
theorem equal_tok (k : Int) (t : ByteArray) (vk : Int) (vf : Bool) (vn : Int) (vt : ByteArray) (a : Int) (w : World) :
    (Op.equalIn 10000 43 (.agg #[.int .i64 k, .string t, .int .i64 vk, .bool vf, .int .i64 vn, .string vt, .int .i64 a]) (.agg #[.int .i64 k, .string t, .int .i64 vk, .bool vf, .int .i64 vn, .string vt, .int .i64 a])).run Tryd.prog w = .ok true w := by
  have hS : Tryd.prog.underlying 43 = some (.struct (Tryd.prog.fieldsOf 43)) := by kernel_rfl
  have hv := equal_val' 9997 vk vf vn vt w
  rw [show (10000 : Nat) = 9999 + 1 from rfl, run_equalIn_agg w 9999 43 _ _ hS (by kernel_rfl)]
  simp only [Program.fieldsOf, Tryd.underlying43]
  go_simp
end Go.Proofs.YtmdkjhnafnblkaaDoor
