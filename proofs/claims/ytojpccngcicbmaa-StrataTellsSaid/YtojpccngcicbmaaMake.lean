/-
  Null, Bool, Int and Text of package value make the value that the document names; two values are one for the program just if all their four parts are; Right, and the document's own Right, tell whether a value can be.
  At every input and in every world; nothing that was there is changed. No condition but that a text is no longer than a text can be.
-/
import Derived.Test.YtojpccngcicbmaaText
import Derived.Laws.StructEq
import Derived.Deep.RegionHeld3
namespace Go.Proofs.Ytojpccngcicbmaa
open Go.RowKit

/-- Are two values one, part by part? -/
def eqV (a b : V) : Bool := a.k == b.k && a.f == b.f && a.n == b.n && a.t.toList == b.t.toList

theorem eqV_iff (a b : V) : eqV a b = true ↔ a = b := by
  obtain ⟨k, f, n, t⟩ := a
  obtain ⟨k', f', n', t'⟩ := b
  unfold eqV
  rw [ByteArray.toList_eq, ByteArray.toList_eq]
  obtain ⟨⟨l⟩⟩ := t
  obtain ⟨⟨l'⟩⟩ := t'
  simp [and_assoc]

/-- Can a value be? -/
def rightV (v : V) : Bool := decide (0 ≤ v.k) && decide (v.k ≤ 3) && (v.k == 1 || !v.f) && (v.k == 2 || v.n == 0) && (v.k == 3 || v.t.size == 0) && decide (v.t.size ≤ 60)

theorem equal_val (k : Int) (f : Bool) (n : Int) (t : ByteArray) (k' : Int) (f' : Bool) (n' : Int) (t' : ByteArray) (w : World) :
    (Op.equalIn 10000 67 (.agg #[.int .i64 k, .bool f, .int .i64 n, .string t]) (.agg #[.int .i64 k', .bool f', .int .i64 n', .string t'])).run Try.prog w = .ok (eqV ⟨k, f, n, t⟩ ⟨k', f', n', t'⟩) w := by
  have hS : Try.prog.underlying 67 = some (.struct (Try.prog.fieldsOf 67)) := by kernel_rfl
  rw [show (10000 : Nat) = 9999 + 1 from rfl, run_equalIn_agg w 9999 67 _ _ hS (by kernel_rfl)]
  simp only [Program.fieldsOf, Try.underlying67]
  go_simp
  unfold eqV
  by_cases h1 : k = k' <;> by_cases h2 : f = f' <;> by_cases h3 : n = n' <;> by_cases h4 : t.toList = t'.toList <;> simp [h1, h2, h3, h4]

attribute [local go_sem high] equal_val

theorem empty_text (t : ByteArray) : (t.toList == (⟨#[]⟩ : ByteArray).toList) = (t.size == 0) := by
  rw [ByteArray.toList_eq, ByteArray.toList_eq]
  obtain ⟨⟨l⟩⟩ := t
  cases l <;> simp [ByteArray.size]
theorem right0 (f : Bool) (n : Int) (t : ByteArray) : eqV ⟨0, f, n, t⟩ ⟨0, false, 0, ⟨#[]⟩⟩ = rightV ⟨0, f, n, t⟩ := by
  unfold eqV rightV
  simp only [empty_text]
  by_cases ht : t.size = 0
  · cases f <;> by_cases hn : n = 0 <;> simp [ht, hn]
  · cases f <;> by_cases hn : n = 0 <;> simp [ht, hn]
theorem right1 (f : Bool) (n : Int) (t : ByteArray) : eqV ⟨1, f, n, t⟩ ⟨1, f, 0, ⟨#[]⟩⟩ = rightV ⟨1, f, n, t⟩ := by
  unfold eqV rightV
  simp only [empty_text]
  by_cases ht : t.size = 0
  · cases f <;> by_cases hn : n = 0 <;> simp [ht, hn]
  · cases f <;> by_cases hn : n = 0 <;> simp [ht, hn]
theorem right2 (f : Bool) (n : Int) (t : ByteArray) : eqV ⟨2, f, n, t⟩ ⟨2, false, n, ⟨#[]⟩⟩ = rightV ⟨2, f, n, t⟩ := by
  unfold eqV rightV
  simp only [empty_text]
  by_cases ht : t.size = 0
  · cases f <;> by_cases hn : n = 0 <;> simp [ht, hn]
  · cases f <;> by_cases hn : n = 0 <;> simp [ht, hn]
theorem right3 (f : Bool) (n : Int) (t : ByteArray) (ht : t.size ≤ 60) : eqV ⟨3, f, n, t⟩ ⟨3, false, 0, t⟩ = rightV ⟨3, f, n, t⟩ := by
  unfold eqV rightV
  cases f <;> by_cases hn : n = 0 <;> simp [ht, hn]
theorem right3n (f : Bool) (n : Int) (t : ByteArray) (ht : ¬ t.size ≤ 60) : false = rightV ⟨3, f, n, t⟩ := by
  unfold rightV
  cases f <;> by_cases hn : n = 0 <;> simp [ht, hn]
theorem right_no (k : Int) (f : Bool) (n : Int) (t : ByteArray) (h0 : ¬ k = 0) (h1 : ¬ k = 1) (h2 : ¬ k = 2) (h3 : ¬ k = 3) : false = rightV ⟨k, f, n, t⟩ := by
  unfold rightV
  have h : ¬ (0 ≤ k ∧ k ≤ 3) := by omega
  by_cases hk : 0 ≤ k
  · have hk' : ¬ k ≤ 3 := by omega
    simp [hk']
  · simp [hk]

end Go.Proofs.Ytojpccngcicbmaa
