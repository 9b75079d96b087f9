/-
  Null, Bool, Int and Text of package value make the value that the document names; two values are one for the program just if all their four parts are; Right, and the document's own Right, tell whether a value can be.
  At every input and in every world; nothing that was there is changed. No condition but that a text is no longer than a text can be.
-/
import Derived.Test.YtpliofhphijdkaaText
import Derived.Laws.StructEq
import Derived.Deep.RegionHeld3
namespace Go.Proofs.Ytpliofhphijdkaa
open Go.RowKit

/-- Are two values one, part by part? -/
def eqV (a b : V) : Bool := a.k == b.k && a.f == b.f && a.n == b.n && a.t.toList == b.t.toList

theorem eqV_iff (a b : V) : eqV a b = true ↔ a = b := by
  obtain ⟨k, f, n, t⟩ := a
  obtain ⟨k', f', n', t'⟩ := b
  unfold eqV
  rw [ByteArray.toList_eq, ByteArray.toList_eq]
  obtain ⟨⟨l⟩⟩ := t
  obtain ⟨⟨l'⟩⟩ := t'
  simp [and_assoc]

/-- Can a value be? -/
def rightV (v : V) : Bool := decide (0 ≤ v.k) && decide (v.k ≤ 3) && (v.k == 1 || !v.f) && (v.k == 2 || v.n == 0) && (v.k == 3 || v.t.size == 0) && decide (v.t.size ≤ 60)

theorem equal_val (k : Int) (f : Bool) (n : Int) (t : ByteArray) (k' : Int) (f' : Bool) (n' : Int) (t' : ByteArray) (w : World) :
    (Op.equalIn 10000 52 (.agg #[.int .i64 k, .bool f, .int .i64 n, .string t]) (.agg #[.int .i64 k', .bool f', .int .i64 n', .string t'])).run Try.prog w = .ok (eqV ⟨k, f, n, t⟩ ⟨k', f', n', t'⟩) w := by
  have hS : Try.prog.underlying 52 = some (.struct (Try.prog.fieldsOf 52)) := by kernel_rfl
  rw [show (10000 : Nat) = 9999 + 1 from rfl, run_equalIn_agg w 9999 52 _ _ hS (by kernel_rfl)]
  simp only [Program.fieldsOf, Try.underlying52]
  go_simp
  unfold eqV
  by_cases h1 : k = k' <;> by_cases h2 : f = f' <;> by_cases h3 : n = n' <;> by_cases h4 : t.toList = t'.toList <;> simp [h1, h2, h3, h4]

attribute [local go_sem high] equal_val

set_option maxHeartbeats 400000 in
theorem mk_null (w : World) : Calls Try.prog 71 #[] w fun e w' => e = .returned (.agg #[.int .i64 0, .bool false, .int .i64 0, .string ⟨#[]⟩]) ∧ w' = w.alloc (.cells #[.int .i64 0, .bool false, .int .i64 0, .string ⟨#[]⟩] 52) := by
  go_enter Try.func71, Try.ntmps71
  go_wp2
  exact bodyPost_ret (v := .agg #[.int .i64 0, .bool false, .int .i64 0, .string ⟨#[]⟩]) (by simp [results, Try.results71, go_sem]) rfl ⟨rfl, rfl⟩
set_option maxHeartbeats 400000 in
theorem mk_int (n : Int) (w : World) : Calls Try.prog 73 #[.int .i64 n] w fun e w' => e = .returned (.agg #[.int .i64 2, .bool false, .int .i64 n, .string ⟨#[]⟩]) ∧ w' = w.alloc (.cells #[.int .i64 2, .bool false, .int .i64 n, .string ⟨#[]⟩] 52) := by
  go_enter Try.func73, Try.ntmps73
  go_wp2
  exact bodyPost_ret (v := .agg #[.int .i64 2, .bool false, .int .i64 n, .string ⟨#[]⟩]) (by simp [results, Try.results73, go_sem]) rfl ⟨rfl, rfl⟩
set_option maxHeartbeats 400000 in
theorem mk_bool (b : Bool) (w : World) : Calls Try.prog 72 #[.bool b] w fun e w' => e = .returned (.agg #[.int .i64 1, .bool b, .int .i64 0, .string ⟨#[]⟩]) ∧ w' = w.alloc (.cells #[.int .i64 1, .bool b, .int .i64 0, .string ⟨#[]⟩] 52) := by
  go_enter Try.func72, Try.ntmps72
  go_wp2
  exact bodyPost_ret (v := .agg #[.int .i64 1, .bool b, .int .i64 0, .string ⟨#[]⟩]) (by simp [results, Try.results72, go_sem]) rfl ⟨rfl, rfl⟩
set_option maxHeartbeats 400000 in
theorem mk_text (t : ByteArray) (w : World) : Calls Try.prog 74 #[.string t] w fun e w' => e = .returned (.agg #[.int .i64 3, .bool false, .int .i64 0, .string t]) ∧ w' = w.alloc (.cells #[.int .i64 3, .bool false, .int .i64 0, .string t] 52) := by
  go_enter Try.func74, Try.ntmps74
  go_wp2
  exact bodyPost_ret (v := .agg #[.int .i64 3, .bool false, .int .i64 0, .string t]) (by simp [results, Try.results74, go_sem]) rfl ⟨rfl, rfl⟩

theorem empty_text (t : ByteArray) : (t.toList == (⟨#[]⟩ : ByteArray).toList) = (t.size == 0) := by
  rw [ByteArray.toList_eq, ByteArray.toList_eq]
  obtain ⟨⟨l⟩⟩ := t
  cases l <;> simp [ByteArray.size]
theorem right0 (f : Bool) (n : Int) (t : ByteArray) : eqV ⟨0, f, n, t⟩ ⟨0, false, 0, ⟨#[]⟩⟩ = rightV ⟨0, f, n, t⟩ := by
  unfold eqV rightV
  simp only [empty_text]
  by_cases ht : t.size = 0
  · cases f <;> by_cases hn : n = 0 <;> simp [ht, hn]
  · cases f <;> by_cases hn : n = 0 <;> simp [ht, hn]
theorem right1 (f : Bool) (n : Int) (t : ByteArray) : eqV ⟨1, f, n, t⟩ ⟨1, f, 0, ⟨#[]⟩⟩ = rightV ⟨1, f, n, t⟩ := by
  unfold eqV rightV
  simp only [empty_text]
  by_cases ht : t.size = 0
  · cases f <;> by_cases hn : n = 0 <;> simp [ht, hn]
  · cases f <;> by_cases hn : n = 0 <;> simp [ht, hn]
theorem right2 (f : Bool) (n : Int) (t : ByteArray) : eqV ⟨2, f, n, t⟩ ⟨2, false, n, ⟨#[]⟩⟩ = rightV ⟨2, f, n, t⟩ := by
  unfold eqV rightV
  simp only [empty_text]
  by_cases ht : t.size = 0
  · cases f <;> by_cases hn : n = 0 <;> simp [ht, hn]
  · cases f <;> by_cases hn : n = 0 <;> simp [ht, hn]
theorem right3 (f : Bool) (n : Int) (t : ByteArray) (ht : t.size ≤ 60) : eqV ⟨3, f, n, t⟩ ⟨3, false, 0, t⟩ = rightV ⟨3, f, n, t⟩ := by
  unfold eqV rightV
  cases f <;> by_cases hn : n = 0 <;> simp [ht, hn]
theorem right3n (f : Bool) (n : Int) (t : ByteArray) (ht : ¬ t.size ≤ 60) : false = rightV ⟨3, f, n, t⟩ := by
  unfold rightV
  cases f <;> by_cases hn : n = 0 <;> simp [ht, hn]
theorem right_no (k : Int) (f : Bool) (n : Int) (t : ByteArray) (h0 : ¬ k = 0) (h1 : ¬ k = 1) (h2 : ¬ k = 2) (h3 : ¬ k = 3) : false = rightV ⟨k, f, n, t⟩ := by
  unfold rightV
  have h : ¬ (0 ≤ k ∧ k ≤ 3) := by omega
  by_cases hk : 0 ≤ k
  · have hk' : ¬ k ≤ 3 := by omega
    simp [hk']
  · simp [hk]

set_option maxHeartbeats 1000000 in
theorem right_val (v : V) (w : World) : Calls Try.prog 64 #[v.val] w fun e w' => e = .returned (.bool (rightV v)) ∧ Below w.heap.size w w' := by
  obtain ⟨k, f, n, t⟩ := v
  show Calls Try.prog 64 #[.agg #[.int .i64 k, .bool f, .int .i64 n, .string t]] w _
  by_cases h0 : k = 0
  · subst h0
    go_enter Try.func64, Try.ntmps64
    go_wp2
    go_region_held3 (fun w' => w'.cell? ⟨w.heap.size, 0, none⟩ = some (.int .i64 0) ∧ w'.cell? ⟨w.heap.size, 1, none⟩ = some (.bool f) ∧ w'.cell? ⟨w.heap.size, 2, none⟩ = some (.int .i64 n) ∧ w'.cell? ⟨w.heap.size, 3, none⟩ = some (.string t)) (simp [go_sem, World.cell?_alloc_past])
      (first | (go_at_call 71; refine (mk_null _).mono ?_; rintro e w' ⟨rfl, rfl⟩))
    go_wp2
    go_ret
    exact ⟨ret_bool (right0 _ _ _), by repeat (first | exact Below.refl _ _ | apply Below.drew | (refine Below.alloc ?_ (by simp) _))⟩
  by_cases h1 : k = 1
  · subst h1
    clear h0
    go_enter Try.func64, Try.ntmps64
    go_wp2
    go_region_held3 (fun w' => w'.cell? ⟨w.heap.size, 0, none⟩ = some (.int .i64 1) ∧ w'.cell? ⟨w.heap.size, 1, none⟩ = some (.bool f) ∧ w'.cell? ⟨w.heap.size, 2, none⟩ = some (.int .i64 n) ∧ w'.cell? ⟨w.heap.size, 3, none⟩ = some (.string t)) (simp [go_sem, World.cell?_alloc_past])
      (first | (go_at_call 72; refine (mk_bool _ _).mono ?_; rintro e w' ⟨rfl, rfl⟩))
    go_wp2
    go_ret
    exact ⟨ret_bool (right1 _ _ _), by repeat (first | exact Below.refl _ _ | apply Below.drew | (refine Below.alloc ?_ (by simp) _))⟩
  by_cases h2 : k = 2
  · subst h2
    clear h0 h1
    go_enter Try.func64, Try.ntmps64
    go_wp2
    go_region_held3 (fun w' => w'.cell? ⟨w.heap.size, 0, none⟩ = some (.int .i64 2) ∧ w'.cell? ⟨w.heap.size, 1, none⟩ = some (.bool f) ∧ w'.cell? ⟨w.heap.size, 2, none⟩ = some (.int .i64 n) ∧ w'.cell? ⟨w.heap.size, 3, none⟩ = some (.string t)) (simp [go_sem, World.cell?_alloc_past])
      (first | (go_at_call 73; refine (mk_int _ _).mono ?_; rintro e w' ⟨rfl, rfl⟩))
    go_wp2
    go_ret
    exact ⟨ret_bool (right2 _ _ _), by repeat (first | exact Below.refl _ _ | apply Below.drew | (refine Below.alloc ?_ (by simp) _))⟩
  by_cases h3 : k = 3
  · subst h3
    clear h0 h1 h2
    by_cases ht : t.size ≤ 60
    · have hd : decide ((t.size : Int) ≤ 60) = true := by simp; omega
      go_enter Try.func64, Try.ntmps64
      go_wp2
      go_region_held3 (fun w' => w'.cell? ⟨w.heap.size, 0, none⟩ = some (.int .i64 3) ∧ w'.cell? ⟨w.heap.size, 1, none⟩ = some (.bool f) ∧ w'.cell? ⟨w.heap.size, 2, none⟩ = some (.int .i64 n) ∧ w'.cell? ⟨w.heap.size, 3, none⟩ = some (.string t)) (simp [go_sem, World.cell?_alloc_past])
        (first | (go_at_call 74; refine (mk_text _ _).mono ?_; rintro e w' ⟨rfl, rfl⟩))
      go_wp2
      go_ret
      exact ⟨ret_bool (right3 _ _ _ ht), by repeat (first | exact Below.refl _ _ | apply Below.drew | (refine Below.alloc ?_ (by simp) _))⟩
    · have hd : decide ((t.size : Int) ≤ 60) = false := by simp; omega
      go_enter Try.func64, Try.ntmps64
      go_wp2
      go_quiet (fail)
      go_wp2
      go_ret
      exact ⟨ret_bool (right3n _ _ _ (by omega)), by repeat (first | exact Below.refl _ _ | apply Below.drew | apply below_drewN' | (refine Below.alloc ?_ (by simp) _))⟩
  · go_enter Try.func64, Try.ntmps64
    go_wp2
    go_ret
    exact ⟨ret_bool (right_no _ _ _ _ h0 h1 h2 h3), one_new _ _⟩
end Go.Proofs.Ytpliofhphijdkaa
