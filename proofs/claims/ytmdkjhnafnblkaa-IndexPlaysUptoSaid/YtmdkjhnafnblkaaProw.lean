/-
  Value and Row of package pack answer a value's bytes and a row's bytes, or none; at every value and every row, in every world; nothing that was there is changed.
  No condition but that each number has 64 bits and that a row has no more than five thousand values.
-/
import Derived.Test.YtmdkjhnafnblkaaPval
namespace Go.Proofs.Ytmdkjhnafnblkaa
open Go.RowKit

/-- The four cells of a value that a call has boxed. -/
theorem box4 {w w1 : World} {k : Int} {f : Bool} {n : Int} {t : ByteArray} (hb : Below (w.alloc (.cells #[.int .i64 k, .bool f, .int .i64 n, .string t] 113)).heap.size (w.alloc (.cells #[.int .i64 k, .bool f, .int .i64 n, .string t] 113)) w1) :
    w1.cell? ⟨w.heap.size, 0, none⟩ = some (.int .i64 k) ∧ w1.cell? ⟨w.heap.size, 1, none⟩ = some (.bool f) ∧ w1.cell? ⟨w.heap.size, 2, none⟩ = some (.int .i64 n) ∧ w1.cell? ⟨w.heap.size, 3, none⟩ = some (.string t) := by
  have hh : w1.heap[w.heap.size]? = some (.cells #[.int .i64 k, .bool f, .int .i64 n, .string t] 113 (0, 0)) := (hb.block w.heap.size (by simp)).trans (heap_alloc_new w _)
  exact ⟨by rw [cell_of_row w1 _ 0 _ _ _ hh]; rfl, by rw [cell_of_row w1 _ 1 _ _ _ hh]; rfl, by rw [cell_of_row w1 _ 2 _ _ _ hh]; rfl, by rw [cell_of_row w1 _ 3 _ _ _ hh]; rfl⟩

theorem box_below {w w1 : World} {o : Obj} (hb : Below (w.alloc o).heap.size (w.alloc o) w1) : Below w.heap.size w w1 := (one_new w o).trans (hb.mono (by simp))

theorem GivesB.box {w w1 w2 : World} {o : Obj} {bs : List UInt8} {e : Ending} (hb : Below (w.alloc o).heap.size (w.alloc o) w1) (h : GivesB w1 w1.heap.size bs e w2) : GivesB w w.heap.size bs e w2 := by
  obtain ⟨v, he, ho, h2⟩ := h
  have hsz := (box_below hb).size
  exact ⟨v, he, ho.more hsz, (box_below hb).trans (h2.mono hsz)⟩

theorem valB_none (v : V) (h : rightV v = false) : valB v = [] := by
  unfold valB
  rw [h]
  rfl
theorem valB_len (v : V) : (valB v).length ≤ 123 := by
  unfold valB
  split
  · rename_i h
    split
    · simp
    · split
      · rw [List.length_cons, be_len]
        omega
      · split
        · have h1 := esc_len v.t.data.toList
          have h2 := right_text h
          simp only [List.length_cons, List.length_append, List.length_nil]
          omega
        · simp
  · simp

set_option maxHeartbeats 1000000 in
theorem pk_value (v : V) (w : World) (hw : Wide v) : Calls Try.prog 180 #[v.val] w (GivesB w w.heap.size (valB v)) := by
  obtain ⟨k, f, n, t⟩ := v
  show Calls Try.prog 180 #[.agg #[.int .i64 k, .bool f, .int .i64 n, .string t]] w _
  have HR := Lib.hid (fun W => right_val ⟨k, f, n, t⟩ W)
  rcases Bool.eq_false_or_eq_true (rightV ⟨k, f, n, t⟩) with hr | hr
  · have hv : valB ⟨k, f, n, t⟩ = (if k = 1 then [2, if f = true then 1 else 0] else if k = 2 then 3 :: be 8 (up n) else if k = 3 then 4 :: (esc t.data.toList ++ [0, 1]) else [1]) := by
      unfold valB
      rw [if_pos hr]
    have ht : t.size ≤ 1000 := by
      have h1 := right_text hr
      have h2 : t.data.toList.length = t.size := rfl
      simp only at h1
      omega
    have HRT := Lib.hid hr
    have HI := Lib.hid (fun W => pk_int n W hw)
    have HT := Lib.hid (fun W => pk_text t W ht)
    clear hr ht hw
    by_cases h1 : k = 1
    · subst h1
      have hp := fun W => pk_bool f W
      rw [hv, if_pos rfl]
      generalize ([2, if f = true then 1 else 0] : List UInt8) = bs at *
      have HP := Lib.hid hp
      clear hv hp
      go_enter Try.func180, Try.ntmps180
      go_wp2_with fail
      refine (HR.out _).mono ?_
      rintro e w1 ⟨rfl, hb1⟩
      rw [HRT.out]
      obtain ⟨c0, c1, c2, c3⟩ := box4 hb1
      have HB := Lib.hid hb1
      clear hb1
      go_wp2_with fail
      refine (HP.out _).mono ?_
      intro e w2 hg
      obtain ⟨v', rfl, ho, hb2⟩ := GivesB.box HB.out hg
      go_wp2
      go_ret
      exact ⟨_, rfl, ho, hb2⟩
    · by_cases h2 : k = 2
      · subst h2
        rw [hv, if_neg h1, if_pos rfl]
        clear hv h1
        go_enter Try.func180, Try.ntmps180
        go_wp2_with fail
        refine (HR.out _).mono ?_
        rintro e w1 ⟨rfl, hb1⟩
        rw [HRT.out]
        obtain ⟨c0, c1, c2, c3⟩ := box4 hb1
        have HB := Lib.hid hb1
        clear hb1
        go_wp2_with fail
        refine (HI.out _).mono ?_
        intro e w2 hg
        obtain ⟨v', rfl, ho, hb2⟩ := GivesB.box HB.out hg
        go_wp2
        go_ret
        exact ⟨_, rfl, ho, hb2⟩
      · by_cases h3 : k = 3
        · subst h3
          rw [hv, if_neg h1, if_neg h2, if_pos rfl]
          clear hv h1 h2
          go_enter Try.func180, Try.ntmps180
          go_wp2_with fail
          refine (HR.out _).mono ?_
          rintro e w1 ⟨rfl, hb1⟩
          rw [HRT.out]
          obtain ⟨c0, c1, c2, c3⟩ := box4 hb1
          have HB := Lib.hid hb1
          clear hb1
          go_wp2_with fail
          refine (HT.out _).mono ?_
          intro e w2 hg
          obtain ⟨v', rfl, ho, hb2⟩ := GivesB.box HB.out hg
          go_wp2
          go_ret
          exact ⟨_, rfl, ho, hb2⟩
        · rw [hv, if_neg h1, if_neg h2, if_neg h3]
          clear hv
          have b1 : (k == 1) = false := by simpa using h1
          have b2 : (k == 2) = false := by simpa using h2
          have b3 : (k == 3) = false := by simpa using h3
          clear h1 h2 h3
          go_enter Try.func180, Try.ntmps180
          go_wp2_with fail
          refine (HR.out _).mono ?_
          rintro e w1 ⟨rfl, hb1⟩
          rw [HRT.out]
          obtain ⟨c0, c1, c2, c3⟩ := box4 hb1
          have HB := Lib.hid hb1
          clear hb1
          go_wp2
          go_ret
          have hsz := (box_below HB.out).size
          exact ⟨_, rfl, (lit_B w1 _ [1] rfl (by decide)).more hsz, (box_below HB.out).trans (one_new_far _ _ hsz)⟩
  · rw [valB_none _ hr]
    have HRT := Lib.hid hr
    clear hr hw
    go_enter Try.func180, Try.ntmps180
    go_wp2_with fail
    refine (HR.out _).mono ?_
    rintro e w1 ⟨rfl, hb1⟩
    rw [HRT.out]
    have HB := Lib.hid hb1
    clear hb1
    go_wp2
    go_ret
    exact ⟨_, rfl, OwnB.nil _ _, box_below HB.out⟩

/-- Every number of a row has 64 bits. -/
def WideR (xs : List V) : Prop := ∀ v ∈ xs, Wide v

theorem flat_take (xs : List V) (k : Nat) (v : V) (h : xs[k]? = some v) : (xs.take (k + 1)).flatMap valB = (xs.take k).flatMap valB ++ valB v := by
  obtain ⟨h1, h2⟩ := List.getElem?_eq_some_iff.1 h
  rw [List.take_succ_eq_append_getElem h1, List.flatMap_append, h2]
  simp
theorem all_take (xs : List V) (k : Nat) (v : V) (h : xs[k]? = some v) : (xs.take (k + 1)).all rightV = ((xs.take k).all rightV && rightV v) := by
  obtain ⟨h1, h2⟩ := List.getElem?_eq_some_iff.1 h
  rw [List.take_succ_eq_append_getElem h1, List.all_append, h2]
  simp
theorem flat_valB_len (xs : List V) : (xs.flatMap valB).length ≤ 123 * xs.length := by
  induction xs with
  | nil => simp
  | cons v xs ih =>
    have := valB_len v
    rw [List.flatMap_cons, List.length_append, List.length_cons]
    omega
theorem rowB_no (xs : List V) (k : Nat) (v : V) (h : xs[k]? = some v) (hr : rightV v = false) : rowB xs = [] := by
  unfold rowB
  rw [if_neg]
  intro ha
  rw [List.all_eq_true] at ha
  have := ha v (List.mem_of_getElem? h)
  rw [hr] at this
  cases this

set_option maxHeartbeats 1000000 in
theorem pk_row (A : Option Addr) (xs : List V) (n c : Nat) (w : World) (hn : n = xs.length) (hl : n ≤ 1100000) (hw : WideR xs) (hx : RowAt w w.heap.size A xs) :
    Calls Try.prog 142 #[.slice A n c] w (GivesB w w.heap.size (rowB xs)) := by
  have HX := Lib.hid hx
  have HN := Lib.hid hn
  have HW := Lib.hid hw
  clear hx hn hw
  go_enter Try.func142, Try.ntmps142
  go_wp2
  go_loopw [3, 9] (fun v i wr => ∃ k : Nat, k ≤ n ∧ i = .int .i64 k ∧ (xs.take k).all rightV = true ∧ OwnB wr w.heap.size v ((xs.take k).flatMap valB) ∧ Below w.heap.size w wr) (fun _ i _ => n - (intOf i).toNat)
  case atStart => exact ⟨0, Nat.zero_le _, rfl, rfl, OwnB.nil _ _, Below.refl _ _⟩
  case round =>
    obtain ⟨k, hk, rfl, hall, hown, hb⟩ := hrel
    have HA := Lib.hid hall
    have HO := Lib.hid hown
    have HB := Lib.hid hb
    have hsz : w.heap.size ≤ wr.heap.size := hb.size
    have hlen : ((xs.take k).flatMap valB).length ≤ 123 * k := by
      have h1 := flat_valB_len (xs.take k)
      have h2 : (xs.take k).length ≤ k := List.length_take_le _ _
      omega
    clear hall hown hb
    by_cases h1 : k < n
    · obtain ⟨v, hv⟩ : ∃ v, xs[k]? = some v := ⟨_, List.getElem?_eq_getElem (by rw [← HN.out]; exact h1)⟩
      obtain ⟨a, rfl, ha, a0, a1, a2, a3⟩ := (HX.out.below HB.out) k v hv
      have HV := Lib.hid hv
      have HP := Lib.hid (fun W => pk_value v W (HW.out v (List.mem_of_getElem? hv)))
      have hvl := valB_len v
      clear hv
      go_wp2_with (go_at_call 180; fail)
      refine (HP.out _).mono ?_
      rintro e w1 ⟨one, rfl, ho1, hb1⟩
      obtain ⟨A1, c1, rfl, _, _, hbt⟩ := ho1.form
      have HB1 := Lib.hid (box_below hb1)
      have HBT := Lib.hid hbt
      have HO1 := Lib.hid ((HO.out.alloc _).below hb1 (Nat.le_refl _))
      have hs1 := (box_below hb1).size
      clear ho1 hb1 hbt
      rcases Bool.eq_false_or_eq_true (rightV v) with hr | hr
      · have hne : 0 < (valB v).length := by
          obtain ⟨c', r', e', _⟩ := valB_head v hr
          rw [e', List.length_cons]
          omega
        have b0 : (((valB v).length : Int) == 0) = false := by
          rw [beq_eq_false_iff_ne]
          omega
        have HRR := Lib.hid hr
        clear hr
        go_wp2_with (at_builtin; refine wp_append_Bs _ rfl (.tmp 18) (.tmp 19) rfl w.heap.size _ ((xs.take k).flatMap valB) (valB v) rfl (by exact HO1.out) _ _ _ _ rfl rfl (by exact HBT.out) (by omega) (by omega) ?_; intro v2 w2 ho2 hb2)
        go_roundw
        case rel => exact ⟨k + 1, by omega, by go_num, by rw [all_take _ _ _ HV.out, HA.out, HRR.out]; rfl, by rw [flat_take _ _ _ HV.out]; exact ho2, (HB.out.trans (HB1.out.mono hsz)).trans hb2⟩
        case measure => simp [intOf]; omega
      · have hz : (valB v).length = 0 := by rw [valB_none v hr]; rfl
        have b0 : (((valB v).length : Int) == 0) = true := by rw [hz]; rfl
        have HNO := Lib.hid (rowB_no xs k v HV.out hr)
        clear hr hz
        go_wp2
        go_ret
        rw [HNO.out]
        exact ⟨_, rfl, OwnB.nil _ _, HB.out.trans (HB1.out.mono hsz)⟩
    · obtain rfl : k = n := by omega
      have hq : (xs.take k).flatMap valB ++ [0] = rowB xs := by
        have h := HA.out
        rw [List.take_of_length_le (by rw [← HN.out]; omega)] at h ⊢
        unfold rowB
        rw [if_pos h]
      have HQ := Lib.hid hq
      clear hq
      go_wp2_with (at_builtin; refine wp_append_B _ rfl (.tmp 22) (.tmp 23) rfl w.heap.size _ _ [0] rfl HO.out _ rfl _ _ _ rfl rfl rfl (by simp only [List.length_cons, List.length_nil]; omega) hsz ?_; intro v1 w1 ho1 hb1)
      go_ret
      exact ⟨_, rfl, by rw [← HQ.out]; exact ho1, HB.out.trans hb1⟩
end Go.Proofs.Ytmdkjhnafnblkaa
