/-
  The document's own Value and Row as bytes answer a value's bytes and a row's bytes, or none; at every value and every row, in every world; nothing that was there is changed.
  No condition but that each number has 64 bits and that a row has no more than five thousand values.
-/
import Derived.Test.YtdlimephkjihbaaProw
namespace Go.Proofs.Ytdlimephkjihbaa
open Go.RowKit

/-- The four cells of a boxed value, as long as only later blocks change. -/
theorem box5 {w w1 : World} {k : Int} {f : Bool} {n : Int} {t : ByteArray} (hb : Below (w.heap.size + 1) (w.alloc (.cells #[.int .i64 k, .bool f, .int .i64 n, .string t] 56)) w1) :
    w1.cell? ⟨w.heap.size, 0, none⟩ = some (.int .i64 k) ∧ w1.cell? ⟨w.heap.size, 1, none⟩ = some (.bool f) ∧ w1.cell? ⟨w.heap.size, 2, none⟩ = some (.int .i64 n) ∧ w1.cell? ⟨w.heap.size, 3, none⟩ = some (.string t) := by
  refine box4 (w := w) (w1 := w1) ?_
  rw [World.size_alloc]
  exact hb
theorem box6 {w w1 : World} {o : Obj} (hb : Below (w.heap.size + 1) (w.alloc o) w1) : Below w.heap.size w w1 := (one_new w o).trans (hb.mono (by omega))
theorem box7 {w w1 : World} {o : Obj} (hb : Below (w.alloc o).heap.size (w.alloc o) w1) : Below (w.heap.size + 1) (w.alloc o) w1 := by
  rw [World.size_alloc] at hb
  exact hb

set_option maxRecDepth 100000 in
set_option maxHeartbeats 2000000 in
theorem rpk_value (v : V) (w : World) (hw : Wide v) : Calls Try.prog 34 #[v.val] w (GivesB w w.heap.size (valB v)) := by
  obtain ⟨k, f, n, t⟩ := v
  show Calls Try.prog 34 #[.agg #[.int .i64 k, .bool f, .int .i64 n, .string t]] w _
  have HR := Lib.hid (fun W => ref_right ⟨k, f, n, t⟩ W)
  rcases Bool.eq_false_or_eq_true (rightV ⟨k, f, n, t⟩) with hr | hr
  · have hv : valB ⟨k, f, n, t⟩ = (if k = 1 then [2, if f = true then 1 else 0] else if k = 2 then 3 :: be 8 (up n) else if k = 3 then 4 :: (esc t.data.toList ++ [0, 1]) else [1]) := by
      unfold valB
      rw [if_pos hr]
    have hk : k = 0 ∨ k = 1 ∨ k = 2 ∨ k = 3 := by
      unfold rightV at hr
      simp only [Bool.and_eq_true, decide_eq_true_eq] at hr
      omega
    have ht : t.size ≤ 60 := by
      have h1 := right_text hr
      have h2 : t.data.toList.length = t.size := rfl
      simp only at h1
      omega
    have HU := Lib.hid (up_wrap n hw)
    have HRT := Lib.hid hr
    clear hr hw
    rcases hk with rfl | rfl | rfl | rfl
    · rw [hv, if_neg (by decide), if_neg (by decide), if_neg (by decide)]
      clear hv ht
      go_enter Try.func34, Try.ntmps34
      go_wp2_with fail
      refine (HR.out _).mono ?_
      rintro e w1 ⟨rfl, hb1⟩
      rw [HRT.out]
      obtain ⟨c0, c1, c2, c3⟩ := box4 hb1
      have HB := Lib.hid hb1
      clear hb1
      go_wp2
      go_ret
      have hsz := (box_below HB.out).size
      exact ⟨_, rfl, (lit_B w1 _ [1] rfl (by decide)).more hsz, (box_below HB.out).trans (one_new_far _ _ hsz)⟩
    · rw [hv, if_pos rfl]
      clear hv ht
      cases f
      · go_enter Try.func34, Try.ntmps34
        go_wp2_with fail
        refine (HR.out _).mono ?_
        rintro e w1 ⟨rfl, hb1⟩
        rw [HRT.out]
        obtain ⟨c0, c1, c2, c3⟩ := box4 hb1
        have HB := Lib.hid hb1
        clear hb1
        go_wp2
        go_ret
        have hsz := (box_below HB.out).size
        exact ⟨_, rfl, (lit_B w1 _ [2, 0] rfl (by decide)).more hsz, (box_below HB.out).trans (one_new_far _ _ hsz)⟩
      · go_enter Try.func34, Try.ntmps34
        go_wp2_with fail
        refine (HR.out _).mono ?_
        rintro e w1 ⟨rfl, hb1⟩
        rw [HRT.out]
        obtain ⟨c0, c1, c2, c3⟩ := box4 hb1
        have HB := Lib.hid hb1
        clear hb1
        go_wp2
        go_ret
        have hsz := (box_below HB.out).size
        exact ⟨_, rfl, (lit_B w1 _ [2, 1] rfl (by decide)).more hsz, (box_below HB.out).trans (one_new_far _ _ hsz)⟩
    · rw [hv, if_neg (by decide), if_pos rfl]
      clear hv ht
      go_enter Try.func34, Try.ntmps34
      go_wp2_with fail
      refine (HR.out _).mono ?_
      rintro e w1 ⟨rfl, hb1⟩
      rw [HRT.out]
      obtain ⟨c0, c1, c2, c3⟩ := box4 hb1
      have HB := Lib.hid (box7 hb1)
      have hz1 := hb1.size
      rw [World.size_alloc] at hz1
      clear hb1
      go_wp2
      rw [HU.out]
      go_loopw [4, 5] (fun v i wr => ∃ (j : Nat) (z : Int), j ≤ 8 ∧ i = .int .i64 z ∧ z = 7 - (j : Int) ∧ OwnB wr (w.heap.size + 1) v (3 :: (be 8 (up n)).take j) ∧ Below (w.heap.size + 1) (w.alloc (.cells #[.int .i64 2, .bool f, .int .i64 n, .string t] 56)) wr) (fun _ i _ => (intOf i + 1).toNat)
      case atStart => exact ⟨0, 7, Nat.zero_le _, rfl, by omega, (lit_B w1 _ [3] rfl (by decide)).more hz1, HB.out.trans (one_new_far _ _ hz1)⟩
      case round =>
        obtain ⟨j, z, hj, rfl, hz, hown, hb⟩ := hrel
        have HO := Lib.hid hown
        have HBr := Lib.hid hb
        have hsz : w.heap.size + 1 ≤ wr.heap.size := by
          have := hb.size
          rw [World.size_alloc] at this
          exact this
        clear hown hb
        by_cases h1 : j < 8
        · rcases (show j = 0 ∨ j = 1 ∨ j = 2 ∨ j = 3 ∨ j = 4 ∨ j = 5 ∨ j = 6 ∨ j = 7 from by omega) with rfl | rfl | rfl | rfl | rfl | rfl | rfl | rfl
          · obtain rfl : z = 7 := by omega
            clear hz
            go_wp2_with (at_builtin; refine wp_append_B _ rfl (.tmp 59) (.tmp 66) rfl (w.heap.size + 1) _ (3 :: (be 8 (up n)).take 0) [UInt8.ofNat (up n / 256 ^ 7 % 256)] rfl (by exact HO.out) _ (by exact byte_cell _ 7 72057594037927936 rfl) _ _ _ rfl rfl rfl (by simp [be]) (by exact hsz) ?_; intro v1 w2 ho1 hb1)
            go_roundw
            case rel => exact ⟨1, 6, by omega, rfl, by omega, ho1, HBr.out.trans hb1⟩
            case measure => simp [intOf]
          · obtain rfl : z = 6 := by omega
            clear hz
            go_wp2_with (at_builtin; refine wp_append_B _ rfl (.tmp 59) (.tmp 66) rfl (w.heap.size + 1) _ (3 :: (be 8 (up n)).take 1) [UInt8.ofNat (up n / 256 ^ 6 % 256)] rfl (by exact HO.out) _ (by exact byte_cell _ 6 281474976710656 rfl) _ _ _ rfl rfl rfl (by simp [be]) (by exact hsz) ?_; intro v1 w2 ho1 hb1)
            go_roundw
            case rel => exact ⟨2, 5, by omega, rfl, by omega, ho1, HBr.out.trans hb1⟩
            case measure => simp [intOf]
          · obtain rfl : z = 5 := by omega
            clear hz
            go_wp2_with (at_builtin; refine wp_append_B _ rfl (.tmp 59) (.tmp 66) rfl (w.heap.size + 1) _ (3 :: (be 8 (up n)).take 2) [UInt8.ofNat (up n / 256 ^ 5 % 256)] rfl (by exact HO.out) _ (by exact byte_cell _ 5 1099511627776 rfl) _ _ _ rfl rfl rfl (by simp [be]) (by exact hsz) ?_; intro v1 w2 ho1 hb1)
            go_roundw
            case rel => exact ⟨3, 4, by omega, rfl, by omega, ho1, HBr.out.trans hb1⟩
            case measure => simp [intOf]
          · obtain rfl : z = 4 := by omega
            clear hz
            go_wp2_with (at_builtin; refine wp_append_B _ rfl (.tmp 59) (.tmp 66) rfl (w.heap.size + 1) _ (3 :: (be 8 (up n)).take 3) [UInt8.ofNat (up n / 256 ^ 4 % 256)] rfl (by exact HO.out) _ (by exact byte_cell _ 4 4294967296 rfl) _ _ _ rfl rfl rfl (by simp [be]) (by exact hsz) ?_; intro v1 w2 ho1 hb1)
            go_roundw
            case rel => exact ⟨4, 3, by omega, rfl, by omega, ho1, HBr.out.trans hb1⟩
            case measure => simp [intOf]
          · obtain rfl : z = 3 := by omega
            clear hz
            go_wp2_with (at_builtin; refine wp_append_B _ rfl (.tmp 59) (.tmp 66) rfl (w.heap.size + 1) _ (3 :: (be 8 (up n)).take 4) [UInt8.ofNat (up n / 256 ^ 3 % 256)] rfl (by exact HO.out) _ (by exact byte_cell _ 3 16777216 rfl) _ _ _ rfl rfl rfl (by simp [be]) (by exact hsz) ?_; intro v1 w2 ho1 hb1)
            go_roundw
            case rel => exact ⟨5, 2, by omega, rfl, by omega, ho1, HBr.out.trans hb1⟩
            case measure => simp [intOf]
          · obtain rfl : z = 2 := by omega
            clear hz
            go_wp2_with (at_builtin; refine wp_append_B _ rfl (.tmp 59) (.tmp 66) rfl (w.heap.size + 1) _ (3 :: (be 8 (up n)).take 5) [UInt8.ofNat (up n / 256 ^ 2 % 256)] rfl (by exact HO.out) _ (by exact byte_cell _ 2 65536 rfl) _ _ _ rfl rfl rfl (by simp [be]) (by exact hsz) ?_; intro v1 w2 ho1 hb1)
            go_roundw
            case rel => exact ⟨6, 1, by omega, rfl, by omega, ho1, HBr.out.trans hb1⟩
            case measure => simp [intOf]
          · obtain rfl : z = 1 := by omega
            clear hz
            go_wp2_with (at_builtin; refine wp_append_B _ rfl (.tmp 59) (.tmp 66) rfl (w.heap.size + 1) _ (3 :: (be 8 (up n)).take 6) [UInt8.ofNat (up n / 256 ^ 1 % 256)] rfl (by exact HO.out) _ (by exact byte_cell _ 1 256 rfl) _ _ _ rfl rfl rfl (by simp [be]) (by exact hsz) ?_; intro v1 w2 ho1 hb1)
            go_roundw
            case rel => exact ⟨7, 0, by omega, rfl, by omega, ho1, HBr.out.trans hb1⟩
            case measure => simp [intOf]
          · obtain rfl : z = 0 := by omega
            clear hz
            go_wp2_with (at_builtin; refine wp_append_B _ rfl (.tmp 59) (.tmp 66) rfl (w.heap.size + 1) _ (3 :: (be 8 (up n)).take 7) [UInt8.ofNat (up n / 256 ^ 0 % 256)] rfl (by exact HO.out) _ (by exact byte_cell0 _) _ _ _ rfl rfl rfl (by simp [be]) (by exact hsz) ?_; intro v1 w2 ho1 hb1)
            go_roundw
            case rel => exact ⟨8, -1, by omega, rfl, by omega, ho1, HBr.out.trans hb1⟩
            case measure => simp [intOf]
        · obtain rfl : j = 8 := by omega
          obtain rfl : z = -1 := by omega
          clear hz
          go_wp2
          go_ret
          exact ⟨_, rfl, HO.out.more (by omega), box6 HBr.out⟩
    · rw [hv, if_neg (by decide), if_neg (by decide), if_pos rfl]
      clear hv HU
      have hsl : t.data.toList.length = t.size := rfl
      have HL := Lib.hid hsl
      clear hsl
      go_enter Try.func34, Try.ntmps34
      go_wp2_with fail
      refine (HR.out _).mono ?_
      rintro e w1 ⟨rfl, hb1⟩
      rw [HRT.out]
      obtain ⟨c0, c1, c2, c3⟩ := box4 hb1
      have HB := Lib.hid (box7 hb1)
      have hz1 := hb1.size
      rw [World.size_alloc] at hz1
      clear hb1
      go_wp2
      go_loopw [6, 7] (fun v i wr => ∃ j : Nat, j ≤ t.size ∧ i = .int .i64 j ∧ OwnB wr (w.heap.size + 1) v (4 :: esc (t.data.toList.take j)) ∧ Below (w.heap.size + 1) (w.alloc (.cells #[.int .i64 3, .bool f, .int .i64 n, .string t] 56)) wr) (fun _ i _ => t.size - (intOf i).toNat)
      case atStart => exact ⟨0, Nat.zero_le _, rfl, (lit_B w1 _ [4] rfl (by decide)).more hz1, HB.out.trans (one_new_far _ _ hz1)⟩
      case round =>
        obtain ⟨j, hj, rfl, hown, hb⟩ := hrel
        clear c0 c1 c2 c3
        obtain ⟨c0, c1, c2, c3⟩ := box5 hb
        have HO := Lib.hid hown
        have HBr := Lib.hid hb
        have hsz : w.heap.size + 1 ≤ wr.heap.size := by
          have := hb.size
          rw [World.size_alloc] at this
          exact this
        have hlen : (4 :: esc (t.data.toList.take j)).length ≤ 3000 := by
          have h1 := esc_len (t.data.toList.take j)
          have h2 : (t.data.toList.take j).length ≤ j := List.length_take_le _ _
          rw [List.length_cons]
          omega
        clear hown hb
        by_cases h1 : j < t.size
        · have HT := Lib.hid (esc_take t j h1)
          by_cases h2 : t[j].toNat = 0
          · have b2 : ((t[j].toNat : Int) == 0) = true := by rw [h2]; rfl
            have h3 : Hid (t[j] = 0) := Lib.hid (UInt8.toNat_inj.1 h2)
            clear h2
            go_wp2_with (first
              | (at_builtin; refine wp_append_B _ rfl (.tmp 21) (.tmp 26) rfl (w.heap.size + 1) _ (4 :: esc (t.data.toList.take j)) [t[j]] rfl (by exact HO.out) _ (by rfl) _ _ _ rfl rfl rfl (by simp only [List.length_cons, List.length_nil] at hlen ⊢; omega) (by exact hsz) ?_; intro v1 w2 ho1 hb1; have HO1 := Lib.hid ho1; have HB1 := Lib.hid (HBr.out.trans hb1); have hsz1 := hb1.size; clear ho1 hb1; clear c0 c1 c2 c3; obtain ⟨c0, c1, c2, c3⟩ := box5 HB1.out)
              | (at_builtin; refine wp_append_B _ rfl (.tmp 33) (.tmp 34) rfl (w.heap.size + 1) _ (4 :: esc (t.data.toList.take j) ++ [t[j]]) [255] rfl (by exact HO1.out) _ (by rfl) _ _ _ rfl rfl rfl (by simp only [List.length_append, List.length_cons, List.length_nil] at hlen ⊢; omega) (by exact Nat.le_trans hsz hsz1) ?_; intro v2 w3 ho2 hb2))
            go_roundw
            case rel => exact ⟨j + 1, by omega, by go_num, by rw [HT.out, if_pos h3.out]; rw [h3.out] at ho2; simpa using ho2, HB1.out.trans hb2⟩
            case measure => simp [intOf]; omega
          · have b2 : ((t[j].toNat : Int) == 0) = false := by
              rw [beq_eq_false_iff_ne]
              omega
            have h3 : Hid (¬ t[j] = 0) := Lib.hid (fun h => h2 (by rw [h]; rfl))
            clear h2
            go_wp2_with (at_builtin; refine wp_append_B _ rfl (.tmp 21) (.tmp 26) rfl (w.heap.size + 1) _ (4 :: esc (t.data.toList.take j)) [t[j]] rfl (by exact HO.out) _ (by rfl) _ _ _ rfl rfl rfl (by simp only [List.length_cons, List.length_nil] at hlen ⊢; omega) (by exact hsz) ?_; intro v1 w2 ho1 hb1; have HO1 := Lib.hid ho1; have HB1 := Lib.hid (HBr.out.trans hb1); clear ho1 hb1; clear c0 c1 c2 c3; obtain ⟨c0, c1, c2, c3⟩ := box5 HB1.out)
            go_roundw
            case rel => exact ⟨j + 1, by omega, by go_num, by rw [HT.out, if_neg h3.out]; exact HO1.out, HB1.out⟩
            case measure => simp [intOf]; omega
        · obtain rfl : j = t.size := by omega
          have hq : 4 :: esc (t.data.toList.take t.size) ++ [0, 1] = 4 :: (esc t.data.toList ++ [0, 1]) := by
            rw [List.take_of_length_le (by rw [HL.out]; omega)]
            rfl
          have HQ := Lib.hid hq
          clear hq
          go_wp2_with (at_builtin; refine wp_append_B _ rfl (.tmp 36) (.tmp 37) rfl (w.heap.size + 1) _ _ [0, 1] rfl HO.out _ rfl _ _ _ rfl rfl rfl (by simp only [List.length_cons, List.length_nil] at hlen ⊢; omega) hsz ?_; intro v1 w2 ho1 hb1)
          go_ret
          exact ⟨_, rfl, by rw [← HQ.out]; exact ho1.more (by omega), box6 (HBr.out.trans hb1)⟩
  · rw [valB_none _ hr]
    have HRT := Lib.hid hr
    clear hr hw
    go_enter Try.func34, Try.ntmps34
    go_wp2_with fail
    refine (HR.out _).mono ?_
    rintro e w1 ⟨rfl, hb1⟩
    rw [HRT.out]
    have HB := Lib.hid hb1
    clear hb1
    go_wp2
    go_ret
    exact ⟨_, rfl, OwnB.nil _ _, box_below HB.out⟩
set_option maxHeartbeats 1000000 in
theorem rpk_row (A : Option Addr) (xs : List V) (n c : Nat) (w : World) (hn : n = xs.length) (hl : n ≤ 5000) (hw : WideR xs) (hx : RowAt w w.heap.size A xs) :
    Calls Try.prog 36 #[.slice A n c] w (GivesB w w.heap.size (rowB xs)) := by
  have HX := Lib.hid hx
  have HN := Lib.hid hn
  have HW := Lib.hid hw
  clear hx hn hw
  go_enter Try.func36, Try.ntmps36
  go_wp2
  go_loopw [3, 4] (fun v i wr => ∃ k : Nat, k ≤ n ∧ i = .int .i64 k ∧ (xs.take k).all rightV = true ∧ OwnB wr w.heap.size v ((xs.take k).flatMap valB) ∧ Below w.heap.size w wr) (fun _ i _ => n - (intOf i).toNat)
  case atStart => exact ⟨0, Nat.zero_le _, rfl, rfl, OwnB.nil _ _, Below.refl _ _⟩
  case round =>
    obtain ⟨k, hk, rfl, hall, hown, hb⟩ := hrel
    have HA := Lib.hid hall
    have HO := Lib.hid hown
    have HB := Lib.hid hb
    have hsz : w.heap.size ≤ wr.heap.size := hb.size
    have hlen : ((xs.take k).flatMap valB).length ≤ 123 * k := by
      have h1 := flat_valB_len (xs.take k)
      have h2 : (xs.take k).length ≤ k := List.length_take_le _ _
      omega
    clear hall hown hb
    by_cases h1 : k < n
    · obtain ⟨v, hv⟩ : ∃ v, xs[k]? = some v := ⟨_, List.getElem?_eq_getElem (by rw [← HN.out]; exact h1)⟩
      obtain ⟨a, rfl, ha, a0, a1, a2, a3⟩ := (HX.out.below HB.out) k v hv
      have HV := Lib.hid hv
      have HP := Lib.hid (fun W => rpk_value v W (HW.out v (List.mem_of_getElem? hv)))
      have hvl := valB_len v
      clear hv
      go_wp2_with (go_at_call 34; fail)
      refine (HP.out _).mono ?_
      rintro e w1 ⟨one, rfl, ho1, hb1⟩
      obtain ⟨A1, c1, rfl, _, _, hbt⟩ := ho1.form
      have HB1 := Lib.hid hb1
      have HBT := Lib.hid hbt
      have HO1 := Lib.hid (HO.out.below hb1 (Nat.le_refl _))
      have hs1 := hb1.size
      clear ho1 hb1 hbt
      rcases Bool.eq_false_or_eq_true (rightV v) with hr | hr
      · have hne : 0 < (valB v).length := by
          obtain ⟨c', r', e', _⟩ := valB_head v hr
          rw [e', List.length_cons]
          omega
        have b0 : (((valB v).length : Int) == 0) = false := by
          rw [beq_eq_false_iff_ne]
          omega
        have HRR := Lib.hid hr
        clear hr
        go_wp2_with (at_builtin; refine wp_append_Bs _ rfl (.tmp 20) (.tmp 21) rfl w.heap.size _ ((xs.take k).flatMap valB) (valB v) rfl (by exact HO1.out) _ _ _ _ rfl rfl (by exact HBT.out) (by omega) (by omega) ?_; intro v2 w2 ho2 hb2)
        go_roundw
        case rel => exact ⟨k + 1, by omega, by go_num, by rw [all_take _ _ _ HV.out, HA.out, HRR.out]; rfl, by rw [flat_take _ _ _ HV.out]; exact ho2, (HB.out.trans (HB1.out.mono hsz)).trans hb2⟩
        case measure => simp [intOf]; omega
      · have hz : (valB v).length = 0 := by rw [valB_none v hr]; rfl
        have b0 : (((valB v).length : Int) == 0) = true := by rw [hz]; rfl
        have HNO := Lib.hid (rowB_no xs k v HV.out hr)
        clear hr hz
        go_wp2
        go_ret
        rw [HNO.out]
        exact ⟨_, rfl, OwnB.nil _ _, HB.out.trans (HB1.out.mono hsz)⟩
    · obtain rfl : k = n := by omega
      have hq : (xs.take k).flatMap valB ++ [0] = rowB xs := by
        have h := HA.out
        rw [List.take_of_length_le (by rw [← HN.out]; omega)] at h ⊢
        unfold rowB
        rw [if_pos h]
      have HQ := Lib.hid hq
      clear hq
      go_wp2_with (at_builtin; refine wp_append_B _ rfl (.tmp 23) (.tmp 24) rfl w.heap.size _ _ [0] rfl HO.out _ rfl _ _ _ rfl rfl rfl (by simp only [List.length_cons, List.length_nil]; omega) hsz ?_; intro v1 w1 ho1 hb1)
      go_ret
      exact ⟨_, rfl, by rw [← HQ.out]; exact ho1, HB.out.trans hb1⟩
end Go.Proofs.Ytdlimephkjihbaa
