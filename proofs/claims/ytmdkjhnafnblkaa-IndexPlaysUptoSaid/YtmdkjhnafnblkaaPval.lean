/-
  Value of package pack, with boolBytes, intBytes and textBytes, answers a value's bytes, or none where the value can not be; at every value, in every world; nothing that was there is changed.
  No condition but that the number has 64 bits.
-/
import Derived.Test.YtmdkjhnafnblkaaByt
import Derived.Test.YtmdkjhnafnblkaaPpure
namespace Go.Proofs.Ytmdkjhnafnblkaa
open Go.RowKit

set_option maxHeartbeats 400000 in
theorem pk_bool (b : Bool) (w : World) : Calls Try.prog 212 #[.bool b] w (GivesB w w.heap.size [2, if b = true then 1 else 0]) := by
  cases b
  · go_enter Try.func212, Try.ntmps212
    go_wp2
    go_ret
    exact ⟨_, rfl, lit_B w _ [2, 0] rfl (by decide), one_new _ _⟩
  · go_enter Try.func212, Try.ntmps212
    go_wp2
    go_ret
    exact ⟨_, rfl, lit_B w _ [2, 1] rfl (by decide), one_new _ _⟩

theorem up_wrap (n : Int) (h : Wide ⟨2, false, n, ⟨#[]⟩⟩) : IntKind.u64.wrap (IntKind.u64.wrap n + 9223372036854775808) = ((up n : Nat) : Int) := by
  obtain ⟨h0, h1⟩ := h
  simp only at h0 h1
  simp only [IntKind.wrap_u64]
  unfold up
  omega

theorem byte_cell (U j : Nat) (D : Nat) (hD : 256 ^ j = D) : [Value.int .u8 (IntKind.u8.wrap ((U : Int) / (D : Int)))] = [bv (UInt8.ofNat (U / 256 ^ j % 256))] := by
  subst hD
  unfold bv
  rw [UInt8.toNat_ofNat_of_lt' (show U / 256 ^ j % 256 < 256 by omega), IntKind.wrap_u8]
  simp only [← Int.natCast_ediv]
  generalize U / 256 ^ j = q
  congr 2
theorem byte_cell0 (U : Nat) : [Value.int .u8 (IntKind.u8.wrap (U : Int))] = [bv (UInt8.ofNat (U / 256 ^ 0 % 256))] := by
  have h := byte_cell U 0 1 rfl
  simpa using h

set_option maxRecDepth 100000 in
set_option maxHeartbeats 1000000 in
theorem pk_int (n : Int) (w : World) (hn : Wide ⟨2, false, n, ⟨#[]⟩⟩) : Calls Try.prog 213 #[.int .i64 n] w (GivesB w w.heap.size (3 :: be 8 (up n))) := by
  have HU := Lib.hid (up_wrap n hn)
  clear hn
  go_enter Try.func213, Try.ntmps213
  go_wp2
  go_loopw [3, 6] (fun v i wr => ∃ k : Nat, k ≤ 8 ∧ i = .int .i64 k ∧ OwnB wr w.heap.size v (3 :: (be 8 (up n)).take k) ∧ Below w.heap.size w wr) (fun _ i _ => 8 - (intOf i).toNat)
  case atStart => exact ⟨0, Nat.zero_le _, rfl, lit_B w _ [3] rfl (by decide), one_new _ _⟩
  case round =>
    obtain ⟨k, hk, rfl, hown, hb⟩ := hrel
    have HO := Lib.hid hown
    have HB := Lib.hid hb
    have hsz : w.heap.size ≤ wr.heap.size := hb.size
    clear hown hb
    by_cases h1 : k < 8
    · rcases (show k = 0 ∨ k = 1 ∨ k = 2 ∨ k = 3 ∨ k = 4 ∨ k = 5 ∨ k = 6 ∨ k = 7 from by omega) with rfl | rfl | rfl | rfl | rfl | rfl | rfl | rfl
      · go_wp2_with (at_builtin; refine wp_append_B _ rfl (.tmp 9) (.tmp 18) rfl w.heap.size _ (3 :: (be 8 (up n)).take 0) [UInt8.ofNat (up n / 256 ^ 7 % 256)] rfl (by exact HO.out) _ (by rw [HU.out]; exact byte_cell _ 7 72057594037927936 rfl) _ _ _ rfl rfl rfl (by simp [be]) (by exact hsz) ?_; intro v1 w1 ho1 hb1)
        go_roundw
        case rel => exact ⟨1, by omega, rfl, ho1, HB.out.trans hb1⟩
        case measure => simp [intOf]
      · go_wp2_with (at_builtin; refine wp_append_B _ rfl (.tmp 9) (.tmp 18) rfl w.heap.size _ (3 :: (be 8 (up n)).take 1) [UInt8.ofNat (up n / 256 ^ 6 % 256)] rfl (by exact HO.out) _ (by rw [HU.out]; exact byte_cell _ 6 281474976710656 rfl) _ _ _ rfl rfl rfl (by simp [be]) (by exact hsz) ?_; intro v1 w1 ho1 hb1)
        go_roundw
        case rel => exact ⟨2, by omega, rfl, ho1, HB.out.trans hb1⟩
        case measure => simp [intOf]
      · go_wp2_with (at_builtin; refine wp_append_B _ rfl (.tmp 9) (.tmp 18) rfl w.heap.size _ (3 :: (be 8 (up n)).take 2) [UInt8.ofNat (up n / 256 ^ 5 % 256)] rfl (by exact HO.out) _ (by rw [HU.out]; exact byte_cell _ 5 1099511627776 rfl) _ _ _ rfl rfl rfl (by simp [be]) (by exact hsz) ?_; intro v1 w1 ho1 hb1)
        go_roundw
        case rel => exact ⟨3, by omega, rfl, ho1, HB.out.trans hb1⟩
        case measure => simp [intOf]
      · go_wp2_with (at_builtin; refine wp_append_B _ rfl (.tmp 9) (.tmp 18) rfl w.heap.size _ (3 :: (be 8 (up n)).take 3) [UInt8.ofNat (up n / 256 ^ 4 % 256)] rfl (by exact HO.out) _ (by rw [HU.out]; exact byte_cell _ 4 4294967296 rfl) _ _ _ rfl rfl rfl (by simp [be]) (by exact hsz) ?_; intro v1 w1 ho1 hb1)
        go_roundw
        case rel => exact ⟨4, by omega, rfl, ho1, HB.out.trans hb1⟩
        case measure => simp [intOf]
      · go_wp2_with (at_builtin; refine wp_append_B _ rfl (.tmp 9) (.tmp 18) rfl w.heap.size _ (3 :: (be 8 (up n)).take 4) [UInt8.ofNat (up n / 256 ^ 3 % 256)] rfl (by exact HO.out) _ (by rw [HU.out]; exact byte_cell _ 3 16777216 rfl) _ _ _ rfl rfl rfl (by simp [be]) (by exact hsz) ?_; intro v1 w1 ho1 hb1)
        go_roundw
        case rel => exact ⟨5, by omega, rfl, ho1, HB.out.trans hb1⟩
        case measure => simp [intOf]
      · go_wp2_with (at_builtin; refine wp_append_B _ rfl (.tmp 9) (.tmp 18) rfl w.heap.size _ (3 :: (be 8 (up n)).take 5) [UInt8.ofNat (up n / 256 ^ 2 % 256)] rfl (by exact HO.out) _ (by rw [HU.out]; exact byte_cell _ 2 65536 rfl) _ _ _ rfl rfl rfl (by simp [be]) (by exact hsz) ?_; intro v1 w1 ho1 hb1)
        go_roundw
        case rel => exact ⟨6, by omega, rfl, ho1, HB.out.trans hb1⟩
        case measure => simp [intOf]
      · go_wp2_with (at_builtin; refine wp_append_B _ rfl (.tmp 9) (.tmp 18) rfl w.heap.size _ (3 :: (be 8 (up n)).take 6) [UInt8.ofNat (up n / 256 ^ 1 % 256)] rfl (by exact HO.out) _ (by rw [HU.out]; exact byte_cell _ 1 256 rfl) _ _ _ rfl rfl rfl (by simp [be]) (by exact hsz) ?_; intro v1 w1 ho1 hb1)
        go_roundw
        case rel => exact ⟨7, by omega, rfl, ho1, HB.out.trans hb1⟩
        case measure => simp [intOf]
      · go_wp2_with (at_builtin; refine wp_append_B _ rfl (.tmp 9) (.tmp 18) rfl w.heap.size _ (3 :: (be 8 (up n)).take 7) [UInt8.ofNat (up n / 256 ^ 0 % 256)] rfl (by exact HO.out) _ (by rw [HU.out]; exact byte_cell0 _) _ _ _ rfl rfl rfl (by simp [be]) (by exact hsz) ?_; intro v1 w1 ho1 hb1)
        go_roundw
        case rel => exact ⟨8, by omega, rfl, ho1, HB.out.trans hb1⟩
        case measure => simp [intOf]
    · obtain rfl : k = 8 := by omega
      go_wp2
      go_ret
      exact ⟨_, rfl, HO.out, HB.out⟩

theorem esc_take (s : ByteArray) (k : Nat) (h : k < s.size) : esc (s.data.toList.take (k + 1)) = esc (s.data.toList.take k) ++ (if s[k] = 0 then [0, 255] else [s[k]]) := by
  have e : s.data.toList[k]? = some s[k] := by
    rw [List.getElem?_eq_getElem (by exact h)]
    rfl
  rw [List.take_add_one, e, esc_append]
  simp [esc]
theorem esc_len (l : List UInt8) : (esc l).length ≤ 2 * l.length := by
  induction l with
  | nil => simp [esc]
  | cons c l ih =>
    rw [esc_cons, List.length_append, List.length_cons]
    split <;> simp only [List.length_cons, List.length_nil] <;> omega

set_option maxHeartbeats 1000000 in
theorem pk_text (s : ByteArray) (w : World) (hs : s.size ≤ 1000) : Calls Try.prog 214 #[.string s] w (GivesB w w.heap.size (4 :: (esc s.data.toList ++ [0, 1]))) := by
  have hsl : s.data.toList.length = s.size := rfl
  have HL := Lib.hid hsl
  clear hsl
  go_enter Try.func214, Try.ntmps214
  go_wp2
  go_loopw [3, 8] (fun v i wr => ∃ k : Nat, k ≤ s.size ∧ i = .int .i64 k ∧ OwnB wr w.heap.size v (4 :: esc (s.data.toList.take k)) ∧ Below w.heap.size w wr) (fun _ i _ => s.size - (intOf i).toNat)
  case atStart => exact ⟨0, Nat.zero_le _, rfl, lit_B w _ [4] rfl (by decide), one_new _ _⟩
  case round =>
    obtain ⟨k, hk, rfl, hown, hb⟩ := hrel
    have HO := Lib.hid hown
    have HB := Lib.hid hb
    have hsz : w.heap.size ≤ wr.heap.size := hb.size
    have hlen : (4 :: esc (s.data.toList.take k)).length ≤ 3000 := by
      have h1 := esc_len (s.data.toList.take k)
      have h2 : (s.data.toList.take k).length ≤ k := List.length_take_le _ _
      rw [List.length_cons]
      omega
    clear hown hb
    by_cases h1 : k < s.size
    · have HT := Lib.hid (esc_take s k h1)
      by_cases h2 : s[k].toNat = 0
      · have b2 : ((s[k].toNat : Int) == 0) = true := by rw [h2]; rfl
        have h3 : Hid (s[k] = 0) := Lib.hid (UInt8.toNat_inj.1 h2)
        clear h2
        go_wp2_with (first
          | (at_builtin; refine wp_append_B _ rfl (.tmp 11) (.tmp 15) rfl w.heap.size _ (4 :: esc (s.data.toList.take k)) [s[k]] rfl (by exact HO.out) _ (by rfl) _ _ _ rfl rfl rfl (by simp only [List.length_cons, List.length_nil] at hlen ⊢; omega) (by exact hsz) ?_; intro v1 w1 ho1 hb1; have HO1 := Lib.hid ho1; clear ho1)
          | (at_builtin; refine wp_append_B _ rfl (.tmp 21) (.tmp 22) rfl w.heap.size _ (4 :: esc (s.data.toList.take k) ++ [s[k]]) [255] rfl (by exact HO1.out) _ (by rfl) _ _ _ rfl rfl rfl (by simp only [List.length_append, List.length_cons, List.length_nil] at hlen ⊢; omega) (by exact Nat.le_trans hsz hb1.size) ?_; intro v2 w2 ho2 hb2))
        go_roundw
        case rel => exact ⟨k + 1, by omega, by go_num, by rw [HT.out, if_pos h3.out]; rw [h3.out] at ho2; simpa using ho2, (HB.out.trans hb1).trans hb2⟩
        case measure => simp [intOf]; omega
      · have b2 : ((s[k].toNat : Int) == 0) = false := by
          rw [beq_eq_false_iff_ne]
          omega
        have h3 : Hid (¬ s[k] = 0) := Lib.hid (fun h => h2 (by rw [h]; rfl))
        clear h2
        go_wp2_with (at_builtin; refine wp_append_B _ rfl (.tmp 11) (.tmp 15) rfl w.heap.size _ (4 :: esc (s.data.toList.take k)) [s[k]] rfl (by exact HO.out) _ (by rfl) _ _ _ rfl rfl rfl (by simp only [List.length_cons, List.length_nil] at hlen ⊢; omega) (by exact hsz) ?_; intro v1 w1 ho1 hb1)
        go_roundw
        case rel => exact ⟨k + 1, by omega, by go_num, by rw [HT.out, if_neg h3.out]; exact ho1, HB.out.trans hb1⟩
        case measure => simp [intOf]; omega
    · obtain rfl : k = s.size := by omega
      have hq : 4 :: esc (s.data.toList.take s.size) ++ [0, 1] = 4 :: (esc s.data.toList ++ [0, 1]) := by
        rw [List.take_of_length_le (by rw [HL.out]; omega)]
        rfl
      have HQ := Lib.hid hq
      clear hq
      go_wp2_with (at_builtin; refine wp_append_B _ rfl (.tmp 25) (.tmp 26) rfl w.heap.size _ _ [0, 1] rfl HO.out _ rfl _ _ _ rfl rfl rfl (by simp only [List.length_cons, List.length_nil] at hlen ⊢; omega) hsz ?_; intro v1 w1 ho1 hb1)
      go_ret
      exact ⟨_, rfl, by rw [← HQ.out]; exact ho1, HB.out.trans hb1⟩
end Go.Proofs.Ytmdkjhnafnblkaa
