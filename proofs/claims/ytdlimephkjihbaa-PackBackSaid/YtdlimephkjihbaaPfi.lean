/-
  firstBool and firstInt of package pack answer the value that bytes begin with, how many bytes it has, or why there is none; at all bytes, in every world; nothing that was there is changed.
  No condition but that the bytes are no longer than they can be.
-/
import Derived.Test.YtdlimephkjihbaaPtx
namespace Go.Proofs.Ytdlimephkjihbaa
open Go.RowKit

/-- The truth that bytes behind a 2 are. -/
def firstB (r : List UInt8) : V × Nat × Int := match r with | [] => (noV, 0, 8) | d :: _ => if 1 < d.toNat then (noV, 0, 7) else (⟨1, d == 1, 0, ⟨#[]⟩⟩, 2, 0)
/-- The number that bytes behind a 3 are. -/
def firstI (r : List UInt8) : V × Nat × Int := if r.length < 8 then (noV, 0, 8) else (⟨2, false, (unbe (r.take 8) : Int) - 9223372036854775808, ⟨#[]⟩⟩, 9, 0)

theorem wrap_u64' (n : Int) : IntKind.u64.wrap n = n % 18446744073709551616 := by rw [IntKind.wrap_u64]
theorem or_byte (U : Nat) (y : UInt8) (h : U < 72057594037927936) : bits .or .u64 ((U : Int) * 256) (IntKind.u64.wrap (y.toNat : Int)) = ((U * 256 + y.toNat : Nat) : Int) := by
  have hy := y.toNat_lt
  have e1 : IntKind.u64.wrap (y.toNat : Int) = (y.toNat : Int) := by
    rw [wrap_u64']
    omega
  have e2 : (U : Int) * 256 = ((U * 256 : Nat) : Int) := by omega
  rw [e1, e2, bits_or_u64_nat _ _ (by omega) (by omega)]
  congr 1
  have := Nat.shiftLeft_add_eq_or_of_lt (a := U) (b := y.toNat) (i := 8) (by omega)
  rw [Nat.shiftLeft_eq] at this
  exact this.symm
theorem conv_up (U : Nat) (h : U < 18446744073709551616) : wrap64 (IntKind.u64.wrap ((U : Int) - 9223372036854775808)) = (U : Int) - 9223372036854775808 := by
  rw [wrap_u64']
  unfold wrap64
  omega
theorem unbe_take (l : List UInt8) (k : Nat) (y : UInt8) (h : l[k]? = some y) : unbe (l.take (k + 1)) = unbe (l.take k) * 256 + y.toNat := by
  obtain ⟨h1, h2⟩ := List.getElem?_eq_some_iff.1 h
  rw [List.take_succ_eq_append_getElem h1, h2]
  unfold unbe
  rw [List.foldl_append]
  rfl
theorem unbe_lt (l : List UInt8) : ∀ k, unbe (l.take k) < 256 ^ k
  | 0 => by simp [unbe]
  | k + 1 => by
    have ih := unbe_lt l k
    by_cases h : k < l.length
    · rw [unbe_take l k l[k] (List.getElem?_eq_getElem h), Nat.pow_succ]
      have := l[k].toNat_lt
      omega
    · rw [List.take_of_length_le (by omega)] at ih ⊢
      rw [Nat.pow_succ]
      omega

theorem fb_short (bs : List UInt8) (h : bs.length < 2) : firstB (bs.drop 1) = (noV, 0, 8) := by
  rw [List.drop_of_length_le (by omega)]
  rfl
theorem fb_form (bs : List UInt8) (y : UInt8) (hy : bs[1]? = some y) (h : 1 < y.toNat) : firstB (bs.drop 1) = (noV, 0, 7) := by
  rw [tx_drop bs 1 y hy]
  exact if_pos h
theorem fb_one (bs : List UInt8) (y : UInt8) (hy : bs[1]? = some y) (h : y.toNat = 1) : firstB (bs.drop 1) = (⟨1, true, 0, ⟨#[]⟩⟩, 2, 0) := by
  rw [tx_drop bs 1 y hy, byte_one h]
  rfl
theorem fb_zero (bs : List UInt8) (y : UInt8) (hy : bs[1]? = some y) (h : y.toNat = 0) : firstB (bs.drop 1) = (⟨1, false, 0, ⟨#[]⟩⟩, 2, 0) := by
  rw [tx_drop bs 1 y hy, byte_zero h]
  rfl

set_option maxRecDepth 100000 in
set_option maxHeartbeats 4000000 in
theorem pk_firstBool (A : Option Addr) (bs : List UInt8) (n c : Nat) (w : World) (hn : n = bs.length) (hl : n ≤ maxLen) (h1n : 1 ≤ n) (hx : BytesAt w w.heap.size A bs) :
    Calls Try.prog 67 #[.slice A n c] w (FirstOf w (firstB (bs.drop 1))) := by
  unfold maxLen at hl
  have HX := Lib.hid hx
  have HN := Lib.hid hn
  clear hx hn
  obtain ⟨R, hR⟩ : ∃ R, firstB (bs.drop 1) = R := ⟨_, rfl⟩
  rw [hR]
  have HR := Lib.hid hR
  clear hR
  by_cases h1 : n < 2
  · have HF : Hid (R = (noV, 0, 8)) := Lib.hid (by rw [← HR.out]; exact fb_short bs (by rw [← HN.out]; exact h1))
    have b1 : (n : Int) < 2 := by omega
    clear h1
    go_enter Try.func67, Try.ntmps67
    go_wp2
    rw [HF.out]
    exact bodyPost_ret (v := .tuple #[.agg #[.int .i64 0, .bool false, .int .i64 0, .string ⟨#[]⟩], .int .i64 0, .int .i64 8]) (by simp [results, Try.results67, go_sem]) rfl ⟨rfl, one_new _ _⟩
  · obtain ⟨y, hy⟩ : ∃ y, bs[1]? = some y := ⟨_, List.getElem?_eq_getElem (by rw [← HN.out]; omega)⟩
    obtain ⟨a, rfl, ha, a0⟩ := HX.out 1 y hy
    have a2 : w.cell? { block := a.block, off := a.off + 1 } = some (.int .u8 (y.toNat : Int)) := by simpa [Addr.add, bv] using a0
    have hab : a.block < w.heap.size := by simpa [Addr.add] using ha
    have b1 : ¬ (n : Int) < 2 := by omega
    have b2 : (1 : Int) < (n : Int) := by omega
    clear h1 a0 ha
    by_cases h2 : 1 < y.toNat
    · have HF : Hid (R = (noV, 0, 7)) := Lib.hid (by rw [← HR.out]; exact fb_form bs y hy h2)
      have b3 : (1 : Int) < (y.toNat : Int) := by omega
      clear h2 hy
      go_enter Try.func67, Try.ntmps67
      go_wp2
      rw [HF.out]
      exact bodyPost_ret (v := .tuple #[.agg #[.int .i64 0, .bool false, .int .i64 0, .string ⟨#[]⟩], .int .i64 0, .int .i64 7]) (by simp [results, Try.results67, go_sem]) rfl ⟨rfl, one_new _ _⟩
    · have b3 : ¬ (1 : Int) < (y.toNat : Int) := by omega
      by_cases h3 : y.toNat = 1
      · have HF : Hid (R = (⟨1, true, 0, ⟨#[]⟩⟩, 2, 0)) := Lib.hid (by rw [← HR.out]; exact fb_one bs y hy h3)
        have b4 : ((y.toNat : Int) == 1) = true := by rw [h3]; rfl
        clear h2 hy h3
        go_enter Try.func67, Try.ntmps67
        go_wp2_with (go_at_call 46; refine (mk_bool _ _).mono ?_; rintro e w2 ⟨rfl, rfl⟩)
        rw [HF.out]
        exact bodyPost_ret (v := .tuple #[.agg #[.int .i64 1, .bool true, .int .i64 0, .string ⟨#[]⟩], .int .i64 2, .int .i64 0]) (by simp [results, Try.results67, go_sem]) rfl ⟨rfl, two_new _ _ _⟩
      · have HF : Hid (R = (⟨1, false, 0, ⟨#[]⟩⟩, 2, 0)) := Lib.hid (by rw [← HR.out]; exact fb_zero bs y hy (by omega))
        have b4 : ((y.toNat : Int) == 1) = false := by
          rw [beq_eq_false_iff_ne]
          omega
        clear h2 hy h3
        go_enter Try.func67, Try.ntmps67
        go_wp2_with (go_at_call 46; refine (mk_bool _ _).mono ?_; rintro e w2 ⟨rfl, rfl⟩)
        rw [HF.out]
        exact bodyPost_ret (v := .tuple #[.agg #[.int .i64 1, .bool false, .int .i64 0, .string ⟨#[]⟩], .int .i64 2, .int .i64 0]) (by simp [results, Try.results67, go_sem]) rfl ⟨rfl, two_new _ _ _⟩

set_option maxRecDepth 100000 in
set_option maxHeartbeats 4000000 in
theorem pk_firstInt (A : Option Addr) (bs : List UInt8) (n c : Nat) (w : World) (hn : n = bs.length) (hl : n ≤ maxLen) (h1n : 1 ≤ n) (hcap : n ≤ c) (hx : BytesAt w w.heap.size A bs) :
    Calls Try.prog 68 #[.slice A n c] w (FirstOf w (firstI (bs.drop 1))) := by
  unfold maxLen at hl
  have HX := Lib.hid hx
  have HN := Lib.hid hn
  clear hx hn
  by_cases h1 : n < 9
  · have HF : Hid (firstI (bs.drop 1) = (noV, 0, 8)) := Lib.hid (if_pos (by rw [List.length_drop, ← HN.out]; omega))
    have b1 : (n : Int) < 9 := by omega
    clear h1
    go_enter Try.func68, Try.ntmps68
    go_wp2
    rw [HF.out]
    exact bodyPost_ret (v := .tuple #[.agg #[.int .i64 0, .bool false, .int .i64 0, .string ⟨#[]⟩], .int .i64 0, .int .i64 8]) (by simp [results, Try.results68, go_sem]) rfl ⟨rfl, one_new _ _⟩
  · have b1 : ¬ (n : Int) < 9 := by omega
    have b2 : ¬ (n : Int) ≤ 8 := by omega
    have hc9 : 9 ≤ c := by omega
    obtain ⟨a, rfl⟩ : ∃ a, A = some a := by
      obtain ⟨a, ha, _⟩ := HX.out 0 _ (List.getElem?_eq_getElem (by rw [← HN.out]; omega))
      exact ⟨a, ha⟩
    go_enter Try.func68, Try.ntmps68
    go_wp2
    go_loopw [5, 15] (fun u i wr => ∃ k : Nat, k ≤ 8 ∧ i = .int .i64 k ∧ u = .int .u64 ((unbe ((bs.drop 1).take k) : Nat) : Int) ∧ wr = w.alloc (.cells #[.int .i64 0, .bool false, .int .i64 0, .string ⟨#[]⟩] 56)) (fun _ i _ => 8 - (intOf i).toNat)
    case atStart => exact ⟨0, Nat.zero_le _, rfl, rfl, rfl⟩
    case round =>
      obtain ⟨k, hk, rfl, rfl, rfl⟩ := hrel
      by_cases h2 : k < 8
      · obtain ⟨y, hy⟩ : ∃ y, bs[1 + k]? = some y := ⟨_, List.getElem?_eq_getElem (by rw [← HN.out]; omega)⟩
        obtain ⟨a', haa, hab, a0⟩ := HX.out (1 + k) y hy
        obtain rfl : a = a' := Option.some.inj haa
        have ha3 : a.add (1 + k) = { block := a.block, off := a.off + 1 + k } := by
          unfold Addr.add
          rw [if_neg (by omega), Nat.add_assoc]
        rw [ha3] at a0 hab
        have a2 : w.cell? { block := a.block, off := a.off + 1 + k } = some (.int .u8 (y.toNat : Int)) := a0
        have hab2 : a.block < w.heap.size := hab
        clear hab ha3
        obtain ⟨U, hU⟩ : ∃ U, unbe ((bs.drop 1).take k) = U := ⟨_, rfl⟩
        have hu1 : unbe ((bs.drop 1).take (k + 1)) = U * 256 + y.toNat := by
          rw [← hU]
          refine unbe_take _ k y ?_
          rw [List.getElem?_drop]
          exact hy
        have hlt : U < 256 ^ k := by
          rw [← hU]
          exact unbe_lt _ k
        have hlt2 : U < 72057594037927936 := Nat.lt_of_lt_of_le hlt (Nat.pow_le_pow_right (by omega) (by omega : k ≤ 7))
        rw [hU]
        have HU1 := Lib.hid hu1
        clear hu1 hU hlt haa a0 hy
        go_wp2
        go_roundw
        case rel => exact ⟨k + 1, by omega, by go_num, by rw [HU1.out, or_byte U y (by omega)], trivial⟩
        case measure => simp [intOf]; omega
      · obtain rfl : k = 8 := by omega
        obtain ⟨U, hU⟩ : ∃ U, unbe ((bs.drop 1).take 8) = U := ⟨_, rfl⟩
        have hlt : U < 18446744073709551616 := by
          rw [← hU]
          exact unbe_lt _ 8
        have HF : Hid (firstI (bs.drop 1) = (⟨2, false, (U : Int) - 9223372036854775808, ⟨#[]⟩⟩, 9, 0)) := Lib.hid (by
          unfold firstI
          rw [if_neg (by rw [List.length_drop, ← HN.out]; omega), hU])
        rw [hU]
        have HC := Lib.hid (conv_up U hlt)
        clear hlt hU h2
        go_wp2_with fail
        rw [HC.out]
        refine (mk_int _ _).mono ?_
        rintro e w2 ⟨rfl, rfl⟩
        go_wp2
        rw [HF.out]
        exact bodyPost_ret (v := .tuple #[.agg #[.int .i64 2, .bool false, .int .i64 ((U : Int) - 9223372036854775808), .string ⟨#[]⟩], .int .i64 9, .int .i64 0]) (by simp [results, Try.results68, go_sem]) rfl ⟨rfl, two_new _ _ _⟩
end Go.Proofs.Ytdlimephkjihbaa
