/-
  First of package pack answers the value that bytes begin with, how many bytes it has, or why there is none; at all bytes, in every world; nothing that was there is changed.
  No condition but that the bytes are no longer than they can be.
-/
import Derived.Test.YtdlimephkjihbaaPfi
namespace Go.Proofs.Ytdlimephkjihbaa
open Go.RowKit

theorem fr_nil : firstR [] = (noV, 0, 8) := rfl
theorem fr_at (bs : List UInt8) (x : UInt8) (hx : bs[0]? = some x) : firstR bs = if x = 1 then (noV, 1, 0) else if x = 2 then firstB (bs.drop 1) else if x = 3 then firstI (bs.drop 1) else if x = 4 then textR [] 1 (bs.drop 1) else (noV, 0, 7) := by
  have h := tx_drop bs 0 x hx
  rw [List.drop_zero] at h
  rw [h, firstR_cons]
  rfl
theorem fr_1 (bs : List UInt8) (x : UInt8) (hx : bs[0]? = some x) (h : x.toNat = 1) : firstR bs = (noV, 1, 0) := by
  rw [fr_at bs x hx, if_pos (UInt8.toNat_inj.1 h)]
theorem fr_2 (bs : List UInt8) (x : UInt8) (hx : bs[0]? = some x) (h : x.toNat = 2) : firstR bs = firstB (bs.drop 1) := by
  have e : x = 2 := UInt8.toNat_inj.1 h
  rw [fr_at bs x hx, if_neg (by rw [e]; decide), if_pos e]
theorem fr_3 (bs : List UInt8) (x : UInt8) (hx : bs[0]? = some x) (h : x.toNat = 3) : firstR bs = firstI (bs.drop 1) := by
  have e : x = 3 := UInt8.toNat_inj.1 h
  rw [fr_at bs x hx, if_neg (by rw [e]; decide), if_neg (by rw [e]; decide), if_pos e]
theorem fr_4 (bs : List UInt8) (x : UInt8) (hx : bs[0]? = some x) (h : x.toNat = 4) : firstR bs = textR [] 1 (bs.drop 1) := by
  have e : x = 4 := UInt8.toNat_inj.1 h
  rw [fr_at bs x hx, if_neg (by rw [e]; decide), if_neg (by rw [e]; decide), if_neg (by rw [e]; decide), if_pos e]
theorem fr_no (bs : List UInt8) (x : UInt8) (hx : bs[0]? = some x) (h1 : ¬ x.toNat = 1) (h2 : ¬ x.toNat = 2) (h3 : ¬ x.toNat = 3) (h4 : ¬ x.toNat = 4) : firstR bs = (noV, 0, 7) := by
  rw [fr_at bs x hx, if_neg (fun h => h1 (by rw [h]; rfl)), if_neg (fun h => h2 (by rw [h]; rfl)), if_neg (fun h => h3 (by rw [h]; rfl)), if_neg (fun h => h4 (by rw [h]; rfl))]

set_option maxRecDepth 100000 in
set_option maxHeartbeats 4000000 in
theorem pk_first (A : Option Addr) (bs : List UInt8) (n c : Nat) (w : World) (hn : n = bs.length) (hl : n ≤ maxLen) (hcap : n ≤ c) (hx : BytesAt w w.heap.size A bs) :
    Calls Try.prog 37 #[.slice A n c] w (FirstOf w (firstR bs)) := by
  unfold maxLen at hl
  have HX := Lib.hid hx
  have HN := Lib.hid hn
  clear hx hn
  by_cases h0 : n = 0
  · subst h0
    have hbs : bs = [] := List.length_eq_zero_iff.1 HN.out.symm
    have HF : Hid (firstR bs = (noV, 0, 8)) := Lib.hid (by rw [hbs]; rfl)
    clear hbs
    go_enter Try.func37, Try.ntmps37
    go_wp2
    rw [HF.out]
    exact bodyPost_ret (v := .tuple #[.agg #[.int .i64 0, .bool false, .int .i64 0, .string ⟨#[]⟩], .int .i64 0, .int .i64 8]) (by simp [results, Try.results37, go_sem]) rfl ⟨rfl, one_new _ _⟩
  · obtain ⟨x, hx⟩ : ∃ x, bs[0]? = some x := ⟨_, List.getElem?_eq_getElem (by rw [← HN.out]; omega)⟩
    obtain ⟨a, rfl, ha, a0⟩ := HX.out 0 x hx
    have a1 : w.cell? a = some (.int .u8 (x.toNat : Int)) := by simpa [Addr.add, bv] using a0
    have hab : a.block < w.heap.size := by simpa [Addr.add] using ha
    have hn0 : ((n : Int) == 0) = false := by
      rw [beq_eq_false_iff_ne]
      omega
    have hn1 : (0 : Int) < (n : Int) := by omega
    have hn2 : 0 < n := by omega
    clear a0 ha
    by_cases h1 : x.toNat = 1
    · have HF := Lib.hid (fr_1 bs x hx h1)
      have q1 : ((x.toNat : Int) == 1) = true := by rw [h1]; rfl
      have q2 : ((x.toNat : Int) == 2) = false := by rw [h1]; rfl
      have q3 : ((x.toNat : Int) == 3) = false := by rw [h1]; rfl
      have q4 : ((x.toNat : Int) == 4) = false := by rw [h1]; rfl
      clear h1 hx h0
      go_enter Try.func37, Try.ntmps37
      go_wp2_with (go_at_call 47; refine (mk_null _).mono ?_; rintro e w2 ⟨rfl, rfl⟩)
      rw [HF.out]
      exact bodyPost_ret (v := .tuple #[.agg #[.int .i64 0, .bool false, .int .i64 0, .string ⟨#[]⟩], .int .i64 1, .int .i64 0]) (by simp [results, Try.results37, go_sem]) rfl ⟨rfl, two_new _ _ _⟩
    by_cases h2 : x.toNat = 2
    · clear h1 h0
      obtain ⟨⟨⟨rk, rf, rn, rt⟩, rm, re⟩, hR⟩ : ∃ R, firstB (bs.drop 1) = R := ⟨_, rfl⟩
      have HR := Lib.hid (fr_2 bs x hx h2)
      rw [HR.out, hR]
      have HC := Lib.hid (fun W (h : Below w.heap.size w W) => pk_firstBool (some a) bs n c W HN.out hl (by omega) (HX.out.later h))
      have HRR := Lib.hid hR
      have q1 : ((x.toNat : Int) == 1) = false := by rw [h2]; rfl
      have q2 : ((x.toNat : Int) == 2) = true := by rw [h2]; rfl
      have q3 : ((x.toNat : Int) == 3) = false := by rw [h2]; rfl
      have q4 : ((x.toNat : Int) == 4) = false := by rw [h2]; rfl
      clear h2 hx hR
      go_enter Try.func37, Try.ntmps37
      go_wp2_with fail
      refine (HC.out _ (by exact one_new _ _)).mono ?_
      rintro e w2 ⟨rfl, hb2⟩
      rw [HRR.out]
      have HK2 := Lib.hid ((VBlk.new w w.heap.size 0 false 0 ⟨#[]⟩ rfl).below hb2 (by simp))
      have HB2 := Lib.hid (box_below hb2)
      obtain ⟨q0, q1', q2', q3'⟩ := HK2.out.cells
      obtain ⟨f0, f1, f2, f3⟩ := HK2.out.free
      clear hb2
      go_wp2
      obtain ⟨r0, r1, r2, r3⟩ := (HK2.out.put rk rf rn rt).cells
      refine bodyPost_ret (v := .tuple #[.agg #[.int .i64 rk, .bool rf, .int .i64 rn, .string rt], .int .i64 (rm : Int), .int .i64 re]) (by simp [results, Try.results37, r0, r1, r2, r3, go_sem]) rfl ?_
      exact ⟨rfl, put_below HB2.out _ _ _ _⟩
    by_cases h3 : x.toNat = 3
    · clear h1 h2 h0
      obtain ⟨⟨⟨rk, rf, rn, rt⟩, rm, re⟩, hR⟩ : ∃ R, firstI (bs.drop 1) = R := ⟨_, rfl⟩
      have HR := Lib.hid (fr_3 bs x hx h3)
      rw [HR.out, hR]
      have HC := Lib.hid (fun W (h : Below w.heap.size w W) => pk_firstInt (some a) bs n c W HN.out hl (by omega) hcap (HX.out.later h))
      have HRR := Lib.hid hR
      have q1 : ((x.toNat : Int) == 1) = false := by rw [h3]; rfl
      have q2 : ((x.toNat : Int) == 2) = false := by rw [h3]; rfl
      have q3 : ((x.toNat : Int) == 3) = true := by rw [h3]; rfl
      have q4 : ((x.toNat : Int) == 4) = false := by rw [h3]; rfl
      clear h3 hx hR
      go_enter Try.func37, Try.ntmps37
      go_wp2_with fail
      refine (HC.out _ (by exact one_new _ _)).mono ?_
      rintro e w2 ⟨rfl, hb2⟩
      rw [HRR.out]
      have HK2 := Lib.hid ((VBlk.new w w.heap.size 0 false 0 ⟨#[]⟩ rfl).below hb2 (by simp))
      have HB2 := Lib.hid (box_below hb2)
      obtain ⟨q0, q1', q2', q3'⟩ := HK2.out.cells
      obtain ⟨f0, f1, f2, f3⟩ := HK2.out.free
      clear hb2
      go_wp2
      obtain ⟨r0, r1, r2, r3⟩ := (HK2.out.put rk rf rn rt).cells
      refine bodyPost_ret (v := .tuple #[.agg #[.int .i64 rk, .bool rf, .int .i64 rn, .string rt], .int .i64 (rm : Int), .int .i64 re]) (by simp [results, Try.results37, r0, r1, r2, r3, go_sem]) rfl ?_
      exact ⟨rfl, put_below HB2.out _ _ _ _⟩
    by_cases h4 : x.toNat = 4
    · clear h1 h2 h3 h0
      obtain ⟨⟨⟨rk, rf, rn, rt⟩, rm, re⟩, hR⟩ : ∃ R, textR [] 1 (bs.drop 1) = R := ⟨_, rfl⟩
      have HR := Lib.hid (fr_4 bs x hx h4)
      rw [HR.out, hR]
      have HC := Lib.hid (fun W (h : Below w.heap.size w W) => pk_firstText (some a) bs n c W HN.out hl (by omega) (HX.out.later h))
      have HRR := Lib.hid hR
      have q1 : ((x.toNat : Int) == 1) = false := by rw [h4]; rfl
      have q2 : ((x.toNat : Int) == 2) = false := by rw [h4]; rfl
      have q3 : ((x.toNat : Int) == 3) = false := by rw [h4]; rfl
      have q4 : ((x.toNat : Int) == 4) = true := by rw [h4]; rfl
      clear h4 hx hR
      go_enter Try.func37, Try.ntmps37
      go_wp2_with fail
      refine (HC.out _ (by exact one_new _ _)).mono ?_
      rintro e w2 ⟨rfl, hb2⟩
      rw [HRR.out]
      have HK2 := Lib.hid ((VBlk.new w w.heap.size 0 false 0 ⟨#[]⟩ rfl).below hb2 (by simp))
      have HB2 := Lib.hid (box_below hb2)
      obtain ⟨q0, q1', q2', q3'⟩ := HK2.out.cells
      obtain ⟨f0, f1, f2, f3⟩ := HK2.out.free
      clear hb2
      go_wp2
      obtain ⟨r0, r1, r2, r3⟩ := (HK2.out.put rk rf rn rt).cells
      refine bodyPost_ret (v := .tuple #[.agg #[.int .i64 rk, .bool rf, .int .i64 rn, .string rt], .int .i64 (rm : Int), .int .i64 re]) (by simp [results, Try.results37, r0, r1, r2, r3, go_sem]) rfl ?_
      exact ⟨rfl, put_below HB2.out _ _ _ _⟩
    · have HF := Lib.hid (fr_no bs x hx h1 h2 h3 h4)
      have q1 : ((x.toNat : Int) == 1) = false := by
        rw [beq_eq_false_iff_ne]
        omega
      have q2 : ((x.toNat : Int) == 2) = false := by
        rw [beq_eq_false_iff_ne]
        omega
      have q3 : ((x.toNat : Int) == 3) = false := by
        rw [beq_eq_false_iff_ne]
        omega
      have q4 : ((x.toNat : Int) == 4) = false := by
        rw [beq_eq_false_iff_ne]
        omega
      clear h1 h2 h3 h4 hx h0
      go_enter Try.func37, Try.ntmps37
      go_wp2
      rw [HF.out]
      exact bodyPost_ret (v := .tuple #[.agg #[.int .i64 0, .bool false, .int .i64 0, .string ⟨#[]⟩], .int .i64 0, .int .i64 7]) (by simp [results, Try.results37, go_sem]) rfl ⟨rfl, one_new _ _⟩

end Go.Proofs.Ytdlimephkjihbaa
