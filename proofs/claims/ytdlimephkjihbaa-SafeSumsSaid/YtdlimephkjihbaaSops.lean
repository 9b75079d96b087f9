/-
  The document's own Add, Sub and Mul in big numbers answer as plain whole numbers do; and so SafeOps answers true.
  At every two numbers of 64 bits, in every world; nothing that was there is changed.
-/
import Derived.Test.YtdlimephkjihbaaBig5
import Derived.Test.YtdlimephkjihbaaBig6
import Derived.Test.YtdlimephkjihbaaSknown
import Derived.Deep.RegionWith
namespace Go.Proofs.Ytdlimephkjihbaa
open Go.RowKit

theorem lim_two (a b : Int) (ha : N64 a) (hb : N64 b) : a.natAbs + b.natAbs < lim := by
  obtain ⟨a0, a1⟩ := ha
  obtain ⟨b0, b1⟩ := hb
  have h : (36893488147419103232 : Nat) ≤ lim := by decide +kernel
  omega
theorem neg_one (b : Int) : (b * -1).natAbs = b.natAbs := by omega
theorem sg_not (ng : Bool) (u : Nat) : sg (!ng) u = sg ng u * -1 := by
  cases ng
  · show -(u : Int) = (u : Int) * -1
    omega
  · show (u : Int) = -(u : Int) * -1
    omega

set_option maxHeartbeats 1000000 in
theorem r_add (a b : Int) (ha : N64 a) (hb : N64 b) (w : World) : Calls Try.prog 18 #[.int .i64 a, .int .i64 b] w
    fun e w' => e = .returned (.tuple #[.int .i64 (fitV (a + b)), .int .i64 (fitE (a + b))]) ∧ Below w.heap.size w w' := by
  have HA := Lib.hid (fun W => big_big a ha W)
  have HB := Lib.hid (fun W => big_big b hb W)
  have HL := Lib.hid (lim_two a b ha hb)
  clear ha hb
  go_enter Try.func18, Try.ntmps18
  go_wp2_with fail
  refine (HA.out _).mono ?_
  rintro e w1 ⟨v1, rfl, h1, hb1, _⟩
  have H1 := Lib.hid h1
  have HB1 := Lib.hid hb1
  clear h1 hb1
  go_wp2_with fail
  refine (HB.out _).mono ?_
  rintro e w2 ⟨v2, rfl, h2, hb2, _⟩
  have H1' := Lib.hid (H1.out.later hb2)
  have H2 := Lib.hid h2
  have HB2 := Lib.hid (HB1.out.trans (hb2.mono HB1.out.size))
  clear h2 hb2
  go_wp2_with fail
  refine (big_plus v1 v2 a b _ H1'.out H2.out HL).mono ?_
  rintro e w3 ⟨v3, rfl, h3, hb3, _⟩
  have H3 := Lib.hid h3
  have HB3 := Lib.hid (HB2.out.trans (hb3.mono HB2.out.size))
  clear h3 hb3
  go_wp2_with fail
  refine (big_value v3 (a + b) _ H3.out).mono ?_
  rintro e w4 ⟨rfl, hb4⟩
  go_wp2
  go_ret2
  exact ⟨rfl, HB3.out.trans (hb4.mono HB3.out.size)⟩

set_option maxHeartbeats 1000000 in
theorem r_mul (a b : Int) (ha : N64 a) (hb : N64 b) (w : World) : Calls Try.prog 22 #[.int .i64 a, .int .i64 b] w
    fun e w' => e = .returned (.tuple #[.int .i64 (fitV (a * b)), .int .i64 (fitE (a * b))]) ∧ Below w.heap.size w w' := by
  have HA := Lib.hid (fun W => big_times a b ha hb W)
  clear ha hb
  go_enter Try.func22, Try.ntmps22
  go_wp2_with fail
  refine (HA.out _).mono ?_
  rintro e w1 ⟨v1, rfl, h1, hb1, _⟩
  have H1 := Lib.hid h1
  have HB1 := Lib.hid hb1
  clear h1 hb1
  go_wp2_with fail
  refine (big_value v1 (a * b) _ H1.out).mono ?_
  rintro e w4 ⟨rfl, hb4⟩
  go_wp2
  go_ret2
  exact ⟨rfl, HB1.out.trans (hb4.mono HB1.out.size)⟩

set_option maxHeartbeats 2000000 in
theorem r_sub (a b : Int) (ha : N64 a) (hb : N64 b) (w : World) (z : Int) (hz : b * -1 = z) : Calls Try.prog 20 #[.int .i64 a, .int .i64 b] w
    fun e w' => e = .returned (.tuple #[.int .i64 (fitV (a + z)), .int .i64 (fitE (a + z))]) ∧ Below w.heap.size w w' := by
  have HA := Lib.hid (fun W => big_big a ha W)
  have HB := Lib.hid (fun W => big_big b hb W)
  have HL : Hid (a.natAbs + z.natAbs < lim) := Lib.hid (by
    rw [← hz, neg_one b]
    exact lim_two a b ha hb)
  have HZ := Lib.hid hz
  clear ha hb hz
  go_enter Try.func20, Try.ntmps20
  go_wp2_with fail
  refine (HB.out _).mono ?_
  rintro e w1 ⟨v1, rfl, ⟨ng, A, n, c, ds, rfl, hn, hx, hd, hzz⟩, hb1, _⟩
  obtain ⟨mg, hmg⟩ : ∃ mg, (!ng) = mg := ⟨_, rfl⟩
  have H2 : Hid (∀ W, Below w1.heap.size w1 W → BigIs W (.agg #[.bool mg, .slice A n c]) z) := Lib.hid (fun W h => BigIs.later (⟨mg, A, n, c, ds, rfl, hn, hx, hd, by rw [← HZ.out, hzz, ← hmg, sg_not]⟩) h)
  have HMG := Lib.hid hmg
  have HB1 := Lib.hid hb1
  clear hn hx hd hzz hmg hb1
  have HK := Lib.hid (BBlk.new w1 w1.heap.size mg (.slice A n c) rfl)
  have HBK : Hid (Below w1.heap.size w1 (w1.alloc (.cells #[.bool mg, .slice A n c] 41))) := Lib.hid (one_new _ _)
  obtain ⟨p0, p1⟩ := HK.out.cells
  go_wp2
  rw [HMG.out]
  go_region_held3 (fun w' => w'.cell? ⟨w1.heap.size, 0, none⟩ = some (.bool mg) ∧ w'.cell? ⟨w1.heap.size, 1, none⟩ = some (.slice A n c)) (go_keep) (first
    | (go_at_call 58; refine (HA.out _).mono ?_; rintro e wa ⟨v1, rfl, h1, hba, _⟩; have H1 := Lib.hid h1; have HCa : Hid (Below w1.heap.size w1 wa) := Lib.hid (HBK.out.drew.trans (hba.mono HBK.out.size)); have HKa := Lib.hid (HK.out.drew.below hba HK.out.lt); obtain ⟨p0, p1⟩ := HKa.out.cells; clear h1 hba)
    | (go_at_call 25; refine (big_plus v1 _ a z _ (by exact H1.out) (H2.out _ (by exact HCa.out)) HL).mono ?_; rintro e wb ⟨v3, rfl, h3, hbb, _⟩; have H3 := Lib.hid h3; have HCb : Hid (Below w1.heap.size w1 wb) := Lib.hid (HCa.out.trans (hbb.mono HCa.out.size)); have HKb := Lib.hid (HKa.out.below hbb HKa.out.lt); obtain ⟨p0, p1⟩ := HKb.out.cells; clear h3 hbb)
    | (go_at_call 28; refine (big_value v3 (a + z) _ (by exact H3.out)).mono ?_; rintro e wc ⟨rfl, hbc⟩; have HCc : Hid (Below w1.heap.size w1 wc) := Lib.hid (HCb.out.trans (hbc.mono HCb.out.size)); have HKc := Lib.hid (HKb.out.below hbc HKb.out.lt); obtain ⟨p0, p1⟩ := HKc.out.cells; clear hbc))
  all_goals
    go_wp2
    go_ret2
    exact ⟨rfl, HB1.out.trans (HCc.out.mono HB1.out.size)⟩
end Go.Proofs.Ytdlimephkjihbaa
