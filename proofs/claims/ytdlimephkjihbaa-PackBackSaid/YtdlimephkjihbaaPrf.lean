/-
  The document's own First, and its text, answer the value that bytes begin with, how many bytes it has, or why there is none; at all bytes, in every world; nothing that was there is changed.
  No condition but that the bytes are no longer than they can be.
-/
import Derived.Test.YtdlimephkjihbaaPfirst
namespace Go.Proofs.Ytdlimephkjihbaa
open Go.RowKit

theorem put_below2 {w w1 : World} {B : Nat} (h : Below B w w1) (g : Nat) (hg : B ≤ g) (k' : Int) (f' : Bool) (n' : Int) (t' : ByteArray) :
    Below B w ((((w1.setCell ⟨g, 0, none⟩ (.int .i64 k')).setCell ⟨g, 1, none⟩ (.bool f')).setCell ⟨g, 2, none⟩ (.int .i64 n')).setCell ⟨g, 3, none⟩ (.string t')) :=
  (((h.setCell hg _).setCell hg _).setCell hg _).setCell hg _
theorem VBlk.alloc {w : World} {g : Nat} {k : Int} {f : Bool} {n : Int} {t : ByteArray} (h : VBlk w g k f n t) (o : Obj) : VBlk (w.alloc o) g k f n t := h.below (one_new w o) h.lt
theorem mul_add_byte (U : Nat) (y : UInt8) : ((U : Int) * 256 + (y.toNat : Int)) = ((U * 256 + y.toNat : Nat) : Int) := by omega

set_option maxRecDepth 100000 in
set_option maxHeartbeats 4000000 in
theorem rpk_text (A : Option Addr) (bs : List UInt8) (n c : Nat) (w : World) (hn : n = bs.length) (hl : n ≤ maxLen) (h1n : 1 ≤ n) (hx : BytesAt w w.heap.size A bs) :
    Calls Try.prog 70 #[.slice A n c] w (FirstOf w (textR [] 1 (bs.drop 1))) := by
  unfold maxLen at hl
  have HX := Lib.hid hx
  have HN := Lib.hid hn
  clear hx hn
  obtain ⟨R, hR⟩ : ∃ R, textR [] 1 (bs.drop 1) = R := ⟨_, rfl⟩
  rw [hR]
  have HR := Lib.hid hR
  clear hR
  go_enter Try.func70, Try.ntmps70
  go_wp2
  go_loopw [6, 7] (fun v i wr => ∃ (k : Nat) (out : List UInt8), 1 ≤ k ∧ k ≤ n ∧ i = .int .i64 k ∧ out.length ≤ 60 ∧ OwnB wr (w.heap.size + 1 + 1) v out ∧ textR out k (bs.drop k) = R ∧ VBlk wr w.heap.size 0 false 0 ⟨#[]⟩ ∧ VBlk wr (w.heap.size + 1) 0 false 0 ⟨#[]⟩ ∧ Below w.heap.size w wr) (fun _ i _ => n - (intOf i).toNat)
  case atStart => exact ⟨1, [], Nat.le_refl _, h1n, rfl, by simp, OwnB.nil _ _, HR.out, (VBlk.new w _ 0 false 0 ⟨#[]⟩ rfl).alloc _, VBlk.new (w.alloc _) _ 0 false 0 ⟨#[]⟩ (by simp), two_new _ _ _⟩
  case round =>
    obtain ⟨k, out, hk1, hkn, rfl, hol, hown, hr, hblk, hblk2, hb⟩ := hrel
    obtain ⟨A1, c1, rfl, hcv⟩ := conv_form hown
    have HO := Lib.hid hown
    have HRR := Lib.hid hr
    have HB := Lib.hid hb
    have HK := Lib.hid hblk
    have HK2 := Lib.hid hblk2
    have hsz : w.heap.size + 1 + 1 ≤ wr.heap.size := hblk2.lt
    obtain ⟨q0, q1, q2, q3⟩ := hblk.cells
    obtain ⟨f0, f1, f2, f3⟩ := hblk.free
    obtain ⟨p0, p1, p2, p3⟩ := hblk2.cells
    clear hown hr hblk hblk2
    by_cases h1 : k < n
    · obtain ⟨x, hx⟩ : ∃ x, bs[k]? = some x := ⟨_, List.getElem?_eq_getElem (by rw [← HN.out]; exact h1)⟩
      obtain ⟨a, rfl, ha, a0⟩ := (HX.out.below hb) k x hx
      have a1 : wr.cell? (a.add k) = some (.int .u8 (x.toNat : Int)) := a0
      have HXK := Lib.hid hx
      clear hx a0 hb
      by_cases h2 : x.toNat = 0
      · have b2 : ((x.toNat : Int) == 0) = true := by rw [h2]; rfl
        have hx0 := Lib.hid (byte_zero h2)
        clear h2
        by_cases h3 : k + 1 < n
        · obtain ⟨y, hy⟩ : ∃ y, bs[k + 1]? = some y := ⟨_, List.getElem?_eq_getElem (by rw [← HN.out]; exact h3)⟩
          obtain ⟨a', haa, hb', a0'⟩ := (HX.out.below HB.out) (k + 1) y hy
          obtain rfl : a = a' := Option.some.inj haa
          have a2 : wr.cell? { block := a.block, off := a.off + (k + 1) } = some (.int .u8 (y.toNat : Int)) := by simpa [Addr.add, bv] using a0'
          have HY := Lib.hid hy
          have b3 : ¬ (n : Int) ≤ (k : Int) + 1 := by omega
          clear hy haa a0'
          by_cases h4 : y.toNat = 1
          · have b4 : ((y.toNat : Int) == 1) = true := by rw [h4]; rfl
            have HF : Hid (R = (⟨3, false, 0, ⟨out.toArray⟩⟩, k + 2, 0)) := Lib.hid (by rw [← HRR.out]; exact tx_one bs out k x y HXK.out hx0.out HY.out (byte_one h4))
            clear h4
            go_wp2
            obtain ⟨r0, r1, r2, r3⟩ := (HK.out.put 3 false 0 ⟨out.toArray⟩).cells
            refine bodyPost_ret (v := .tuple #[.agg #[.int .i64 3, .bool false, .int .i64 0, .string ⟨out.toArray⟩], .int .i64 ((k : Int) + 1 + 1), .int .i64 0]) (by simp [results, Try.results70, r0, r1, r2, r3, go_sem]) rfl ?_
            rw [HF.out]
            exact ⟨rfl, put_below HB.out _ _ _ _⟩
          · have b4 : ((y.toNat : Int) == 1) = false := by
              rw [beq_eq_false_iff_ne]
              omega
            have hy1 : Hid (¬ y = 1) := Lib.hid (fun h => h4 (by rw [h]; rfl))
            clear h4
            by_cases h5 : y.toNat = 255
            · have b5 : ((y.toNat : Int) == 255) = true := by rw [h5]; rfl
              have b5' : ((y.toNat : Int) != 255) = false := by rw [h5]; rfl
              have hy2 := Lib.hid (byte_ff h5)
              clear h5
              by_cases h6 : 60 ≤ out.length
              · have b6 : (60 : Int) ≤ (out.length : Int) := by omega
                have HF : Hid (R = (noV, 0, 9)) := Lib.hid (by rw [← HRR.out]; exact tx_long0 bs out k x y HXK.out hx0.out HY.out hy1.out hy2.out h6)
                clear h6
                go_wp2
                obtain ⟨r0, r1, r2, r3⟩ := (HK.out.put 0 false 0 ⟨#[]⟩).cells
                refine bodyPost_ret (v := .tuple #[.agg #[.int .i64 0, .bool false, .int .i64 0, .string ⟨#[]⟩], .int .i64 0, .int .i64 9]) (by simp [results, Try.results70, r0, r1, r2, r3, go_sem]) rfl ?_
                rw [HF.out]
                exact ⟨rfl, put_below HB.out _ _ _ _⟩
              · have hlt : out.length < 60 := by omega
                have b6 : ¬ (60 : Int) ≤ (out.length : Int) := by omega
                have HF : Hid (textR (out ++ [x]) (k + 2) (bs.drop (k + 2)) = R) := Lib.hid (by rw [← HRR.out]; exact (tx_esc bs out k x y HXK.out hx0.out HY.out hy1.out hy2.out h6).symm)
                clear h6
                go_wp2_with (at_builtin; refine wp_append_B _ rfl (.tmp 49) (.tmp 51) rfl (w.heap.size + 1 + 1) _ out [x] rfl (by exact HO.out) _ (by rfl) _ _ _ rfl rfl rfl (by simp; omega) (by exact hsz) ?_; intro v1 w1 ho1 hb1)
                go_roundw
                case rel => exact ⟨k + 2, out ++ [x], by omega, by omega, by go_num, by simp; omega, ho1, HF.out, HK.out.below hb1 (by omega), HK2.out.below hb1 (by omega), HB.out.trans (hb1.mono (by omega))⟩
                case measure => simp [intOf]; omega
            · have b5 : ((y.toNat : Int) == 255) = false := by
                rw [beq_eq_false_iff_ne]
                omega
              have b5' : ((y.toNat : Int) != 255) = true := by
                rw [bne, b5]
                rfl
              have HF : Hid (R = (noV, 0, 7)) := Lib.hid (by rw [← HRR.out]; exact tx_form bs out k x y HXK.out hx0.out HY.out hy1.out (fun h => h5 (by rw [h]; rfl)))
              clear h5
              go_wp2
              obtain ⟨r0, r1, r2, r3⟩ := (HK.out.put 0 false 0 ⟨#[]⟩).cells
              refine bodyPost_ret (v := .tuple #[.agg #[.int .i64 0, .bool false, .int .i64 0, .string ⟨#[]⟩], .int .i64 0, .int .i64 7]) (by simp [results, Try.results70, r0, r1, r2, r3, go_sem]) rfl ?_
              rw [HF.out]
              exact ⟨rfl, put_below HB.out _ _ _ _⟩
        · have b3 : (n : Int) ≤ (k : Int) + 1 := by omega
          have HF : Hid (R = (noV, 0, 8)) := Lib.hid (by rw [← HRR.out]; exact tx_short bs out k x HXK.out hx0.out (by rw [← HN.out]; omega))
          go_wp2
          obtain ⟨r0, r1, r2, r3⟩ := (HK.out.put 0 false 0 ⟨#[]⟩).cells
          refine bodyPost_ret (v := .tuple #[.agg #[.int .i64 0, .bool false, .int .i64 0, .string ⟨#[]⟩], .int .i64 0, .int .i64 8]) (by simp [results, Try.results70, r0, r1, r2, r3, go_sem]) rfl ?_
          rw [HF.out]
          exact ⟨rfl, put_below HB.out _ _ _ _⟩
      · have b2 : ((x.toNat : Int) == 0) = false := by
          rw [beq_eq_false_iff_ne]
          omega
        have hx0 : Hid (¬ x = 0) := Lib.hid (fun h => h2 (by rw [h]; rfl))
        clear h2
        by_cases h6 : 60 ≤ out.length
        · have b6 : (60 : Int) ≤ (out.length : Int) := by omega
          have HF : Hid (R = (noV, 0, 9)) := Lib.hid (by rw [← HRR.out]; exact tx_long bs out k x HXK.out hx0.out h6)
          clear h6
          go_wp2
          obtain ⟨r0, r1, r2, r3⟩ := (HK.out.put 0 false 0 ⟨#[]⟩).cells
          refine bodyPost_ret (v := .tuple #[.agg #[.int .i64 0, .bool false, .int .i64 0, .string ⟨#[]⟩], .int .i64 0, .int .i64 9]) (by simp [results, Try.results70, r0, r1, r2, r3, go_sem]) rfl ?_
          rw [HF.out]
          exact ⟨rfl, put_below HB.out _ _ _ _⟩
        · have hlt : out.length < 60 := by omega
          have b6 : ¬ (60 : Int) ≤ (out.length : Int) := by omega
          have HF : Hid (textR (out ++ [x]) (k + 1) (bs.drop (k + 1)) = R) := Lib.hid (by rw [← HRR.out]; exact (tx_next bs out k x HXK.out hx0.out h6).symm)
          clear h6
          go_wp2_with (at_builtin; refine wp_append_B _ rfl (.tmp 49) (.tmp 51) rfl (w.heap.size + 1 + 1) _ out [x] rfl (by exact HO.out) _ (by rfl) _ _ _ rfl rfl rfl (by simp; omega) (by exact hsz) ?_; intro v1 w1 ho1 hb1)
          go_roundw
          case rel => exact ⟨k + 1, out ++ [x], by omega, by omega, by go_num, by simp; omega, ho1, HF.out, HK.out.below hb1 (by omega), HK2.out.below hb1 (by omega), HB.out.trans (hb1.mono (by omega))⟩
          case measure => simp [intOf]; omega
    · have HF : Hid (R = (noV, 0, 8)) := Lib.hid (by rw [← HRR.out]; exact tx_end bs out k (by rw [← HN.out]; omega))
      go_wp2
      obtain ⟨r0, r1, r2, r3⟩ := (HK.out.put 0 false 0 ⟨#[]⟩).cells
      refine bodyPost_ret (v := .tuple #[.agg #[.int .i64 0, .bool false, .int .i64 0, .string ⟨#[]⟩], .int .i64 0, .int .i64 8]) (by simp [results, Try.results70, r0, r1, r2, r3, go_sem]) rfl ?_
      rw [HF.out]
      exact ⟨rfl, put_below HB.out _ _ _ _⟩

set_option maxRecDepth 100000 in
set_option maxHeartbeats 4000000 in
theorem rpk_first (A : Option Addr) (bs : List UInt8) (n c : Nat) (w : World) (hn : n = bs.length) (hl : n ≤ maxLen) (hcap : n ≤ c) (hx : BytesAt w w.heap.size A bs) :
    Calls Try.prog 38 #[.slice A n c] w (FirstOf w (firstR bs)) := by
  unfold maxLen at hl
  have HX := Lib.hid hx
  have HN := Lib.hid hn
  clear hx hn
  by_cases h0 : n = 0
  · subst h0
    have hbs : bs = [] := List.length_eq_zero_iff.1 HN.out.symm
    have HF : Hid (firstR bs = (noV, 0, 8)) := Lib.hid (by rw [hbs]; rfl)
    clear hbs
    go_enter Try.func38, Try.ntmps38
    go_wp2
    rw [HF.out]
    exact bodyPost_ret (v := .tuple #[.agg #[.int .i64 0, .bool false, .int .i64 0, .string ⟨#[]⟩], .int .i64 0, .int .i64 8]) (by simp [results, Try.results38, go_sem]) rfl ⟨rfl, two_new _ _ _⟩
  · obtain ⟨x, hx⟩ : ∃ x, bs[0]? = some x := ⟨_, List.getElem?_eq_getElem (by rw [← HN.out]; omega)⟩
    obtain ⟨a, rfl, ha, a0⟩ := HX.out 0 x hx
    have a1 : w.cell? a = some (.int .u8 (x.toNat : Int)) := by simpa [Addr.add, bv] using a0
    have hab : a.block < w.heap.size := by simpa [Addr.add] using ha
    have hn0 : ((n : Int) == 0) = false := by
      rw [beq_eq_false_iff_ne]
      omega
    have hn1 : (0 : Int) < (n : Int) := by omega
    have hn2 : 0 < n := by omega
    clear a0 ha
    by_cases h1 : x.toNat = 1
    · have HF := Lib.hid (fr_1 bs x hx h1)
      have q1 : ((x.toNat : Int) == 1) = true := by rw [h1]; rfl
      have q2 : ((x.toNat : Int) == 2) = false := by rw [h1]; rfl
      have q3 : ((x.toNat : Int) == 3) = false := by rw [h1]; rfl
      have q4 : ((x.toNat : Int) == 4) = false := by rw [h1]; rfl
      clear h1 hx h0
      go_enter Try.func38, Try.ntmps38
      go_wp2
      rw [HF.out]
      exact bodyPost_ret (v := .tuple #[.agg #[.int .i64 0, .bool false, .int .i64 0, .string ⟨#[]⟩], .int .i64 1, .int .i64 0]) (by simp [results, Try.results38, go_sem]) rfl ⟨rfl, two_new _ _ _⟩
    by_cases h2 : x.toNat = 2
    · have HF0 := Lib.hid (fr_2 bs x hx h2)
      have q1 : ((x.toNat : Int) == 1) = false := by rw [h2]; rfl
      have q2 : ((x.toNat : Int) == 2) = true := by rw [h2]; rfl
      have q3 : ((x.toNat : Int) == 3) = false := by rw [h2]; rfl
      have q4 : ((x.toNat : Int) == 4) = false := by rw [h2]; rfl
      clear h1 h2 hx h0
      by_cases h1 : n < 2
      · have HF : Hid (firstR bs = (noV, 0, 8)) := Lib.hid (by rw [HF0.out]; exact fb_short bs (by rw [← HN.out]; exact h1))
        have b1 : (n : Int) < 2 := by omega
        clear h1
        go_enter Try.func38, Try.ntmps38
        go_wp2
        rw [HF.out]
        exact bodyPost_ret (v := .tuple #[.agg #[.int .i64 0, .bool false, .int .i64 0, .string ⟨#[]⟩], .int .i64 0, .int .i64 8]) (by simp [results, Try.results38, go_sem]) rfl ⟨rfl, two_new _ _ _⟩
      · obtain ⟨y, hy⟩ : ∃ y, bs[1]? = some y := ⟨_, List.getElem?_eq_getElem (by rw [← HN.out]; omega)⟩
        obtain ⟨a', haa, ha, a0⟩ := HX.out 1 y hy
        obtain rfl : a = a' := Option.some.inj haa
        have a2 : w.cell? { block := a.block, off := a.off + 1 } = some (.int .u8 (y.toNat : Int)) := by simpa [Addr.add, bv] using a0
        have b1 : ¬ (n : Int) < 2 := by omega
        have b2 : (1 : Int) < (n : Int) := by omega
        clear h1 a0 ha haa
        by_cases h2 : 1 < y.toNat
        · have HF : Hid (firstR bs = (noV, 0, 7)) := Lib.hid (by rw [HF0.out]; exact fb_form bs y hy h2)
          have b3 : (1 : Int) < (y.toNat : Int) := by omega
          clear h2 hy
          go_enter Try.func38, Try.ntmps38
          go_wp2
          rw [HF.out]
          exact bodyPost_ret (v := .tuple #[.agg #[.int .i64 0, .bool false, .int .i64 0, .string ⟨#[]⟩], .int .i64 0, .int .i64 7]) (by simp [results, Try.results38, go_sem]) rfl ⟨rfl, two_new _ _ _⟩
        · have b3 : ¬ (1 : Int) < (y.toNat : Int) := by omega
          by_cases h3 : y.toNat = 1
          · have HF : Hid (firstR bs = (⟨1, true, 0, ⟨#[]⟩⟩, 2, 0)) := Lib.hid (by rw [HF0.out]; exact fb_one bs y hy h3)
            have b4 : ((y.toNat : Int) == 1) = true := by rw [h3]; rfl
            clear h2 hy h3
            go_enter Try.func38, Try.ntmps38
            go_wp2
            rw [HF.out]
            exact bodyPost_ret (v := .tuple #[.agg #[.int .i64 1, .bool true, .int .i64 0, .string ⟨#[]⟩], .int .i64 2, .int .i64 0]) (by simp [results, Try.results38, go_sem]) rfl ⟨rfl, two_new _ _ _⟩
          · have HF : Hid (firstR bs = (⟨1, false, 0, ⟨#[]⟩⟩, 2, 0)) := Lib.hid (by rw [HF0.out]; exact fb_zero bs y hy (by omega))
            have b4 : ((y.toNat : Int) == 1) = false := by
              rw [beq_eq_false_iff_ne]
              omega
            clear h2 hy h3
            go_enter Try.func38, Try.ntmps38
            go_wp2
            rw [HF.out]
            exact bodyPost_ret (v := .tuple #[.agg #[.int .i64 1, .bool false, .int .i64 0, .string ⟨#[]⟩], .int .i64 2, .int .i64 0]) (by simp [results, Try.results38, go_sem]) rfl ⟨rfl, two_new _ _ _⟩
    by_cases h3 : x.toNat = 3
    · have HF0 := Lib.hid (fr_3 bs x hx h3)
      have q1 : ((x.toNat : Int) == 1) = false := by rw [h3]; rfl
      have q2 : ((x.toNat : Int) == 2) = false := by rw [h3]; rfl
      have q3 : ((x.toNat : Int) == 3) = true := by rw [h3]; rfl
      have q4 : ((x.toNat : Int) == 4) = false := by rw [h3]; rfl
      clear h1 h2 hx h0 h3
      by_cases h1 : n < 9
      · have HF : Hid (firstR bs = (noV, 0, 8)) := Lib.hid (by rw [HF0.out]; exact if_pos (by rw [List.length_drop, ← HN.out]; omega))
        have b1 : (n : Int) < 9 := by omega
        clear h1
        go_enter Try.func38, Try.ntmps38
        go_wp2
        rw [HF.out]
        exact bodyPost_ret (v := .tuple #[.agg #[.int .i64 0, .bool false, .int .i64 0, .string ⟨#[]⟩], .int .i64 0, .int .i64 8]) (by simp [results, Try.results38, go_sem]) rfl ⟨rfl, two_new _ _ _⟩
      · have b1 : ¬ (n : Int) < 9 := by omega
        go_enter Try.func38, Try.ntmps38
        go_wp2
        go_loopw [6, 7] (fun u i wr => ∃ k : Nat, 1 ≤ k ∧ k ≤ 9 ∧ i = .int .i64 k ∧ u = .int .u64 ((unbe ((bs.drop 1).take (k - 1)) : Nat) : Int) ∧ wr = (w.alloc (.cells #[.int .i64 0, .bool false, .int .i64 0, .string ⟨#[]⟩] 56)).alloc (.cells #[.int .i64 0, .bool false, .int .i64 0, .string ⟨#[]⟩] 56)) (fun _ i _ => 9 - (intOf i).toNat)
        case atStart => exact ⟨1, Nat.le_refl _, by omega, rfl, rfl, rfl⟩
        case round =>
          obtain ⟨k, hk1, hk, rfl, rfl, rfl⟩ := hrel
          by_cases h2 : k < 9
          · obtain ⟨y, hy⟩ : ∃ y, bs[k]? = some y := ⟨_, List.getElem?_eq_getElem (by rw [← HN.out]; omega)⟩
            obtain ⟨a', haa, hab2, a0⟩ := HX.out k y hy
            obtain rfl : a = a' := Option.some.inj haa
            have a2 : w.cell? (a.add k) = some (.int .u8 (y.toNat : Int)) := a0
            obtain ⟨U, hU⟩ : ∃ U, unbe ((bs.drop 1).take (k - 1)) = U := ⟨_, rfl⟩
            have hu1 : unbe ((bs.drop 1).take (k + 1 - 1)) = U * 256 + y.toNat := by
              rw [← hU, show k + 1 - 1 = (k - 1) + 1 from by omega]
              refine unbe_take _ (k - 1) y ?_
              rw [List.getElem?_drop, show 1 + (k - 1) = k from by omega]
              exact hy
            have hlt : U < 256 ^ (k - 1) := by
              rw [← hU]
              exact unbe_lt _ (k - 1)
            have hlt2 : U < 72057594037927936 := Nat.lt_of_lt_of_le hlt (Nat.pow_le_pow_right (by omega) (by omega : k - 1 ≤ 7))
            have hyl := y.toNat_lt
            have hkn : k < n := by omega
            rw [hU]
            have HU1 := Lib.hid hu1
            clear hu1 hU hlt haa a0 hy
            go_wp2
            go_roundw
            case rel => exact ⟨k + 1, by omega, by omega, by go_num, by rw [HU1.out]; first | (rw [← mul_add_byte]; done) | (rw [← mul_add_byte, wrap_u64', wrap_u64']; congr 1; omega) | (rw [← mul_add_byte, wrap_u64']; congr 1; omega), trivial⟩
            case measure => simp [intOf]; omega
          · obtain rfl : k = 9 := by omega
            obtain ⟨U, hU⟩ : ∃ U, unbe ((bs.drop 1).take (9 - 1)) = U := ⟨_, rfl⟩
            have hlt : U < 18446744073709551616 := by
              rw [← hU]
              exact unbe_lt _ 8
            have HF : Hid (firstR bs = (⟨2, false, (U : Int) - 9223372036854775808, ⟨#[]⟩⟩, 9, 0)) := Lib.hid (by
              rw [HF0.out]
              unfold firstI
              rw [if_neg (by rw [List.length_drop, ← HN.out]; omega), ← hU])
            rw [hU]
            have HC := Lib.hid (conv_up U hlt)
            clear hlt hU h2
            go_wp2
            rw [HC.out]
            rw [HF.out]
            exact bodyPost_ret (v := .tuple #[.agg #[.int .i64 2, .bool false, .int .i64 ((U : Int) - 9223372036854775808), .string ⟨#[]⟩], .int .i64 9, .int .i64 0]) (by simp [results, Try.results38, go_sem]) rfl ⟨rfl, two_new _ _ _⟩
    by_cases h4 : x.toNat = 4
    · obtain ⟨⟨⟨rk, rf, rn, rt⟩, rm, re⟩, hR⟩ : ∃ R, textR [] 1 (bs.drop 1) = R := ⟨_, rfl⟩
      have HR := Lib.hid (fr_4 bs x hx h4)
      rw [HR.out, hR]
      have HC := Lib.hid (fun W (h : Below w.heap.size w W) => rpk_text (some a) bs n c W HN.out hl (by omega) (HX.out.later h))
      have HRR := Lib.hid hR
      have q1 : ((x.toNat : Int) == 1) = false := by rw [h4]; rfl
      have q2 : ((x.toNat : Int) == 2) = false := by rw [h4]; rfl
      have q3 : ((x.toNat : Int) == 3) = false := by rw [h4]; rfl
      have q4 : ((x.toNat : Int) == 4) = true := by rw [h4]; rfl
      clear h1 h2 h3 h4 hx h0 hR
      go_enter Try.func38, Try.ntmps38
      go_wp2_with fail
      refine (HC.out _ (by exact two_new _ _ _)).mono ?_
      rintro e w2 ⟨rfl, hb2⟩
      rw [HRR.out]
      have HK2 := Lib.hid (((VBlk.new w w.heap.size 0 false 0 ⟨#[]⟩ rfl).alloc _).below hb2 (by simp; omega))
      have HB2 := Lib.hid ((two_new w _ _).trans (hb2.mono (by simp; omega)))
      obtain ⟨q0, q1', q2', q3'⟩ := HK2.out.cells
      obtain ⟨f0, f1, f2, f3⟩ := HK2.out.free
      clear hb2
      go_wp2
      obtain ⟨r0, r1, r2, r3⟩ := (HK2.out.put rk rf rn rt).cells
      refine bodyPost_ret (v := .tuple #[.agg #[.int .i64 rk, .bool rf, .int .i64 rn, .string rt], .int .i64 (rm : Int), .int .i64 re]) (by simp [results, Try.results38, r0, r1, r2, r3, go_sem]) rfl ?_
      exact ⟨rfl, put_below HB2.out _ _ _ _⟩
    · have HF := Lib.hid (fr_no bs x hx h1 h2 h3 h4)
      have q1 : ((x.toNat : Int) == 1) = false := by
        rw [beq_eq_false_iff_ne]
        omega
      have q2 : ((x.toNat : Int) == 2) = false := by
        rw [beq_eq_false_iff_ne]
        omega
      have q3 : ((x.toNat : Int) == 3) = false := by
        rw [beq_eq_false_iff_ne]
        omega
      have q4 : ((x.toNat : Int) == 4) = false := by
        rw [beq_eq_false_iff_ne]
        omega
      clear h1 h2 h3 h4 hx h0
      go_enter Try.func38, Try.ntmps38
      go_wp2
      rw [HF.out]
      exact bodyPost_ret (v := .tuple #[.agg #[.int .i64 0, .bool false, .int .i64 0, .string ⟨#[]⟩], .int .i64 0, .int .i64 7]) (by simp [results, Try.results38, go_sem]) rfl ⟨rfl, two_new _ _ _⟩

end Go.Proofs.Ytdlimephkjihbaa
