/-
  firstText of package pack, and the document's own text, answer the text that bytes begin with, how many bytes it has, or why there is none; at all bytes, in every world; nothing that was there is changed.
  No condition but that the bytes are no longer than they can be.
-/
import Derived.Test.YtdlimephkjihbaaProw
import Derived.WalkMore
namespace Go.Proofs.Ytdlimephkjihbaa
open Go.RowKit

theorem tx_drop (bs : List UInt8) (k : Nat) (c : UInt8) (h : bs[k]? = some c) : bs.drop k = c :: bs.drop (k + 1) := by
  obtain ⟨h1, h2⟩ := List.getElem?_eq_some_iff.1 h
  rw [List.drop_eq_getElem_cons h1, h2]
theorem tx_end (bs out : List UInt8) (k : Nat) (h : bs.length ≤ k) : textR out k (bs.drop k) = (noV, 0, 8) := by
  rw [List.drop_of_length_le h]
  simp [textR]
theorem tx_short (bs out : List UInt8) (k : Nat) (c : UInt8) (h : bs[k]? = some c) (h0 : c = 0) (hl : bs.length ≤ k + 1) : textR out k (bs.drop k) = (noV, 0, 8) := by
  rw [tx_drop bs k c h, textR_cons, if_pos h0, List.drop_of_length_le hl]
theorem tx_one (bs out : List UInt8) (k : Nat) (c d : UInt8) (h : bs[k]? = some c) (h0 : c = 0) (hd : bs[k + 1]? = some d) (h1 : d = 1) : textR out k (bs.drop k) = (⟨3, false, 0, ⟨out.toArray⟩⟩, k + 2, 0) := by
  rw [tx_drop bs k c h, textR_cons, if_pos h0, tx_drop bs (k + 1) d hd]
  simp only [if_pos h1]
theorem tx_form (bs out : List UInt8) (k : Nat) (c d : UInt8) (h : bs[k]? = some c) (h0 : c = 0) (hd : bs[k + 1]? = some d) (h1 : ¬ d = 1) (h2 : ¬ d = 255) : textR out k (bs.drop k) = (noV, 0, 7) := by
  rw [tx_drop bs k c h, textR_cons, if_pos h0, tx_drop bs (k + 1) d hd]
  simp only [if_neg h1, if_neg h2]
theorem tx_long0 (bs out : List UInt8) (k : Nat) (c d : UInt8) (h : bs[k]? = some c) (h0 : c = 0) (hd : bs[k + 1]? = some d) (h1 : ¬ d = 1) (h2 : d = 255) (h3 : 60 ≤ out.length) : textR out k (bs.drop k) = (noV, 0, 9) := by
  rw [tx_drop bs k c h, textR_cons, if_pos h0, tx_drop bs (k + 1) d hd]
  simp only [if_neg h1, if_pos h2, if_pos h3]
theorem tx_esc (bs out : List UInt8) (k : Nat) (c d : UInt8) (h : bs[k]? = some c) (h0 : c = 0) (hd : bs[k + 1]? = some d) (h1 : ¬ d = 1) (h2 : d = 255) (h3 : ¬ 60 ≤ out.length) : textR out k (bs.drop k) = textR (out ++ [c]) (k + 2) (bs.drop (k + 2)) := by
  rw [tx_drop bs k c h, textR_cons, if_pos h0, tx_drop bs (k + 1) d hd]
  simp only [if_neg h1, if_pos h2, if_neg h3]
theorem tx_long (bs out : List UInt8) (k : Nat) (c : UInt8) (h : bs[k]? = some c) (h0 : ¬ c = 0) (h3 : 60 ≤ out.length) : textR out k (bs.drop k) = (noV, 0, 9) := by
  rw [tx_drop bs k c h, textR_cons, if_neg h0, if_pos h3]
theorem tx_next (bs out : List UInt8) (k : Nat) (c : UInt8) (h : bs[k]? = some c) (h0 : ¬ c = 0) (h3 : ¬ 60 ≤ out.length) : textR out k (bs.drop k) = textR (out ++ [c]) (k + 1) (bs.drop (k + 1)) := by
  rw [tx_drop bs k c h, textR_cons, if_neg h0, if_neg h3]

/-- Bytes of the call's own: where they lie, and what they are as a text. -/
theorem conv_form {w : World} {base : Nat} {v : Value} {bs : List UInt8} (h : OwnB w base v bs) : ∃ A c, v = .slice A bs.length c ∧ (convert 53 9 (.slice A bs.length c)).run Try.prog w = .ok (.string ⟨bs.toArray⟩) w := by
  obtain ⟨A, c, hv, _⟩ := h.form
  obtain ⟨A', n, c', hv', hc⟩ := conv_B h
  rw [hv] at hv'
  injection hv' with h1 h2 h3
  subst h1 h2 h3
  exact ⟨A, c, hv, hc⟩

/-- What a call answers that reads the value that bytes begin with. -/
def FirstOf (w : World) (r : V × Nat × Int) (e : Ending) (w' : World) : Prop := e = .returned (.tuple #[r.1.val, .int .i64 (r.2.1 : Int), .int .i64 r.2.2]) ∧ Below w.heap.size w w'

theorem byte_zero {c : UInt8} (h : c.toNat = 0) : c = 0 := UInt8.toNat_inj.1 h
theorem byte_one {c : UInt8} (h : c.toNat = 1) : c = 1 := UInt8.toNat_inj.1 h
theorem byte_ff {c : UInt8} (h : c.toNat = 255) : c = 255 := UInt8.toNat_inj.1 h

/-- The block g holds a value's four cells. -/
def VBlk (w : World) (g : Nat) (k : Int) (f : Bool) (n : Int) (t : ByteArray) : Prop := w.heap[g]? = some (.cells #[.int .i64 k, .bool f, .int .i64 n, .string t] 56 (0, 0))
theorem VBlk.cells {w : World} {g : Nat} {k : Int} {f : Bool} {n : Int} {t : ByteArray} (h : VBlk w g k f n t) :
    w.cell? ⟨g, 0, none⟩ = some (.int .i64 k) ∧ w.cell? ⟨g, 1, none⟩ = some (.bool f) ∧ w.cell? ⟨g, 2, none⟩ = some (.int .i64 n) ∧ w.cell? ⟨g, 3, none⟩ = some (.string t) :=
  ⟨by rw [cell_of_row w _ 0 _ _ _ h]; rfl, by rw [cell_of_row w _ 1 _ _ _ h]; rfl, by rw [cell_of_row w _ 2 _ _ _ h]; rfl, by rw [cell_of_row w _ 3 _ _ _ h]; rfl⟩
theorem VBlk.free {w : World} {g : Nat} {k : Int} {f : Bool} {n : Int} {t : ByteArray} (h : VBlk w g k f n t) :
    w.frozen? ⟨g, 0, none⟩ = false ∧ w.frozen? ⟨g, 1, none⟩ = false ∧ w.frozen? ⟨g, 2, none⟩ = false ∧ w.frozen? ⟨g, 3, none⟩ = false :=
  ⟨frozen_of_row w g 0 _ _ h, frozen_of_row w g 1 _ _ h, frozen_of_row w g 2 _ _ h, frozen_of_row w g 3 _ _ h⟩
theorem VBlk.put {w : World} {g : Nat} {k : Int} {f : Bool} {n : Int} {t : ByteArray} (h : VBlk w g k f n t) (k' : Int) (f' : Bool) (n' : Int) (t' : ByteArray) :
    VBlk ((((w.setCell ⟨g, 0, none⟩ (.int .i64 k')).setCell ⟨g, 1, none⟩ (.bool f')).setCell ⟨g, 2, none⟩ (.int .i64 n')).setCell ⟨g, 3, none⟩ (.string t')) g k' f' n' t' := by
  unfold VBlk at h ⊢
  have h1 := heap_setCell_same w g 0 _ _ (.int .i64 k') h
  have h2 := heap_setCell_same _ g 1 _ _ (.bool f') h1
  have h3 := heap_setCell_same _ g 2 _ _ (.int .i64 n') h2
  exact heap_setCell_same _ g 3 _ _ (.string t') h3
theorem VBlk.below {w w' : World} {g B : Nat} {k : Int} {f : Bool} {n : Int} {t : ByteArray} (h : VBlk w g k f n t) (hb : Below B w w') (hg : g < B) : VBlk w' g k f n t := (hb.block g hg).trans h
theorem VBlk.new (w : World) (g : Nat) (k : Int) (f : Bool) (n : Int) (t : ByteArray) (hg : g = w.heap.size) : VBlk (w.alloc (.cells #[.int .i64 k, .bool f, .int .i64 n, .string t] 56)) g k f n t := by
  subst hg
  exact heap_alloc_new w _
theorem VBlk.lt {w : World} {g : Nat} {k : Int} {f : Bool} {n : Int} {t : ByteArray} (h : VBlk w g k f n t) : g < w.heap.size := (Array.getElem?_eq_some_iff.1 h).1
theorem put_below {w w1 : World} (h : Below w.heap.size w w1) (k' : Int) (f' : Bool) (n' : Int) (t' : ByteArray) :
    Below w.heap.size w ((((w1.setCell ⟨w.heap.size, 0, none⟩ (.int .i64 k')).setCell ⟨w.heap.size, 1, none⟩ (.bool f')).setCell ⟨w.heap.size, 2, none⟩ (.int .i64 n')).setCell ⟨w.heap.size, 3, none⟩ (.string t')) :=
  (((h.setCell (Nat.le_refl _) _).setCell (Nat.le_refl _) _).setCell (Nat.le_refl _) _).setCell (Nat.le_refl _) _

set_option maxRecDepth 100000 in
set_option maxHeartbeats 4000000 in
theorem pk_firstText (A : Option Addr) (bs : List UInt8) (n c : Nat) (w : World) (hn : n = bs.length) (hl : n ≤ maxLen) (h1n : 1 ≤ n) (hx : BytesAt w w.heap.size A bs) :
    Calls Try.prog 69 #[.slice A n c] w (FirstOf w (textR [] 1 (bs.drop 1))) := by
  unfold maxLen at hl
  have HX := Lib.hid hx
  have HN := Lib.hid hn
  clear hx hn
  obtain ⟨R, hR⟩ : ∃ R, textR [] 1 (bs.drop 1) = R := ⟨_, rfl⟩
  rw [hR]
  have HR := Lib.hid hR
  clear hR
  go_enter Try.func69, Try.ntmps69
  go_wp2
  go_step3
  go_wp2
  go_step3
  go_wp2
  go_loopw [5, 6, 7] (fun v why i wr => ∃ (k : Nat) (out : List UInt8), 1 ≤ k ∧ k ≤ n ∧ i = .int .i64 k ∧ why = .int .i64 8 ∧ out.length ≤ 60 ∧ OwnB wr (w.heap.size + 1) v out ∧ textR out k (bs.drop k) = R ∧ VBlk wr w.heap.size 0 false 0 ⟨#[]⟩ ∧ Below w.heap.size w wr) (fun _ _ i _ => n - (intOf i).toNat)
  case atStart => exact ⟨1, [], Nat.le_refl _, h1n, rfl, rfl, by simp, OwnB.nil _ _, HR.out, VBlk.new w _ 0 false 0 ⟨#[]⟩ rfl, one_new _ _⟩
  case round =>
    obtain ⟨k, out, hk1, hkn, rfl, rfl, hol, hown, hr, hblk, hb⟩ := hrel
    obtain ⟨A1, c1, rfl, hcv⟩ := conv_form hown
    have HO := Lib.hid hown
    have HRR := Lib.hid hr
    have HB := Lib.hid hb
    have HK := Lib.hid hblk
    have hsz : w.heap.size + 1 ≤ wr.heap.size := hblk.lt
    obtain ⟨q0, q1, q2, q3⟩ := hblk.cells
    obtain ⟨f0, f1, f2, f3⟩ := hblk.free
    clear hown hr hblk
    by_cases h1 : k < n
    · obtain ⟨x, hx⟩ : ∃ x, bs[k]? = some x := ⟨_, List.getElem?_eq_getElem (by rw [← HN.out]; exact h1)⟩
      obtain ⟨a, rfl, ha, a0⟩ := (HX.out.below hb) k x hx
      have a1 : wr.cell? (a.add k) = some (.int .u8 (x.toNat : Int)) := a0
      have HXK := Lib.hid hx
      clear hx a0 hb
      by_cases h2 : x.toNat = 0
      · have b2 : ((x.toNat : Int) == 0) = true := by rw [h2]; rfl
        have hx0 := Lib.hid (byte_zero h2)
        clear h2
        by_cases h3 : k + 1 < n
        · obtain ⟨y, hy⟩ : ∃ y, bs[k + 1]? = some y := ⟨_, List.getElem?_eq_getElem (by rw [← HN.out]; exact h3)⟩
          obtain ⟨a', haa, hb', a0'⟩ := (HX.out.below HB.out) (k + 1) y hy
          obtain rfl : a = a' := Option.some.inj haa
          have a2 : wr.cell? { block := a.block, off := a.off + (k + 1) } = some (.int .u8 (y.toNat : Int)) := by simpa [Addr.add, bv] using a0'
          have HY := Lib.hid hy
          have b3 : (((k : Int) + 1) == (n : Int)) = false := by
            rw [beq_eq_false_iff_ne]
            omega
          clear hy haa a0'
          by_cases h4 : y.toNat = 1
          · have b4 : ((y.toNat : Int) == 1) = true := by rw [h4]; rfl
            have HF : Hid (R = (⟨3, false, 0, ⟨out.toArray⟩⟩, k + 2, 0)) := Lib.hid (by rw [← HRR.out]; exact tx_one bs out k x y HXK.out hx0.out HY.out (byte_one h4))
            have HB2 := HB
            clear h4
            go_wp2_with (go_at_call 80; refine (mk_text _ _).mono ?_; rintro e w2 ⟨rfl, rfl⟩; have HK2 := Lib.hid (HK.out.below (one_new wr (.cells #[.int .i64 3, .bool false, .int .i64 0, .string ⟨out.toArray⟩] 56)) HK.out.lt); clear q0 q1 q2 q3 f0 f1 f2 f3; obtain ⟨q0, q1, q2, q3⟩ := HK2.out.cells; obtain ⟨f0, f1, f2, f3⟩ := HK2.out.free)
            obtain ⟨r0, r1, r2, r3⟩ := (HK2.out.put 3 false 0 ⟨out.toArray⟩).cells
            rw [Exit.noGoto_ret]
            refine bodyPost_ret (v := .tuple #[.agg #[.int .i64 3, .bool false, .int .i64 0, .string ⟨out.toArray⟩], .int .i64 ((k : Int) + 1 + 1), .int .i64 0]) (by simp [results, Try.results69, r0, r1, r2, r3, go_sem]) rfl ?_
            rw [HF.out]
            exact ⟨rfl, put_below (HB.out.trans (one_new_far _ _ (by omega))) _ _ _ _⟩
          · have b4 : ((y.toNat : Int) == 1) = false := by
              rw [beq_eq_false_iff_ne]
              omega
            have hy1 : Hid (¬ y = 1) := Lib.hid (fun h => h4 (by rw [h]; rfl))
            clear h4
            by_cases h5 : y.toNat = 255
            · have b5 : ((y.toNat : Int) == 255) = true := by rw [h5]; rfl
              have b5' : ((y.toNat : Int) != 255) = false := by rw [h5]; rfl
              have hy2 := Lib.hid (byte_ff h5)
              clear h5
              by_cases h6 : 60 ≤ out.length
              · have b6 : ((out.length : Int) == 60) = true := by
                  rw [beq_iff_eq]
                  omega
                have HF : Hid (R = (noV, 0, 9)) := Lib.hid (by rw [← HRR.out]; exact tx_long0 bs out k x y HXK.out hx0.out HY.out hy1.out hy2.out h6)
                clear h6
                go_wp2
                obtain ⟨r0, r1, r2, r3⟩ := (HK.out.put 0 false 0 ⟨#[]⟩).cells
                rw [Exit.noGoto_ret]
                refine bodyPost_ret (v := .tuple #[.agg #[.int .i64 0, .bool false, .int .i64 0, .string ⟨#[]⟩], .int .i64 0, .int .i64 9]) (by simp [results, Try.results69, r0, r1, r2, r3, go_sem]) rfl ?_
                rw [HF.out]
                exact ⟨rfl, put_below HB.out _ _ _ _⟩
              · have b6 : ((out.length : Int) == 60) = false := by
                  rw [beq_eq_false_iff_ne]
                  omega
                have hlt : out.length < 60 := by omega
                have HF : Hid (textR (out ++ [x]) (k + 2) (bs.drop (k + 2)) = R) := Lib.hid (by rw [← HRR.out]; exact (tx_esc bs out k x y HXK.out hx0.out HY.out hy1.out hy2.out h6).symm)
                clear h6
                go_wp2_with (at_builtin; refine wp_append_B _ rfl (.tmp 48) (.tmp 50) rfl (w.heap.size + 1) _ out [x] rfl (by exact HO.out) _ (by rfl) _ _ _ rfl rfl rfl (by simp; omega) (by exact hsz) ?_; intro v1 w1 ho1 hb1)
                go_roundw
                case rel => exact ⟨k + 2, out ++ [x], by omega, by omega, by go_num, rfl, by simp; omega, ho1, HF.out, HK.out.below hb1 (by omega), HB.out.trans (hb1.mono (by omega))⟩
                case measure => simp [intOf]; omega
            · have b5 : ((y.toNat : Int) == 255) = false := by
                rw [beq_eq_false_iff_ne]
                omega
              have b5' : ((y.toNat : Int) != 255) = true := by
                rw [bne, b5]
                rfl
              have HF : Hid (R = (noV, 0, 7)) := Lib.hid (by rw [← HRR.out]; exact tx_form bs out k x y HXK.out hx0.out HY.out hy1.out (fun h => h5 (by rw [h]; rfl)))
              clear h5
              go_wp2
              obtain ⟨r0, r1, r2, r3⟩ := (HK.out.put 0 false 0 ⟨#[]⟩).cells
              rw [Exit.noGoto_ret]
              refine bodyPost_ret (v := .tuple #[.agg #[.int .i64 0, .bool false, .int .i64 0, .string ⟨#[]⟩], .int .i64 0, .int .i64 7]) (by simp [results, Try.results69, r0, r1, r2, r3, go_sem]) rfl ?_
              rw [HF.out]
              exact ⟨rfl, put_below HB.out _ _ _ _⟩
        · have b3 : (((k : Int) + 1) == (n : Int)) = true := by
            rw [beq_iff_eq]
            omega
          have HF : Hid (R = (noV, 0, 8)) := Lib.hid (by rw [← HRR.out]; exact tx_short bs out k x HXK.out hx0.out (by rw [← HN.out]; omega))
          go_wp2
          obtain ⟨r0, r1, r2, r3⟩ := (HK.out.put 0 false 0 ⟨#[]⟩).cells
          rw [Exit.noGoto_ret]
          refine bodyPost_ret (v := .tuple #[.agg #[.int .i64 0, .bool false, .int .i64 0, .string ⟨#[]⟩], .int .i64 0, .int .i64 8]) (by simp [results, Try.results69, r0, r1, r2, r3, go_sem]) rfl ?_
          rw [HF.out]
          exact ⟨rfl, put_below HB.out _ _ _ _⟩
      · have b2 : ((x.toNat : Int) == 0) = false := by
          rw [beq_eq_false_iff_ne]
          omega
        have hx0 : Hid (¬ x = 0) := Lib.hid (fun h => h2 (by rw [h]; rfl))
        clear h2
        by_cases h6 : 60 ≤ out.length
        · have b6 : ((out.length : Int) == 60) = true := by
            rw [beq_iff_eq]
            omega
          have HF : Hid (R = (noV, 0, 9)) := Lib.hid (by rw [← HRR.out]; exact tx_long bs out k x HXK.out hx0.out h6)
          clear h6
          go_wp2
          obtain ⟨r0, r1, r2, r3⟩ := (HK.out.put 0 false 0 ⟨#[]⟩).cells
          rw [Exit.noGoto_ret]
          refine bodyPost_ret (v := .tuple #[.agg #[.int .i64 0, .bool false, .int .i64 0, .string ⟨#[]⟩], .int .i64 0, .int .i64 9]) (by simp [results, Try.results69, r0, r1, r2, r3, go_sem]) rfl ?_
          rw [HF.out]
          exact ⟨rfl, put_below HB.out _ _ _ _⟩
        · have b6 : ((out.length : Int) == 60) = false := by
            rw [beq_eq_false_iff_ne]
            omega
          have hlt : out.length < 60 := by omega
          have HF : Hid (textR (out ++ [x]) (k + 1) (bs.drop (k + 1)) = R) := Lib.hid (by rw [← HRR.out]; exact (tx_next bs out k x HXK.out hx0.out h6).symm)
          clear h6
          go_wp2_with (at_builtin; refine wp_append_B _ rfl (.tmp 48) (.tmp 50) rfl (w.heap.size + 1) _ out [x] rfl (by exact HO.out) _ (by rfl) _ _ _ rfl rfl rfl (by simp; omega) (by exact hsz) ?_; intro v1 w1 ho1 hb1)
          go_roundw
          case rel => exact ⟨k + 1, out ++ [x], by omega, by omega, by go_num, rfl, by simp; omega, ho1, HF.out, HK.out.below hb1 (by omega), HB.out.trans (hb1.mono (by omega))⟩
          case measure => simp [intOf]; omega
    · have HF : Hid (R = (noV, 0, 8)) := Lib.hid (by rw [← HRR.out]; exact tx_end bs out k (by rw [← HN.out]; omega))
      go_wp2
      obtain ⟨r0, r1, r2, r3⟩ := (HK.out.put 0 false 0 ⟨#[]⟩).cells
      rw [Exit.noGoto_ret]
      refine bodyPost_ret (v := .tuple #[.agg #[.int .i64 0, .bool false, .int .i64 0, .string ⟨#[]⟩], .int .i64 0, .int .i64 8]) (by simp [results, Try.results69, r0, r1, r2, r3, go_sem]) rfl ?_
      rw [HF.out]
      exact ⟨rfl, put_below HB.out _ _ _ _⟩
end Go.Proofs.Ytdlimephkjihbaa
