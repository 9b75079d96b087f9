/-
  Fits of the document's schema: why cells are not those of an object of a kind; nothing that was there is changed.
  No condition but that a list has no more than a million.
-/
import Derived.BigQuiet
import Derived.Test.YtdhpoaecedpbdaaGreatZ19
namespace Go.Proofs.YtdhpoaecedpbdaaGreat
open Go.RowKit

/-- The worlds in which nothing below h has changed, under a name of their own: a drawing region is then walked once, and a callee that makes memory is let in. -/
theorem ext_class (h : Nat) (w : World) (hh : h ≤ w.heap.size) : ∃ (E : Type) (X : E → World), Nonempty E ∧ (∀ e, Below h w (X e)) ∧ (∀ W, Below h w W → ∃ e, W = X e) ∧ ∀ e W, Below (X e).heap.size (X e) W → ∃ e2, W = X e2 :=
  ⟨{W : World // Below h w W}, Subtype.val, ⟨⟨w, Below.refl _ _⟩⟩, fun e => e.2, fun W hW => ⟨⟨W, hW⟩, rfl⟩, fun e W hW => ⟨⟨W, e.2.trans (hW.mono (Nat.le_trans hh e.2.size))⟩, rfl⟩⟩

set_option maxRecDepth 100000 in
set_option maxHeartbeats 4000000 in
theorem ref_fitsS (Q : Nat → Prop) (B : Option Addr) (ls : List RS) (l : List Sc) (nb cb : Nat) (kind : ByteArray) (A : Option Addr) (xs : List V) (n c : Nat) (w : World) (hnb : nb = l.length) (hlb : nb ≤ 1000000) (hr : ScR w Q ls l) (hxb : CellsQ w Q B (flatS ls)) (hn : n = xs.length) (hl : n ≤ 1000000) (hx : RowAt w w.heap.size A xs) :
    Calls Tryz.prog 110 #[.slice B nb cb, .string kind, .slice A n c] w fun e w' => e = .returned (.int .i64 (fitsR (findS l kind) xs)) ∧ Below w.heap.size w w' := by
  have HF := Lib.hid (ref_findS Q B ls l nb cb kind w hnb hlb hr hxb)
  have HX := Lib.hid hx
  have HN := Lib.hid hn
  clear hr hxb hx hn hnb hlb
  generalize findS l kind = O at *
  cases O with
  | none =>
    have hr : fitsR none xs = 20 := rfl
    rw [hr]
    clear hr
    go_enter Tryz.func110, Tryz.ntmps110
    go_wp2_with fail
    refine HF.out.mono ?_
    rintro e w2 ⟨hb2, rfl⟩
    go_wp2
    go_ret
    exact ⟨rfl, hb2.trans ((one_new _ _).mono hb2.size)⟩
  | some x =>
    obtain ⟨R, hR⟩ : ∃ R, fitsR (some x) xs = R := ⟨_, rfl⟩
    rw [hR]
    have hR2 : (if xs.length = x.cols.length then (if okCs x.cols xs = true then 0 else 11) else 9) = R := hR
    rw [← HN.out] at hR2
    have HR := Lib.hid hR2
    clear hR hR2
    go_enter Tryz.func110, Tryz.ntmps110
    go_wp2_with fail
    refine HF.out.mono ?_
    rintro e w2 ⟨hb2, v, rfl, hv⟩
    obtain ⟨hvl, A2, c2, rfl, _, _, hcs⟩ := hv
    have HB2 := Lib.hid hb2
    have HCS := Lib.hid hcs
    have hs2 := hb2.size
    clear hb2 hcs
    by_cases hq : n = x.cols.length
    · have hR3 : (if okCs x.cols xs = true then 0 else 11) = R := by rw [← HR.out, if_pos hq]
      have HR3 := Lib.hid hR3
      have be : ((n : Int) == (x.cols.length : Int)) = true := by rw [hq]; simp
      have bn : ((n : Int) != (x.cols.length : Int)) = false := by unfold bne; rw [be]; rfl
      clear hR3
      obtain ⟨W2, hW2⟩ : ∃ W2, W2 = w2.alloc (.cells #[.string x.nm, .slice A2 x.cols.length c2] 126) := ⟨_, rfl⟩
      have HBW := Lib.hid (show Below w.heap.size w W2 by rw [hW2]; exact HB2.out.trans ((one_new _ _).mono HB2.out.size))
      have HCW := Lib.hid (show CellsQ W2 Q A2 (flatC x.cols) by rw [hW2]; exact HCS.out.below (one_new _ _))
      have hbx : W2.cell? ⟨w2.heap.size, 1, none⟩ = some (.slice A2 x.cols.length c2) := by rw [hW2]; exact new_cell _ _ _ 1 _ rfl
      have HBX := Lib.hid hbx
      have hzW : w2.heap.size < W2.heap.size := by rw [hW2]; simp
      have hsW := HBW.out.size
      clear hbx
      go_wp2
      rw [← hW2]
      go_loopw [9] (fun i wr => ∃ k : Nat, k ≤ x.cols.length ∧ i = .int .i64 k ∧ okCs x.cols xs = okCs (x.cols.drop k) (xs.drop k) ∧ Below W2.heap.size W2 wr) (fun i _ => x.cols.length - (intOf i).toNat)
      case atStart => exact ⟨0, Nat.zero_le _, rfl, rfl, Below.refl _ _⟩
      case round =>
        obtain ⟨k, hk, rfl, hok, hb⟩ := hrel
        have HOK := Lib.hid hok
        have HB := Lib.hid hb
        have hsz : W2.heap.size ≤ wr.heap.size := hb.size
        have x1 : wr.cell? ⟨w2.heap.size, 1, none⟩ = some (.slice A2 x.cols.length c2) := (hb.cell (p := ⟨w2.heap.size, 1, none⟩) hzW).trans HBX.out
        have X1 := Lib.hid x1
        have hzr : w2.heap.size < wr.heap.size := Nat.lt_of_lt_of_le hzW hsz
        clear hok hb
        by_cases h1 : k < x.cols.length
        · obtain ⟨d, hd⟩ : ∃ d, x.cols[k]? = some d := ⟨_, List.getElem?_eq_getElem h1⟩
          have hkn : k < n := by omega
          obtain ⟨u, hu⟩ : ∃ u, xs[k]? = some u := ⟨_, List.getElem?_eq_getElem (by rw [← HN.out]; exact hkn)⟩
          obtain ⟨a2, rfl, ha2, d0, d1, d2⟩ := (HCW.out.below HB.out).col k d hd
          obtain ⟨a, rfl, ha, u0, u1, u2, u3⟩ := (HX.out.below (HBW.out.trans (HB.out.mono hsW))) k u hu
          have ha' : (a.add (k * 4)).block < wr.heap.size := by omega
          have HST := Lib.hid (okCs_step x.cols xs k d u hd hu)
          have HRT := Lib.hid (fun W : World => ref_right u W)
          have D1 := Lib.hid d1
          have D2 := Lib.hid d2
          clear hd hu
          obtain ⟨b, hb⟩ : ∃ b, okC d u = b := ⟨_, rfl⟩
          rw [hb] at HST
          obtain ⟨r, hr⟩ : ∃ r, rightV u = r := ⟨_, rfl⟩
          unfold okC at hb
          rw [hr] at hb HRT
          obtain ⟨nm9, k9, nl9⟩ := d
          obtain ⟨k8, f8, n8, t8⟩ := u
          simp only at hb
          clear hr
          cases r with
          | false =>
            have BF : b = false := by rw [← hb]; first | rfl | simp
            have HZ : Hid (R = 11) := Lib.hid (by rw [← HR3.out, if_neg (by rw [HOK.out, HST.out, BF]; simp)])
            clear hb BF
            go_wp2
            obtain ⟨w1, hw1⟩ : ∃ w1, w1 = wr.alloc (.cells #[.int .i64 k8, .bool f8, .int .i64 n8, .string t8] 83) := ⟨_, rfl⟩
            have ho1 : Below wr.heap.size wr w1 := by rw [hw1]; exact one_new _ _
            have HCC : ∀ W, Below (wr.heap.size + 1) w1 W → W.cell? ⟨wr.heap.size, 0, none⟩ = some (.int .i64 k8) ∧ W.cell? ⟨wr.heap.size, 1, none⟩ = some (.bool f8) ∧ W.cell? ⟨wr.heap.size, 2, none⟩ = some (.int .i64 n8) ∧ W.cell? ⟨wr.heap.size, 3, none⟩ = some (.string t8) ∧ W.cell? ⟨w2.heap.size, 1, none⟩ = some (.slice (some a2) x.cols.length c2) ∧ W.cell? { block := (a2.add (k * 3)).block, off := (a2.add (k * 3)).off + 1 } = some (.int .i64 k9) ∧ W.cell? { block := (a2.add (k * 3)).block, off := (a2.add (k * 3)).off + 2 } = some (.bool nl9) := by
              intro W hW
              have hW2 := ho1.trans (hW.mono (Nat.le_succ _))
              refine ⟨?_, ?_, ?_, ?_, (hW2.cell (p := ⟨w2.heap.size, 1, none⟩) hzr).trans X1.out, (hW2.cell (p := { block := (a2.add (k * 3)).block, off := (a2.add (k * 3)).off + 1 }) ha2).trans D1.out, (hW2.cell (p := { block := (a2.add (k * 3)).block, off := (a2.add (k * 3)).off + 2 }) ha2).trans D2.out⟩
              · exact (hW.cell (p := ⟨wr.heap.size, 0, none⟩) (Nat.lt_succ_self _)).trans (by rw [hw1]; exact new_cell wr _ _ 0 _ rfl)
              · exact (hW.cell (p := ⟨wr.heap.size, 1, none⟩) (Nat.lt_succ_self _)).trans (by rw [hw1]; exact new_cell wr _ _ 1 _ rfl)
              · exact (hW.cell (p := ⟨wr.heap.size, 2, none⟩) (Nat.lt_succ_self _)).trans (by rw [hw1]; exact new_cell wr _ _ 2 _ rfl)
              · exact (hW.cell (p := ⟨wr.heap.size, 3, none⟩) (Nat.lt_succ_self _)).trans (by rw [hw1]; exact new_cell wr _ _ 3 _ rfl)
            have HC := Lib.hid HCC
            have hs1 : wr.heap.size + 1 = w1.heap.size := by rw [hw1]; simp
            clear HCC
            first | rw [← hw1] | skip
            obtain ⟨XE, xf, hXN, hX1, hX0, hX2⟩ := ext_class (wr.heap.size + 1) w1 (Nat.le_of_eq hs1)
            have HX1 := Lib.hid hX1
            have HX2 := Lib.hid hX2
            have hin := hX0 w1.drew (Below.drew (Below.refl _ _))
            have b0 := fun e => (HC.out _ (HX1.out e)).1
            have b1 := fun e => (HC.out _ (HX1.out e)).2.1
            have b2 := fun e => (HC.out _ (HX1.out e)).2.2.1
            have b3 := fun e => (HC.out _ (HX1.out e)).2.2.2.1
            have q1 := fun e => (HC.out _ (HX1.out e)).2.2.2.2.1
            have q2 := fun e => (HC.out _ (HX1.out e)).2.2.2.2.2.1
            have q3 := fun e => (HC.out _ (HX1.out e)).2.2.2.2.2.2
            clear hX0 hX1 hX2
            refine wp_region_quiet (C := fun W => ∃ e, W = xf e) (by kernel_rfl) (by kernel_rfl) hin ?_
            clear hin
            dsimp only
            repeat (go_big_quiet_step ((go_at_call 98; refine (HRT.out _).mono ?_; rintro e w3 ⟨rfl, hb3⟩; exact ⟨rfl, HX2.out _ _ hb3⟩)))
            refine wpQuiet_nil ?_
            intro w3 hW3
            obtain ⟨ee, hW3⟩ := hW3
            have hb4 : Below wr.heap.size wr w3 := by rw [hW3]; exact ho1.trans ((HX1.out ee).mono (Nat.le_succ _))
            clear hW3 HC hw1 ho1 hs1 b0 b1 b2 b3 q1 q2 q3 HX1 HX2
            all_goals
              have HB4 := Lib.hid ((HBW.out.trans (HB.out.mono hsW)).trans (hb4.mono (Nat.le_trans hsW hsz)))
              go_wp2
              go_ret
              exact ⟨by rw [HZ.out]; exact rfl, HB4.out⟩
          | true =>
            rcases Bool.eq_false_or_eq_true (k8 == k9) with g1 | g1
            · rw [g1] at hb
              have BT : Hid (b = true) := Lib.hid (by rw [← hb]; first | rfl | simp)
              clear hb
              have g2 : (k8 != k9) = false := by unfold bne; rw [g1]; rfl
              go_wp2
              obtain ⟨w1, hw1⟩ : ∃ w1, w1 = wr.alloc (.cells #[.int .i64 k8, .bool f8, .int .i64 n8, .string t8] 83) := ⟨_, rfl⟩
              have ho1 : Below wr.heap.size wr w1 := by rw [hw1]; exact one_new _ _
              have HCC : ∀ W, Below (wr.heap.size + 1) w1 W → W.cell? ⟨wr.heap.size, 0, none⟩ = some (.int .i64 k8) ∧ W.cell? ⟨wr.heap.size, 1, none⟩ = some (.bool f8) ∧ W.cell? ⟨wr.heap.size, 2, none⟩ = some (.int .i64 n8) ∧ W.cell? ⟨wr.heap.size, 3, none⟩ = some (.string t8) ∧ W.cell? ⟨w2.heap.size, 1, none⟩ = some (.slice (some a2) x.cols.length c2) ∧ W.cell? { block := (a2.add (k * 3)).block, off := (a2.add (k * 3)).off + 1 } = some (.int .i64 k9) ∧ W.cell? { block := (a2.add (k * 3)).block, off := (a2.add (k * 3)).off + 2 } = some (.bool nl9) := by
                intro W hW
                have hW2 := ho1.trans (hW.mono (Nat.le_succ _))
                refine ⟨?_, ?_, ?_, ?_, (hW2.cell (p := ⟨w2.heap.size, 1, none⟩) hzr).trans X1.out, (hW2.cell (p := { block := (a2.add (k * 3)).block, off := (a2.add (k * 3)).off + 1 }) ha2).trans D1.out, (hW2.cell (p := { block := (a2.add (k * 3)).block, off := (a2.add (k * 3)).off + 2 }) ha2).trans D2.out⟩
                · exact (hW.cell (p := ⟨wr.heap.size, 0, none⟩) (Nat.lt_succ_self _)).trans (by rw [hw1]; exact new_cell wr _ _ 0 _ rfl)
                · exact (hW.cell (p := ⟨wr.heap.size, 1, none⟩) (Nat.lt_succ_self _)).trans (by rw [hw1]; exact new_cell wr _ _ 1 _ rfl)
                · exact (hW.cell (p := ⟨wr.heap.size, 2, none⟩) (Nat.lt_succ_self _)).trans (by rw [hw1]; exact new_cell wr _ _ 2 _ rfl)
                · exact (hW.cell (p := ⟨wr.heap.size, 3, none⟩) (Nat.lt_succ_self _)).trans (by rw [hw1]; exact new_cell wr _ _ 3 _ rfl)
              have HC := Lib.hid HCC
              have hs1 : wr.heap.size + 1 = w1.heap.size := by rw [hw1]; simp
              clear HCC
              first | rw [← hw1] | skip
              obtain ⟨XE, xf, hXN, hX1, hX0, hX2⟩ := ext_class (wr.heap.size + 1) w1 (Nat.le_of_eq hs1)
              have HX1 := Lib.hid hX1
              have HX2 := Lib.hid hX2
              have hin := hX0 w1.drew (Below.drew (Below.refl _ _))
              have b0 := fun e => (HC.out _ (HX1.out e)).1
              have b1 := fun e => (HC.out _ (HX1.out e)).2.1
              have b2 := fun e => (HC.out _ (HX1.out e)).2.2.1
              have b3 := fun e => (HC.out _ (HX1.out e)).2.2.2.1
              have q1 := fun e => (HC.out _ (HX1.out e)).2.2.2.2.1
              have q2 := fun e => (HC.out _ (HX1.out e)).2.2.2.2.2.1
              have q3 := fun e => (HC.out _ (HX1.out e)).2.2.2.2.2.2
              clear hX0 hX1 hX2
              refine wp_region_quiet (C := fun W => ∃ e, W = xf e) (by kernel_rfl) (by kernel_rfl) hin ?_
              clear hin
              dsimp only
              repeat (go_big_quiet_step ((go_at_call 98; refine (HRT.out _).mono ?_; rintro e w3 ⟨rfl, hb3⟩; exact ⟨rfl, HX2.out _ _ hb3⟩)))
              refine wpQuiet_nil ?_
              intro w3 hW3
              obtain ⟨ee, hW3⟩ := hW3
              have hb4 : Below wr.heap.size wr w3 := by rw [hW3]; exact ho1.trans ((HX1.out ee).mono (Nat.le_succ _))
              clear hW3 HC hw1 ho1 hs1 b0 b1 b2 b3 q1 q2 q3 HX1 HX2
              have HST2 : Hid (okCs (x.cols.drop k) (xs.drop k) = okCs (x.cols.drop (k + 1)) (xs.drop (k + 1))) := Lib.hid (by rw [HST.out, BT.out, Bool.true_and])
              all_goals
                have HB4 := Lib.hid (HB.out.trans (hb4.mono hsz))
                go_wp2
                go_roundw
                case rel => exact ⟨k + 1, by omega, by go_num, by rw [HOK.out, HST2.out], HB4.out⟩
                case measure => simp [intOf]; omega
            · rw [g1] at hb
              have g2 : (k8 != k9) = true := by unfold bne; rw [g1]; rfl
              rcases Bool.eq_false_or_eq_true (k8 == 0) with g3 | g3
              · rw [g3] at hb
                cases nl9 with
                | true =>
                  have BT : Hid (b = true) := Lib.hid (by rw [← hb]; first | rfl | simp)
                  clear hb
                  go_wp2
                  obtain ⟨w1, hw1⟩ : ∃ w1, w1 = wr.alloc (.cells #[.int .i64 k8, .bool f8, .int .i64 n8, .string t8] 83) := ⟨_, rfl⟩
                  have ho1 : Below wr.heap.size wr w1 := by rw [hw1]; exact one_new _ _
                  have HCC : ∀ W, Below (wr.heap.size + 1) w1 W → W.cell? ⟨wr.heap.size, 0, none⟩ = some (.int .i64 k8) ∧ W.cell? ⟨wr.heap.size, 1, none⟩ = some (.bool f8) ∧ W.cell? ⟨wr.heap.size, 2, none⟩ = some (.int .i64 n8) ∧ W.cell? ⟨wr.heap.size, 3, none⟩ = some (.string t8) ∧ W.cell? ⟨w2.heap.size, 1, none⟩ = some (.slice (some a2) x.cols.length c2) ∧ W.cell? { block := (a2.add (k * 3)).block, off := (a2.add (k * 3)).off + 1 } = some (.int .i64 k9) ∧ W.cell? { block := (a2.add (k * 3)).block, off := (a2.add (k * 3)).off + 2 } = some (.bool true) := by
                    intro W hW
                    have hW2 := ho1.trans (hW.mono (Nat.le_succ _))
                    refine ⟨?_, ?_, ?_, ?_, (hW2.cell (p := ⟨w2.heap.size, 1, none⟩) hzr).trans X1.out, (hW2.cell (p := { block := (a2.add (k * 3)).block, off := (a2.add (k * 3)).off + 1 }) ha2).trans D1.out, (hW2.cell (p := { block := (a2.add (k * 3)).block, off := (a2.add (k * 3)).off + 2 }) ha2).trans D2.out⟩
                    · exact (hW.cell (p := ⟨wr.heap.size, 0, none⟩) (Nat.lt_succ_self _)).trans (by rw [hw1]; exact new_cell wr _ _ 0 _ rfl)
                    · exact (hW.cell (p := ⟨wr.heap.size, 1, none⟩) (Nat.lt_succ_self _)).trans (by rw [hw1]; exact new_cell wr _ _ 1 _ rfl)
                    · exact (hW.cell (p := ⟨wr.heap.size, 2, none⟩) (Nat.lt_succ_self _)).trans (by rw [hw1]; exact new_cell wr _ _ 2 _ rfl)
                    · exact (hW.cell (p := ⟨wr.heap.size, 3, none⟩) (Nat.lt_succ_self _)).trans (by rw [hw1]; exact new_cell wr _ _ 3 _ rfl)
                  have HC := Lib.hid HCC
                  have hs1 : wr.heap.size + 1 = w1.heap.size := by rw [hw1]; simp
                  clear HCC
                  first | rw [← hw1] | skip
                  obtain ⟨XE, xf, hXN, hX1, hX0, hX2⟩ := ext_class (wr.heap.size + 1) w1 (Nat.le_of_eq hs1)
                  have HX1 := Lib.hid hX1
                  have HX2 := Lib.hid hX2
                  have hin := hX0 w1.drew (Below.drew (Below.refl _ _))
                  have b0 := fun e => (HC.out _ (HX1.out e)).1
                  have b1 := fun e => (HC.out _ (HX1.out e)).2.1
                  have b2 := fun e => (HC.out _ (HX1.out e)).2.2.1
                  have b3 := fun e => (HC.out _ (HX1.out e)).2.2.2.1
                  have q1 := fun e => (HC.out _ (HX1.out e)).2.2.2.2.1
                  have q2 := fun e => (HC.out _ (HX1.out e)).2.2.2.2.2.1
                  have q3 := fun e => (HC.out _ (HX1.out e)).2.2.2.2.2.2
                  clear hX0 hX1 hX2
                  refine wp_region_quiet (C := fun W => ∃ e, W = xf e) (by kernel_rfl) (by kernel_rfl) hin ?_
                  clear hin
                  dsimp only
                  repeat (go_big_quiet_step ((go_at_call 98; refine (HRT.out _).mono ?_; rintro e w3 ⟨rfl, hb3⟩; exact ⟨rfl, HX2.out _ _ hb3⟩)))
                  refine wpQuiet_nil ?_
                  intro w3 hW3
                  obtain ⟨ee, hW3⟩ := hW3
                  have hb4 : Below wr.heap.size wr w3 := by rw [hW3]; exact ho1.trans ((HX1.out ee).mono (Nat.le_succ _))
                  clear hW3 HC hw1 ho1 hs1 b0 b1 b2 b3 q1 q2 q3 HX1 HX2
                  have HST2 : Hid (okCs (x.cols.drop k) (xs.drop k) = okCs (x.cols.drop (k + 1)) (xs.drop (k + 1))) := Lib.hid (by rw [HST.out, BT.out, Bool.true_and])
                  all_goals
                    have HB4 := Lib.hid (HB.out.trans (hb4.mono hsz))
                    go_wp2
                    go_roundw
                    case rel => exact ⟨k + 1, by omega, by go_num, by rw [HOK.out, HST2.out], HB4.out⟩
                    case measure => simp [intOf]; omega
                | false =>
                  have BF : b = false := by rw [← hb]; first | rfl | simp
                  have HZ : Hid (R = 11) := Lib.hid (by rw [← HR3.out, if_neg (by rw [HOK.out, HST.out, BF]; simp)])
                  clear hb BF
                  go_wp2
                  obtain ⟨w1, hw1⟩ : ∃ w1, w1 = wr.alloc (.cells #[.int .i64 k8, .bool f8, .int .i64 n8, .string t8] 83) := ⟨_, rfl⟩
                  have ho1 : Below wr.heap.size wr w1 := by rw [hw1]; exact one_new _ _
                  have HCC : ∀ W, Below (wr.heap.size + 1) w1 W → W.cell? ⟨wr.heap.size, 0, none⟩ = some (.int .i64 k8) ∧ W.cell? ⟨wr.heap.size, 1, none⟩ = some (.bool f8) ∧ W.cell? ⟨wr.heap.size, 2, none⟩ = some (.int .i64 n8) ∧ W.cell? ⟨wr.heap.size, 3, none⟩ = some (.string t8) ∧ W.cell? ⟨w2.heap.size, 1, none⟩ = some (.slice (some a2) x.cols.length c2) ∧ W.cell? { block := (a2.add (k * 3)).block, off := (a2.add (k * 3)).off + 1 } = some (.int .i64 k9) ∧ W.cell? { block := (a2.add (k * 3)).block, off := (a2.add (k * 3)).off + 2 } = some (.bool false) := by
                    intro W hW
                    have hW2 := ho1.trans (hW.mono (Nat.le_succ _))
                    refine ⟨?_, ?_, ?_, ?_, (hW2.cell (p := ⟨w2.heap.size, 1, none⟩) hzr).trans X1.out, (hW2.cell (p := { block := (a2.add (k * 3)).block, off := (a2.add (k * 3)).off + 1 }) ha2).trans D1.out, (hW2.cell (p := { block := (a2.add (k * 3)).block, off := (a2.add (k * 3)).off + 2 }) ha2).trans D2.out⟩
                    · exact (hW.cell (p := ⟨wr.heap.size, 0, none⟩) (Nat.lt_succ_self _)).trans (by rw [hw1]; exact new_cell wr _ _ 0 _ rfl)
                    · exact (hW.cell (p := ⟨wr.heap.size, 1, none⟩) (Nat.lt_succ_self _)).trans (by rw [hw1]; exact new_cell wr _ _ 1 _ rfl)
                    · exact (hW.cell (p := ⟨wr.heap.size, 2, none⟩) (Nat.lt_succ_self _)).trans (by rw [hw1]; exact new_cell wr _ _ 2 _ rfl)
                    · exact (hW.cell (p := ⟨wr.heap.size, 3, none⟩) (Nat.lt_succ_self _)).trans (by rw [hw1]; exact new_cell wr _ _ 3 _ rfl)
                  have HC := Lib.hid HCC
                  have hs1 : wr.heap.size + 1 = w1.heap.size := by rw [hw1]; simp
                  clear HCC
                  first | rw [← hw1] | skip
                  obtain ⟨XE, xf, hXN, hX1, hX0, hX2⟩ := ext_class (wr.heap.size + 1) w1 (Nat.le_of_eq hs1)
                  have HX1 := Lib.hid hX1
                  have HX2 := Lib.hid hX2
                  have hin := hX0 w1.drew (Below.drew (Below.refl _ _))
                  have b0 := fun e => (HC.out _ (HX1.out e)).1
                  have b1 := fun e => (HC.out _ (HX1.out e)).2.1
                  have b2 := fun e => (HC.out _ (HX1.out e)).2.2.1
                  have b3 := fun e => (HC.out _ (HX1.out e)).2.2.2.1
                  have q1 := fun e => (HC.out _ (HX1.out e)).2.2.2.2.1
                  have q2 := fun e => (HC.out _ (HX1.out e)).2.2.2.2.2.1
                  have q3 := fun e => (HC.out _ (HX1.out e)).2.2.2.2.2.2
                  clear hX0 hX1 hX2
                  refine wp_region_quiet (C := fun W => ∃ e, W = xf e) (by kernel_rfl) (by kernel_rfl) hin ?_
                  clear hin
                  dsimp only
                  repeat (go_big_quiet_step ((go_at_call 98; refine (HRT.out _).mono ?_; rintro e w3 ⟨rfl, hb3⟩; exact ⟨rfl, HX2.out _ _ hb3⟩)))
                  refine wpQuiet_nil ?_
                  intro w3 hW3
                  obtain ⟨ee, hW3⟩ := hW3
                  have hb4 : Below wr.heap.size wr w3 := by rw [hW3]; exact ho1.trans ((HX1.out ee).mono (Nat.le_succ _))
                  clear hW3 HC hw1 ho1 hs1 b0 b1 b2 b3 q1 q2 q3 HX1 HX2
                  all_goals
                    have HB4 := Lib.hid ((HBW.out.trans (HB.out.mono hsW)).trans (hb4.mono (Nat.le_trans hsW hsz)))
                    go_wp2
                    go_ret
                    exact ⟨by rw [HZ.out]; exact rfl, HB4.out⟩
              · rw [g3] at hb
                have BF : b = false := by rw [← hb]; first | rfl | simp
                have HZ : Hid (R = 11) := Lib.hid (by rw [← HR3.out, if_neg (by rw [HOK.out, HST.out, BF]; simp)])
                clear hb BF
                go_wp2
                obtain ⟨w1, hw1⟩ : ∃ w1, w1 = wr.alloc (.cells #[.int .i64 k8, .bool f8, .int .i64 n8, .string t8] 83) := ⟨_, rfl⟩
                have ho1 : Below wr.heap.size wr w1 := by rw [hw1]; exact one_new _ _
                have HCC : ∀ W, Below (wr.heap.size + 1) w1 W → W.cell? ⟨wr.heap.size, 0, none⟩ = some (.int .i64 k8) ∧ W.cell? ⟨wr.heap.size, 1, none⟩ = some (.bool f8) ∧ W.cell? ⟨wr.heap.size, 2, none⟩ = some (.int .i64 n8) ∧ W.cell? ⟨wr.heap.size, 3, none⟩ = some (.string t8) ∧ W.cell? ⟨w2.heap.size, 1, none⟩ = some (.slice (some a2) x.cols.length c2) ∧ W.cell? { block := (a2.add (k * 3)).block, off := (a2.add (k * 3)).off + 1 } = some (.int .i64 k9) ∧ W.cell? { block := (a2.add (k * 3)).block, off := (a2.add (k * 3)).off + 2 } = some (.bool nl9) := by
                  intro W hW
                  have hW2 := ho1.trans (hW.mono (Nat.le_succ _))
                  refine ⟨?_, ?_, ?_, ?_, (hW2.cell (p := ⟨w2.heap.size, 1, none⟩) hzr).trans X1.out, (hW2.cell (p := { block := (a2.add (k * 3)).block, off := (a2.add (k * 3)).off + 1 }) ha2).trans D1.out, (hW2.cell (p := { block := (a2.add (k * 3)).block, off := (a2.add (k * 3)).off + 2 }) ha2).trans D2.out⟩
                  · exact (hW.cell (p := ⟨wr.heap.size, 0, none⟩) (Nat.lt_succ_self _)).trans (by rw [hw1]; exact new_cell wr _ _ 0 _ rfl)
                  · exact (hW.cell (p := ⟨wr.heap.size, 1, none⟩) (Nat.lt_succ_self _)).trans (by rw [hw1]; exact new_cell wr _ _ 1 _ rfl)
                  · exact (hW.cell (p := ⟨wr.heap.size, 2, none⟩) (Nat.lt_succ_self _)).trans (by rw [hw1]; exact new_cell wr _ _ 2 _ rfl)
                  · exact (hW.cell (p := ⟨wr.heap.size, 3, none⟩) (Nat.lt_succ_self _)).trans (by rw [hw1]; exact new_cell wr _ _ 3 _ rfl)
                have HC := Lib.hid HCC
                have hs1 : wr.heap.size + 1 = w1.heap.size := by rw [hw1]; simp
                clear HCC
                first | rw [← hw1] | skip
                obtain ⟨XE, xf, hXN, hX1, hX0, hX2⟩ := ext_class (wr.heap.size + 1) w1 (Nat.le_of_eq hs1)
                have HX1 := Lib.hid hX1
                have HX2 := Lib.hid hX2
                have hin := hX0 w1.drew (Below.drew (Below.refl _ _))
                have b0 := fun e => (HC.out _ (HX1.out e)).1
                have b1 := fun e => (HC.out _ (HX1.out e)).2.1
                have b2 := fun e => (HC.out _ (HX1.out e)).2.2.1
                have b3 := fun e => (HC.out _ (HX1.out e)).2.2.2.1
                have q1 := fun e => (HC.out _ (HX1.out e)).2.2.2.2.1
                have q2 := fun e => (HC.out _ (HX1.out e)).2.2.2.2.2.1
                have q3 := fun e => (HC.out _ (HX1.out e)).2.2.2.2.2.2
                clear hX0 hX1 hX2
                refine wp_region_quiet (C := fun W => ∃ e, W = xf e) (by kernel_rfl) (by kernel_rfl) hin ?_
                clear hin
                dsimp only
                repeat (go_big_quiet_step ((go_at_call 98; refine (HRT.out _).mono ?_; rintro e w3 ⟨rfl, hb3⟩; exact ⟨rfl, HX2.out _ _ hb3⟩)))
                refine wpQuiet_nil ?_
                intro w3 hW3
                obtain ⟨ee, hW3⟩ := hW3
                have hb4 : Below wr.heap.size wr w3 := by rw [hW3]; exact ho1.trans ((HX1.out ee).mono (Nat.le_succ _))
                clear hW3 HC hw1 ho1 hs1 b0 b1 b2 b3 q1 q2 q3 HX1 HX2
                all_goals
                  have HB4 := Lib.hid ((HBW.out.trans (HB.out.mono hsW)).trans (hb4.mono (Nat.le_trans hsW hsz)))
                  go_wp2
                  go_ret
                  exact ⟨by rw [HZ.out]; exact rfl, HB4.out⟩
        · obtain rfl : k = x.cols.length := by omega
          have hz : R = 0 := by rw [← HR3.out, if_pos (by rw [HOK.out]; exact okCs_end _ _ _ (Nat.le_refl _))]
          subst hz
          go_wp2
          go_ret
          exact ⟨rfl, HBW.out.trans (HB.out.mono hsW)⟩
    · have hR3 : R = 9 := by rw [← HR.out, if_neg hq]
      have be : ((n : Int) == (x.cols.length : Int)) = false := by rw [beq_eq_false_iff_ne]; omega
      have bn : ((n : Int) != (x.cols.length : Int)) = true := by unfold bne; rw [be]; rfl
      subst hR3
      clear hq
      go_wp2
      go_ret
      exact ⟨rfl, HB2.out.trans ((one_new _ _).mono HB2.out.size)⟩
end Go.Proofs.YtdhpoaecedpbdaaGreat
