/-
  quoted of verdererref01 answers the bytes that stand for a text between two quotes, at every text, and changes nothing.
  Condition: the text is no longer than a thousand bytes.
  Show of the document's value answers the word of a value, as Show of package value does, at every value; nothing that was there is changed.
  Condition: the number is one of 64 bits.
  hex of verdererref01 answers the digit of base 16 that a byte is, and -1 where it is none; it changes nothing.
  No condition.
-/
import Derived.Test.YthdjkagodccdbaaM2
import Derived.Test.YthdjkagodccdbaaM5
namespace Go.Proofs.Ythdjkagodccdbaa
section
open Go.RowKit

theorem hexd_cut (d : Nat) (hd : d < 16) : (⟨#[48, 49, 50, 51, 52, 53, 54, 55, 56, 57, 97, 98, 99, 100, 101, 102]⟩ : ByteArray).extract d (d + 1) = ⟨#[hexd d]⟩ := by
  have h : ∀ e : Fin 16, (⟨#[48, 49, 50, 51, 52, 53, 54, 55, 56, 57, 97, 98, 99, 100, 101, 102]⟩ : ByteArray).extract e.val (e.val + 1) = ⟨#[hexd e.val]⟩ := by decide
  exact h ⟨d, hd⟩
theorem hex_slice (z z1 : Int) (d : Nat) (hz : z = (d : Int)) (hz1 : z1 = (d : Int) + 1) (hd : d < 16) (w : World) :
    (Instr.slice 9 (.string ⟨#[48, 49, 50, 51, 52, 53, 54, 55, 56, 57, 97, 98, 99, 100, 101, 102]⟩) (some (.int .u8 z)) (some (.int .u8 z1)) none).run Try.prog w = .ok (.string ⟨#[hexd d]⟩) w := by
  subst hz hz1
  rw [run_slice_string_if w 9 _ .u8 .u8 (d : Int) ((d : Int) + 1) Try.underlying9]
  have hs : ByteArray.size ⟨#[48, 49, 50, 51, 52, 53, 54, 55, 56, 57, 97, 98, 99, 100, 101, 102]⟩ = 16 := rfl
  rw [if_pos ⟨by omega, by rw [hs]; omega⟩, if_pos ⟨by omega, by omega⟩]
  have e : ((d : Int)).toNat = d := by omega
  have e1 : ((d : Int) + 1).toNat = d + 1 := by omega
  rw [e, e1, hexd_cut d hd]

theorem cat_bytes (a b : List UInt8) : (⟨a.toArray⟩ : ByteArray) ++ ⟨b.toArray⟩ = ⟨(a ++ b).toArray⟩ := by
  apply ByteArray.ext
  simp
theorem cut_one (s : ByteArray) (k : Nat) (h : k < s.size) : s.extract k (k + 1) = ⟨[s[k]].toArray⟩ := by
  apply ByteArray.ext
  have h' : k < s.data.size := h
  simp only [ByteArray.data_extract]
  apply Array.ext
  · simp only [Array.size_extract, List.size_toArray, List.length_cons, List.length_nil]
    omega
  · intro i h1 h2
    have hi : i = 0 := by simpa using h2
    subst hi
    simp only [Array.getElem_extract, Nat.add_zero]
    rfl
theorem quo_next (s : ByteArray) (k : Nat) (bs : List UInt8) (w wr : World) (h1 : k < s.size) (hbl : bs.length ≤ 1 + 4 * k) (hb : bs = [34] ++ (s.data.toList.take k).flatMap qb) (v : ByteArray) (hv : v = ⟨(bs ++ qb s[k]).toArray⟩) (hw : Below w.heap.size w wr) :
    (∃ (k' : Nat) (bs' : List UInt8), k' ≤ s.size ∧ Value.int .i64 ((k : Int) + 1) = .int .i64 (k' : Int) ∧ Value.string v = .string ⟨bs'.toArray⟩ ∧ bs'.length ≤ 1 + 4 * k' ∧ bs' = [34] ++ (s.data.toList.take k').flatMap qb ∧ Below w.heap.size w wr) ∧
    s.size - (intOf (Value.int .i64 ((k : Int) + 1))).toNat < s.size - (intOf (Value.int .i64 (k : Int))).toNat := by
  refine ⟨⟨k + 1, bs ++ qb s[k], by omega, rfl, by rw [hv], ?_, by rw [take_flat s k h1, hb, List.append_assoc], hw⟩, by simp only [intOf]; omega⟩
  have := qb_len s[k]
  simp only [List.length_append]
  omega

set_option maxRecDepth 100000 in
set_option maxHeartbeats 2000000 in
theorem ref_quoted (s : ByteArray) (hs : s.size ≤ 1000) (w : World) : Calls Try.prog 88 #[.string s] w fun e w' => e = .returned (.string ⟨(qs s.data.toList).toArray⟩) ∧ Below w.heap.size w w' := by
  have hsl : s.data.toList.length = s.size := rfl
  have HL := Lib.hid hsl
  clear hsl
  go_enter Try.func88, Try.ntmps88
  go_wp2
  go_loopw [3, 4] (fun v i wr => ∃ (k : Nat) (bs : List UInt8), k ≤ s.size ∧ i = .int .i64 k ∧ v = .string ⟨bs.toArray⟩ ∧ bs.length ≤ 1 + 4 * k ∧ bs = [34] ++ (s.data.toList.take k).flatMap qb ∧ Below w.heap.size w wr) (fun _ i _ => s.size - (intOf i).toNat)
  case atStart => exact ⟨0, [34], Nat.zero_le _, rfl, rfl, by simp, by simp, Below.refl _ _⟩
  case round =>
    obtain ⟨k, bs, hk, rfl, rfl, hbl, hbs, hbel⟩ := hrel
    have HBel := Lib.hid hbel
    clear hbel
    have HB := Lib.hid hbs
    clear hbs
    by_cases h1 : k < s.size
    · have HT := Lib.hid (take_flat s k h1)
      have hc : s[k].toNat < 256 := s[k].toNat_lt
      have hc1 : (s[k].toNat : Int) < 256 := by omega
      have o2 : ¬ 9223372036854775807 < bs.length + 2 := by omega
      have o3 : ¬ 9223372036854775807 < bs.length + 2 + 1 := by omega
      have o5 : ¬ 9223372036854775807 < bs.length + 3 + 1 := by omega
      have o6 : ¬ 9223372036854775807 < bs.length + 2 + 1 + 1 := by omega
      by_cases c1 : s[k].toNat = 34
      · have b1 : ((s[k].toNat : Int) == 34) = true := by rw [c1]; rfl
        have HQ := Lib.hid (show qb s[k] = [92, s[k]] from if_pos (.inl c1))
        clear c1
        go_wp2
        refine quo_next s k bs _ _ h1 hbl HB.out _ ?_ HBel.out
        rw [HQ.out, cut_one s k h1, ByteArray.append_assoc]
        exact (congrArg (_ ++ ·) (cat_bytes [92] [s[k]])).trans (cat_bytes bs _)
      · have b1 : ((s[k].toNat : Int) == 34) = false := by
          rw [beq_eq_false_iff_ne]
          omega
        by_cases c2 : s[k].toNat = 92
        · have b2 : ((s[k].toNat : Int) == 92) = true := by rw [c2]; rfl
          have HQ := Lib.hid (show qb s[k] = [92, s[k]] from if_pos (.inr c2))
          clear c1 c2
          go_wp2
          refine quo_next s k bs _ _ h1 hbl HB.out _ ?_ HBel.out
          rw [HQ.out, cut_one s k h1, ByteArray.append_assoc]
          exact (congrArg (_ ++ ·) (cat_bytes [92] [s[k]])).trans (cat_bytes bs _)
        · have b2 : ((s[k].toNat : Int) == 92) = false := by
            rw [beq_eq_false_iff_ne]
            omega
          by_cases c3 : s[k].toNat < 32 ∨ 126 < s[k].toNat
          · have HQ := Lib.hid (show qb s[k] = [92, 120, hexd (s[k].toNat / 16), hexd (s[k].toNat % 16)] by unfold qb; rw [if_neg (by omega), if_pos c3])
            have w1 : IntKind.u8.wrap ((s[k].toNat : Int) / 16 + 1) = (s[k].toNat : Int) / 16 + 1 := by rw [IntKind.wrap_u8]; omega
            have w2 : IntKind.u8.wrap ((s[k].toNat : Int) % 16 + 1) = (s[k].toNat : Int) % 16 + 1 := by rw [IntKind.wrap_u8]; omega
            have w3 : IntKind.u8.wrap ((s[k].toNat : Int) / 16) = (s[k].toNat : Int) / 16 := by rw [IntKind.wrap_u8]; omega
            have w4 : IntKind.u8.wrap ((s[k].toNat : Int) % 16) = (s[k].toNat : Int) % 16 := by rw [IntKind.wrap_u8]; omega
            have tm : ((s[k].toNat : Int)).tmod 16 = (s[k].toNat : Int) % 16 := Int.tmod_eq_emod_of_nonneg (by omega)
            have i1 := fun W : World => hex_slice ((s[k].toNat : Int) / 16) ((s[k].toNat : Int) / 16 + 1) (s[k].toNat / 16) (by omega) (by omega) (by omega) W
            have i2 := fun W : World => hex_slice ((s[k].toNat : Int) % 16) ((s[k].toNat : Int) % 16 + 1) (s[k].toNat % 16) (by omega) (by omega) (by omega) W
            by_cases c4 : (s[k].toNat : Int) < 32
            · clear c1 c2 c3
              go_wp2
              go_region_law (fail)
              go_wp2
              refine quo_next s k bs _ _ h1 hbl HB.out _ ?_ (HBel.out.trans (Below.drew (Below.refl _ _)))
              rw [HQ.out, ByteArray.append_assoc, ByteArray.append_assoc]
              exact (congrArg (_ ++ ·) ((congrArg (_ ++ ·) (cat_bytes [_] [_])).trans (cat_bytes [92, 120] _))).trans (cat_bytes bs _)
            · have c5 : 126 < (s[k].toNat : Int) := by omega
              clear c1 c2 c3
              go_wp2
              go_region_law (fail)
              go_wp2
              refine quo_next s k bs _ _ h1 hbl HB.out _ ?_ (HBel.out.trans (Below.drew (Below.refl _ _)))
              rw [HQ.out, ByteArray.append_assoc, ByteArray.append_assoc]
              exact (congrArg (_ ++ ·) ((congrArg (_ ++ ·) (cat_bytes [_] [_])).trans (cat_bytes [92, 120] _))).trans (cat_bytes bs _)
          · have HQ := Lib.hid (show qb s[k] = [s[k]] by unfold qb; rw [if_neg (by omega), if_neg c3])
            have c5 : 32 ≤ (s[k].toNat : Int) := by omega
            have c6 : (s[k].toNat : Int) ≤ 126 := by omega
            clear c1 c2 c3
            go_wp2
            refine quo_next s k bs _ _ h1 hbl HB.out _ ?_ HBel.out
            rw [HQ.out, cut_one s k h1]
            exact cat_bytes bs _
    · obtain rfl : k = s.size := by omega
      have o1 : ¬ 9223372036854775807 < bs.length + 1 := by omega
      go_wp2
      go_ret
      refine ⟨?_, HBel.out⟩
      rw [HB.out, List.take_of_length_le (by rw [HL.out]; omega)]
      exact congrArg (fun x => Ending.returned (Value.string x)) (cat_bytes _ [34])
end
end Go.Proofs.Ythdjkagodccdbaa
namespace Go.Proofs.Ythdjkagodccdbaa
section
open Go.RowKit

set_option maxHeartbeats 1000000 in
theorem ref_show (v : V) (w : World) (hw : Wide v) : Calls Try.prog 76 #[v.val] w fun e w' => e = .returned (.string ⟨(showV v).toArray⟩) ∧ Below w.heap.size w w' := by
  obtain ⟨k, f, n, t⟩ := v
  show Calls Try.prog 76 #[.agg #[.int .i64 k, .bool f, .int .i64 n, .string t]] w _
  have HW := Lib.hid hw
  have HRV := Lib.hid (fun w => ref_right ⟨k, f, n, t⟩ w)
  clear hw
  rcases Bool.eq_false_or_eq_true (rightV ⟨k, f, n, t⟩) with hr | hr
  · have HR := Lib.hid hr
    have HS := Lib.hid (right_size _ hr)
    clear hr
    by_cases h0 : k = 0
    · subst h0
      have hs : showV ⟨0, f, n, t⟩ = [110, 117, 108, 108] := by unfold showV; rw [if_pos HR.out]; rfl
      have HSH := Lib.hid hs
      clear hs
      go_enter Try.func76, Try.ntmps76
      go_wp2_with (first
        | (go_at_call 87; refine (HRV.out _).mono ?_; rintro e w1 ⟨rfl, hb1⟩; rw [HR.out]; have hc1 := bcell hb1))
      go_ret
      exact ⟨ret_str HSH.out.symm, (one_new _ _).trans (hb1.mono (by simp))⟩
    · by_cases h1 : k = 1
      · subst h1
        have hs : showV ⟨1, f, n, t⟩ = Lib.formatBool f := by unfold showV; rw [if_pos HR.out]; rfl
        have HSH := Lib.hid hs
        clear hs h0
        cases f
        all_goals
          go_enter Try.func76, Try.ntmps76
          go_wp2_with (first
            | (go_at_call 87; refine (HRV.out _).mono ?_; rintro e w1 ⟨rfl, hb1⟩; rw [HR.out]; have hc1 := bcell hb1))
          go_ret
          exact ⟨ret_str HSH.out.symm, (one_new _ _).trans (hb1.mono (by simp))⟩
      · by_cases h2 : k = 2
        · subst h2
          have hs : showV ⟨2, f, n, t⟩ = Lib.itoa n := by unfold showV; rw [if_pos HR.out]; rfl
          have HSH := Lib.hid hs
          clear hs h0 h1
          go_enter Try.func76, Try.ntmps76
          go_wp2_with (first
            | (go_at_call 87; refine (HRV.out _).mono ?_; rintro e w1 ⟨rfl, hb1⟩; rw [HR.out]; have hc1 := bcell hb1)
            | (go_at_call 85; refine (ref_num n HW.out.1 HW.out.2 _).mono ?_; rintro e w2 ⟨rfl, rfl⟩))
          go_ret
          exact ⟨ret_str HSH.out.symm, (one_new _ _).trans (hb1.mono (by simp))⟩
        · have h3 : k = 3 := by
            have := HR.out
            simp only [rightV, Bool.and_eq_true, decide_eq_true_eq] at this
            omega
          subst h3
          have hs : showV ⟨3, f, n, t⟩ = qs t.data.toList := by unfold showV; rw [if_pos HR.out]; rfl
          have HSH := Lib.hid hs
          clear hs h0 h1 h2
          go_enter Try.func76, Try.ntmps76
          go_wp2_with (first
            | (go_at_call 87; refine (HRV.out _).mono ?_; rintro e w1 ⟨rfl, hb1⟩; rw [HR.out]; have hc1 := bcell hb1)
            | (go_at_call 88; refine (ref_quoted t (Nat.le_trans HS.out (by decide)) _).mono ?_; rintro e w2 ⟨rfl, hb2⟩))
          go_ret
          exact ⟨ret_str HSH.out.symm, ((one_new _ _).trans (hb1.mono (by simp))).trans (hb2.mono (by have := hb1.size; simp at this; omega))⟩
  · have HR := Lib.hid hr
    clear hr
    have hs : showV ⟨k, f, n, t⟩ = [] := by unfold showV; rw [HR.out]; rfl
    have HSH := Lib.hid hs
    clear hs
    go_enter Try.func76, Try.ntmps76
    go_wp2_with (first
      | (go_at_call 87; refine (HRV.out _).mono ?_; rintro e w1 ⟨rfl, hb1⟩; rw [HR.out]; have hc1 := bcell hb1))
    go_ret
    exact ⟨ret_str HSH.out.symm, (one_new _ _).trans (hb1.mono (by simp))⟩
end
end Go.Proofs.Ythdjkagodccdbaa
namespace Go.Proofs.Ythdjkagodccdbaa
section
open Go.RowKit

/-- The digit of base 16; -1: none. -/
def rhex (c : UInt8) : Int := if 48 ≤ c.toNat ∧ c.toNat ≤ 57 then (c.toNat : Int) - 48 else if 97 ≤ c.toNat ∧ c.toNat ≤ 102 then (c.toNat : Int) - 87 else -1

set_option maxRecDepth 100000 in
set_option maxHeartbeats 1000000 in
theorem ref_hex (c : UInt8) (w : World) : Calls Try.prog 86 #[.int .u8 (c.toNat : Int)] w fun e w' => e = .returned (.int .i64 (rhex c)) ∧ w' = w := by
  have hc : c.toNat < 256 := c.toNat_lt
  have hc1 : (c.toNat : Int) < 256 := by omega
  have w48 : 48 ≤ c.toNat → IntKind.u8.wrap ((c.toNat : Int) - 48) = (c.toNat : Int) - 48 := by intro h; rw [IntKind.wrap_u8]; omega
  have w97 : 97 ≤ c.toNat → IntKind.u8.wrap ((c.toNat : Int) - 97) = (c.toNat : Int) - 97 := by intro h; rw [IntKind.wrap_u8]; omega
  by_cases h1 : 48 ≤ c.toNat
  · by_cases h2 : c.toNat ≤ 57
    · have e : rhex c = (c.toNat : Int) - 48 := if_pos ⟨h1, h2⟩
      have q := w48 h1
      clear w48 w97
      rw [e]
      clear e
      go_enter Try.func86, Try.ntmps86
      go_wp2
      go_ret
      exact ⟨rfl, rfl⟩
    · by_cases h3 : 97 ≤ c.toNat
      · by_cases h4 : c.toNat ≤ 102
        · have e : rhex c = (c.toNat : Int) - 97 + 10 := by
            unfold rhex
            rw [if_neg (by omega), if_pos ⟨h3, h4⟩]
            omega
          have q := w97 h3
          clear w48 w97
          rw [e]
          clear e
          go_enter Try.func86, Try.ntmps86
          go_wp2
          go_ret
          exact ⟨rfl, rfl⟩
        · have e : rhex c = -1 := by
            unfold rhex
            rw [if_neg (by omega), if_neg (by omega)]
          clear w48 w97
          rw [e]
          clear e
          go_enter Try.func86, Try.ntmps86
          go_wp2
          go_ret
          exact ⟨rfl, rfl⟩
      · have e : rhex c = -1 := by
          unfold rhex
          rw [if_neg (by omega), if_neg (by omega)]
        clear w48 w97
        rw [e]
        clear e
        go_enter Try.func86, Try.ntmps86
        go_wp2
        go_ret
        exact ⟨rfl, rfl⟩
  · have e : rhex c = -1 := by
      unfold rhex
      rw [if_neg (by omega), if_neg (by omega)]
    clear w48 w97
    rw [e]
    clear e
    go_enter Try.func86, Try.ntmps86
    go_wp2
    go_ret
    exact ⟨rfl, rfl⟩
end
end Go.Proofs.Ythdjkagodccdbaa
