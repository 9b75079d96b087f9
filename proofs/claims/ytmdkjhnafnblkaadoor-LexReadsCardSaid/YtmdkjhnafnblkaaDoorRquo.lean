/-
  quoted of verdererref01 answers the bytes that stand for a text between two quotes, at every text, and changes nothing.
  Condition: the text is no longer than a thousand bytes.
-/
import Derived.Test.YtmdkjhnafnblkaaDoorRdig
namespace Go.Proofs.YtmdkjhnafnblkaaDoor
open Go.RowKit

theorem hexd_cut (d : Nat) (hd : d < 16) : (⟨#[48, 49, 50, 51, 52, 53, 54, 55, 56, 57, 97, 98, 99, 100, 101, 102]⟩ : ByteArray).extract d (d + 1) = ⟨#[hexd d]⟩ := by
  have h : ∀ e : Fin 16, (⟨#[48, 49, 50, 51, 52, 53, 54, 55, 56, 57, 97, 98, 99, 100, 101, 102]⟩ : ByteArray).extract e.val (e.val + 1) = ⟨#[hexd e.val]⟩ := by decide
  exact h ⟨d, hd⟩
theorem hex_slice (z z1 : Int) (d : Nat) (hz : z = (d : Int)) (hz1 : z1 = (d : Int) + 1) (hd : d < 16) (w : World) :
    (Instr.slice 9 (.string ⟨#[48, 49, 50, 51, 52, 53, 54, 55, 56, 57, 97, 98, 99, 100, 101, 102]⟩) (some (.int .u8 z)) (some (.int .u8 z1)) none).run Tryd.prog w = .ok (.string ⟨#[hexd d]⟩) w := by
  subst hz hz1
  rw [run_slice_string_if w 9 _ .u8 .u8 (d : Int) ((d : Int) + 1) Tryd.underlying9]
  have hs : ByteArray.size ⟨#[48, 49, 50, 51, 52, 53, 54, 55, 56, 57, 97, 98, 99, 100, 101, 102]⟩ = 16 := rfl
  rw [if_pos ⟨by omega, by rw [hs]; omega⟩, if_pos ⟨by omega, by omega⟩]
  have e : ((d : Int)).toNat = d := by omega
  have e1 : ((d : Int) + 1).toNat = d + 1 := by omega
  rw [e, e1, hexd_cut d hd]

theorem cat_bytes (a b : List UInt8) : (⟨a.toArray⟩ : ByteArray) ++ ⟨b.toArray⟩ = ⟨(a ++ b).toArray⟩ := by
  apply ByteArray.ext
  simp
theorem cut_one (s : ByteArray) (k : Nat) (h : k < s.size) : s.extract k (k + 1) = ⟨[s[k]].toArray⟩ := by
  apply ByteArray.ext
  have h' : k < s.data.size := h
  simp only [ByteArray.data_extract]
  apply Array.ext
  · simp only [Array.size_extract, List.size_toArray, List.length_cons, List.length_nil]
    omega
  · intro i h1 h2
    have hi : i = 0 := by simpa using h2
    subst hi
    simp only [Array.getElem_extract, Nat.add_zero]
    rfl
theorem quo_next (s : ByteArray) (k : Nat) (bs : List UInt8) (w wr : World) (h1 : k < s.size) (hbl : bs.length ≤ 1 + 4 * k) (hb : bs = [34] ++ (s.data.toList.take k).flatMap qb) (v : ByteArray) (hv : v = ⟨(bs ++ qb s[k]).toArray⟩) (hw : Below w.heap.size w wr) :
    (∃ (k' : Nat) (bs' : List UInt8), k' ≤ s.size ∧ Value.int .i64 ((k : Int) + 1) = .int .i64 (k' : Int) ∧ Value.string v = .string ⟨bs'.toArray⟩ ∧ bs'.length ≤ 1 + 4 * k' ∧ bs' = [34] ++ (s.data.toList.take k').flatMap qb ∧ Below w.heap.size w wr) ∧
    s.size - (intOf (Value.int .i64 ((k : Int) + 1))).toNat < s.size - (intOf (Value.int .i64 (k : Int))).toNat := by
  refine ⟨⟨k + 1, bs ++ qb s[k], by omega, rfl, by rw [hv], ?_, by rw [take_flat s k h1, hb, List.append_assoc], hw⟩, by simp only [intOf]; omega⟩
  have := qb_len s[k]
  simp only [List.length_append]
  omega

set_option maxRecDepth 100000 in
set_option maxHeartbeats 2000000 in
theorem ref_quoted (s : ByteArray) (hs : s.size ≤ 1000) (w : World) : Calls Tryd.prog 52 #[.string s] w fun e w' => e = .returned (.string ⟨(qs s.data.toList).toArray⟩) ∧ Below w.heap.size w w' := by
  have hsl : s.data.toList.length = s.size := rfl
  have HL := Lib.hid hsl
  clear hsl
  go_enter Tryd.func52, Tryd.ntmps52
  go_wp2
  go_loopw [3, 4] (fun v i wr => ∃ (k : Nat) (bs : List UInt8), k ≤ s.size ∧ i = .int .i64 k ∧ v = .string ⟨bs.toArray⟩ ∧ bs.length ≤ 1 + 4 * k ∧ bs = [34] ++ (s.data.toList.take k).flatMap qb ∧ Below w.heap.size w wr) (fun _ i _ => s.size - (intOf i).toNat)
  case atStart => exact ⟨0, [34], Nat.zero_le _, rfl, rfl, by simp, by simp, Below.refl _ _⟩
  case round =>
    obtain ⟨k, bs, hk, rfl, rfl, hbl, hbs, hbel⟩ := hrel
    have HBel := Lib.hid hbel
    clear hbel
    have HB := Lib.hid hbs
    clear hbs
    by_cases h1 : k < s.size
    · have HT := Lib.hid (take_flat s k h1)
      have hc : s[k].toNat < 256 := s[k].toNat_lt
      have hc1 : (s[k].toNat : Int) < 256 := by omega
      have o2 : ¬ 9223372036854775807 < bs.length + 2 := by omega
      have o3 : ¬ 9223372036854775807 < bs.length + 2 + 1 := by omega
      have o5 : ¬ 9223372036854775807 < bs.length + 3 + 1 := by omega
      have o6 : ¬ 9223372036854775807 < bs.length + 2 + 1 + 1 := by omega
      by_cases c1 : s[k].toNat = 34
      · have b1 : ((s[k].toNat : Int) == 34) = true := by rw [c1]; rfl
        have HQ := Lib.hid (show qb s[k] = [92, s[k]] from if_pos (.inl c1))
        clear c1
        go_wp2
        refine quo_next s k bs _ _ h1 hbl HB.out _ ?_ HBel.out
        rw [HQ.out, cut_one s k h1, ByteArray.append_assoc]
        exact (congrArg (_ ++ ·) (cat_bytes [92] [s[k]])).trans (cat_bytes bs _)
      · have b1 : ((s[k].toNat : Int) == 34) = false := by
          rw [beq_eq_false_iff_ne]
          omega
        by_cases c2 : s[k].toNat = 92
        · have b2 : ((s[k].toNat : Int) == 92) = true := by rw [c2]; rfl
          have HQ := Lib.hid (show qb s[k] = [92, s[k]] from if_pos (.inr c2))
          clear c1 c2
          go_wp2
          refine quo_next s k bs _ _ h1 hbl HB.out _ ?_ HBel.out
          rw [HQ.out, cut_one s k h1, ByteArray.append_assoc]
          exact (congrArg (_ ++ ·) (cat_bytes [92] [s[k]])).trans (cat_bytes bs _)
        · have b2 : ((s[k].toNat : Int) == 92) = false := by
            rw [beq_eq_false_iff_ne]
            omega
          by_cases c3 : s[k].toNat < 32 ∨ 126 < s[k].toNat
          · have HQ := Lib.hid (show qb s[k] = [92, 120, hexd (s[k].toNat / 16), hexd (s[k].toNat % 16)] by unfold qb; rw [if_neg (by omega), if_pos c3])
            have w1 : IntKind.u8.wrap ((s[k].toNat : Int) / 16 + 1) = (s[k].toNat : Int) / 16 + 1 := by rw [IntKind.wrap_u8]; omega
            have w2 : IntKind.u8.wrap ((s[k].toNat : Int) % 16 + 1) = (s[k].toNat : Int) % 16 + 1 := by rw [IntKind.wrap_u8]; omega
            have w3 : IntKind.u8.wrap ((s[k].toNat : Int) / 16) = (s[k].toNat : Int) / 16 := by rw [IntKind.wrap_u8]; omega
            have w4 : IntKind.u8.wrap ((s[k].toNat : Int) % 16) = (s[k].toNat : Int) % 16 := by rw [IntKind.wrap_u8]; omega
            have tm : ((s[k].toNat : Int)).tmod 16 = (s[k].toNat : Int) % 16 := Int.tmod_eq_emod_of_nonneg (by omega)
            have i1 := fun W : World => hex_slice ((s[k].toNat : Int) / 16) ((s[k].toNat : Int) / 16 + 1) (s[k].toNat / 16) (by omega) (by omega) (by omega) W
            have i2 := fun W : World => hex_slice ((s[k].toNat : Int) % 16) ((s[k].toNat : Int) % 16 + 1) (s[k].toNat % 16) (by omega) (by omega) (by omega) W
            by_cases c4 : (s[k].toNat : Int) < 32
            · clear c1 c2 c3
              go_wp2
              go_region_law (fail)
              go_wp2
              refine quo_next s k bs _ _ h1 hbl HB.out _ ?_ (HBel.out.trans (Below.drew (Below.refl _ _)))
              rw [HQ.out, ByteArray.append_assoc, ByteArray.append_assoc]
              exact (congrArg (_ ++ ·) ((congrArg (_ ++ ·) (cat_bytes [_] [_])).trans (cat_bytes [92, 120] _))).trans (cat_bytes bs _)
            · have c5 : 126 < (s[k].toNat : Int) := by omega
              clear c1 c2 c3
              go_wp2
              go_region_law (fail)
              go_wp2
              refine quo_next s k bs _ _ h1 hbl HB.out _ ?_ (HBel.out.trans (Below.drew (Below.refl _ _)))
              rw [HQ.out, ByteArray.append_assoc, ByteArray.append_assoc]
              exact (congrArg (_ ++ ·) ((congrArg (_ ++ ·) (cat_bytes [_] [_])).trans (cat_bytes [92, 120] _))).trans (cat_bytes bs _)
          · have HQ := Lib.hid (show qb s[k] = [s[k]] by unfold qb; rw [if_neg (by omega), if_neg c3])
            have c5 : 32 ≤ (s[k].toNat : Int) := by omega
            have c6 : (s[k].toNat : Int) ≤ 126 := by omega
            clear c1 c2 c3
            go_wp2
            refine quo_next s k bs _ _ h1 hbl HB.out _ ?_ HBel.out
            rw [HQ.out, cut_one s k h1]
            exact cat_bytes bs _
    · obtain rfl : k = s.size := by omega
      have o1 : ¬ 9223372036854775807 < bs.length + 1 := by omega
      go_wp2
      go_ret
      refine ⟨?_, HBel.out⟩
      rw [HB.out, List.take_of_length_le (by rw [HL.out]; omega)]
      exact congrArg (fun x => Ending.returned (Value.string x)) (cat_bytes _ [34])
end Go.Proofs.YtmdkjhnafnblkaaDoor
