/-
  unquote of package value answers what its text says, at every text; it never panics and changes nothing that was there.
  Condition: the text is no longer than 242 bytes.
-/
import Derived.Test.YtmdkjhnafnblkaaDoorShow
import Derived.Deep.QuietTactic
import Derived.BigQuiet
namespace Go.Proofs.YtmdkjhnafnblkaaDoor
open Go.RowKit

/-- The digits of base 16. -/
def hexl : List UInt8 := [48, 49, 50, 51, 52, 53, 54, 55, 56, 57, 97, 98, 99, 100, 101, 102]
/-- The byte that a digit of base 16 is; 255 where it is none. -/
def dg (c : UInt8) : UInt8 := UInt8.ofNat (IntKind.u8.wrap (Lib.indexByte hexl c)).toNat
theorem dg_val (c : UInt8) : ((dg c).toNat : Int) = IntKind.u8.wrap (Lib.indexByte hexl c) := by
  have h : 0 ≤ IntKind.u8.wrap (Lib.indexByte hexl c) ∧ IntKind.u8.wrap (Lib.indexByte hexl c) < 256 := by
    rw [IntKind.wrap_u8]
    omega
  unfold dg
  have e : (UInt8.ofNat (IntKind.u8.wrap (Lib.indexByte hexl c)).toNat).toNat = (IntKind.u8.wrap (Lib.indexByte hexl c)).toNat := by
    rw [UInt8.toNat_ofNat_of_lt']
    show _ < 256
    omega
  rw [e]
  omega

set_option maxHeartbeats 400000 in
theorem digit_any (c : UInt8) (w : World) : Calls Tryd.prog 76 #[.int .u8 (c.toNat : Int)] w fun e w' => e = .returned (.int .u8 ((dg c).toNat : Int)) ∧ w' = w := by
  rw [dg_val]
  have hI : Hid (∀ W, Calls Tryd.prog 46 #[.string ⟨#[48, 49, 50, 51, 52, 53, 54, 55, 56, 57, 97, 98, 99, 100, 101, 102]⟩, .int .u8 (c.toNat : Int)] W fun e w' => e = .returned (.int .i64 (Lib.indexByte hexl c)) ∧ w' = W) := Lib.hid (by
    intro W
    have h := Tryd.strings_IndexByte ⟨#[48, 49, 50, 51, 52, 53, 54, 55, 56, 57, 97, 98, 99, 100, 101, 102]⟩ (c.toNat : Int) W
    have e : ((c.toNat : Int)).toNat.toUInt8 = c := by simp
    rw [e] at h
    exact h)
  go_enter Tryd.func76, Tryd.ntmps76
  go_wp2_with (go_at_call 46; refine (hI.out _).mono ?_; rintro e w' ⟨rfl, rfl⟩)
  go_ret
  exact ⟨rfl, rfl⟩

theorem qadd_same {P : Program} {f : FuncId} {args : Array Value} {w : World} {a n : Nat} {v : Value} (h : Calls P f args (w.drewN (a + n)) fun e w' => e = .returned v ∧ w' = w.drewN (a + n)) :
    Calls P f args (w.drewN (a + n)) fun e w'' => e = .returned v ∧ ∃ m, w'' = w.drewN (a + m) := h.mono fun _ _ ⟨he, hm⟩ => ⟨he, n, hm⟩

/-- The byte that two digits of base 16 are. -/
def hx (a b : UInt8) : UInt8 := UInt8.ofNat (bits .or .u8 (IntKind.u8.wrap (((dg a).toNat : Int) * 16)) ((dg b).toNat : Int)).toNat
theorem hx_val (a b : UInt8) : ((hx a b).toNat : Int) = bits .or .u8 (IntKind.u8.wrap (((dg a).toNat : Int) * 16)) ((dg b).toNat : Int) := by
  have h0 : 0 ≤ IntKind.u8.wrap (((dg a).toNat : Int) * 16) ∧ IntKind.u8.wrap (((dg a).toNat : Int) * 16) < 256 := by
    rw [IntKind.wrap_u8]
    omega
  have h1 := (dg b).toNat_lt
  unfold hx
  rw [u8_or _ _ h0.1 h0.2 (by omega) (by omega)]
  have h2 : (IntKind.u8.wrap (((dg a).toNat : Int) * 16)).toNat ||| (((dg b).toNat : Int)).toNat < 2 ^ 8 := Nat.or_lt_two_pow (by omega) (by omega)
  rw [Int.toNat_natCast, UInt8.toNat_ofNat_of_lt' h2]
theorem hx_cell (a b : UInt8) : (#[Value.int .u8 (bits .or .u8 (IntKind.u8.wrap (((dg a).toNat : Int) * 16)) ((dg b).toNat : Int))] : Array Value).toList = [hx a b].map bv := by
  rw [← hx_val]
  rfl

/-- What unquote answers of s from place i on, in f rounds. -/
def unqF (s : List UInt8) : Nat → Nat → List UInt8
  | 0, _ => []
  | f + 1, i =>
    if i + 1 < s.length then
      (if (s.getD i 0).toNat = 92 then
        (if i + 3 < s.length ∧ (s.getD (i + 1) 0).toNat = 120 then hx (s.getD (i + 2) 0) (s.getD (i + 3) 0) :: unqF s f (i + 4) else s.getD (i + 1) 0 :: unqF s f (i + 2))
      else s.getD i 0 :: unqF s f (i + 1))
    else []

theorem getD_at (s : ByteArray) (i : Nat) (h : i < s.size) : s.data.toList.getD i 0 = s[i] := by
  have e : s.data.toList[i]? = some s[i] := by
    rw [List.getElem?_eq_getElem (by exact h)]
    rfl
  rw [List.getD_eq_getElem?_getD, e]
  rfl

theorem unq_hex (s : ByteArray) (g k : Nat) (h3 : k + 3 < s.size) (h2 : s[k].toNat = 92) (h4 : s[k + 1].toNat = 120) : unqF s.data.toList (g + 1) k = hx s[k + 2] s[k + 3] :: unqF s.data.toList g (k + 4) := by
  have hl : s.data.toList.length = s.size := rfl
  rw [unqF, if_pos (by omega), getD_at s k (by omega), getD_at s (k + 1) (by omega), getD_at s (k + 2) (by omega), getD_at s (k + 3) h3, if_pos h2, if_pos ⟨by omega, h4⟩]
theorem unq_esc (s : ByteArray) (g k : Nat) (h1 : k + 1 < s.size) (h2 : s[k].toNat = 92) (h4 : ¬ (k + 3 < s.size ∧ s[k + 1].toNat = 120)) : unqF s.data.toList (g + 1) k = s[k + 1] :: unqF s.data.toList g (k + 2) := by
  have hl : s.data.toList.length = s.size := rfl
  rw [unqF, if_pos (by omega), getD_at s k (by omega), getD_at s (k + 1) (by omega), if_pos h2, if_neg (by rw [hl]; exact h4)]
theorem unq_one (s : ByteArray) (g k : Nat) (h1 : k + 1 < s.size) (h2 : ¬ s[k].toNat = 92) : unqF s.data.toList (g + 1) k = s[k] :: unqF s.data.toList g (k + 1) := by
  have hl : s.data.toList.length = s.size := rfl
  rw [unqF, if_pos (by omega), getD_at s k (by omega), if_neg h2]
theorem unq_end (l : List UInt8) (f k : Nat) (h : ¬ k + 1 < l.length) : unqF l f k = [] := by
  cases f with
  | zero => rfl
  | succ f => rw [unqF, if_neg h]
theorem snoc (bs : List UInt8) (c : UInt8) (l : List UInt8) : bs ++ c :: l = bs ++ [c] ++ l := by simp

set_option maxRecDepth 100000 in
set_option maxHeartbeats 2000000 in
theorem unquote_all (s : ByteArray) (w : World) (hs : s.size ≤ 1000) : Calls Tryd.prog 67 #[.string s] w fun e w' => e = .returned (.string ⟨(unqF s.data.toList s.size 1).toArray⟩) ∧ Below w.heap.size w w' := by
  have hsl : s.data.toList.length = s.size := rfl
  have HL := Lib.hid hsl
  clear hsl
  obtain ⟨R, hR⟩ : ∃ R, R = unqF s.data.toList s.size 1 := ⟨_, rfl⟩
  rw [← hR]
  have HR := Lib.hid hR
  clear hR
  go_enter Tryd.func67, Tryd.ntmps67
  go_wp2
  go_loopw [3, 4] (fun v i wr => ∃ (k f : Nat) (bs : List UInt8), 1 ≤ k ∧ k ≤ s.size + 4 ∧ s.size ≤ f + k ∧ bs.length < k ∧ i = .int .i64 k ∧ OwnB wr w.heap.size v bs ∧ R = bs ++ unqF s.data.toList f k ∧ Below w.heap.size w wr) (fun _ i _ => s.size + 4 - (intOf i).toNat)
  case atStart => exact ⟨1, s.size, [], by omega, by omega, by omega, by simp, rfl, World.ownsRow_nil _ _ _ _, by rw [HR.out]; rfl, Below.refl _ _⟩
  case round =>
    obtain ⟨k, f, bs, hk1, hk4, hf, hbl, rfl, hown, hr, hb⟩ := hrel
    have HO := Lib.hid hown
    have HB := Lib.hid hb
    have HRR := Lib.hid hr
    have hsz : w.heap.size ≤ wr.heap.size := hb.size
    clear hown hb hr
    by_cases h1 : k + 1 < s.size
    · obtain ⟨g, rfl⟩ : ∃ g, f = g + 1 := ⟨f - 1, by omega⟩
      by_cases h2 : s[k].toNat = 92
      · have b2 : ((s[k].toNat : Int) == 92) = true := by rw [h2]; rfl
        by_cases h3 : k + 3 < s.size
        · by_cases h4 : s[k + 1].toNat = 120
          · have b4 : ((s[k + 1].toNat : Int) == 120) = true := by rw [h4]; rfl
            have HE := Lib.hid (unq_hex s g k h3 h2 h4)
            have HD1 := Lib.hid (fun W : World => digit_any s[k + 2] W)
            have HD2 := Lib.hid (fun W : World => digit_any s[k + 3] W)
            clear h2 h4
            go_wp2
            have q1 : IntKind.i64.wrap ((k : Int) + 2) = (k : Int) + 2 := IntWalk.i64_in _ (by omega)
            have q2 : IntKind.i64.wrap ((k : Int) + 3) = (k : Int) + 3 := IntWalk.i64_in _ (by omega)
            have q3 : (0 : Int) ≤ (k : Int) + 2 := by omega
            have q4 : (0 : Int) ≤ (k : Int) + 3 := by omega
            have q5 : ((k : Int) + 2).toNat = k + 2 := by omega
            have q6 : ((k : Int) + 3).toNat = k + 3 := by omega
            have q7 : (k : Int) + 2 < (s.size : Int) := by omega
            have q8 : (k : Int) + 3 < (s.size : Int) := by omega
            go_quiet ((go_at_call 76; first | exact Calls.quiet_of_same (HD1.out _) | exact Calls.quiet_of_same (HD2.out _) | exact qadd_same (HD2.out _)))
            clear q1 q2
            go_wp2_with (at_builtin; refine wp_append_B _ rfl (.tmp 55) (.tmp 57) rfl w.heap.size _ bs [hx s[k + 2] s[k + 3]] rfl (by exact HO.out) _ (by exact hx_cell _ _) _ _ _ rfl rfl rfl (by simp; omega) (by exact hsz) ?_; intro v1 w1 ho1 hb1)
            go_roundw
            case rel =>
              refine ⟨k + 4, g, bs ++ [hx s[k + 2] s[k + 3]], by omega, by omega, by omega, by simp; omega, by go_num, ho1, ?_, HB.out.trans ((below_drewN' (Below.refl _ _) _).trans hb1)⟩
              rw [HRR.out, HE.out, snoc]
            case measure => simp [intOf]; omega
          · have b4 : ((s[k + 1].toNat : Int) == 120) = false := by
              rw [beq_eq_false_iff_ne]
              omega
            have HE := Lib.hid (unq_esc s g k h1 h2 (fun h => h4 h.2))
            clear h2 h4
            go_wp2_with (at_builtin; refine wp_append_B _ rfl (.tmp 55) (.tmp 57) rfl w.heap.size _ bs [s[k + 1]] rfl (by exact HO.out) _ (by rfl) _ _ _ rfl rfl rfl (by simp; omega) (by exact hsz) ?_; intro v1 w1 ho1 hb1)
            go_roundw
            case rel =>
              refine ⟨k + 2, g, bs ++ [s[k + 1]], by omega, by omega, by omega, by simp; omega, by go_num, ho1, ?_, HB.out.trans hb1⟩
              rw [HRR.out, HE.out, snoc]
            case measure => simp [intOf]; omega
        · have HE := Lib.hid (unq_esc s g k h1 h2 (fun h => h3 h.1))
          clear h2
          go_wp2_with (at_builtin; refine wp_append_B _ rfl (.tmp 55) (.tmp 57) rfl w.heap.size _ bs [s[k + 1]] rfl (by exact HO.out) _ (by rfl) _ _ _ rfl rfl rfl (by simp; omega) (by exact hsz) ?_; intro v1 w1 ho1 hb1)
          go_roundw
          case rel =>
            refine ⟨k + 2, g, bs ++ [s[k + 1]], by omega, by omega, by omega, by simp; omega, by go_num, ho1, ?_, HB.out.trans hb1⟩
            rw [HRR.out, HE.out, snoc]
          case measure => simp [intOf]; omega
      · have b2 : ((s[k].toNat : Int) == 92) = false := by
          rw [beq_eq_false_iff_ne]
          omega
        have HE := Lib.hid (unq_one s g k h1 h2)
        clear h2
        go_wp2_with (at_builtin; refine wp_append_B _ rfl (.tmp 55) (.tmp 57) rfl w.heap.size _ bs [s[k]] rfl (by exact HO.out) _ (by rfl) _ _ _ rfl rfl rfl (by simp; omega) (by exact hsz) ?_; intro v1 w1 ho1 hb1)
        go_roundw
        case rel =>
          refine ⟨k + 1, g, bs ++ [s[k]], by omega, by omega, by omega, by simp; omega, by go_num, ho1, ?_, HB.out.trans hb1⟩
          rw [HRR.out, HE.out, snoc]
        case measure => simp [intOf]; omega
    · have he : R = bs := by rw [HRR.out, unq_end _ _ _ (by rw [HL.out]; exact h1), List.append_nil]
      obtain ⟨A, n, c, rfl, hcv⟩ := conv_B HO.out
      rw [← he] at hcv
      have HE := Lib.hid he
      clear he
      go_wp2
      go_ret
      exact ⟨rfl, HB.out⟩
end Go.Proofs.YtmdkjhnafnblkaaDoor
