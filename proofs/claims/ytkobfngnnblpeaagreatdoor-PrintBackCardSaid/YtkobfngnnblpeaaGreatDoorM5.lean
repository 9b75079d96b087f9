/-
  Show of package value answers the word of a value, at every value, where the library's three variables are as the program's text lays them; nothing that was there is changed.
  Condition: the text is no longer than a hundred thousand bytes.
  unquote of package value answers what its text says, at every text; it never panics and changes nothing that was there.
  Condition: the text is no longer than 242 bytes.
  Read of package value answers the value whose word shows as the text, and an error where there is none, at every text, where the library's three variables are as the program's text lays them; nothing that was there is changed.
  Condition: the text is no longer than a text can be.
-/
import Derived.WalkSmall
import Derived.Deep.QuietTactic
import Derived.BigQuiet
import Derived.Test.YtkobfngnnblpeaaGreatDoorM3
import Derived.Test.YtkobfngnnblpeaaGreatDoorM4
namespace Go.Proofs.YtkobfngnnblpeaaGreatDoor
section
open Go.RowKit

/-- The library's variables are as the program's text lays them. -/
def Vars (w : World) : Prop :=
  Lib.TabIs Tryz.prog w "internal/strconv.uint64pow10" .u64 Lib.pow10Tab ∧ (∃ tp p, w.var? Tryz.prog "strconv.ErrSyntax" = some #[.iface tp p]) ∧ (∃ tp p, w.var? Tryz.prog "strconv.ErrRange" = some #[.iface tp p]) ∧ max 0 (max 6 7) < w.heap.size

theorem g_pow : Tryz.prog.globalNamed "internal/strconv.uint64pow10" = some 0 := by kernel_rfl
theorem g_syn : Tryz.prog.globalNamed "strconv.ErrSyntax" = some 6 := by kernel_rfl
theorem g_rng : Tryz.prog.globalNamed "strconv.ErrRange" = some 7 := by kernel_rfl

theorem Vars.later {w w' : World} (h : Vars w) (hb : Below w.heap.size w w') : Vars w' := by
  obtain ⟨h1, ⟨tp, p, h2⟩, ⟨tq, q, h3⟩, h4⟩ := h
  refine ⟨?_, ⟨tp, p, var?_below hb g_syn (by omega) h2⟩, ⟨tq, q, var?_below hb g_rng (by omega) h3⟩, Nat.lt_of_lt_of_le h4 hb.size⟩
  unfold Lib.TabIs at h1 ⊢
  exact var?_below hb g_pow (by omega) h1

theorem below_grow (w : World) (k : Nat) (os : Array Obj) : Below w.heap.size w (Sort.grow (w.drewN k) os) :=
  ⟨rfl, rfl, rfl, by simp [Sort.grow], fun i hi => by
    show (w.heap ++ os)[i]? = w.heap[i]?
    rw [Array.getElem?_append_left hi]⟩

/-- The word of a value. -/
def showV (v : V) : List UInt8 :=
  if rightV v = true then (if v.k = 1 then Lib.formatBool v.f else if v.k = 2 then Lib.itoa v.n else if v.k = 3 then qs v.t.data.toList else [110, 117, 108, 108]) else []

/-- The number of a value is one of 64 bits. -/
def Wide (v : V) : Prop := -9223372036854775808 ≤ v.n ∧ v.n ≤ 9223372036854775807

theorem ret_str {a b : List UInt8} (h : a = b) : Ending.returned (.string ⟨a.toArray⟩) = .returned (.string ⟨b.toArray⟩) := by rw [h]

theorem bcell {W w1 : World} (hb : Below W.heap.size W w1) : ∀ b o, b < W.heap.size → w1.cell? ⟨b, o, none⟩ = W.cell? ⟨b, o, none⟩ := fun b o h => hb.cell (p := ⟨b, o, none⟩) h

theorem right_size (v : V) (h : rightV v = true) : v.t.size ≤ 60 := by
  unfold rightV at h
  simp only [Bool.and_eq_true, decide_eq_true_eq] at h
  exact h.2

set_option maxHeartbeats 1000000 in
theorem show_val (v : V) (w : World) (hw : Wide v) (hvars : Vars w) : Calls Tryz.prog 43 #[v.val] w fun e w' => e = .returned (.string ⟨(showV v).toArray⟩) ∧ Below w.heap.size w w' := by
  obtain ⟨k, f, n, t⟩ := v
  show Calls Tryz.prog 43 #[.agg #[.int .i64 k, .bool f, .int .i64 n, .string t]] w _
  have HW := Lib.hid hw
  have HV := Lib.hid hvars
  have HRV := Lib.hid (fun w => right_val ⟨k, f, n, t⟩ w)
  clear hw hvars
  rcases Bool.eq_false_or_eq_true (rightV ⟨k, f, n, t⟩) with hr | hr
  · have HR := Lib.hid hr
    have HS := Lib.hid (right_size _ hr)
    clear hr
    by_cases h1 : k = 1
    · subst h1
      have hs : showV ⟨1, f, n, t⟩ = Lib.formatBool f := by unfold showV; rw [if_pos HR.out]; rfl
      have HSH := Lib.hid hs
      clear hs
      go_enter Tryz.func43, Tryz.ntmps43
      go_wp2_with (first
        | (go_at_call 85; refine (HRV.out _).mono ?_; rintro e w1 ⟨rfl, hb1⟩; rw [HR.out]; have hc1 := bcell hb1)
        | (go_at_call 86; refine (Tryz.strconv_FormatBool _ _).mono ?_; rintro e w2 ⟨rfl, rfl⟩))
      go_ret
      exact ⟨ret_str HSH.out.symm, (one_new _ _).trans (hb1.mono (by simp))⟩
    · by_cases h2 : k = 2
      · subst h2
        have hs : showV ⟨2, f, n, t⟩ = Lib.itoa n := by unfold showV; rw [if_pos HR.out]; rfl
        have HSH := Lib.hid hs
        clear hs h1
        go_enter Tryz.func43, Tryz.ntmps43
        go_wp2_with (first
          | (go_at_call 85; refine (HRV.out _).mono ?_; rintro e w1 ⟨rfl, hb1⟩; rw [HR.out]; have hc1 := bcell hb1)
          | (go_at_call 48; fail))
        have hbb : Below w.heap.size w w1 := (one_new _ _).trans (hb1.mono (by simp))
        refine (Tryz.strconv_FormatInt_10 n HW.out.1 HW.out.2 _ (HV.out.later hbb).1).mono ?_
        rintro e w2 ⟨rfl, kd, os, rfl⟩
        have HB2 := Lib.hid (hbb.trans ((below_grow w1 kd os).mono hbb.size))
        clear hc1
        go_wp2
        go_ret
        exact ⟨ret_str HSH.out.symm, HB2.out⟩
      · by_cases h3 : k = 3
        · subst h3
          have hs : showV ⟨3, f, n, t⟩ = qs t.data.toList := by unfold showV; rw [if_pos HR.out]; rfl
          have HSH := Lib.hid hs
          clear hs h1 h2
          go_enter Tryz.func43, Tryz.ntmps43
          go_wp2_with (first
            | (go_at_call 85; refine (HRV.out _).mono ?_; rintro e w1 ⟨rfl, hb1⟩; rw [HR.out]; have hc1 := bcell hb1)
            | (go_at_call 87; refine (quote_all t _ (Nat.le_trans HS.out (by decide))).mono ?_; rintro e w2 ⟨rfl, hb2⟩))
          go_ret
          exact ⟨ret_str HSH.out.symm, ((one_new _ _).trans (hb1.mono (by simp))).trans (hb2.mono (by have := hb1.size; simp at this; omega))⟩
        · have hs : showV ⟨k, f, n, t⟩ = [110, 117, 108, 108] := by
            unfold showV
            rw [if_pos HR.out, if_neg h1, if_neg h2, if_neg h3]
          have HSH := Lib.hid hs
          clear hs
          go_enter Tryz.func43, Tryz.ntmps43
          go_wp2_with (first
            | (go_at_call 85; refine (HRV.out _).mono ?_; rintro e w1 ⟨rfl, hb1⟩; rw [HR.out]; have hc1 := bcell hb1))
          go_ret
          exact ⟨ret_str HSH.out.symm, (one_new _ _).trans (hb1.mono (by simp))⟩
  · have HR := Lib.hid hr
    clear hr
    have hs : showV ⟨k, f, n, t⟩ = [] := by unfold showV; rw [HR.out]; rfl
    have HSH := Lib.hid hs
    clear hs
    go_enter Tryz.func43, Tryz.ntmps43
    go_wp2_with (first
      | (go_at_call 85; refine (HRV.out _).mono ?_; rintro e w1 ⟨rfl, hb1⟩; rw [HR.out]; have hc1 := bcell hb1))
    go_ret
    exact ⟨ret_str HSH.out.symm, (one_new _ _).trans (hb1.mono (by simp))⟩
end
end Go.Proofs.YtkobfngnnblpeaaGreatDoor
namespace Go.Proofs.YtkobfngnnblpeaaGreatDoor
section
open Go.RowKit

/-- The digits of base 16. -/
def hexl : List UInt8 := [48, 49, 50, 51, 52, 53, 54, 55, 56, 57, 97, 98, 99, 100, 101, 102]
/-- The byte that a digit of base 16 is; 255 where it is none. -/
def dg (c : UInt8) : UInt8 := UInt8.ofNat (IntKind.u8.wrap (Lib.indexByte hexl c)).toNat
theorem dg_val (c : UInt8) : ((dg c).toNat : Int) = IntKind.u8.wrap (Lib.indexByte hexl c) := by
  have h : 0 ≤ IntKind.u8.wrap (Lib.indexByte hexl c) ∧ IntKind.u8.wrap (Lib.indexByte hexl c) < 256 := by
    rw [IntKind.wrap_u8]
    omega
  unfold dg
  have e : (UInt8.ofNat (IntKind.u8.wrap (Lib.indexByte hexl c)).toNat).toNat = (IntKind.u8.wrap (Lib.indexByte hexl c)).toNat := by
    rw [UInt8.toNat_ofNat_of_lt']
    show _ < 256
    omega
  rw [e]
  omega

set_option maxHeartbeats 400000 in
theorem digit_any (c : UInt8) (w : World) : Calls Tryz.prog 159 #[.int .u8 (c.toNat : Int)] w fun e w' => e = .returned (.int .u8 ((dg c).toNat : Int)) ∧ w' = w := by
  rw [dg_val]
  have hI : Hid (∀ W, Calls Tryz.prog 97 #[.string ⟨#[48, 49, 50, 51, 52, 53, 54, 55, 56, 57, 97, 98, 99, 100, 101, 102]⟩, .int .u8 (c.toNat : Int)] W fun e w' => e = .returned (.int .i64 (Lib.indexByte hexl c)) ∧ w' = W) := Lib.hid (by
    intro W
    have h := Tryz.strings_IndexByte ⟨#[48, 49, 50, 51, 52, 53, 54, 55, 56, 57, 97, 98, 99, 100, 101, 102]⟩ (c.toNat : Int) W
    have e : ((c.toNat : Int)).toNat.toUInt8 = c := by simp
    rw [e] at h
    exact h)
  go_enter Tryz.func159, Tryz.ntmps159
  go_wp2_with (go_at_call 97; refine (hI.out _).mono ?_; rintro e w' ⟨rfl, rfl⟩)
  go_ret
  exact ⟨rfl, rfl⟩

theorem qadd_same {P : Program} {f : FuncId} {args : Array Value} {w : World} {a n : Nat} {v : Value} (h : Calls P f args (w.drewN (a + n)) fun e w' => e = .returned v ∧ w' = w.drewN (a + n)) :
    Calls P f args (w.drewN (a + n)) fun e w'' => e = .returned v ∧ ∃ m, w'' = w.drewN (a + m) := h.mono fun _ _ ⟨he, hm⟩ => ⟨he, n, hm⟩

/-- The byte that two digits of base 16 are. -/
def hx (a b : UInt8) : UInt8 := UInt8.ofNat (bits .or .u8 (IntKind.u8.wrap (((dg a).toNat : Int) * 16)) ((dg b).toNat : Int)).toNat
theorem hx_val (a b : UInt8) : ((hx a b).toNat : Int) = bits .or .u8 (IntKind.u8.wrap (((dg a).toNat : Int) * 16)) ((dg b).toNat : Int) := by
  have h0 : 0 ≤ IntKind.u8.wrap (((dg a).toNat : Int) * 16) ∧ IntKind.u8.wrap (((dg a).toNat : Int) * 16) < 256 := by
    rw [IntKind.wrap_u8]
    omega
  have h1 := (dg b).toNat_lt
  unfold hx
  rw [u8_or _ _ h0.1 h0.2 (by omega) (by omega)]
  have h2 : (IntKind.u8.wrap (((dg a).toNat : Int) * 16)).toNat ||| (((dg b).toNat : Int)).toNat < 2 ^ 8 := Nat.or_lt_two_pow (by omega) (by omega)
  rw [Int.toNat_natCast, UInt8.toNat_ofNat_of_lt' h2]
theorem hx_cell (a b : UInt8) : (#[Value.int .u8 (bits .or .u8 (IntKind.u8.wrap (((dg a).toNat : Int) * 16)) ((dg b).toNat : Int))] : Array Value).toList = [hx a b].map bv := by
  rw [← hx_val]
  rfl

/-- What unquote answers of s from place i on, in f rounds. -/
def unqF (s : List UInt8) : Nat → Nat → List UInt8
  | 0, _ => []
  | f + 1, i =>
    if i + 1 < s.length then
      (if (s.getD i 0).toNat = 92 then
        (if i + 3 < s.length ∧ (s.getD (i + 1) 0).toNat = 120 then hx (s.getD (i + 2) 0) (s.getD (i + 3) 0) :: unqF s f (i + 4) else s.getD (i + 1) 0 :: unqF s f (i + 2))
      else s.getD i 0 :: unqF s f (i + 1))
    else []

theorem getD_at (s : ByteArray) (i : Nat) (h : i < s.size) : s.data.toList.getD i 0 = s[i] := by
  have e : s.data.toList[i]? = some s[i] := by
    rw [List.getElem?_eq_getElem (by exact h)]
    rfl
  rw [List.getD_eq_getElem?_getD, e]
  rfl

theorem unq_hex (s : ByteArray) (g k : Nat) (h3 : k + 3 < s.size) (h2 : s[k].toNat = 92) (h4 : s[k + 1].toNat = 120) : unqF s.data.toList (g + 1) k = hx s[k + 2] s[k + 3] :: unqF s.data.toList g (k + 4) := by
  have hl : s.data.toList.length = s.size := rfl
  rw [unqF, if_pos (by omega), getD_at s k (by omega), getD_at s (k + 1) (by omega), getD_at s (k + 2) (by omega), getD_at s (k + 3) h3, if_pos h2, if_pos ⟨by omega, h4⟩]
theorem unq_esc (s : ByteArray) (g k : Nat) (h1 : k + 1 < s.size) (h2 : s[k].toNat = 92) (h4 : ¬ (k + 3 < s.size ∧ s[k + 1].toNat = 120)) : unqF s.data.toList (g + 1) k = s[k + 1] :: unqF s.data.toList g (k + 2) := by
  have hl : s.data.toList.length = s.size := rfl
  rw [unqF, if_pos (by omega), getD_at s k (by omega), getD_at s (k + 1) (by omega), if_pos h2, if_neg (by rw [hl]; exact h4)]
theorem unq_one (s : ByteArray) (g k : Nat) (h1 : k + 1 < s.size) (h2 : ¬ s[k].toNat = 92) : unqF s.data.toList (g + 1) k = s[k] :: unqF s.data.toList g (k + 1) := by
  have hl : s.data.toList.length = s.size := rfl
  rw [unqF, if_pos (by omega), getD_at s k (by omega), if_neg h2]
theorem unq_end (l : List UInt8) (f k : Nat) (h : ¬ k + 1 < l.length) : unqF l f k = [] := by
  cases f with
  | zero => rfl
  | succ f => rw [unqF, if_neg h]
theorem snoc (bs : List UInt8) (c : UInt8) (l : List UInt8) : bs ++ c :: l = bs ++ [c] ++ l := by simp

set_option maxRecDepth 100000 in
set_option maxHeartbeats 2000000 in
theorem unquote_all (s : ByteArray) (w : World) (hs : s.size ≤ 1000) : Calls Tryz.prog 150 #[.string s] w fun e w' => e = .returned (.string ⟨(unqF s.data.toList s.size 1).toArray⟩) ∧ Below w.heap.size w w' := by
  have hsl : s.data.toList.length = s.size := rfl
  have HL := Lib.hid hsl
  clear hsl
  obtain ⟨R, hR⟩ : ∃ R, R = unqF s.data.toList s.size 1 := ⟨_, rfl⟩
  rw [← hR]
  have HR := Lib.hid hR
  clear hR
  go_enter Tryz.func150, Tryz.ntmps150
  go_wp2
  go_loopw [3, 4] (fun v i wr => ∃ (k f : Nat) (bs : List UInt8), 1 ≤ k ∧ k ≤ s.size + 4 ∧ s.size ≤ f + k ∧ bs.length < k ∧ i = .int .i64 k ∧ OwnB wr w.heap.size v bs ∧ R = bs ++ unqF s.data.toList f k ∧ Below w.heap.size w wr) (fun _ i _ => s.size + 4 - (intOf i).toNat)
  case atStart => exact ⟨1, s.size, [], by omega, by omega, by omega, by simp, rfl, World.ownsRow_nil _ _ _ _, by rw [HR.out]; rfl, Below.refl _ _⟩
  case round =>
    obtain ⟨k, f, bs, hk1, hk4, hf, hbl, rfl, hown, hr, hb⟩ := hrel
    have HO := Lib.hid hown
    have HB := Lib.hid hb
    have HRR := Lib.hid hr
    have hsz : w.heap.size ≤ wr.heap.size := hb.size
    clear hown hb hr
    by_cases h1 : k + 1 < s.size
    · obtain ⟨g, rfl⟩ : ∃ g, f = g + 1 := ⟨f - 1, by omega⟩
      by_cases h2 : s[k].toNat = 92
      · have b2 : ((s[k].toNat : Int) == 92) = true := by rw [h2]; rfl
        by_cases h3 : k + 3 < s.size
        · by_cases h4 : s[k + 1].toNat = 120
          · have b4 : ((s[k + 1].toNat : Int) == 120) = true := by rw [h4]; rfl
            have HE := Lib.hid (unq_hex s g k h3 h2 h4)
            have HD1 := Lib.hid (fun W : World => digit_any s[k + 2] W)
            have HD2 := Lib.hid (fun W : World => digit_any s[k + 3] W)
            clear h2 h4
            go_wp2
            have q1 : IntKind.i64.wrap ((k : Int) + 2) = (k : Int) + 2 := IntWalk.i64_in _ (by omega)
            have q2 : IntKind.i64.wrap ((k : Int) + 3) = (k : Int) + 3 := IntWalk.i64_in _ (by omega)
            have q3 : (0 : Int) ≤ (k : Int) + 2 := by omega
            have q4 : (0 : Int) ≤ (k : Int) + 3 := by omega
            have q5 : ((k : Int) + 2).toNat = k + 2 := by omega
            have q6 : ((k : Int) + 3).toNat = k + 3 := by omega
            have q7 : (k : Int) + 2 < (s.size : Int) := by omega
            have q8 : (k : Int) + 3 < (s.size : Int) := by omega
            go_quiet ((go_at_call 159; first | exact Calls.quiet_of_same (HD1.out _) | exact Calls.quiet_of_same (HD2.out _) | exact qadd_same (HD2.out _)))
            clear q1 q2
            go_wp2_with (at_builtin; refine wp_append_B _ rfl (.tmp 55) (.tmp 57) rfl w.heap.size _ bs [hx s[k + 2] s[k + 3]] rfl (by exact HO.out) _ (by exact hx_cell _ _) _ _ _ rfl rfl rfl (by simp; omega) (by exact hsz) ?_; intro v1 w1 ho1 hb1)
            go_roundw
            case rel =>
              refine ⟨k + 4, g, bs ++ [hx s[k + 2] s[k + 3]], by omega, by omega, by omega, by simp; omega, by go_num, ho1, ?_, HB.out.trans ((below_drewN' (Below.refl _ _) _).trans hb1)⟩
              rw [HRR.out, HE.out, snoc]
            case measure => simp [intOf]; omega
          · have b4 : ((s[k + 1].toNat : Int) == 120) = false := by
              rw [beq_eq_false_iff_ne]
              omega
            have HE := Lib.hid (unq_esc s g k h1 h2 (fun h => h4 h.2))
            clear h2 h4
            go_wp2_with (at_builtin; refine wp_append_B _ rfl (.tmp 55) (.tmp 57) rfl w.heap.size _ bs [s[k + 1]] rfl (by exact HO.out) _ (by rfl) _ _ _ rfl rfl rfl (by simp; omega) (by exact hsz) ?_; intro v1 w1 ho1 hb1)
            go_roundw
            case rel =>
              refine ⟨k + 2, g, bs ++ [s[k + 1]], by omega, by omega, by omega, by simp; omega, by go_num, ho1, ?_, HB.out.trans hb1⟩
              rw [HRR.out, HE.out, snoc]
            case measure => simp [intOf]; omega
        · have HE := Lib.hid (unq_esc s g k h1 h2 (fun h => h3 h.1))
          clear h2
          go_wp2_with (at_builtin; refine wp_append_B _ rfl (.tmp 55) (.tmp 57) rfl w.heap.size _ bs [s[k + 1]] rfl (by exact HO.out) _ (by rfl) _ _ _ rfl rfl rfl (by simp; omega) (by exact hsz) ?_; intro v1 w1 ho1 hb1)
          go_roundw
          case rel =>
            refine ⟨k + 2, g, bs ++ [s[k + 1]], by omega, by omega, by omega, by simp; omega, by go_num, ho1, ?_, HB.out.trans hb1⟩
            rw [HRR.out, HE.out, snoc]
          case measure => simp [intOf]; omega
      · have b2 : ((s[k].toNat : Int) == 92) = false := by
          rw [beq_eq_false_iff_ne]
          omega
        have HE := Lib.hid (unq_one s g k h1 h2)
        clear h2
        go_wp2_with (at_builtin; refine wp_append_B _ rfl (.tmp 55) (.tmp 57) rfl w.heap.size _ bs [s[k]] rfl (by exact HO.out) _ (by rfl) _ _ _ rfl rfl rfl (by simp; omega) (by exact hsz) ?_; intro v1 w1 ho1 hb1)
        go_roundw
        case rel =>
          refine ⟨k + 1, g, bs ++ [s[k]], by omega, by omega, by omega, by simp; omega, by go_num, ho1, ?_, HB.out.trans hb1⟩
          rw [HRR.out, HE.out, snoc]
        case measure => simp [intOf]; omega
    · have he : R = bs := by rw [HRR.out, unq_end _ _ _ (by rw [HL.out]; exact h1), List.append_nil]
      obtain ⟨A, n, c, rfl, hcv⟩ := conv_B HO.out
      rw [← he] at hcv
      have HE := Lib.hid he
      clear he
      go_wp2
      go_ret
      exact ⟨rfl, HB.out⟩
end
end Go.Proofs.YtkobfngnnblpeaaGreatDoor
namespace Go.Proofs.YtkobfngnnblpeaaGreatDoor
section
open Go.RowKit

/-- The number that ParseInt answers. -/
def numOf (l : List UInt8) : Int := match Lib.parseIntB 64 l with
  | .ok v => v
  | .range => Lib.intSat 64 l
  | _ => 0
theorem numOf_wide (l : List UInt8) : -9223372036854775808 ≤ numOf l ∧ numOf l ≤ 9223372036854775807 := by
  unfold numOf
  cases h : Lib.parseIntB 64 l
  · rename_i v
    simp only
    unfold Lib.parseIntB at h
    split at h
    · cases h
    · simp only at h
      split at h
      · cases h
      · cases h
      · split at h
        · cases h
        · split at h
          · cases h
          · simp only [Lib.NumEnd.ok.injEq] at h
            subst h
            split <;> omega
  · simp
  · simp only [Lib.intSat]
    split <;> omega

/-- A call that answers a number and an error. -/
def Parsed (w : World) (z : Int) (e : Ending) (w' : World) : Prop := ∃ err, e = .returned (.tuple #[.int .i64 z, err]) ∧ Below w.heap.size w w'
theorem below_bytes (w : World) (t : ByteArray) : Below w.heap.size w (Lib.bytesWorld w 5 t) := ⟨rfl, rfl, rfl, by rw [Lib.bytesWorld_size]; omega, fun k hk => Lib.bytesWorld_at_old w _ t k hk⟩
theorem parse_any (s : ByteArray) (w : World) (hs : s.size ≤ 1000) (hv : Vars w) : Calls Tryz.prog 151 #[.string s, .int .i64 10, .int .i64 64] w (Parsed w (numOf s.data.toList)) := by
  unfold numOf
  cases h : Lib.parseIntB 64 s.data.toList
  · rename_i v
    refine (Tryz.strconv_ParseInt_10_at64_ok s (by omega) v h w).mono fun _ _ ⟨he, hb⟩ => ⟨_, he, ?_⟩
    rcases hb with rfl | ⟨t, rfl⟩
    · exact Below.refl _ _
    · exact below_bytes w t
  · obtain ⟨_, ⟨tp, p, h2⟩, _, _⟩ := hv
    have hc : Calls Tryz.prog 151 #[.string s, .int .i64 10, .int .i64 64] w _ := Any.strconv_ParseInt_10_at64_syntax_var Tryz.laysC174 s (by omega) h tp p w h2
    exact hc.mono fun _ _ ⟨N, he, _, _, hb⟩ => ⟨_, he, hb⟩
  · obtain ⟨_, _, ⟨tp, p, h2⟩, _⟩ := hv
    exact (Tryz.strconv_ParseInt_10_at64_range_var s (by omega) h tp p w h2).mono fun _ _ ⟨N, he, _, _, hb⟩ => ⟨_, he, hb⟩

/-- The only value whose word l may be. -/
def guessV (l : List UInt8) : V :=
  if l = [110, 117, 108, 108] then ⟨0, false, 0, ⟨#[]⟩⟩
  else if l = [116, 114, 117, 101] then ⟨1, true, 0, ⟨#[]⟩⟩
  else if l = [102, 97, 108, 115, 101] then ⟨1, false, 0, ⟨#[]⟩⟩
  else if Lib.hasPrefix l [34] = true then ⟨3, false, 0, ⟨(unqF l l.length 1).toArray⟩⟩
  else ⟨2, false, numOf l, ⟨#[]⟩⟩
theorem guess_wide (l : List UInt8) : Wide (guessV l) := by
  have h := numOf_wide l
  unfold guessV Wide
  split
  · simp
  · split
    · simp
    · split
      · simp
      · split
        · simp
        · exact h

/-- A box of four cells, in a later world. -/
theorem box_later {w w2 : World} {a b c d : Value} {T : TypeId} (hb : Below (w.alloc (.cells #[a, b, c, d] T)).heap.size (w.alloc (.cells #[a, b, c, d] T)) w2) :
    w2.cell? ⟨w.heap.size, 0, none⟩ = some a ∧ w2.cell? ⟨w.heap.size, 1, none⟩ = some b ∧ w2.cell? ⟨w.heap.size, 2, none⟩ = some c ∧ w2.cell? ⟨w.heap.size, 3, none⟩ = some d ∧
    w2.frozen? ⟨w.heap.size, 0, none⟩ = false ∧ w2.frozen? ⟨w.heap.size, 1, none⟩ = false ∧ w2.frozen? ⟨w.heap.size, 2, none⟩ = false ∧ w2.frozen? ⟨w.heap.size, 3, none⟩ = false ∧ w.heap.size < w2.heap.size := by
  have hs : (w.alloc (.cells #[a, b, c, d] T)).heap.size = w.heap.size + 1 := by simp
  have hn := heap_alloc_new w (.cells #[a, b, c, d] T)
  have hz := hb.size
  have hc : ∀ o, w2.cell? ⟨w.heap.size, o, none⟩ = (#[a, b, c, d] : Array Value)[o]? := fun o => (hb.cell (p := ⟨w.heap.size, o, none⟩) (by rw [hs]; exact Nat.lt_succ_self _)).trans (cell_of_row _ w.heap.size o _ T (0, 0) hn)
  have hf : ∀ o, w2.frozen? ⟨w.heap.size, o, none⟩ = false := fun o => (hb.frozen (p := ⟨w.heap.size, o, none⟩) (by rw [hs]; exact Nat.lt_succ_self _)).trans (by unfold World.frozen?; rw [hn]; simp)
  exact ⟨hc 0, hc 1, hc 2, hc 3, hf 0, hf 1, hf 2, hf 3, by omega⟩
theorem bset {w w' : World} {o : Nat} {u : Value} (h : Below w.heap.size w w') : Below w.heap.size w (w'.setCell ⟨w.heap.size, o, none⟩ u) := h.setCell (p := ⟨w.heap.size, o, none⟩) (Nat.le_refl _) u
theorem bnew' {B : Nat} {a w : World} (h : Below B a w) (hB : B ≤ a.heap.size) (o : Obj) : Below B a (w.alloc o) := h.alloc (Nat.le_trans hB h.size) o

set_option maxHeartbeats 2000000 in
theorem guess_all (s : ByteArray) (w : World) (hs : s.size ≤ 1000) (hv : Vars w) : Calls Tryz.prog 128 #[.string s] w fun e w' => e = .returned (guessV s.data.toList).val ∧ Below w.heap.size w w' := by
  have HV := Lib.hid hv
  clear hv
  have htl : s.toList = s.data.toList := ByteArray.toList_eq s
  by_cases h1 : s.data.toList = [110, 117, 108, 108]
  · have hg : guessV s.data.toList = ⟨0, false, 0, ⟨#[]⟩⟩ := by unfold guessV; rw [if_pos h1]
    rw [hg]
    have b1 : (s.toList == [110, 117, 108, 108]) = true := by rw [htl, h1]; rfl
    clear hg htl h1
    go_enter Tryz.func128, Tryz.ntmps128
    go_wp2_with (go_at_call 111; refine (mk_null _).mono ?_; rintro e w1 ⟨rfl, rfl⟩)
    exact bodyPost_ret (v := .agg #[.int .i64 0, .bool false, .int .i64 0, .string ⟨#[]⟩]) (by simp [results, Tryz.results128, go_sem]) rfl ⟨rfl, two_new _ _ _⟩
  have b1 : (s.toList == [110, 117, 108, 108]) = false := by rw [htl]; simpa using h1
  by_cases h2 : s.data.toList = [116, 114, 117, 101]
  · have hg : guessV s.data.toList = ⟨1, true, 0, ⟨#[]⟩⟩ := by unfold guessV; rw [if_neg h1, if_pos h2]
    rw [hg]
    have b2 : (s.toList == [116, 114, 117, 101]) = true := by rw [htl, h2]; rfl
    clear hg htl h1 h2
    go_enter Tryz.func128, Tryz.ntmps128
    go_wp2_with (go_at_call 112; refine (mk_bool _ _).mono ?_; rintro e w1 ⟨rfl, rfl⟩)
    exact bodyPost_ret (v := .agg #[.int .i64 1, .bool true, .int .i64 0, .string ⟨#[]⟩]) (by simp [results, Tryz.results128, go_sem]) rfl ⟨rfl, two_new _ _ _⟩
  have b2 : (s.toList == [116, 114, 117, 101]) = false := by rw [htl]; simpa using h2
  by_cases h3 : s.data.toList = [102, 97, 108, 115, 101]
  · have hg : guessV s.data.toList = ⟨1, false, 0, ⟨#[]⟩⟩ := by unfold guessV; rw [if_neg h1, if_neg h2, if_pos h3]
    rw [hg]
    have b3 : (s.toList == [102, 97, 108, 115, 101]) = true := by rw [htl, h3]; rfl
    clear hg htl h1 h2 h3
    go_enter Tryz.func128, Tryz.ntmps128
    go_wp2_with (go_at_call 112; refine (mk_bool _ _).mono ?_; rintro e w1 ⟨rfl, rfl⟩)
    exact bodyPost_ret (v := .agg #[.int .i64 1, .bool false, .int .i64 0, .string ⟨#[]⟩]) (by simp [results, Tryz.results128, go_sem]) rfl ⟨rfl, two_new _ _ _⟩
  have b3 : (s.toList == [102, 97, 108, 115, 101]) = false := by rw [htl]; simpa using h3
  have HP := Lib.hid (fun W : World => Tryz.strings_HasPrefix s ⟨#[34]⟩ W)
  rcases Bool.eq_false_or_eq_true (Lib.hasPrefix s.data.toList [34]) with h4 | h4
  · obtain ⟨t, ht⟩ : ∃ t : ByteArray, t = ⟨(unqF s.data.toList s.size 1).toArray⟩ := ⟨_, rfl⟩
    have hg : guessV s.data.toList = ⟨3, false, 0, t⟩ := by unfold guessV; rw [if_neg h1, if_neg h2, if_neg h3, if_pos h4, ht]; rfl
    rw [hg]
    have HT := Lib.hid ht
    have HH := Lib.hid h4
    clear hg htl h1 h2 h3 h4 ht
    go_enter Tryz.func128, Tryz.ntmps128
    go_wp2_with (first
      | (go_at_call 149; refine (HP.out _).mono ?_; rintro e w1 ⟨rfl, rfl⟩; rw [HH.out])
      | (go_at_call 150; refine (unquote_all s _ hs).mono ?_; rintro e w2 ⟨rfl, hb2⟩; rw [← HT.out]; obtain ⟨c0, c1, c2, c3, f0, f1, f2, f3, hz2⟩ := box_later hb2)
      | (go_at_call 114; refine (mk_text _ _).mono ?_; rintro e w3 ⟨rfl, rfl⟩))
    have hbw : Below w.heap.size w w2 := (one_new _ _).trans (hb2.mono (by simp))
    exact bodyPost_ret (v := .agg #[.int .i64 3, .bool false, .int .i64 0, .string t]) (by simp [results, Tryz.results128, go_sem, c0, c1, c2, c3, hz2]) rfl ⟨rfl, by repeat (first | exact Below.refl _ _ | assumption | (refine bset ?_) | (refine bnew' ?_ (Nat.le_refl _) _))⟩
  · have hg : guessV s.data.toList = ⟨2, false, numOf s.data.toList, ⟨#[]⟩⟩ := by unfold guessV; rw [if_neg h1, if_neg h2, if_neg h3, if_neg (by rw [h4]; simp)]
    rw [hg]
    obtain ⟨z, hz⟩ : ∃ z, z = numOf s.data.toList := ⟨_, rfl⟩
    rw [← hz]
    have HZ := Lib.hid hz
    have HH := Lib.hid h4
    clear hg htl h1 h2 h3 h4 hz
    go_enter Tryz.func128, Tryz.ntmps128
    go_wp2_with (first
      | (go_at_call 149; refine (HP.out _).mono ?_; rintro e w1 ⟨rfl, rfl⟩; rw [HH.out])
      | (go_at_call 151; refine (parse_any s _ hs (by exact HV.out.later (one_new _ _))).mono ?_; rintro e w2 ⟨err, rfl, hb2⟩; rw [← HZ.out]; obtain ⟨c0, c1, c2, c3, f0, f1, f2, f3, hz2⟩ := box_later hb2)
      | (go_at_call 113; refine (mk_int _ _).mono ?_; rintro e w3 ⟨rfl, rfl⟩))
    have hbw : Below w.heap.size w w2 := (one_new _ _).trans (hb2.mono (by simp))
    exact bodyPost_ret (v := .agg #[.int .i64 2, .bool false, .int .i64 z, .string ⟨#[]⟩]) (by simp [results, Tryz.results128, go_sem, c0, c1, c2, c3, hz2]) rfl ⟨rfl, by repeat (first | exact Below.refl _ _ | assumption | (refine bset ?_) | (refine bnew' ?_ (Nat.le_refl _) _))⟩

/-- What Read answers. -/
def readR (l : List UInt8) : V × Int := if l.length ≤ 242 ∧ showV (guessV l) = l then (guessV l, 0) else (⟨0, false, 0, ⟨#[]⟩⟩, 7)

set_option maxHeartbeats 2000000 in
theorem read_all (s : ByteArray) (w : World) (hv : Vars w) : Calls Tryz.prog 96 #[.string s] w fun e w' => e = .returned (.tuple #[(readR s.data.toList).1.val, .int .i64 (readR s.data.toList).2]) ∧ Below w.heap.size w w' := by
  have HV := Lib.hid hv
  have hl : s.data.toList.length = s.size := rfl
  have htl : s.toList = s.data.toList := ByteArray.toList_eq s
  clear hv
  by_cases h1 : s.size ≤ 242
  · obtain ⟨G, hG⟩ : ∃ G, G = guessV s.data.toList := ⟨_, rfl⟩
    obtain ⟨X, hX⟩ : ∃ X, X = showV G := ⟨_, rfl⟩
    have hw : Wide G := by rw [hG]; exact guess_wide _
    have HG := Lib.hid hG
    have HX := Lib.hid hX
    have HW := Lib.hid hw
    have hs : s.size ≤ 1000 := by omega
    by_cases h2 : X = s.data.toList
    · have hr : readR s.data.toList = (G, 0) := by
        unfold readR
        rw [← hG, ← hX, if_pos ⟨by omega, h2⟩]
      rw [hr]
      have b2 : (X == s.toList) = true := by rw [htl, h2]; simp
      clear hr h2 hG hX hw htl hl
      go_enter Tryz.func96, Tryz.ntmps96
      go_wp2_with (first
        | (go_at_call 128; refine (guess_all s _ hs (by exact HV.out.later (one_new _ _))).mono ?_; rintro e w2 ⟨rfl, hb2⟩; rw [← HG.out]; obtain ⟨c0, c1, c2, c3, f0, f1, f2, f3, hz2⟩ := box_later hb2)
        | (go_at_call 43; fail))
      have hbx : Below w.heap.size w w2 := (one_new _ _).trans (hb2.mono (by simp))
      clear c0 c1 c2 c3 f0 f1 f2 f3 hz2
      refine (show_val G _ HW.out (by exact HV.out.later (bnew' hbx (Nat.le_refl _) _))).mono ?_
      rintro e w3 ⟨rfl, hb3⟩
      rw [← HX.out]
      have hb4 := hb2.trans (((one_new w2 _).mono hb2.size).trans (hb3.mono (Nat.le_trans hb2.size (one_new w2 _).size)))
      have hbw : Below w.heap.size w w3 := (one_new _ _).trans (hb4.mono (by simp))
      obtain ⟨c0, c1, c2, c3, f0, f1, f2, f3, hz2⟩ := box_later hb4
      obtain ⟨d0, d1, d2, d3, _, _, _, _, hz3⟩ := box_later hb3
      clear hb2 hb3 hb4
      go_wp2
      exact bodyPost_ret (v := .tuple #[.agg #[.int .i64 G.k, .bool G.f, .int .i64 G.n, .string G.t], .int .i64 0]) (by simp [results, Tryz.results96, go_sem, c0, c1, c2, c3]) rfl ⟨rfl, by repeat (first | exact Below.refl _ _ | assumption | (refine bset ?_) | (refine bnew' ?_ (Nat.le_refl _) _))⟩
    · have hr : readR s.data.toList = (⟨0, false, 0, ⟨#[]⟩⟩, 7) := by
        unfold readR
        rw [← hG, ← hX, if_neg (fun h => h2 h.2)]
      rw [hr]
      have b2 : (X == s.toList) = false := by rw [htl]; simpa using h2
      clear hr h2 hG hX hw htl hl
      go_enter Tryz.func96, Tryz.ntmps96
      go_wp2_with (first
        | (go_at_call 128; refine (guess_all s _ hs (by exact HV.out.later (one_new _ _))).mono ?_; rintro e w2 ⟨rfl, hb2⟩; rw [← HG.out]; obtain ⟨c0, c1, c2, c3, f0, f1, f2, f3, hz2⟩ := box_later hb2)
        | (go_at_call 43; fail))
      have hbx : Below w.heap.size w w2 := (one_new _ _).trans (hb2.mono (by simp))
      clear c0 c1 c2 c3 f0 f1 f2 f3 hz2
      refine (show_val G _ HW.out (by exact HV.out.later (bnew' hbx (Nat.le_refl _) _))).mono ?_
      rintro e w3 ⟨rfl, hb3⟩
      rw [← HX.out]
      have hb4 := hb2.trans (((one_new w2 _).mono hb2.size).trans (hb3.mono (Nat.le_trans hb2.size (one_new w2 _).size)))
      have hbw : Below w.heap.size w w3 := (one_new _ _).trans (hb4.mono (by simp))
      obtain ⟨c0, c1, c2, c3, f0, f1, f2, f3, hz2⟩ := box_later hb4
      obtain ⟨d0, d1, d2, d3, _, _, _, _, hz3⟩ := box_later hb3
      clear hb2 hb3 hb4
      go_wp2
      exact bodyPost_ret (v := .tuple #[.agg #[.int .i64 0, .bool false, .int .i64 0, .string ⟨#[]⟩], .int .i64 7]) (by simp [results, Tryz.results96, go_sem, c0, c1, c2, c3]) rfl ⟨rfl, by repeat (first | exact Below.refl _ _ | assumption | (refine bset ?_) | (refine bnew' ?_ (Nat.le_refl _) _))⟩
  · have hr : readR s.data.toList = (⟨0, false, 0, ⟨#[]⟩⟩, 7) := by
      unfold readR
      rw [if_neg (fun h => h1 (by rw [← hl]; exact h.1))]
    rw [hr]
    have h3 : 242 < s.size := by omega
    clear hr htl hl h1
    go_enter Tryz.func96, Tryz.ntmps96
    go_wp2
    exact bodyPost_ret (v := .tuple #[.agg #[.int .i64 0, .bool false, .int .i64 0, .string ⟨#[]⟩], .int .i64 7]) (by simp [results, Tryz.results96, go_sem]) rfl ⟨rfl, by repeat (first | exact Below.refl _ _ | assumption | (refine bset ?_) | (refine bnew' ?_ (Nat.le_refl _) _))⟩
end
end Go.Proofs.YtkobfngnnblpeaaGreatDoor
