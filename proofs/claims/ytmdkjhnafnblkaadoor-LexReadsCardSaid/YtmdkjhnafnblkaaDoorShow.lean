/-
  Show of package value answers the word of a value, at every value, where the library's three variables are as the program's text lays them; nothing that was there is changed.
  Condition: the text is no longer than a hundred thousand bytes.
-/
import Derived.Test.YtmdkjhnafnblkaaDoorQuote
import Derived.Test.YtmdkjhnafnblkaaDoorShelf
import Derived.WalkSmall
namespace Go.Proofs.YtmdkjhnafnblkaaDoor
open Go.RowKit

/-- The library's variables are as the program's text lays them. -/
def Vars (w : World) : Prop :=
  Lib.TabIs Tryd.prog w "internal/strconv.uint64pow10" .u64 Lib.pow10Tab ∧ (∃ tp p, w.var? Tryd.prog "strconv.ErrSyntax" = some #[.iface tp p]) ∧ (∃ tp p, w.var? Tryd.prog "strconv.ErrRange" = some #[.iface tp p]) ∧ max 5 (max 3 4) < w.heap.size

theorem g_pow : Tryd.prog.globalNamed "internal/strconv.uint64pow10" = some 5 := by kernel_rfl
theorem g_syn : Tryd.prog.globalNamed "strconv.ErrSyntax" = some 3 := by kernel_rfl
theorem g_rng : Tryd.prog.globalNamed "strconv.ErrRange" = some 4 := by kernel_rfl

theorem Vars.later {w w' : World} (h : Vars w) (hb : Below w.heap.size w w') : Vars w' := by
  obtain ⟨h1, ⟨tp, p, h2⟩, ⟨tq, q, h3⟩, h4⟩ := h
  refine ⟨?_, ⟨tp, p, var?_below hb g_syn (by omega) h2⟩, ⟨tq, q, var?_below hb g_rng (by omega) h3⟩, Nat.lt_of_lt_of_le h4 hb.size⟩
  unfold Lib.TabIs at h1 ⊢
  exact var?_below hb g_pow (by omega) h1

theorem below_grow (w : World) (k : Nat) (os : Array Obj) : Below w.heap.size w (Sort.grow (w.drewN k) os) :=
  ⟨rfl, rfl, rfl, by simp [Sort.grow], fun i hi => by
    show (w.heap ++ os)[i]? = w.heap[i]?
    rw [Array.getElem?_append_left hi]⟩

/-- The word of a value. -/
def showV (v : V) : List UInt8 :=
  if rightV v = true then (if v.k = 1 then Lib.formatBool v.f else if v.k = 2 then Lib.itoa v.n else if v.k = 3 then qs v.t.data.toList else [110, 117, 108, 108]) else []

/-- The number of a value is one of 64 bits. -/
def Wide (v : V) : Prop := -9223372036854775808 ≤ v.n ∧ v.n ≤ 9223372036854775807

theorem ret_str {a b : List UInt8} (h : a = b) : Ending.returned (.string ⟨a.toArray⟩) = .returned (.string ⟨b.toArray⟩) := by rw [h]

theorem bcell {W w1 : World} (hb : Below W.heap.size W w1) : ∀ b o, b < W.heap.size → w1.cell? ⟨b, o, none⟩ = W.cell? ⟨b, o, none⟩ := fun b o h => hb.cell (p := ⟨b, o, none⟩) h

theorem right_size (v : V) (h : rightV v = true) : v.t.size ≤ 60 := by
  unfold rightV at h
  simp only [Bool.and_eq_true, decide_eq_true_eq] at h
  exact h.2

set_option maxHeartbeats 1000000 in
theorem show_val (v : V) (w : World) (hw : Wide v) (hvars : Vars w) : Calls Tryd.prog 56 #[v.val] w fun e w' => e = .returned (.string ⟨(showV v).toArray⟩) ∧ Below w.heap.size w w' := by
  obtain ⟨k, f, n, t⟩ := v
  show Calls Tryd.prog 56 #[.agg #[.int .i64 k, .bool f, .int .i64 n, .string t]] w _
  have HW := Lib.hid hw
  have HV := Lib.hid hvars
  have HRV := Lib.hid (fun w => right_val ⟨k, f, n, t⟩ w)
  clear hw hvars
  rcases Bool.eq_false_or_eq_true (rightV ⟨k, f, n, t⟩) with hr | hr
  · have HR := Lib.hid hr
    have HS := Lib.hid (right_size _ hr)
    clear hr
    by_cases h1 : k = 1
    · subst h1
      have hs : showV ⟨1, f, n, t⟩ = Lib.formatBool f := by unfold showV; rw [if_pos HR.out]; rfl
      have HSH := Lib.hid hs
      clear hs
      go_enter Tryd.func56, Tryd.ntmps56
      go_wp2_with (first
        | (go_at_call 70; refine (HRV.out _).mono ?_; rintro e w1 ⟨rfl, hb1⟩; rw [HR.out]; have hc1 := bcell hb1)
        | (go_at_call 71; refine (Tryd.strconv_FormatBool _ _).mono ?_; rintro e w2 ⟨rfl, rfl⟩))
      go_ret
      exact ⟨ret_str HSH.out.symm, (one_new _ _).trans (hb1.mono (by simp))⟩
    · by_cases h2 : k = 2
      · subst h2
        have hs : showV ⟨2, f, n, t⟩ = Lib.itoa n := by unfold showV; rw [if_pos HR.out]; rfl
        have HSH := Lib.hid hs
        clear hs h1
        go_enter Tryd.func56, Tryd.ntmps56
        go_wp2_with (first
          | (go_at_call 70; refine (HRV.out _).mono ?_; rintro e w1 ⟨rfl, hb1⟩; rw [HR.out]; have hc1 := bcell hb1)
          | (go_at_call 72; fail))
        have hbb : Below w.heap.size w w1 := (one_new _ _).trans (hb1.mono (by simp))
        refine (Tryd.strconv_FormatInt_10 n HW.out.1 HW.out.2 _ (HV.out.later hbb).1).mono ?_
        rintro e w2 ⟨rfl, kd, os, rfl⟩
        have HB2 := Lib.hid (hbb.trans ((below_grow w1 kd os).mono hbb.size))
        clear hc1
        go_wp2
        go_ret
        exact ⟨ret_str HSH.out.symm, HB2.out⟩
      · by_cases h3 : k = 3
        · subst h3
          have hs : showV ⟨3, f, n, t⟩ = qs t.data.toList := by unfold showV; rw [if_pos HR.out]; rfl
          have HSH := Lib.hid hs
          clear hs h1 h2
          go_enter Tryd.func56, Tryd.ntmps56
          go_wp2_with (first
            | (go_at_call 70; refine (HRV.out _).mono ?_; rintro e w1 ⟨rfl, hb1⟩; rw [HR.out]; have hc1 := bcell hb1)
            | (go_at_call 73; refine (quote_all t _ (Nat.le_trans HS.out (by decide))).mono ?_; rintro e w2 ⟨rfl, hb2⟩))
          go_ret
          exact ⟨ret_str HSH.out.symm, ((one_new _ _).trans (hb1.mono (by simp))).trans (hb2.mono (by have := hb1.size; simp at this; omega))⟩
        · have hs : showV ⟨k, f, n, t⟩ = [110, 117, 108, 108] := by
            unfold showV
            rw [if_pos HR.out, if_neg h1, if_neg h2, if_neg h3]
          have HSH := Lib.hid hs
          clear hs
          go_enter Tryd.func56, Tryd.ntmps56
          go_wp2_with (first
            | (go_at_call 70; refine (HRV.out _).mono ?_; rintro e w1 ⟨rfl, hb1⟩; rw [HR.out]; have hc1 := bcell hb1))
          go_ret
          exact ⟨ret_str HSH.out.symm, (one_new _ _).trans (hb1.mono (by simp))⟩
  · have HR := Lib.hid hr
    clear hr
    have hs : showV ⟨k, f, n, t⟩ = [] := by unfold showV; rw [HR.out]; rfl
    have HSH := Lib.hid hs
    clear hs
    go_enter Tryd.func56, Tryd.ntmps56
    go_wp2_with (first
      | (go_at_call 70; refine (HRV.out _).mono ?_; rintro e w1 ⟨rfl, hb1⟩; rw [HR.out]; have hc1 := bcell hb1))
    go_ret
    exact ⟨ret_str HSH.out.symm, (one_new _ _).trans (hb1.mono (by simp))⟩
end Go.Proofs.YtmdkjhnafnblkaaDoor
