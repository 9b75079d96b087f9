/-
  The searches in a tree: from, many, least, most answer what the plain tree's do.
  No condition but that a tree has no more rows, and a row no more cells, than fits.
-/
import Derived.Test.YtpliofhphijdkaaTbal
import Derived.LoopTactic
namespace Go.Proofs.Ytpliofhphijdkaa
open Go.RowKit

/-- How many rows a tree has, read off its node. -/
def szOf (w : World) : Value → Nat
  | .pointer (some a) => match w.cell? ⟨a.block, 2, none⟩ with
    | some v => (intOf v).toNat
    | none => 0
  | _ => 0
theorem szOf_eq {w : World} {Q : Nat → Prop} {p : Option Addr} {t : Tr} (h : TreeAt w Q p t) : szOf w (.pointer p) = t.cnt := by
  cases t with
  | nil =>
    obtain rfl : p = none := h
    rfl
  | node r m l h' =>
    obtain ⟨b, pl, ph, rfl, ⟨h1, hl, h2, h3, h4, h5⟩, h6, h7⟩ := h
    show (match w.cell? ⟨b, 2, none⟩ with | some v => (intOf v).toNat | none => 0) = _
    rw [h4]
    simp [intOf]
theorem IsRow.len {w : World} {Q : Nat → Prop} {v : Value} {xs : List V} (h : IsRow w Q v xs) : xs.length ≤ maxLen := by
  have := h.1
  unfold maxLen
  omega

set_option maxHeartbeats 400000 in
theorem cmp_rows (R S : Nat → Prop) (u v : Value) (xs ys : List V) (w : World) (hx : IsRow w R u xs) (hy : IsRow w S v ys) : Calls Try.prog 69 #[u, v] w fun e w' => e = .returned (.int .i64 (cmpR xs ys)) ∧ Below w.heap.size w w' := by
  have hl := hx.len
  obtain ⟨_, A, c, rfl, _, h1⟩ := hx
  obtain ⟨_, B, d, rfl, _, h2⟩ := hy
  exact row_cmp A B xs ys _ _ c d w rfl rfl hl h1.at h2.at
theorem same_rows (R S : Nat → Prop) (u v : Value) (xs ys : List V) (w : World) (hx : IsRow w R u xs) (hy : IsRow w S v ys) : Calls Try.prog 61 #[u, v] w fun e w' => e = .returned (.bool (cmpR xs ys == 0)) ∧ Below w.heap.size w w' := by
  have hl := hx.len
  obtain ⟨_, A, c, rfl, _, h1⟩ := hx
  obtain ⟨_, B, d, rfl, _, h2⟩ := hy
  exact row_same A B xs ys _ _ c d w rfl rfl hl h1.at h2.at

set_option maxHeartbeats 1000000 in
theorem t_from (R : Nat → Prop) (v : Value) (x : List V) (p : Option Addr) (t : Tr) (w : World) (Q : Nat → Prop) (hx : IsRow w R v x) (ht : TreeAt w Q p t) :
    Calls Try.prog 60 #[.pointer p, v] w (Trees w Q (Tr.fromD x .nil t)) := by
  have HX := Lib.hid hx
  have HT := Lib.hid ht
  obtain ⟨_, A, c, rfl, _, _⟩ := hx
  clear ht
  go_enter Try.func60, Try.ntmps60
  go_wp2
  go_loopw [0, 5] (fun a b wr => ∃ (q f : Option Addr) (s fi : Tr), a = .pointer q ∧ b = .pointer f ∧ TreeAt wr Q q s ∧ TreeAt wr Q f fi ∧ Hid (Tr.fromD x fi s = Tr.fromD x .nil t) ∧ Below w.heap.size w wr) (fun a _ wr => szOf wr a)
  case atStart => exact ⟨p, none, t, .nil, rfl, rfl, HT.out, rfl, Lib.hid rfl, Below.refl _ _⟩
  case round =>
    obtain ⟨q, f, s, fi, rfl, rfl, hs, hf, hE, hb⟩ := hrel
    have HS := Lib.hid hs
    have HF := Lib.hid hf
    have HB := Lib.hid hb
    have hsz := hb.size
    clear hb
    cases s with
    | nil =>
      obtain rfl : q = none := hs
      clear hf
      go_wp2
      go_ret
      exact ⟨f, rfl, by rw [← hE.out]; exact HF.out, HB.out⟩
    | node r m l h =>
      obtain ⟨b, pl, ph, rfl, ⟨hb0, hb1, ⟨lv, hlv, c0⟩, c1, c2, c3, c4⟩, hll, hlh⟩ := hs
      have HV := Lib.hid hlv
      have HL := Lib.hid hll
      have HR := Lib.hid hlh
      obtain ⟨_, A', c', rfl, _, _⟩ := hlv
      clear hf hll hlh
      by_cases hlt : cmpR r x < 0
      · have hE2 : Tr.fromD x fi (.node r m l h) = Tr.fromD x fi h := if_pos hlt
        have HE2 := Lib.hid hE2
        clear hE2
        go_wp2_with fail
        refine (cmp_rows Q R _ _ r x _ HV.out (HX.out.below HB.out)).mono ?_
        rintro e w1 ⟨rfl, hbw⟩
        have hcb := fun i => cl_of hbw b i hb1
        go_wp2
        go_roundw
        case rel => exact ⟨ph, f, h, fi, rfl, rfl, HR.out.below hbw, HF.out.below hbw, Lib.hid (HE2.out.symm.trans hE.out), HB.out.trans (hbw.mono hsz)⟩
        case measure =>
          rw [szOf_eq HS.out, szOf_eq (HR.out.below hbw)]
          show h.cnt < l.cnt + 1 + h.cnt
          omega
      · have hE2 : Tr.fromD x fi (.node r m l h) = Tr.fromD x (.node r m l h) l := if_neg hlt
        have HE2 := Lib.hid hE2
        clear hE2
        go_wp2_with fail
        refine (cmp_rows Q R _ _ r x _ HV.out (HX.out.below HB.out)).mono ?_
        rintro e w1 ⟨rfl, hbw⟩
        have hcb := fun i => cl_of hbw b i hb1
        go_wp2
        go_quiet (fail)
        go_wp2
        go_roundw
        case rel => exact ⟨pl, some ⟨b, 0, none⟩, l, .node r m l h, rfl, rfl, (HL.out.below hbw).below (below_drewN' (Below.refl _ w1) _), (HS.out.below hbw).below (below_drewN' (Below.refl _ w1) _), Lib.hid (HE2.out.symm.trans hE.out), HB.out.trans ((hbw.mono hsz).trans (below_drewN' (Below.refl _ w1) _))⟩
        case measure =>
          rw [szOf_eq HS.out, szOf_eq ((HL.out.below hbw).below (below_drewN' (Below.refl _ w1) _))]
          show l.cnt < l.cnt + 1 + h.cnt
          omega

set_option maxHeartbeats 1000000 in
theorem t_many (R : Nat → Prop) (v : Value) (x : List V) (p : Option Addr) (t : Tr) (w : World) (Q : Nat → Prop) (hx : IsRow w R v x) (ht : TreeAt w Q p t) :
    Calls Try.prog 47 #[.pointer p, v] w fun e w' => e = .returned (.int .i64 (t.many x)) ∧ Below w.heap.size w w' := by
  have HX := Lib.hid hx
  have HC := Lib.hid (t_from R v x p t w Q hx ht)
  have hM : ∀ s, Tr.fromD x .nil t = s → t.many x = match s.root with | none => 0 | some e => if cmpR e.1 x = 0 then e.2 else 0 := by
    rintro s rfl
    rfl
  have HM := Lib.hid hM
  obtain ⟨_, A, c, rfl, _, _⟩ := hx
  clear ht hM
  go_enter Try.func47, Try.ntmps47
  go_wp2_with fail
  refine HC.out.mono ?_
  rintro e w1 ⟨q, rfl, hT, hb⟩
  generalize hs : Tr.fromD x .nil t = s at *
  have HM2 := Lib.hid (HM.out s rfl)
  have HB := Lib.hid hb
  clear hs hb HC HM
  cases s with
  | nil =>
    obtain rfl : q = none := hT
    go_wp2
    go_ret
    exact ⟨ret_int (by rw [HM2.out]; rfl), HB.out⟩
  | node r m l h =>
    obtain ⟨b, pl, ph, rfl, ⟨hb0, hb1, ⟨lv, hlv, c0⟩, c1, c2, c3, c4⟩, hll, hlh⟩ := hT
    have HV := Lib.hid hlv
    obtain ⟨_, A', c', rfl, _, _⟩ := hlv
    clear hll hlh
    by_cases hz : cmpR r x = 0
    · have hz' : (cmpR r x == 0) = true := by simpa using hz
      have HZ := Lib.hid hz'
      have HM3 : Hid (t.many x = m) := Lib.hid (HM2.out.trans (if_pos hz))
      clear hz hz'
      go_wp2_with fail
      refine (same_rows Q R _ _ r x _ HV.out (HX.out.below HB.out)).mono ?_
      rintro e w2 ⟨rfl, hbw⟩
      have hcb := fun i => cl_of hbw b i hb1
      rw [HZ.out]
      go_wp2
      go_ret
      exact ⟨ret_int HM3.out.symm, HB.out.trans (hbw.mono HB.out.size)⟩
    · have hz' : (cmpR r x == 0) = false := by simpa using hz
      have HZ := Lib.hid hz'
      have HM3 : Hid (t.many x = 0) := Lib.hid (HM2.out.trans (if_neg hz))
      clear hz hz'
      go_wp2_with fail
      refine (same_rows Q R _ _ r x _ HV.out (HX.out.below HB.out)).mono ?_
      rintro e w2 ⟨rfl, hbw⟩
      rw [HZ.out]
      go_wp2
      go_ret
      exact ⟨ret_int HM3.out.symm, HB.out.trans (hbw.mono HB.out.size)⟩

/-- A call that answers a tree, and changes nothing at all. -/
def TreesSame (w : World) (Q : Nat → Prop) (t : Tr) (e : Ending) (w' : World) : Prop := ∃ p, e = .returned (.pointer p) ∧ TreeAt w Q p t ∧ w = w'

set_option maxHeartbeats 1000000 in
theorem t_least (p : Option Addr) (t : Tr) (w : World) (Q : Nat → Prop) (ht : TreeAt w Q p t) : Calls Try.prog 76 #[.pointer p] w (TreesSame w Q t.least) := by
  have HT := Lib.hid ht
  clear ht
  go_enter Try.func76, Try.ntmps76
  go_wp2
  go_loop [0] (fun a => ∃ (q : Option Addr) (s : Tr), a = .pointer q ∧ TreeAt w Q q s ∧ Hid (s.least = t.least)) (fun a => szOf w a)
  case atStart => exact ⟨p, t, rfl, HT.out, Lib.hid rfl⟩
  case round =>
    obtain ⟨q, s, rfl, hs, hE⟩ := hrel
    have HS := Lib.hid hs
    cases s with
    | nil =>
      obtain rfl : q = none := hs
      go_wp2
      go_ret
      exact ⟨none, rfl, by rw [← hE.out]; exact HS.out, rfl⟩
    | node r m l h =>
      obtain ⟨b, pl, ph, rfl, ⟨hb0, hb1, ⟨lv, hlv, c0⟩, c1, c2, c3, c4⟩, hll, hlh⟩ := hs
      clear hlv c0 c1 c2 c4 hlh
      have HL := Lib.hid hll
      cases l with
      | nil =>
        obtain rfl : pl = none := hll
        go_wp2
        go_ret
        exact ⟨_, rfl, by rw [← hE.out]; exact HS.out, rfl⟩
      | node r2 m2 l2 h2 =>
        obtain ⟨b2, pl2, ph2, rfl, _⟩ := hll
        go_wp2
        go_round
        case rel => exact ⟨_, _, rfl, HL.out, Lib.hid hE.out⟩
        case measure =>
          rw [szOf_eq HS.out, szOf_eq HL.out]
          show l2.cnt + 1 + h2.cnt < (l2.cnt + 1 + h2.cnt) + 1 + h.cnt
          omega

end Go.Proofs.Ytpliofhphijdkaa
