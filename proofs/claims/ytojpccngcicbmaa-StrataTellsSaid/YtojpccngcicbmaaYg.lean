/-
  The program's isAtom and asks: whether a rule asks a name.
-/
import Derived.Test.YtojpccngcicbmaaYf
namespace Go.Proofs.Ytojpccngcicbmaa
open Go.RowKit Go.Maps

/-- Is there one that hits? -/
def hitIsY (b : Bool) (z : Int) : Prop := (z < 0 ∧ b = false) ∨ (0 ≤ z ∧ b = true)
/-- Whether a literal is an atom of that name. -/
def isAt (name : ByteArray) (x : Lm) : Bool := (x.o == 0) && (x.s.toList == name.toList)

set_option maxHeartbeats 400000 in
theorem p_isAtom (x : Lm) (w : World) :
    Calls Try.prog 19 #[.agg #[.bool x.n, .string x.s, .slice x.A x.m x.c, .int .i64 x.o]] w fun e w' => e = .returned (.bool (x.o == 0)) ∧ Below w.heap.size w w' := by
  have N3 := new_cellT w #[.bool x.n, .string x.s, .slice x.A x.m x.c, .int .i64 x.o] 45 3
  go_enter Try.func19, Try.ntmps19
  go_wp2
  go_ret
  exact ⟨rfl, one_new _ _⟩

set_option maxHeartbeats 1000000 in
theorem p_asks1 (x : Lm) (p : Nat) (nm : ByteArray) (w : World) (hp : p < w.heap.size) (hc : w.cell? ⟨p, 0, none⟩ = some (.string nm)) :
    Calls Try.prog 43 #[.agg #[.bool x.n, .string x.s, .slice x.A x.m x.c, .int .i64 x.o], .pointer (some ⟨p, 0, none⟩)] w fun e w' => e = .returned (.bool (isAt nm x)) ∧ Below w.heap.size w w' := by
  have hon := one_new w (.cells #[.bool x.n, .string x.s, .slice x.A x.m x.c, .int .i64 x.o] 45)
  have N := fun i => new_cellT w #[.bool x.n, .string x.s, .slice x.A x.m x.c, .int .i64 x.o] 45 i
  have n0 := N 0
  have n1 := N 1
  have n2 := N 2
  have n3 := N 3
  have HN1 := Lib.hid n1
  have c0 := (hon.cell (p := ⟨p, 0, none⟩) hp).trans hc
  have HC := Lib.hid c0
  have HON := Lib.hid hon
  have HI := Lib.hid (p_isAtom x (w.alloc (.cells #[.bool x.n, .string x.s, .slice x.A x.m x.c, .int .i64 x.o] 45)))
  clear hc hon N c0
  go_enter Try.func43, Try.ntmps43
  go_wp2_with fail
  refine HI.out.mono ?_
  rintro e w1 ⟨rfl, hb1⟩
  have HB1 := Lib.hid (HON.out.trans (hb1.mono (by simp)))
  have m1 := (hb1.cell (p := ⟨w.heap.size, 1, none⟩) (by simp)).trans HN1.out
  have m0 := (hb1.cell (p := ⟨p, 0, none⟩) (by simp; omega)).trans HC.out
  clear n0 n1 n2 n3 hb1
  have HIA : Hid (isAt nm x = ((x.o == 0) && (x.s.toList == nm.toList))) := Lib.hid rfl
  rcases Bool.eq_false_or_eq_true (x.o == 0) with hz | hz
  · rw [hz] at HIA ⊢
    clear hz
    go_wp2
    go_ret
    exact ⟨by rw [HIA.out, Bool.true_and]; rfl, HB1.out⟩
  · rw [hz] at HIA ⊢
    clear hz
    go_wp2
    go_ret
    exact ⟨by rw [HIA.out, Bool.false_and]; rfl, HB1.out⟩

theorem any_dropY (l : List Lm) (nm : ByteArray) (k : Nat) (x : Lm) (h : l[k]? = some x) : (l.drop k).any (isAt nm) = (isAt nm x || (l.drop (k + 1)).any (isAt nm)) := by
  obtain ⟨h1, h2⟩ := List.getElem?_eq_some_iff.1 h
  rw [List.drop_eq_getElem_cons h1, h2]
  rfl

set_option maxRecDepth 100000 in
set_option maxHeartbeats 1000000 in
theorem p_index (A : Option Addr) (l : List Lm) (c p : Nat) (nm : ByteArray) (w : World) (hl : l.length ≤ 1000) (hx : LmsAt w A l) (hp : p < w.heap.size) (hc : w.cell? ⟨p, 0, none⟩ = some (.string nm)) :
    Calls Try.prog 48 #[.slice A l.length c, .func (.func 43) #[] #[.pointer (some ⟨p, 0, none⟩)]] w fun e w' => ∃ z : Int, e = .returned (.int .i64 z) ∧ hitIsY (l.any (isAt nm)) z ∧ Below w.heap.size w w' := by
  have HX := Lib.hid hx
  have HC := Lib.hid hc
  clear hx hc
  have hpost : ∀ (z : Int) (w' : World), hitIsY (l.any (isAt nm)) z → Below w.heap.size w w' → ∃ z' : Int, Ending.returned (.int .i64 z) = .returned (.int .i64 z') ∧ hitIsY (l.any (isAt nm)) z' ∧ Below w.heap.size w w' := fun z w' h1 h2 => ⟨z, rfl, h1, h2⟩
  have HP := Lib.hid hpost
  clear hpost
  go_enter Try.func48, Try.ntmps48
  go_wp2
  go_loopw [8] (fun i wr => ∃ k : Nat, k ≤ l.length ∧ i = .int .i64 k ∧ l.any (isAt nm) = (l.drop k).any (isAt nm) ∧ Below w.heap.size w wr) (fun i _ => l.length - (intOf i).toNat)
  case atStart => exact ⟨0, Nat.zero_le _, rfl, rfl, Below.refl _ _⟩
  case round =>
    obtain ⟨k, hk, rfl, hq, hb⟩ := hrel
    have HQ := Lib.hid hq
    have HB := Lib.hid hb
    have hsz : w.heap.size ≤ wr.heap.size := hb.size
    have hcw : wr.cell? ⟨p, 0, none⟩ = some (.string nm) := (hb.cell (p := ⟨p, 0, none⟩) hp).trans HC.out
    clear hq hb
    by_cases h1 : k < l.length
    · obtain ⟨x, hd⟩ : ∃ x, l[k]? = some x := ⟨_, List.getElem?_eq_getElem h1⟩
      obtain ⟨a, rfl, a0, a1, a2, a3⟩ := (HX.out.below HB.out) k x hd
      have HD := Lib.hid hd
      clear hd
      rcases Bool.eq_false_or_eq_true (isAt nm x) with hz | hz
      · have HZ := Lib.hid hz
        clear hz
        go_wp2_with fail
        refine (p_asks1 x p nm _ (by omega) hcw).mono ?_
        rintro e w' ⟨rfl, hb2⟩
        rw [HZ.out]
        go_wp2
        go_ret
        exact HP.out _ _ (.inr ⟨by omega, by rw [HQ.out, any_dropY _ _ _ _ HD.out, HZ.out, Bool.true_or]⟩) (HB.out.trans (hb2.mono HB.out.size))
      · have HZ := Lib.hid hz
        clear hz
        go_wp2_with fail
        refine (p_asks1 x p nm _ (by omega) hcw).mono ?_
        rintro e w' ⟨rfl, hb2⟩
        rw [HZ.out]
        go_wp2
        go_roundw
        case rel => exact ⟨k + 1, by omega, by go_num, by rw [HQ.out, any_dropY _ _ _ _ HD.out, HZ.out, Bool.false_or], HB.out.trans (hb2.mono HB.out.size)⟩
        case measure => simp [intOf]; omega
    · go_wp2
      go_ret
      exact HP.out _ _ (.inl ⟨by omega, by rw [HQ.out, List.drop_of_length_le (by omega)]; rfl⟩) HB.out

set_option maxHeartbeats 400000 in
theorem p_contains (A : Option Addr) (l : List Lm) (c p : Nat) (nm : ByteArray) (w : World) (hl : l.length ≤ 1000) (hx : LmsAt w A l) (hp : p < w.heap.size) (hc : w.cell? ⟨p, 0, none⟩ = some (.string nm)) :
    Calls Try.prog 42 #[.slice A l.length c, .func (.func 43) #[] #[.pointer (some ⟨p, 0, none⟩)]] w fun e w' => e = .returned (.bool (l.any (isAt nm))) ∧ Below w.heap.size w w' := by
  have HF := Lib.hid (p_index A l c p nm w hl hx hp hc)
  clear hx hl hp hc
  generalize l.any (isAt nm) = b at *
  go_enter Try.func42, Try.ntmps42
  go_wp2_with fail
  refine HF.out.mono ?_
  rintro e w' ⟨z, rfl, hnw, hb⟩
  go_wp2
  go_ret
  refine ⟨ret_bool ?_, hb⟩
  rcases hnw with ⟨h, rfl⟩ | ⟨h, rfl⟩
  · simp; omega
  · simp; omega

/-- What the program's asks tells is whether the name is one that the rule asks. -/
theorem isAt_asks (r : Rl) (nm : ByteArray) : r.b.any (isAt nm) = hasX nm r.asks := by
  rw [Bool.eq_iff_iff, hasX_iff]
  unfold Rl.asks
  rw [asksS_mem, List.any_eq_true]
  constructor
  · rintro ⟨x, hx, h⟩
    unfold isAt at h
    rw [Bool.and_eq_true] at h
    exact ⟨(x.o, x.s), List.mem_map.2 ⟨x, hx, rfl⟩, eq_of_beq h.1, toList_eqT.1 h.2⟩
  · rintro ⟨y, hy, h1, h2⟩
    obtain ⟨x, hx, rfl⟩ := List.mem_map.1 hy
    refine ⟨x, hx, ?_⟩
    unfold isAt
    simp only at h1 h2
    rw [h1, h2]
    simp

set_option maxRecDepth 100000 in
set_option maxHeartbeats 2000000 in
theorem p_asks (r : Rl) (nm : ByteArray) (w : World) (hr : r.Ok w) :
    Calls Try.prog 33 #[.agg r.cells.toArray, .string nm] w fun e w' => e = .returned (.bool (hasX nm r.asks)) ∧ Below w.heap.size w w' := by
  rw [← isAt_asks]
  obtain ⟨k0, nm0, hA, hn, hc, ag, ofv, lim, bA, bc, b⟩ := r
  obtain ⟨hl, hlen, _⟩ := hr
  unfold Rl.cells
  simp only at hl hlen ⊢
  have ho1 := one_new w (.cells #[.int .i64 k0, .string nm0, .slice hA hn hc, .int .i64 ag, .string ofv, .int .i64 lim, .slice bA b.length bc] 30)
  have ho2 := one_new (w.alloc (.cells #[.int .i64 k0, .string nm0, .slice hA hn hc, .int .i64 ag, .string ofv, .int .i64 lim, .slice bA b.length bc] 30)) (.cells #[.string nm] 9)
  have N6 := new_cellT w #[.int .i64 k0, .string nm0, .slice hA hn hc, .int .i64 ag, .string ofv, .int .i64 lim, .slice bA b.length bc] 30 6
  have c6 := (ho2.cell (p := ⟨w.heap.size, 6, none⟩) (by simp)).trans N6
  have d0 := new_cellT (w.alloc (.cells #[.int .i64 k0, .string nm0, .slice hA hn hc, .int .i64 ag, .string ofv, .int .i64 lim, .slice bA b.length bc] 30)) #[.string nm] 9 0
  have hb := ho1.trans (ho2.mono (by simp))
  have HB := Lib.hid hb
  have es : (w.alloc (.cells #[.int .i64 k0, .string nm0, .slice hA hn hc, .int .i64 ag, .string ofv, .int .i64 lim, .slice bA b.length bc] 30)).heap.size = w.heap.size + 1 := by simp
  rw [es] at d0
  have HF := Lib.hid (p_contains bA b bc (w.heap.size + 1) nm _ (by omega) (hl.below hb) (by simp) d0)
  clear es
  clear hl hlen ho1 ho2 N6 d0 hb
  generalize b.any (isAt nm) = bb at *
  go_enter Try.func33, Try.ntmps33
  go_wp2_with fail
  refine HF.out.mono ?_
  rintro e w' ⟨rfl, hb⟩
  have HB2 := Lib.hid (HB.out.trans (hb.mono (by simp; omega)))
  clear hb
  go_wp2
  go_ret
  exact ⟨rfl, HB2.out⟩
end Go.Proofs.Ytojpccngcicbmaa
