/-
  The program's parser, its small calls: take, has, need, name, number, term, arg; which aggregate a token tells.
  Condition: no more than four hundred tokens, and one that is left.
  The program's parser, its small calls go on: kind, number, term, arg; which aggregate a token tells.
  Condition: no more than four hundred tokens, and one that is left.
-/
import Derived.Test.YtkobfngnnblpeaaGreatDoorM15
import Derived.Test.YtkobfngnnblpeaaGreatDoorM26
import Derived.Test.YtkobfngnnblpeaaGreatDoorM28
namespace Go.Proofs.YtkobfngnnblpeaaGreatDoor
section
open Go.RowKit

set_option maxRecDepth 10000 in
set_option maxHeartbeats 2000000 in
theorem k_take {w : World} {g t i : Nat} {ls : List Tok} (h : RdK w g t ls i) (hi : i < ls.length) {k : Int} {b : ByteArray} {vk : Int} {vf : Bool} {vn : Int} {vt : ByteArray} {a : Int} (hX : hdT (ls.drop i) = ⟨k, b, ⟨vk, vf, vn, vt⟩, a⟩) :
    Calls Tryz.prog 65 #[.pointer (some ⟨g, 0, none⟩)] w fun e w' => e = .returned (.agg #[.int .i64 k, .string b, .int .i64 vk, .bool vf, .int .i64 vn, .string vt, .int .i64 a]) ∧ RdK w' g t ls (i + 1) ∧ OnlyR g w w' := by
  have hon := two_new w zeroTk (tkO k b vk vf vn vt a)
  have hon1 := one_new w zeroTk
  have h1 := h.below hon1
  have h2 := h.below hon
  have hg := h.lt
  have hx := hd_at hi
  rw [hX] at hx
  obtain ⟨d0, d1, d2, d3, d4, d5, d6⟩ := h1.tok hx
  have HS := Lib.hid (fun o c => h.set hi o c)
  have hf := h.frozen
  obtain ⟨o, c, hb, ho, hc, _⟩ := h1
  have c0 := cell_of_row _ g 0 _ _ (0, 0) hb
  have ho := ho hi
  subst ho
  have c1 := cell_of_row _ g 0 _ _ (0, 0) (((one_new (w.alloc zeroTk) (tkO k b vk vf vn vt a)).block g (by simp; omega)).trans hb)
  have hl : (0 : Int) < ((ls.length - i : Nat) : Int) := by omega
  have hlc : ls.length - i ≤ c := hc
  have hc1 : ls.length - i - 1 ≤ c - 1 := by omega
  obtain ⟨n, hn⟩ : ∃ n, ls.length - i = n + 1 := ⟨ls.length - i - 1, by omega⟩
  have hn1 : ls.length - (i + 1) = n := by omega
  have HN1 := Lib.hid hn1
  have HON := Lib.hid hon
  rw [hn] at c0 c1 hlc hl
  have HI : Hid (i + 1 < ls.length → 0 < n) := Lib.hid (by omega)
  rw [hn1] at HS
  clear h h2 hX hx hon hon1 hb hc hc1 hn hn1
  go_enter Tryz.func65, Tryz.ntmps65
  go_wp2
  · go_returns
    refine ⟨rfl, ?_, (OnlyR.set _ _ _ _).trans (OnlyR.of (two_new _ _ _))⟩
    exact (HS.out (i * 7) 0 (fun e => by have := HI.out e; omega) (by omega)).below (two_new _ _ _)
  · go_returns
    refine ⟨rfl, ?_, (OnlyR.set _ _ _ _).trans (OnlyR.of (two_new _ _ _))⟩
    exact (HS.out (i * 7 + 7) (c - 1) (fun _ => by omega) (by omega)).below (two_new _ _ _)

theorem field_k1 (k : Int) (b : ByteArray) (vk : Int) (vf : Bool) (vn : Int) (vt : ByteArray) (a : Int) (W : World) : (Instr.field 31 (.agg #[.int .i64 k, .string b, .int .i64 vk, .bool vf, .int .i64 vn, .string vt, .int .i64 a]) 1).run Tryz.prog W = .ok (.string b) W := by kernel_rfl
set_option maxHeartbeats 1000000 in
theorem k_has {w : World} {g t i : Nat} {ls : List Tok} (h : RdK w g t ls i) (hA : AtI ls i) (u : ByteArray) (hu : u.data.toList ≠ []) :
    Calls Tryz.prog 69 #[.pointer (some ⟨g, 0, none⟩), .string u] w fun e w' => e = .returned (.bool (hasP (ls.drop i) u.data.toList)) ∧ OnlyR g w w' ∧ (hasP (ls.drop i) u.data.toList = true → AtI ls (i + 1) ∧ RdK w' g t ls (i + 1)) ∧ (hasP (ls.drop i) u.data.toList = false → RdK w' g t ls i) := by
  obtain ⟨⟨k, b, ⟨vk, vf, vn, vt⟩, a⟩, hX⟩ : ∃ x, hdT (ls.drop i) = x := ⟨_, rfl⟩
  have HL := Lib.hid (k_look h hA.i hX)
  have H := Lib.hid h
  have HX := Lib.hid hX
  have HIT := Lib.hid (hA.hit (t := u.data.toList) hu)
  have hq : hasP (ls.drop i) u.data.toList = decide (b.data.toList = u.data.toList) := by unfold hasP; rw [hX]
  have HI := Lib.hid hA.i
  have hub : u.toList = u.data.toList := ByteArray.toList_eq u
  have hbb : b.toList = b.data.toList := ByteArray.toList_eq b
  have HUB := Lib.hid hub
  have HBB := Lib.hid hbb
  have HQ := Lib.hid hq
  have q1 := field_k1 k b vk vf vn vt a
  generalize hasP (ls.drop i) u.data.toList = q at *
  clear h hX hq hub hbb
  go_enter Tryz.func69, Tryz.ntmps69
  go_wp2_with fail
  refine HL.out.mono ?_
  rintro e w1 ⟨rfl, hb1⟩
  have H1 := Lib.hid (H.out.below hb1)
  have HO1 := Lib.hid (OnlyR.of (g := g) hb1)
  clear hb1 HL H
  by_cases he : b.data.toList = u.data.toList
  · have b1 : (b.toList == u.toList) = true := by rw [HUB.out, HBB.out, he]; simp
    have HQT : Hid (q = true) := Lib.hid (by rw [HQ.out]; exact decide_eq_true he)
    have HT := Lib.hid (k_take H1.out HI.out HX.out)
    clear he
    go_wp2_with fail
    refine HT.out.mono ?_
    rintro e w2 ⟨rfl, hr2, ho2⟩
    have H2 := Lib.hid hr2
    have HO2 := Lib.hid (HO1.out.trans ho2)
    clear hr2 ho2 HT
    go_wp2
    go_ret
    exact ⟨by rw [HQT.out]; rfl, HO2.out, fun _ => ⟨HIT.out HQT.out, H2.out⟩, fun e => by rw [HQT.out] at e; cases e⟩
  · have b1 : (b.toList == u.toList) = false := by rw [HUB.out, HBB.out]; exact beq_eq_false_iff_ne.2 he
    have HQT : Hid (q = false) := Lib.hid (by rw [HQ.out]; exact decide_eq_false he)
    clear he
    go_wp2
    go_ret
    exact ⟨by rw [HQT.out]; rfl, HO1.out, (fun e => by rw [HQT.out] at e; cases e), fun _ => H1.out⟩

set_option maxHeartbeats 1000000 in
theorem k_need {w : World} {g t i : Nat} {ls : List Tok} (h : RdK w g t ls i) (hA : AtI ls i) (u : ByteArray) (hu : u.data.toList ≠ []) :
    Calls Tryz.prog 33 #[.pointer (some ⟨g, 0, none⟩), .string u] w (ResP w g t ls (fun _ v _ => v = .tuple #[]) (needP (ls.drop i) u.data.toList)) := by
  obtain ⟨⟨k, b, ⟨vk, vf, vn, vt⟩, a⟩, hX⟩ : ∃ x, hdT (ls.drop i) = x := ⟨_, rfl⟩
  have HT := Lib.hid (k_take h hA.i hX)
  have hp : needP (ls.drop i) u.data.toList = if b.data.toList = u.data.toList then .ok () (ls.drop (i + 1)) else .bad a 7 := by
    unfold needP hasP
    rw [hX, List.tail_drop]
    simp only [decide_eq_true_eq]
  have HIT : Hid (b.data.toList = u.data.toList → AtI ls (i + 1)) := Lib.hid (fun e => hA.hit (t := u.data.toList) hu (by unfold hasP; rw [hX]; exact decide_eq_true e))
  have hub : u.toList = u.data.toList := ByteArray.toList_eq u
  have hbb : b.toList = b.data.toList := ByteArray.toList_eq b
  have HUB := Lib.hid hub
  have HBB := Lib.hid hbb
  have HP := Lib.hid hp
  generalize needP (ls.drop i) u.data.toList = p at *
  clear h hX hp hub hbb hA
  go_enter Tryz.func33, Tryz.ntmps33
  go_wp2_with fail
  refine HT.out.mono ?_
  rintro e w1 ⟨rfl, hr1, ho1⟩
  have H1 := Lib.hid hr1
  have HO1 := Lib.hid ho1
  clear hr1 ho1 HT
  have n1 := new_cellG w1 #[.int .i64 k, .string b, .int .i64 vk, .bool vf, .int .i64 vn, .string vt, .int .i64 a] 31 1
  have n6 := new_cellG w1 #[.int .i64 k, .string b, .int .i64 vk, .bool vf, .int .i64 vn, .string vt, .int .i64 a] 31 6
  have HO2 := Lib.hid (HO1.out.trans (OnlyR.of (g := g) (one_new w1 (tkO k b vk vf vn vt a))))
  have H2 := Lib.hid (H1.out.below (one_new w1 (tkO k b vk vf vn vt a)))
  by_cases he : b.data.toList = u.data.toList
  · have b1 : (b.toList == u.toList) = true := by rw [HUB.out, HBB.out, he]; simp
    have hp := HP.out
    rw [if_pos he] at hp
    have hi := HIT.out he
    have HP2 := Lib.hid hp
    have HI2 := Lib.hid hi
    clear he hp hi
    go_wp2
    go_end0
    exact ResP.ok HO2.out HP2.out rfl HI2.out H2.out
  · have b1 : (b.toList == u.toList) = false := by rw [HUB.out, HBB.out]; exact beq_eq_false_iff_ne.2 he
    have hp := HP.out
    rw [if_neg he] at hp
    have HP2 := Lib.hid hp
    clear he hp
    go_wp2
    exact ⟨rfl, ResP.bad HO2.out HP2.out⟩

theorem k_isName (k : Int) (b : ByteArray) (vk : Int) (vf : Bool) (vn : Int) (vt : ByteArray) (a : Int) (w : World) :
    Calls Tryz.prog 66 #[.agg #[.int .i64 k, .string b, .int .i64 vk, .bool vf, .int .i64 vn, .string vt, .int .i64 a]] w fun e w' => e = .returned (.bool (nmB ⟨k, b, ⟨vk, vf, vn, vt⟩, a⟩)) ∧ Below w.heap.size w w' := by
  have HI : Hid (nmB ⟨k, b, ⟨vk, vf, vn, vt⟩, a⟩ = (decide (k = 1) && nameR b.data.toList && !resB b.data.toList)) := Lib.hid rfl
  have HM : Hid (∀ W, Calls Tryz.prog 100 #[.string b] W fun e w' => e = .returned (.bool (nameR b.data.toList)) ∧ w' = W) := Lib.hid fun W => s_name b W
  have HR : Hid (∀ W, Calls Tryz.prog 101 #[.string b] W fun e w' => e = .returned (.bool (resB b.data.toList)) ∧ W = w') := Lib.hid fun W => lx_reserved b W
  have n0 := new_cellG w #[.int .i64 k, .string b, .int .i64 vk, .bool vf, .int .i64 vn, .string vt, .int .i64 a] 31 0
  have n1 := new_cellG w #[.int .i64 k, .string b, .int .i64 vk, .bool vf, .int .i64 vn, .string vt, .int .i64 a] 31 1
  generalize nmB ⟨k, b, ⟨vk, vf, vn, vt⟩, a⟩ = q at *
  generalize nameR b.data.toList = p1 at *
  generalize resB b.data.toList = p2 at *
  go_enter Tryz.func66, Tryz.ntmps66
  by_cases hk : k = 1
  · subst hk
    cases p1 with
    | true =>
      go_wp2_with (first | (go_at_call 100; refine (HM.out _).mono ?_; rintro e w' ⟨rfl, rfl⟩) | (go_at_call 101; refine (HR.out _).mono ?_; rintro e w' ⟨rfl, rfl⟩))
      go_ret
      refine ⟨?_, one_new w _⟩
      rw [HI.out]
      cases p2 <;> rfl
    | false =>
      go_wp2_with (go_at_call 100; refine (HM.out _).mono ?_; rintro e w' ⟨rfl, rfl⟩)
      go_ret
      exact ⟨by rw [HI.out]; rfl, one_new w _⟩
  · have b1 : (k == 1) = false := by simpa using hk
    have HK : Hid (decide (k = 1) = false) := Lib.hid (decide_eq_false hk)
    clear hk
    go_wp2
    go_ret
    exact ⟨by rw [HI.out, HK.out]; rfl, one_new w _⟩
theorem k_isTerm (k : Int) (b : ByteArray) (vk : Int) (vf : Bool) (vn : Int) (vt : ByteArray) (a : Int) (w : World) :
    Calls Tryz.prog 102 #[.agg #[.int .i64 k, .string b, .int .i64 vk, .bool vf, .int .i64 vn, .string vt, .int .i64 a]] w fun e w' => e = .returned (.bool (isTm ⟨k, b, ⟨vk, vf, vn, vt⟩, a⟩)) ∧ Below w.heap.size w w' := by
  have HI : Hid (isTm ⟨k, b, ⟨vk, vf, vn, vt⟩, a⟩ = (decide (k = 2) || nmB ⟨k, b, ⟨vk, vf, vn, vt⟩, a⟩)) := Lib.hid rfl
  have HN := Lib.hid (k_isName k b vk vf vn vt a (w.alloc (tkO k b vk vf vn vt a)))
  have n0 := new_cellG w #[.int .i64 k, .string b, .int .i64 vk, .bool vf, .int .i64 vn, .string vt, .int .i64 a] 31 0
  have n1 := new_cellG w #[.int .i64 k, .string b, .int .i64 vk, .bool vf, .int .i64 vn, .string vt, .int .i64 a] 31 1
  have n2 := new_cellG w #[.int .i64 k, .string b, .int .i64 vk, .bool vf, .int .i64 vn, .string vt, .int .i64 a] 31 2
  have n3 := new_cellG w #[.int .i64 k, .string b, .int .i64 vk, .bool vf, .int .i64 vn, .string vt, .int .i64 a] 31 3
  have n4 := new_cellG w #[.int .i64 k, .string b, .int .i64 vk, .bool vf, .int .i64 vn, .string vt, .int .i64 a] 31 4
  have n5 := new_cellG w #[.int .i64 k, .string b, .int .i64 vk, .bool vf, .int .i64 vn, .string vt, .int .i64 a] 31 5
  have n6 := new_cellG w #[.int .i64 k, .string b, .int .i64 vk, .bool vf, .int .i64 vn, .string vt, .int .i64 a] 31 6
  generalize isTm ⟨k, b, ⟨vk, vf, vn, vt⟩, a⟩ = q at *
  generalize nmB ⟨k, b, ⟨vk, vf, vn, vt⟩, a⟩ = p1 at *
  go_enter Tryz.func102, Tryz.ntmps102
  by_cases hk : k = 2
  · subst hk
    go_wp2
    go_ret
    exact ⟨by rw [HI.out]; rfl, one_new w _⟩
  · have b1 : (k == 2) = false := by simpa using hk
    have HK : Hid (decide (k = 2) = false) := Lib.hid (decide_eq_false hk)
    clear hk
    go_wp2_with (go_at_call 66; refine HN.out.mono ?_; rintro e w' ⟨rfl, hb⟩; have HB := Lib.hid hb; clear hb)
    go_ret
    refine ⟨?_, (one_new w (tkO k b vk vf vn vt a)).trans (HB.out.mono (by simp))⟩
    rw [HI.out, HK.out]
    cases p1 <;> rfl

set_option maxHeartbeats 1000000 in
theorem k_name {w : World} {g t i : Nat} {ls : List Tok} (h : RdK w g t ls i) (hA : AtI ls i) :
    Calls Tryz.prog 32 #[.pointer (some ⟨g, 0, none⟩)] w (ResP w g t ls (fun b v _ => v = .string b) (nameP (ls.drop i))) := by
  obtain ⟨⟨k, b, ⟨vk, vf, vn, vt⟩, a⟩, hX⟩ : ∃ x, hdT (ls.drop i) = x := ⟨_, rfl⟩
  have HT := Lib.hid (k_take h hA.i hX)
  have hp : nameP (ls.drop i) = if nmB ⟨k, b, ⟨vk, vf, vn, vt⟩, a⟩ = true then .ok b (ls.drop (i + 1)) else .bad a 7 := by
    unfold nameP
    rw [hX, List.tail_drop]
  have HIT : Hid (nmB ⟨k, b, ⟨vk, vf, vn, vt⟩, a⟩ = true → AtI ls (i + 1)) := Lib.hid (fun e => (hA.next (by rw [hX, nmB_k e]; decide)).1)
  have HP := Lib.hid hp
  have HN := Lib.hid (k_isName k b vk vf vn vt a)
  generalize nameP (ls.drop i) = p at *
  generalize nmB ⟨k, b, ⟨vk, vf, vn, vt⟩, a⟩ = q at *
  clear h hX hp hA
  go_enter Tryz.func32, Tryz.ntmps32
  go_wp2_with fail
  refine HT.out.mono ?_
  rintro e w1 ⟨rfl, hr1, ho1⟩
  have HO2 := Lib.hid (ho1.trans (OnlyR.of (g := g) (one_new w1 (tkO k b vk vf vn vt a))))
  have H2 := Lib.hid (hr1.below (one_new w1 (tkO k b vk vf vn vt a)))
  have hh := heap_alloc_new w1 (tkO k b vk vf vn vt a)
  have HH := Lib.hid hh
  obtain ⟨n0, n1, n2, n3, n4, n5, n6⟩ := tok_cells hh
  clear hr1 ho1 HT hh
  go_wp2_with fail
  refine (HN.out _).mono ?_
  rintro e w3 ⟨rfl, hb3⟩
  have HO3 := Lib.hid (HO2.out.trans (OnlyR.of (g := g) hb3))
  have H3 := Lib.hid (H2.out.below hb3)
  have hh3 := (hb3.block w1.heap.size (by simp)).trans HH.out
  obtain ⟨m0, m1, m2, m3, m4, m5, m6⟩ := tok_cells hh3
  clear hb3 hh3 n0 n1 n2 n3 n4 n5 n6 HN
  cases q with
  | true =>
    go_wp2
    go_ret
    exact ResP.ok HO3.out (by rw [HP.out]; rfl) rfl (HIT.out (by trivial)) H3.out
  | false =>
    go_wp2
    exact ⟨rfl, ResP.bad HO3.out (by rw [HP.out]; rfl)⟩
end
end Go.Proofs.YtkobfngnnblpeaaGreatDoor
namespace Go.Proofs.YtkobfngnnblpeaaGreatDoor
section
open Go.RowKit

theorem strb {b : ByteArray} {l : List UInt8} (u : ByteArray) (hu : u.data.toList = l) (h : b.data.toList = l) : (b.toList == u.toList) = true := by
  rw [ByteArray.toList_eq b, ByteArray.toList_eq u, h, hu]
  simp
theorem strn {b : ByteArray} {l : List UInt8} (u : ByteArray) (hu : u.data.toList = l) (h : ¬ b.data.toList = l) : (b.toList == u.toList) = false := by
  rw [ByteArray.toList_eq b, ByteArray.toList_eq u, hu]
  exact beq_eq_false_iff_ne.2 h
theorem tl_deny : (⟨#[100, 101, 110, 121]⟩ : ByteArray).toList = wDeny := ByteArray.toList_eq _
theorem strt {b : ByteArray} {l : List UInt8} (h : b.data.toList = l) : (b.toList == l) = true := by
  rw [ByteArray.toList_eq b, h]
  simp
theorem strf {b : ByteArray} {l : List UInt8} (h : ¬ b.data.toList = l) : (b.toList == l) = false := by
  rw [ByteArray.toList_eq b]
  exact beq_eq_false_iff_ne.2 h
theorem key_of {x : Tok} {t : List UInt8} (ht : t ∈ keyW) (h : x.t.data.toList = t) {ls : List Tok} {i : Nat} (hA : AtI ls i) (hX : hdT (ls.drop i) = x) : AtI ls (i + 1) :=
  hA.hit (key_ne t ht) (by unfold hasP; rw [hX]; exact decide_eq_true h)
set_option maxHeartbeats 1000000 in
theorem k_kind {w : World} {g t i : Nat} {ls : List Tok} (h : RdK w g t ls i) (hA : AtI ls i) :
    Calls Tryz.prog 31 #[.pointer (some ⟨g, 0, none⟩)] w (ResP w g t ls (fun k v _ => v = .int .i64 k) (kindP (ls.drop i))) := by
  obtain ⟨⟨k, b, ⟨vk, vf, vn, vt⟩, a⟩, hX⟩ : ∃ x, hdT (ls.drop i) = x := ⟨_, rfl⟩
  have HT := Lib.hid (k_take h hA.i hX)
  have hp : kindP (ls.drop i) = if kindN ⟨k, b, ⟨vk, vf, vn, vt⟩, a⟩ = 0 then .bad a 7 else .ok (kindN ⟨k, b, ⟨vk, vf, vn, vt⟩, a⟩) (ls.drop (i + 1)) := by
    unfold kindP
    rw [hX, List.tail_drop]
  have HP := Lib.hid hp
  have HKN : Hid (kindN ⟨k, b, ⟨vk, vf, vn, vt⟩, a⟩ = if b.data.toList = wDeny then 1 else if b.data.toList = wView then 2 else if b.data.toList = wQuota then 3 else 0) := Lib.hid rfl
  have HIT : Hid (∀ t' ∈ keyW, b.data.toList = t' → AtI ls (i + 1)) := Lib.hid (fun t' ht e => key_of ht e hA hX)
  generalize kindP (ls.drop i) = p at *
  generalize kindN ⟨k, b, ⟨vk, vf, vn, vt⟩, a⟩ = q at *
  clear h hX hp hA
  go_enter Tryz.func31, Tryz.ntmps31
  go_wp2_with fail
  refine HT.out.mono ?_
  rintro e w1 ⟨rfl, hr1, ho1⟩
  have HO2 := Lib.hid (ho1.trans (OnlyR.of (g := g) (one_new w1 (tkO k b vk vf vn vt a))))
  have H2 := Lib.hid (hr1.below (one_new w1 (tkO k b vk vf vn vt a)))
  have hh := heap_alloc_new w1 (tkO k b vk vf vn vt a)
  obtain ⟨n0, n1, n2, n3, n4, n5, n6⟩ := tok_cells hh
  clear hr1 ho1 HT hh
  by_cases h1 : b.data.toList = wDeny
  · have b1 : (b.toList == [100, 101, 110, 121]) = true := strt h1
    have HI := Lib.hid (HIT.out _ (by decide) h1)
    have HK := HKN.out
    rw [if_pos h1] at HK
    have HK := Lib.hid HK
    clear h1
    go_wp2
    go_ret
    exact ResP.ok HO2.out (by rw [HP.out, HK.out]; rfl) rfl HI.out H2.out
  · have b1 : (b.toList == [100, 101, 110, 121]) = false := strf h1
    by_cases h2 : b.data.toList = wView
    · have b2 : (b.toList == [118, 105, 101, 119]) = true := strt h2
      have HI := Lib.hid (HIT.out _ (by decide) h2)
      have HK := HKN.out
      rw [if_neg h1, if_pos h2] at HK
      have HK := Lib.hid HK
      clear h1 h2
      go_wp2
      go_ret
      exact ResP.ok HO2.out (by rw [HP.out, HK.out]; rfl) rfl HI.out H2.out
    · have b2 : (b.toList == [118, 105, 101, 119]) = false := strf h2
      by_cases h3 : b.data.toList = wQuota
      · have b3 : (b.toList == [113, 117, 111, 116, 97]) = true := strt h3
        have HI := Lib.hid (HIT.out _ (by decide) h3)
        have HK := HKN.out
        rw [if_neg h1, if_neg h2, if_pos h3] at HK
        have HK := Lib.hid HK
        clear h1 h2 h3
        go_wp2
        go_ret
        exact ResP.ok HO2.out (by rw [HP.out, HK.out]; rfl) rfl HI.out H2.out
      · have b3 : (b.toList == [113, 117, 111, 116, 97]) = false := strf h3
        have HK := HKN.out
        rw [if_neg h1, if_neg h2, if_neg h3] at HK
        have HK := Lib.hid HK
        clear h1 h2 h3
        go_wp2
        exact ⟨rfl, ResP.bad HO2.out (by rw [HP.out, HK.out]; rfl)⟩
set_option maxHeartbeats 1000000 in
theorem k_number {w : World} {g t i : Nat} {ls : List Tok} (h : RdK w g t ls i) (hA : AtI ls i) :
    Calls Tryz.prog 68 #[.pointer (some ⟨g, 0, none⟩)] w (ResP w g t ls (fun n v _ => v = .int .i64 n) (numP (ls.drop i))) := by
  obtain ⟨⟨k, b, ⟨vk, vf, vn, vt⟩, a⟩, hX⟩ : ∃ x, hdT (ls.drop i) = x := ⟨_, rfl⟩
  have HT := Lib.hid (k_take h hA.i hX)
  have hp : numP (ls.drop i) = if vk = 2 then .ok vn (ls.drop (i + 1)) else .bad a 7 := by
    unfold numP
    rw [hX, List.tail_drop]
  have HP := Lib.hid hp
  have HIT : Hid (vk = 2 → AtI ls (i + 1)) := Lib.hid (fun e => (hA.next (fun hk => by
    rcases hA.at.cases with he | ⟨hi, _⟩
    · have e1 := he.2.2
      have e2 : hdT (ls.drop i) = nowR ls ⟨i, 0, 0⟩ := now_hd (s := ⟨i, 0, 0⟩) hA.i
      rw [← e2, hX, e] at e1
      exact absurd (show (2 : Int) = 0 from e1) (by decide)
    · have e2 : hdT (ls.drop i) = nowR ls ⟨i, 0, 0⟩ := now_hd (s := ⟨i, 0, 0⟩) hA.i
      rw [← e2] at hi
      rcases hi.k with h1 | h1 | h1 <;> rw [h1] at hk <;> exact absurd hk (by decide))).1)
  generalize numP (ls.drop i) = p at *
  clear h hX hp hA
  go_enter Tryz.func68, Tryz.ntmps68
  go_wp2_with fail
  refine HT.out.mono ?_
  rintro e w1 ⟨rfl, hr1, ho1⟩
  have HO2 := Lib.hid (ho1.trans (OnlyR.of (g := g) (one_new w1 (tkO k b vk vf vn vt a))))
  have H2 := Lib.hid (hr1.below (one_new w1 (tkO k b vk vf vn vt a)))
  have hh := heap_alloc_new w1 (tkO k b vk vf vn vt a)
  obtain ⟨n0, n1, n2, n3, n4, n5, n6⟩ := tok_cells hh
  clear hr1 ho1 HT hh
  by_cases hv : vk = 2
  · have HI := Lib.hid (HIT.out hv)
    subst hv
    go_wp2
    go_ret
    exact ResP.ok HO2.out (by rw [HP.out]; rfl) rfl HI.out H2.out
  · have b1 : (vk == 2) = false := by simpa using hv
    have hp := HP.out
    rw [if_neg hv] at hp
    have HP := Lib.hid hp
    clear hv hp
    go_wp2
    exact ⟨rfl, ResP.bad HO2.out HP.out⟩
theorem k_aggT (k : Int) (b : ByteArray) (vk : Int) (vf : Bool) (vn : Int) (vt : ByteArray) (a : Int) (w : World) :
    Calls Tryz.prog 70 #[.agg #[.int .i64 k, .string b, .int .i64 vk, .bool vf, .int .i64 vn, .string vt, .int .i64 a]] w fun e w' => e = .returned (.int .i64 (agT ⟨k, b, ⟨vk, vf, vn, vt⟩, a⟩ : Nat)) ∧ Below w.heap.size w w' := by
  have HKN : Hid (agT ⟨k, b, ⟨vk, vf, vn, vt⟩, a⟩ = if b.data.toList = [99, 111, 117, 110, 116] then 1 else if b.data.toList = [115, 117, 109] then 2 else if b.data.toList = [108, 101, 97, 115, 116] then 3 else if b.data.toList = [109, 111, 115, 116] then 4 else 0) := Lib.hid rfl
  have n1 := new_cellG w #[.int .i64 k, .string b, .int .i64 vk, .bool vf, .int .i64 vn, .string vt, .int .i64 a] 31 1
  generalize agT ⟨k, b, ⟨vk, vf, vn, vt⟩, a⟩ = q at *
  go_enter Tryz.func70, Tryz.ntmps70
  by_cases h1 : b.data.toList = [99, 111, 117, 110, 116]
  · have b1 := strt h1
    have HK := HKN.out
    rw [if_pos h1] at HK
    have HK := Lib.hid HK
    clear h1
    go_wp2
    go_ret
    exact ⟨by rw [HK.out]; rfl, one_new w _⟩
  · have b1 := strf h1
    by_cases h2 : b.data.toList = [115, 117, 109]
    · have b2 := strt h2
      have HK := HKN.out
      rw [if_neg h1, if_pos h2] at HK
      have HK := Lib.hid HK
      clear h1 h2
      go_wp2
      go_ret
      exact ⟨by rw [HK.out]; rfl, one_new w _⟩
    · have b2 := strf h2
      by_cases h3 : b.data.toList = [108, 101, 97, 115, 116]
      · have b3 := strt h3
        have HK := HKN.out
        rw [if_neg h1, if_neg h2, if_pos h3] at HK
        have HK := Lib.hid HK
        clear h1 h2 h3
        go_wp2
        go_ret
        exact ⟨by rw [HK.out]; rfl, one_new w _⟩
      · have b3 := strf h3
        by_cases h4 : b.data.toList = [109, 111, 115, 116]
        · have b4 := strt h4
          have HK := HKN.out
          rw [if_neg h1, if_neg h2, if_neg h3, if_pos h4] at HK
          have HK := Lib.hid HK
          clear h1 h2 h3 h4
          go_wp2
          go_ret
          exact ⟨by rw [HK.out]; rfl, one_new w _⟩
        · have b4 := strf h4
          have HK := HKN.out
          rw [if_neg h1, if_neg h2, if_neg h3, if_neg h4] at HK
          have HK := Lib.hid HK
          clear h1 h2 h3 h4
          go_wp2
          go_ret
          exact ⟨by rw [HK.out]; rfl, one_new w _⟩
set_option maxHeartbeats 1000000 in
theorem k_term {w : World} {g t i : Nat} {ls : List Tok} (h : RdK w g t ls i) (hA : AtI ls i) :
    Calls Tryz.prog 104 #[.pointer (some ⟨g, 0, none⟩)] w (ResP w g t ls (fun x v _ => v = x.val) (termP (ls.drop i))) := by
  obtain ⟨⟨k, b, ⟨vk, vf, vn, vt⟩, a⟩, hX⟩ : ∃ x, hdT (ls.drop i) = x := ⟨_, rfl⟩
  have hon := one_new w (.cells #[.string ⟨#[]⟩, .bool false, .int .i64 0, .bool false, .int .i64 0, .string ⟨#[]⟩] 47)
  have HT := Lib.hid (k_take (h.below hon) hA.i hX)
  have HO0 := Lib.hid (OnlyR.of (g := g) hon)
  have hp : termP (ls.drop i) = if isTm ⟨k, b, ⟨vk, vf, vn, vt⟩, a⟩ = true then .ok (if k = 2 then ⟨⟨#[]⟩, false, ⟨vk, vf, vn, vt⟩⟩ else ⟨b, false, noV⟩) (ls.drop (i + 1)) else .bad a 7 := by
    unfold termP
    rw [hX, List.tail_drop]
  have HIT : Hid (isTm ⟨k, b, ⟨vk, vf, vn, vt⟩, a⟩ = true → AtI ls (i + 1)) := Lib.hid (fun e => (hA.next (by
    rw [hX]
    unfold isTm at e
    rw [Bool.or_eq_true, decide_eq_true_eq] at e
    rcases e with e | e
    · show k ≠ 4
      have e : k = 2 := e
      rw [e]
      decide
    · rw [nmB_k e]
      decide)).1)
  have HP := Lib.hid hp
  have HN := Lib.hid (k_isTerm k b vk vf vn vt a)
  generalize termP (ls.drop i) = p at *
  generalize isTm ⟨k, b, ⟨vk, vf, vn, vt⟩, a⟩ = q at *
  have hz0 := heap_alloc_new w (.cells #[.string ⟨#[]⟩, .bool false, .int .i64 0, .bool false, .int .i64 0, .string ⟨#[]⟩] 47)
  have HZ := Lib.hid hz0
  have HG := Lib.hid h.lt
  have HTL := Lib.hid (h.tlt (by have := hA.i; omega))
  clear h hX hp hA hon hz0
  go_enter Tryz.func104, Tryz.ntmps104
  go_wp2_with fail
  refine HT.out.mono ?_
  rintro e w1 ⟨rfl, hr1, ho1⟩
  have HO2 := Lib.hid ((HO0.out.trans ho1).trans (OnlyR.of (g := g) (one_new w1 (tkO k b vk vf vn vt a))))
  have H2 := Lib.hid (hr1.below (one_new w1 (tkO k b vk vf vn vt a)))
  have hh := heap_alloc_new w1 (tkO k b vk vf vn vt a)
  have HH := Lib.hid hh
  have hs1 := ho1.size
  rw [World.size_alloc] at hs1
  have hz1 := (ho1.2 w.heap.size (by simp) (by have := HG.out; omega)).trans HZ.out
  have hz2 := ((one_new w1 (tkO k b vk vf vn vt a)).block w.heap.size (by omega)).trans hz1
  have HZ2 := Lib.hid hz2
  obtain ⟨n0, n1, n2, n3, n4, n5, n6⟩ := tok_cells hh
  clear hr1 ho1 HT hh HZ hz1 hz2 HO0
  go_wp2_with fail
  refine (HN.out _).mono ?_
  rintro e w3 ⟨rfl, hb3⟩
  have HO3 := Lib.hid (HO2.out.trans (OnlyR.of (g := g) hb3))
  have H3 := Lib.hid (H2.out.below hb3)
  have hh3 := (hb3.block w1.heap.size (by simp)).trans HH.out
  have hz3 := (hb3.block w.heap.size (by simp; omega)).trans HZ2.out
  obtain ⟨m0, m1, m2, m3, m4, m5, m6⟩ := tok_cells hh3
  clear hb3 hh3 n0 n1 n2 n3 n4 n5 n6 HN
  cases q with
  | true =>
    have HI := Lib.hid (HIT.out (by trivial))
    have HG' := HG.out
    have HZ3 := Lib.hid hz3
    obtain ⟨r0, r1, r2, r3, r4, r5, rf⟩ := box6_of hz3
    have f0 := rf 0
    have f1 := rf 1
    have f2 := rf 2
    have f3 := rf 3
    have f4 := rf 4
    have f5 := rf 5
    clear hz3 rf HIT
    by_cases hk : k = 2
    · subst hk
      have HNK : Hid True := Lib.hid trivial
      go_wp2
      exact bodyPost_ret (v := .agg #[.string ⟨#[]⟩, .bool false, .int .i64 vk, .bool vf, .int .i64 vn, .string vt]) (by simp [results, Tryz.results104, go_sem, r0, r1, r2, r3, r4, r5]) rfl
        (ResP.ok (by repeat (first | (with_reducible exact HO3.out) | (with_reducible refine OnlyR.new ?_ (Nat.le_refl _) _))) (by rw [HP.out]; first | rfl | (rw [if_pos rfl, if_neg HNK.out])) rfl HI.out (by repeat (first | (with_reducible exact H3.out) | (with_reducible refine RdK.new ?_ (by have := HG.out; omega) (by have := HTL.out; omega) _))))
    · have b1 : (k == 2) = false := by simpa using hk
      have HNK := Lib.hid hk
      clear hk
      go_wp2
      exact bodyPost_ret (v := .agg #[.string b, .bool false, .int .i64 0, .bool false, .int .i64 0, .string ⟨#[]⟩]) (by simp [results, Tryz.results104, go_sem, r0, r1, r2, r3, r4, r5]) rfl
        (ResP.ok (by repeat (first | (with_reducible exact HO3.out) | (with_reducible refine OnlyR.new ?_ (Nat.le_refl _) _))) (by rw [HP.out]; exact congrArg (fun z => PR.ok z (ls.drop (i + 1))) (if_neg HNK.out)) rfl HI.out (by repeat (first | (with_reducible exact H3.out) | (with_reducible refine RdK.new ?_ (by have := HG.out; omega) (by have := HTL.out; omega) _))))
  | false =>
    clear hz3
    go_wp2
    exact ⟨rfl, ResP.bad HO3.out (by rw [HP.out]; rfl)⟩
end
end Go.Proofs.YtkobfngnnblpeaaGreatDoor
