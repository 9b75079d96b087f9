/-
  The iterator of package lex over a text's tokens: the tokens come one by one, up to the end, or the first one that is wrong, or till the loop's body has enough.
  Condition: the library's variables are as the program's text lays them; the text has at most 300 bytes; the loop's body changes no block of cells but the box of one list, and that list's row.
-/
import Derived.RangeFuncNested
import Derived.RangeFuncBound
import Derived.RangeFuncCalls
import Derived.RangeFuncLeaves
import Derived.Shelf.Abstract
import Derived.Shelf.RegionOpen
import Derived.WalkKit
import Derived.OwnWalkIn
import Derived.TacticsInMore
import Derived.LoopNIn
import Derived.LoopIn
import Derived.Test.YtmdkjhnafnblkaaDoorLxi
namespace Go.Proofs.YtmdkjhnafnblkaaDoor
open Go.RowKit Go.Shelf

attribute [local go_sem] Oper.semAt_some

/-- Of what was there, a round changes one box, and the row that it points to, alone; that row lies at or beyond n0. -/
def KB (n0 bo : Nat) (T : TypeId) (W W' : World) : Prop :=
  Below n0 W W' ∧ ∀ v, Boxed W bo T v → (∀ k o, W.heap[k]? = some o → o.isCells = true → k ≠ bo → v.ownBlock ≠ some k → W'.heap[k]? = some o) ∧
    ∃ v', Boxed W' bo T v' ∧ ∀ k, v'.ownBlock = some k → v.ownBlock = some k ∨ (W.heap.size ≤ k ∧ k < W'.heap.size)
theorem KB.trans {n0 bo : Nat} {T : TypeId} {A B C : World} (h1 : KB n0 bo T A B) (h2 : KB n0 bo T B C) : KB n0 bo T A C := by
  refine ⟨h1.1.trans h2.1, fun v hv => ?_⟩
  obtain ⟨hk, v', hv', ho⟩ := h1.2 v hv
  obtain ⟨hk2, v2, hv2, ho2⟩ := h2.2 v' hv'
  have hs1 := h1.1.size
  have hs2 := h2.1.size
  refine ⟨fun k o h hc hb hn => ?_, v2, hv2, fun k h => ?_⟩
  · have hlt : k < A.heap.size := (Array.getElem?_eq_some_iff.1 h).1
    refine hk2 k o (hk k o h hc hb hn) hc hb (fun e => ?_)
    rcases ho k e with e1 | ⟨e1, _⟩
    · exact hn e1
    · omega
  · rcases ho2 k h with e | ⟨e1, e2⟩
    · rcases ho k e with e1 | ⟨e1, e2⟩
      · exact .inl e1
      · exact .inr ⟨e1, by omega⟩
    · exact .inr ⟨by omega, e2⟩
theorem KB.turn {n0 bo : Nat} {T : TypeId} {W0 : World} (h0 : n0 ≤ W0.heap.size) (W : World) (l : Nat) (o o' : Obj) (hl : W0.heap.size ≤ l) (h : W.heap[l]? = some o) (hc : o.isCells = false) (hw : o.isWalk = false) : KB n0 bo T W (W.putObj l o') := by
  have hb : Below n0 W (W.putObj l o') := belowK_b h0 W l o o' hl h hc hw
  have hk : ∀ k, k ≠ l → (W.putObj l o').heap[k]? = W.heap[k]? := fun k hne => by
    simp [World.putObj, Ne.symm hne]
  refine ⟨hb, fun v hv => ⟨fun k o2 h2 hc2 _ _ => ?_, v, ?_, fun k h => .inl h⟩⟩
  · have hne : k ≠ l := by
      intro e
      subst e
      rw [h] at h2
      cases h2
      rw [hc] at hc2
      cases hc2
    rw [hk k hne]
    exact h2
  · have hne : bo ≠ l := by
      intro e
      subst e
      have h3 : W.heap[bo]? = some (.cells #[v] T (0, 0)) := hv
      rw [h] at h3
      cases h3
      cases hc
    exact (hk bo hne).trans hv
/-- The box lies there; the row that it points to is there, and is not this block. -/
def RowOk (W : World) (bo : Nat) (T : TypeId) (b : Nat) : Prop := ∃ v, Boxed W bo T v ∧ ∀ k, v.ownBlock = some k → k < W.heap.size ∧ k ≠ b
theorem RowOk.below {W W' : World} {bo : Nat} {T : TypeId} {b : Nat} (h : RowOk W bo T b) (hb : Below W.heap.size W W') : RowOk W' bo T b := by
  obtain ⟨v, h1, h2⟩ := h
  exact ⟨v, (hb.block bo h1.lt).trans h1, fun k e => ⟨Nat.lt_of_lt_of_le (h2 k e).1 hb.size, (h2 k e).2⟩⟩
theorem RowOk.kb {n0 : Nat} {W W' : World} {bo : Nat} {T : TypeId} {b : Nat} (h : RowOk W bo T b) (hb : KB n0 bo T W W') (hlt : b < W.heap.size) : RowOk W' bo T b := by
  obtain ⟨v, h1, h2⟩ := h
  obtain ⟨_, v', h3, h4⟩ := hb.2 v h1
  have hs := hb.1.size
  refine ⟨v', h3, fun k e => ?_⟩
  rcases h4 k e with e1 | ⟨e1, e2⟩
  · exact ⟨Nat.lt_of_lt_of_le (h2 k e1).1 hs, (h2 k e1).2⟩
  · exact ⟨e2, by omega⟩
theorem grown_of_below {W W' : World} (h : Below W.heap.size W W') : W.grownBy W' none := ⟨h.os, h.tape, h.output, h.size, fun k hk _ => h.block k hk⟩

set_option maxRecDepth 100000 in
set_option maxHeartbeats 4000000 in
theorem tk1_in (n : Nat) (l Bt bo : Nat) (T : TypeId) (s : ByteArray) (hs : s.size ≤ 300) (w0 : World) (hv : Vars w0) (J Jx : List Tok → World → Prop)
    (hJ : ∀ pre A B, J pre A → Below A.heap.size A B → J pre B)
    (hY : ∀ pre x W, J pre W → pre.length < (lexA s.size s.data.toList).length → YieldAt Fence.wide (n - 1) Tryd.prog l #[Tok.val x] W fun e W' =>
      (e = .returned (.bool true) ∧ J (pre ++ [x]) W' ∧ KB w0.heap.size bo T W W') ∨ (e = .returned (.bool false) ∧ Jx (pre ++ [x]) W'))
    (W : World) (hb0 : Below w0.heap.size w0 W) (hbt : bo ≠ Bt) (hBt : Boxed W Bt 9 (.string s)) (hrow : RowOk W bo T Bt) (h0 : J [] W) :
    CallsIn Fence.wide n Tryd.prog 19 #[.func (.yield l) #[] #[], .pointer (some ⟨Bt, 0, none⟩)] W fun e W' => (∃ v, e = .returned v) ∧
      ((∃ ys, ys = lexA s.size s.data.toList ∧ J ys W') ∨ (∃ pre, pre <+: lexA s.size s.data.toList ∧ Jx pre W')) := by
  have hdd : ∀ k : Nat, (Fence.wide.depth.isSome = true → 1 ≤ k) := fun k h => by cases h
  have HV := Lib.hid hv
  have HJ := Lib.hid hJ
  obtain ⟨ys, hys⟩ : ∃ ys, ys = lexA s.size s.data.toList := ⟨_, rfl⟩
  rw [← hys] at hY ⊢
  have HY := Lib.hid hY
  have HYS := Lib.hid hys
  have HB0 := Lib.hid hb0
  have HBT := Lib.hid hBt
  have HROW := Lib.hid hrow
  have HZ := Lib.hid h0
  have cT := hBt.cell
  clear hv hJ hY hys hb0 hBt hrow h0
  refine callsIn_of_wp Tryd.func19 rfl trivial ?_ rfl
  simp only [Tryd.ntmps19, List.size_toArray, List.length_cons, List.length_nil, Nat.reduceAdd, Nat.reduceSub, Array.replicate_succ, Array.replicate_zero, List.push_toArray, List.append_toArray, List.nil_append, List.cons_append]
  gi_wp2
  gi_loopw [3, 4] (fun v m wr => ∃ (pre : List Tok) (r : ByteArray) (b : Bool), v = .string r ∧ m = .bool b ∧ r.size ≤ s.size ∧
      ((b = true ∧ Hid (ys = pre ++ lexA s.size r.data.toList) ∧ J pre wr ∧ Below w0.heap.size w0 wr ∧ Boxed wr Bt 9 (.string s) ∧ RowOk wr bo T Bt) ∨ (b = false ∧ ((pre = ys ∧ J pre wr) ∨ (pre <+: ys ∧ Jx pre wr)))))
    (fun v m _ => match m, v with | .bool true, .string r => r.size + 1 | _, _ => 0)
  case atStart => exact ⟨[], s, true, rfl, rfl, Nat.le_refl _, .inl ⟨rfl, Lib.hid HYS.out, HZ.out, HB0.out, HBT.out, HROW.out⟩⟩
  case round =>
    obtain ⟨pre, r, b, rfl, rfl, hrs, hcase⟩ := hrel
    rcases hcase with ⟨rfl, HX, hj, hb, hbx, hro⟩ | ⟨rfl, hend⟩
    · obtain ⟨R, hR⟩ : ∃ R : ByteArray, R = ⟨(r.data.toList.dropWhile blk).toArray⟩ := ⟨_, rfl⟩
      have hRl : R.data.toList = r.data.toList.dropWhile blk := by rw [hR]
      have hRs : R.size ≤ r.size := by
        show R.data.toList.length ≤ r.data.toList.length
        rw [hRl]
        exact drop_blk_le _
      have HTR : Hid (∀ W, Calls Tryd.prog 20 #[.string r, .string ⟨#[32, 10]⟩] W fun e w' => e = .returned (.string R) ∧ Below W.heap.size W w') := Lib.hid (fun W => by
        have h := trim_at [32, 10] blk in_blk (by decide) (by decide) r W
        rw [← hR] at h
        exact h)
      obtain ⟨k, t, vk, vf, vn, vt, a, hx⟩ := tok_eta (oneT R.data.toList)
      have HF := Lib.hid (fun W (hW : Vars W) => call_tok (lx_first R W hW (by omega)) hx)
      have hts : t.size ≤ R.size := by
        have := oneT_size R.data.toList
        rw [hx] at this
        exact this
      have hstep : ys = pre ++ (⟨k, t, ⟨vk, vf, vn, vt⟩, (s.size : Int) - (R.size : Int)⟩ : Tok) :: (if t.size = 0 then [] else lexA s.size (R.extract t.size R.size).data.toList) := by
        rw [HX.out, lexA_step, ← hRl, hx, ext_drop]
        rfl
      have HS := Lib.hid hstep
      have HJJ := Lib.hid hj
      have HB := Lib.hid hb
      have HBX := Lib.hid hbx
      have HRO := Lib.hid hro
      have cT1 := hbx.cell
      have hbl := hbx.lt
      clear hR hRl hx hstep hj hb hbx hro cT
      gi_wp2_with (fail)
      refine ⟨trivial, hdd _, ?_⟩
      refine (callsIn_wide.2 (HTR.out _)).mono ?_
      rintro e w1 ⟨rfl, hb1⟩
      have HB1 := Lib.hid hb1
      clear hb1
      gi_wp2_with (fail)
      refine ⟨trivial, hdd _, ?_⟩
      refine (callsIn_wide.2 (HF.out _ (by exact HV.out.later (HB.out.trans (HB1.out.mono HB.out.size))))).mono ?_
      rintro e w2 ⟨rfl, hb2⟩
      have HB2 : Hid (Below wr.heap.size wr w2) := Lib.hid (HB1.out.trans (hb2.mono HB1.out.size))
      have cT2 : w2.cell? ⟨Bt, 0, none⟩ = some (.string s) := (HB2.out.cell (p := ⟨Bt, 0, none⟩) hbl).trans cT1
      have hbl2 : Bt < w2.heap.size := Nat.lt_of_lt_of_le hbl HB2.out.size
      clear hb2 cT1
      have hB3 : Below wr.heap.size wr (w2.alloc (.cells #[.int .i64 k, .string t, .int .i64 vk, .bool vf, .int .i64 vn, .string vt, .int .i64 ((s.size : Int) - (R.size : Int))] 39)) := HB2.out.trans ((one_new w2 _).mono HB2.out.size)
      have hlen : pre.length < ys.length := by rw [HS.out]; simp
      obtain ⟨fn, tmps, assign, body, hy, hRnd⟩ := HY.out pre ⟨k, t, ⟨vk, vf, vn, vt⟩, (s.size : Int) - (R.size : Int)⟩ _ (HJ.out _ _ _ HJJ.out hB3) hlen
      have hro3 := HRO.out.below hB3
      have hbx3 : Boxed (w2.alloc (.cells #[.int .i64 k, .string t, .int .i64 vk, .bool vf, .int .i64 vn, .string vt, .int .i64 ((s.size : Int) - (R.size : Int))] 39)) Bt 9 (.string s) := (hB3.block Bt HBX.out.lt).trans HBX.out
      have HR3 := Lib.hid hro3
      have HX3 := Lib.hid hbx3
      have HB3 := Lib.hid hB3
      have HRR := Lib.hid hRnd
      clear hB3 hlen hro3 hbx3 hRnd
      gi_wp2
      (try refine ⟨hdd _, ?_⟩)
      refine HRR.out.mono ?_
      rintro e W4 (⟨rfl, hj4, hkb⟩ | ⟨rfl, hjx⟩)
      · have hcell : W4.heap[w2.heap.size]? = some (.cells #[.int .i64 k, .string t, .int .i64 vk, .bool vf, .int .i64 vn, .string vt, .int .i64 ((s.size : Int) - (R.size : Int))] 39 (0, 0)) := by
          obtain ⟨v, hv1, hv2⟩ := HRO.out
          have hsz := HB2.out.size
          have hv3 := (HB3.out.block bo hv1.lt).trans hv1
          refine (hkb.2 v hv3).1 _ _ (World.alloc_heap_new _ _) rfl (by have := hv1.lt; omega) (fun e => ?_)
          have := (hv2 _ e).1
          omega
        have c1 := cell_of_row _ w2.heap.size 1 _ 39 (0, 0) hcell
        simp only [List.getElem?_toArray, List.getElem?_cons_succ, List.getElem?_cons_zero] at c1
        have hbo : Below w0.heap.size w0 W4 := HB.out.trans ((HB3.out.mono HB.out.size).trans hkb.1)
        have hxx : Boxed W4 Bt 9 (.string s) := by
          obtain ⟨v, hv1, hv2⟩ := HR3.out
          exact (hkb.2 v hv1).1 Bt _ HX3.out rfl (Ne.symm hbt) (fun e => (hv2 _ e).2 rfl)
        have hrr := HR3.out.kb hkb HX3.out.lt
        have HJ4 := Lib.hid hj4
        have HBO := Lib.hid hbo
        have HXX := Lib.hid hxx
        have HR4 := Lib.hid hrr
        clear hcell hkb hj4 hbo hxx hrr
        by_cases h0 : t.size = 0
        · have t1 : t.toList = [] := by
            rw [ByteArray.toList_eq]
            exact List.eq_nil_of_length_eq_zero h0
          have t2 : t.toList.isEmpty = true := by rw [t1]; rfl
          have hend : pre ++ [(⟨k, t, ⟨vk, vf, vn, vt⟩, (s.size : Int) - (R.size : Int)⟩ : Tok)] = ys := by rw [HS.out, if_pos h0]
          have HEND := Lib.hid hend
          clear hend
          gi_wp2
          go_roundw
          case rel => exact ⟨ys, _, false, rfl, rfl, by first | omega | (rw [ByteArray.size_extract]; omega), .inr ⟨rfl, .inl ⟨rfl, by rw [← HEND.out]; exact HJ4.out⟩⟩⟩
          case measure => simp
        · have t1 : ¬ t.toList = [] := by
            rw [ByteArray.toList_eq]
            intro e
            exact h0 (by show t.data.toList.length = 0; rw [e]; rfl)
          have t2 : t.toList.isEmpty = false := by simpa using t1
          have t3 : (!t.toList.isEmpty) = true := by rw [t2]; rfl
          have hnx : ys = (pre ++ [(⟨k, t, ⟨vk, vf, vn, vt⟩, (s.size : Int) - (R.size : Int)⟩ : Tok)]) ++ lexA s.size (R.extract t.size R.size).data.toList := by
            conv => lhs; rw [HS.out, if_neg h0]
            simp
          have HNX := Lib.hid hnx
          clear hnx t1
          gi_wp2
          go_roundw
          case rel => exact ⟨_, _, true, rfl, rfl, by first | omega | (rw [ByteArray.size_extract]; omega), .inl ⟨rfl, HNX, HJ4.out, HBO.out, HXX.out, HR4.out⟩⟩
          case measure => (first | omega | (simp only [ByteArray.size_extract]; omega) | (simp [ByteArray.size_extract]; omega))
      · have HJX := Lib.hid hjx
        have hpf : pre ++ [(⟨k, t, ⟨vk, vf, vn, vt⟩, (s.size : Int) - (R.size : Int)⟩ : Tok)] <+: ys := by
          have e := HS.out
          exact ⟨_, (by rw [List.append_assoc]; exact e.symm)⟩
        have HPF := Lib.hid hpf
        clear hpf hjx
        gi_wp2
        go_roundw
        case rel => exact ⟨_, _, false, rfl, rfl, by first | omega | (rw [ByteArray.size_extract]; omega), .inr ⟨rfl, .inr ⟨HPF.out, HJX.out⟩⟩⟩
        case measure => simp
    · have HE := Lib.hid hend
      clear hend
      gi_wp2
      go_end0
      refine ⟨⟨_, rfl⟩, ?_⟩
      rcases HE.out with ⟨h1, h2⟩ | ⟨h1, h2⟩
      · exact .inl ⟨pre, h1, h2⟩
      · exact .inr ⟨pre, h1, h2⟩
end Go.Proofs.YtmdkjhnafnblkaaDoor
