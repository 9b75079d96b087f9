/-
  The iterator of package lex over a text's tokens: the tokens come one by one, up to the end, or the first one that is wrong, or till the loop's body has enough.
  Condition: the library's variables are as the program's text lays them; the text has at most 300 bytes; the loop's body changes no block of cells but the box of one list, and that list's row.
  Lists of tokens in memory: seven cells a token; what append leaves behind it.
  No condition but that a list is short.
-/
import Derived.RangeFuncNested
import Derived.RangeFuncBound
import Derived.RangeFuncCalls
import Derived.RangeFuncLeaves
import Derived.Shelf.Abstract
import Derived.Shelf.RegionOpen
import Derived.WalkKit
import Derived.OwnWalkIn
import Derived.TacticsInMore
import Derived.LoopNIn
import Derived.LoopIn
import Derived.Maps.AppendAt
import Derived.Test.YtkobfngnnblpeaaGreatDoorM11
namespace Go.Proofs.YtkobfngnnblpeaaGreatDoor
section
open Go.RowKit Go.Shelf

attribute [local go_sem] Oper.semAt_some

/-- Of what was there, a round changes one box, and the row that it points to, alone; that row lies at or beyond n0. -/
def KB (n0 bo : Nat) (T : TypeId) (W W' : World) : Prop :=
  Below n0 W W' ∧ ∀ v, Boxed W bo T v → (∀ k o, W.heap[k]? = some o → o.isCells = true → k ≠ bo → v.ownBlock ≠ some k → W'.heap[k]? = some o) ∧
    ∃ v', Boxed W' bo T v' ∧ ∀ k, v'.ownBlock = some k → v.ownBlock = some k ∨ (W.heap.size ≤ k ∧ k < W'.heap.size)
theorem KB.trans {n0 bo : Nat} {T : TypeId} {A B C : World} (h1 : KB n0 bo T A B) (h2 : KB n0 bo T B C) : KB n0 bo T A C := by
  refine ⟨h1.1.trans h2.1, fun v hv => ?_⟩
  obtain ⟨hk, v', hv', ho⟩ := h1.2 v hv
  obtain ⟨hk2, v2, hv2, ho2⟩ := h2.2 v' hv'
  have hs1 := h1.1.size
  have hs2 := h2.1.size
  refine ⟨fun k o h hc hb hn => ?_, v2, hv2, fun k h => ?_⟩
  · have hlt : k < A.heap.size := (Array.getElem?_eq_some_iff.1 h).1
    refine hk2 k o (hk k o h hc hb hn) hc hb (fun e => ?_)
    rcases ho k e with e1 | ⟨e1, _⟩
    · exact hn e1
    · omega
  · rcases ho2 k h with e | ⟨e1, e2⟩
    · rcases ho k e with e1 | ⟨e1, e2⟩
      · exact .inl e1
      · exact .inr ⟨e1, by omega⟩
    · exact .inr ⟨by omega, e2⟩
theorem KB.turn {n0 bo : Nat} {T : TypeId} {W0 : World} (h0 : n0 ≤ W0.heap.size) (W : World) (l : Nat) (o o' : Obj) (hl : W0.heap.size ≤ l) (h : W.heap[l]? = some o) (hc : o.isCells = false) (hw : o.isWalk = false) : KB n0 bo T W (W.putObj l o') := by
  have hb : Below n0 W (W.putObj l o') := belowK_b h0 W l o o' hl h hc hw
  have hk : ∀ k, k ≠ l → (W.putObj l o').heap[k]? = W.heap[k]? := fun k hne => by
    simp [World.putObj, Ne.symm hne]
  refine ⟨hb, fun v hv => ⟨fun k o2 h2 hc2 _ _ => ?_, v, ?_, fun k h => .inl h⟩⟩
  · have hne : k ≠ l := by
      intro e
      subst e
      rw [h] at h2
      cases h2
      rw [hc] at hc2
      cases hc2
    rw [hk k hne]
    exact h2
  · have hne : bo ≠ l := by
      intro e
      subst e
      have h3 : W.heap[bo]? = some (.cells #[v] T (0, 0)) := hv
      rw [h] at h3
      cases h3
      cases hc
    exact (hk bo hne).trans hv
/-- The box lies there; the row that it points to is there, and is not this block. -/
def RowOk (W : World) (bo : Nat) (T : TypeId) (b : Nat) : Prop := ∃ v, Boxed W bo T v ∧ ∀ k, v.ownBlock = some k → k < W.heap.size ∧ k ≠ b
theorem RowOk.below {W W' : World} {bo : Nat} {T : TypeId} {b : Nat} (h : RowOk W bo T b) (hb : Below W.heap.size W W') : RowOk W' bo T b := by
  obtain ⟨v, h1, h2⟩ := h
  exact ⟨v, (hb.block bo h1.lt).trans h1, fun k e => ⟨Nat.lt_of_lt_of_le (h2 k e).1 hb.size, (h2 k e).2⟩⟩
theorem RowOk.kb {n0 : Nat} {W W' : World} {bo : Nat} {T : TypeId} {b : Nat} (h : RowOk W bo T b) (hb : KB n0 bo T W W') (hlt : b < W.heap.size) : RowOk W' bo T b := by
  obtain ⟨v, h1, h2⟩ := h
  obtain ⟨_, v', h3, h4⟩ := hb.2 v h1
  have hs := hb.1.size
  refine ⟨v', h3, fun k e => ?_⟩
  rcases h4 k e with e1 | ⟨e1, e2⟩
  · exact ⟨Nat.lt_of_lt_of_le (h2 k e1).1 hs, (h2 k e1).2⟩
  · exact ⟨e2, by omega⟩
theorem grown_of_below {W W' : World} (h : Below W.heap.size W W') : W.grownBy W' none := ⟨h.os, h.tape, h.output, h.size, fun k hk _ => h.block k hk⟩

set_option maxRecDepth 100000 in
set_option maxHeartbeats 4000000 in
theorem tk1_in (n : Nat) (l Bt bo : Nat) (T : TypeId) (s : ByteArray) (hs : s.size ≤ 300) (w0 : World) (hv : Vars w0) (J Jx : List Tok → World → Prop)
    (hJ : ∀ pre A B, J pre A → Below A.heap.size A B → J pre B)
    (hY : ∀ pre x W, J pre W → pre.length < (lexA s.size s.data.toList).length → YieldAt Fence.wide (n - 1) Tryz.prog l #[Tok.val x] W fun e W' =>
      (e = .returned (.bool true) ∧ J (pre ++ [x]) W' ∧ KB w0.heap.size bo T W W') ∨ (e = .returned (.bool false) ∧ Jx (pre ++ [x]) W'))
    (W : World) (hb0 : Below w0.heap.size w0 W) (hbt : bo ≠ Bt) (hBt : Boxed W Bt 9 (.string s)) (hrow : RowOk W bo T Bt) (h0 : J [] W) :
    CallsIn Fence.wide n Tryz.prog 28 #[.func (.yield l) #[] #[], .pointer (some ⟨Bt, 0, none⟩)] W fun e W' => (∃ v, e = .returned v) ∧
      ((∃ ys, ys = lexA s.size s.data.toList ∧ J ys W') ∨ (∃ pre, pre <+: lexA s.size s.data.toList ∧ Jx pre W')) := by
  have hdd : ∀ k : Nat, (Fence.wide.depth.isSome = true → 1 ≤ k) := fun k h => by cases h
  have HV := Lib.hid hv
  have HJ := Lib.hid hJ
  obtain ⟨ys, hys⟩ : ∃ ys, ys = lexA s.size s.data.toList := ⟨_, rfl⟩
  rw [← hys] at hY ⊢
  have HY := Lib.hid hY
  have HYS := Lib.hid hys
  have HB0 := Lib.hid hb0
  have HBT := Lib.hid hBt
  have HROW := Lib.hid hrow
  have HZ := Lib.hid h0
  have cT := hBt.cell
  clear hv hJ hY hys hb0 hBt hrow h0
  refine callsIn_of_wp Tryz.func28 rfl trivial ?_ rfl
  simp only [Tryz.ntmps28, List.size_toArray, List.length_cons, List.length_nil, Nat.reduceAdd, Nat.reduceSub, Array.replicate_succ, Array.replicate_zero, List.push_toArray, List.append_toArray, List.nil_append, List.cons_append]
  gi_wp2
  gi_loopw [3, 4] (fun v m wr => ∃ (pre : List Tok) (r : ByteArray) (b : Bool), v = .string r ∧ m = .bool b ∧ r.size ≤ s.size ∧
      ((b = true ∧ Hid (ys = pre ++ lexA s.size r.data.toList) ∧ J pre wr ∧ Below w0.heap.size w0 wr ∧ Boxed wr Bt 9 (.string s) ∧ RowOk wr bo T Bt) ∨ (b = false ∧ ((pre = ys ∧ J pre wr) ∨ (pre <+: ys ∧ Jx pre wr)))))
    (fun v m _ => match m, v with | .bool true, .string r => r.size + 1 | _, _ => 0)
  case atStart => exact ⟨[], s, true, rfl, rfl, Nat.le_refl _, .inl ⟨rfl, Lib.hid HYS.out, HZ.out, HB0.out, HBT.out, HROW.out⟩⟩
  case round =>
    obtain ⟨pre, r, b, rfl, rfl, hrs, hcase⟩ := hrel
    rcases hcase with ⟨rfl, HX, hj, hb, hbx, hro⟩ | ⟨rfl, hend⟩
    · obtain ⟨R, hR⟩ : ∃ R : ByteArray, R = ⟨(r.data.toList.dropWhile blk).toArray⟩ := ⟨_, rfl⟩
      have hRl : R.data.toList = r.data.toList.dropWhile blk := by rw [hR]
      have hRs : R.size ≤ r.size := by
        show R.data.toList.length ≤ r.data.toList.length
        rw [hRl]
        exact drop_blk_le _
      have HTR : Hid (∀ W, Calls Tryz.prog 29 #[.string r, .string ⟨#[32, 10]⟩] W fun e w' => e = .returned (.string R) ∧ Below W.heap.size W w') := Lib.hid (fun W => by
        have h := trim_at [32, 10] blk in_blk (by decide) (by decide) r W
        rw [← hR] at h
        exact h)
      obtain ⟨k, t, vk, vf, vn, vt, a, hx⟩ := tok_eta (oneT R.data.toList)
      have HF := Lib.hid (fun W (hW : Vars W) => call_tok (lx_first R W hW (by omega)) hx)
      have hts : t.size ≤ R.size := by
        have := oneT_size R.data.toList
        rw [hx] at this
        exact this
      have hstep : ys = pre ++ (⟨k, t, ⟨vk, vf, vn, vt⟩, (s.size : Int) - (R.size : Int)⟩ : Tok) :: (if t.size = 0 then [] else lexA s.size (R.extract t.size R.size).data.toList) := by
        rw [HX.out, lexA_step, ← hRl, hx, ext_drop]
        rfl
      have HS := Lib.hid hstep
      have HJJ := Lib.hid hj
      have HB := Lib.hid hb
      have HBX := Lib.hid hbx
      have HRO := Lib.hid hro
      have cT1 := hbx.cell
      have hbl := hbx.lt
      clear hR hRl hx hstep hj hb hbx hro cT
      gi_wp2_with (fail)
      refine ⟨trivial, hdd _, ?_⟩
      refine (callsIn_wide.2 (HTR.out _)).mono ?_
      rintro e w1 ⟨rfl, hb1⟩
      have HB1 := Lib.hid hb1
      clear hb1
      gi_wp2_with (fail)
      refine ⟨trivial, hdd _, ?_⟩
      refine (callsIn_wide.2 (HF.out _ (by exact HV.out.later (HB.out.trans (HB1.out.mono HB.out.size))))).mono ?_
      rintro e w2 ⟨rfl, hb2⟩
      have HB2 : Hid (Below wr.heap.size wr w2) := Lib.hid (HB1.out.trans (hb2.mono HB1.out.size))
      have cT2 : w2.cell? ⟨Bt, 0, none⟩ = some (.string s) := (HB2.out.cell (p := ⟨Bt, 0, none⟩) hbl).trans cT1
      have hbl2 : Bt < w2.heap.size := Nat.lt_of_lt_of_le hbl HB2.out.size
      clear hb2 cT1
      have hB3 : Below wr.heap.size wr (w2.alloc (.cells #[.int .i64 k, .string t, .int .i64 vk, .bool vf, .int .i64 vn, .string vt, .int .i64 ((s.size : Int) - (R.size : Int))] 31)) := HB2.out.trans ((one_new w2 _).mono HB2.out.size)
      have hlen : pre.length < ys.length := by rw [HS.out]; simp
      obtain ⟨fn, tmps, assign, body, hy, hRnd⟩ := HY.out pre ⟨k, t, ⟨vk, vf, vn, vt⟩, (s.size : Int) - (R.size : Int)⟩ _ (HJ.out _ _ _ HJJ.out hB3) hlen
      have hro3 := HRO.out.below hB3
      have hbx3 : Boxed (w2.alloc (.cells #[.int .i64 k, .string t, .int .i64 vk, .bool vf, .int .i64 vn, .string vt, .int .i64 ((s.size : Int) - (R.size : Int))] 31)) Bt 9 (.string s) := (hB3.block Bt HBX.out.lt).trans HBX.out
      have HR3 := Lib.hid hro3
      have HX3 := Lib.hid hbx3
      have HB3 := Lib.hid hB3
      have HRR := Lib.hid hRnd
      clear hB3 hlen hro3 hbx3 hRnd
      gi_wp2
      (try refine ⟨hdd _, ?_⟩)
      refine HRR.out.mono ?_
      rintro e W4 (⟨rfl, hj4, hkb⟩ | ⟨rfl, hjx⟩)
      · have hcell : W4.heap[w2.heap.size]? = some (.cells #[.int .i64 k, .string t, .int .i64 vk, .bool vf, .int .i64 vn, .string vt, .int .i64 ((s.size : Int) - (R.size : Int))] 31 (0, 0)) := by
          obtain ⟨v, hv1, hv2⟩ := HRO.out
          have hsz := HB2.out.size
          have hv3 := (HB3.out.block bo hv1.lt).trans hv1
          refine (hkb.2 v hv3).1 _ _ (World.alloc_heap_new _ _) rfl (by have := hv1.lt; omega) (fun e => ?_)
          have := (hv2 _ e).1
          omega
        have c1 := cell_of_row _ w2.heap.size 1 _ 31 (0, 0) hcell
        simp only [List.getElem?_toArray, List.getElem?_cons_succ, List.getElem?_cons_zero] at c1
        have hbo : Below w0.heap.size w0 W4 := HB.out.trans ((HB3.out.mono HB.out.size).trans hkb.1)
        have hxx : Boxed W4 Bt 9 (.string s) := by
          obtain ⟨v, hv1, hv2⟩ := HR3.out
          exact (hkb.2 v hv1).1 Bt _ HX3.out rfl (Ne.symm hbt) (fun e => (hv2 _ e).2 rfl)
        have hrr := HR3.out.kb hkb HX3.out.lt
        have HJ4 := Lib.hid hj4
        have HBO := Lib.hid hbo
        have HXX := Lib.hid hxx
        have HR4 := Lib.hid hrr
        clear hcell hkb hj4 hbo hxx hrr
        by_cases h0 : t.size = 0
        · have t1 : t.toList = [] := by
            rw [ByteArray.toList_eq]
            exact List.eq_nil_of_length_eq_zero h0
          have t2 : t.toList.isEmpty = true := by rw [t1]; rfl
          have hend : pre ++ [(⟨k, t, ⟨vk, vf, vn, vt⟩, (s.size : Int) - (R.size : Int)⟩ : Tok)] = ys := by rw [HS.out, if_pos h0]
          have HEND := Lib.hid hend
          clear hend
          gi_wp2
          go_roundw
          case rel => exact ⟨ys, _, false, rfl, rfl, by first | omega | (rw [ByteArray.size_extract]; omega), .inr ⟨rfl, .inl ⟨rfl, by rw [← HEND.out]; exact HJ4.out⟩⟩⟩
          case measure => simp
        · have t1 : ¬ t.toList = [] := by
            rw [ByteArray.toList_eq]
            intro e
            exact h0 (by show t.data.toList.length = 0; rw [e]; rfl)
          have t2 : t.toList.isEmpty = false := by simpa using t1
          have t3 : (!t.toList.isEmpty) = true := by rw [t2]; rfl
          have hnx : ys = (pre ++ [(⟨k, t, ⟨vk, vf, vn, vt⟩, (s.size : Int) - (R.size : Int)⟩ : Tok)]) ++ lexA s.size (R.extract t.size R.size).data.toList := by
            conv => lhs; rw [HS.out, if_neg h0]
            simp
          have HNX := Lib.hid hnx
          clear hnx t1
          gi_wp2
          go_roundw
          case rel => exact ⟨_, _, true, rfl, rfl, by first | omega | (rw [ByteArray.size_extract]; omega), .inl ⟨rfl, HNX, HJ4.out, HBO.out, HXX.out, HR4.out⟩⟩
          case measure => (first | omega | (simp only [ByteArray.size_extract]; omega) | (simp [ByteArray.size_extract]; omega))
      · have HJX := Lib.hid hjx
        have hpf : pre ++ [(⟨k, t, ⟨vk, vf, vn, vt⟩, (s.size : Int) - (R.size : Int)⟩ : Tok)] <+: ys := by
          have e := HS.out
          exact ⟨_, (by rw [List.append_assoc]; exact e.symm)⟩
        have HPF := Lib.hid hpf
        clear hpf hjx
        gi_wp2
        go_roundw
        case rel => exact ⟨_, _, false, rfl, rfl, by first | omega | (rw [ByteArray.size_extract]; omega), .inr ⟨rfl, .inr ⟨HPF.out, HJX.out⟩⟩⟩
        case measure => simp
    · have HE := Lib.hid hend
      clear hend
      gi_wp2
      go_end0
      refine ⟨⟨_, rfl⟩, ?_⟩
      rcases HE.out with ⟨h1, h2⟩ | ⟨h1, h2⟩
      · exact .inl ⟨pre, h1, h2⟩
      · exact .inr ⟨pre, h1, h2⟩
end
end Go.Proofs.YtkobfngnnblpeaaGreatDoor
namespace Go.Proofs.YtkobfngnnblpeaaGreatDoor
section
open Go.RowKit Go.Shelf

/-- The cells of a token. -/
abbrev Tok.cells (x : Tok) : List Value := [.int .i64 x.k, .string x.t, .int .i64 x.v.k, .bool x.v.f, .int .i64 x.v.n, .string x.v.t, .int .i64 x.a]
def flatT (ls : List Tok) : List Value := ls.flatMap Tok.cells
theorem flatT_cons (x : Tok) (xs : List Tok) : flatT (x :: xs) = x.cells ++ flatT xs := rfl
theorem flatT_append (a b : List Tok) : flatT (a ++ b) = flatT a ++ flatT b := by simp [flatT]
theorem flatT_len : ∀ (ls : List Tok), (flatT ls).length = ls.length * 7
  | [] => rfl
  | x :: xs => by
    rw [flatT_cons, List.length_append, flatT_len xs]
    have h1 : x.cells.length = 7 := rfl
    have h2 : (x :: xs).length = xs.length + 1 := rfl
    omega
theorem flatT_at : ∀ (ls : List Tok) (i : Nat) (x : Tok) (r : Nat), ls[i]? = some x → r < 7 → (flatT ls)[i * 7 + r]? = x.cells[r]?
  | [], _, _, _, h, _ => by simp at h
  | y :: ys, 0, x, r, h, hr => by
    have h' : y = x := by simpa using h
    subst h'
    rw [flatT_cons, Nat.zero_mul, Nat.zero_add, List.getElem?_append_left (by show r < 7; exact hr)]
  | y :: ys, i + 1, x, r, h, hr => by
    have ih := flatT_at ys i x r (by simpa using h) hr
    rw [flatT_cons, List.getElem?_append_right (by show 7 ≤ _; omega), ← ih]
    congr 1
    show _ - 7 = _
    omega
theorem flatT_one (ls : List Tok) : ∀ u ∈ flatT ls, u.oneCell' = true := by
  intro u hu
  unfold flatT at hu
  rw [List.mem_flatMap] at hu
  obtain ⟨x, _, hx⟩ := hu
  simp only [List.mem_cons, List.not_mem_nil, or_false] at hx
  rcases hx with rfl | rfl | rfl | rfl | rfl | rfl | rfl <;> rfl

/-- v is a list of tokens of the call's own. -/
def OwnT (E : TypeId) (w : World) (base : Nat) (v : Value) (ls : List Tok) : Prop := w.ownsRow base E 7 v ls.length (flatT ls)
theorem OwnT.nil (E : TypeId) (w : World) (base : Nat) : OwnT E w base (.slice none 0 0) [] := World.ownsRow_nil w base _ _
theorem OwnT.alloc {E : TypeId} {w : World} {base : Nat} {v : Value} {ls : List Tok} (h : OwnT E w base v ls) (o : Obj) : OwnT E (w.alloc o) base v ls := World.ownsRow.alloc h o
theorem OwnT.lt {E : TypeId} {w : World} {base : Nat} {v : Value} {ls : List Tok} (h : OwnT E w base v ls) : ∀ k, v.ownBlock = some k → base ≤ k ∧ k < w.heap.size := fun k hk => World.ownsRow.lt h k hk
theorem OwnT.below {E : TypeId} {w w' : World} {base : Nat} {v : Value} {ls : List Tok} (h : OwnT E w base v ls) (hb : Below w.heap.size w w') : OwnT E w' base v ls := by
  refine ⟨h.1, ?_⟩
  rcases h.2 with hn | ⟨g, cap, cur, hv, hg, hh, r⟩
  · exact Or.inl hn
  · have hlt : g < w.heap.size := (Array.getElem?_eq_some_iff.1 hh).1
    exact Or.inr ⟨g, cap, cur, hv, hg, (hb.block g hlt).trans hh, r⟩
/-- The tokens lie at A. -/
def ToksAt (w : World) (A : Option Addr) (ls : List Tok) : Prop := ∀ (j : Nat) (u : Value), (flatT ls)[j]? = some u → ∃ a : Addr, A = some a ∧ w.cell? (a.add j) = some u
theorem ToksAt.below {w w' : World} {A : Option Addr} {ls : List Tok} (h : ToksAt w A ls) (hb : Below w.heap.size w w') : ToksAt w' A ls := by
  intro j u hj
  obtain ⟨a, ha, hc⟩ := h j u hj
  exact ⟨a, ha, (hb.cell (World.block_lt_of_cell? w _ hc)).trans hc⟩
theorem OwnT.slice {E : TypeId} {w : World} {base : Nat} {v : Value} {ls : List Tok} (h : OwnT E w base v ls) : ∃ A c, v = .slice A ls.length c ∧ (A = none → c = 0) ∧ ls.length ≤ c ∧ ToksAt w A ls ∧ ∀ a, A = some a → ∃ g, a = ⟨g, 0, none⟩ := by
  rcases h.2 with ⟨rfl, hn⟩ | ⟨g, cap, cur, rfl, hb, hg, hcap, _⟩
  · refine ⟨none, 0, by rw [hn], fun _ => rfl, by omega, fun j u hj => ?_, fun a h => by cases h⟩
    have h1 := (List.getElem?_eq_some_iff.1 hj).1
    rw [flatT_len] at h1
    omega
  · exact ⟨_, _, rfl, fun h => by simp at h, hcap, fun j u hj => ⟨_, rfl, World.ownsRow.cells h (g := g) rfl _ _ hj⟩, fun a h => by cases h; exact ⟨_, rfl⟩⟩
theorem OwnT.succ {E : TypeId} {w : World} {base : Nat} {v : Value} {ls : List Tok} {x : Tok} (h : OwnT E w base v (ls ++ [x])) : ∃ g cap, v = .slice (some ⟨g, 0, none⟩) (ls.length + 1) cap := by
  rcases h.2 with ⟨_, h0⟩ | ⟨g, cap, _, hv, _⟩
  · simp at h0
  · exact ⟨g, cap, by rw [hv, List.length_append]; rfl⟩

/-- A token's cell, in tokens at the head of a block. -/
theorem ToksAt.at {w : World} {g : Nat} {ls : List Tok} (h : ToksAt w (some ⟨g, 0, none⟩) ls) (i r : Nat) (x : Tok) (u : Value) (hx : ls[i]? = some x) (hr : r < 7) (hu : x.cells[r]? = some u) : w.cell? ⟨g, i * 7 + r, none⟩ = some u := by
  obtain ⟨a, ha, hc⟩ := h (i * 7 + r) u ((flatT_at ls i x r hx hr).trans hu)
  injection ha with ha
  subst ha
  have e : (⟨g, 0, none⟩ : Addr).add (i * 7 + r) = ⟨g, i * 7 + r, none⟩ := by unfold Addr.add; split <;> simp_all
  rw [e] at hc
  exact hc
/-- A type of tokens: seven cells. -/
def IsTok (S E : TypeId) : Prop := Tryz.prog.underlying S = some (.slice E) ∧ (Tryz.prog.info? E).map (fun i => (i.zero, i.size, i.bytes)) = some (some (.agg #[.int .i64 0, .string ⟨#[]⟩, .int .i64 0, .bool false, .int .i64 0, .string ⟨#[]⟩, .int .i64 0]), 7, 72)
theorem isTok_lex : IsTok 23 31 := ⟨Tryz.underlying23, by kernel_rfl⟩
theorem isTok_ref : IsTok 58 65 := ⟨Tryz.underlying58, by kernel_rfl⟩

set_option maxRecDepth 10000 in
theorem append_T {S E : TypeId} (hT : IsTok S E) (w : World) (ty : TypeId) (base : Nat) (v : Value) (xs ys : List Tok) (hown : OwnT E w base v xs) (ad : Addr) (m c : Nat) (hm : m = ys.length) (hc : ∀ j u, (flatT ys)[j]? = some u → w.cell? (ad.add j) = some u)
    (hroom : xs.length + ys.length ≤ 3000000) (hbase : base ≤ w.heap.size) :
    ∃ v' w', (Builtin.append_ #[S, S] ty #[v, .slice (some ad) m c]).run Tryz.prog w = .ok v' w' ∧ OwnT E w' base v' (xs ++ ys) ∧ w.grownBy w' v.ownBlock ∧ (v'.ownBlock = v.ownBlock ∨ v'.ownBlock = some w.heap.size) := by
  obtain ⟨i, hi, hz, hsize, hby⟩ := info_parts hT.2
  obtain ⟨v', w', h2, h3, h4, _, h5⟩ := run_append_own_at (P := Tryz.prog) w base S ty E i _ 7 72 hT.1 hi hz hsize hby rfl (by omega) v xs.length (flatT xs) hown ad m c (flatT ys)
    (by rw [flatT_len, hm]) hc (flatT_one ys) (by unfold maxLen; omega) (by omega) hbase
  refine ⟨v', w', h2, ?_, h4, h5⟩
  unfold OwnT
  rw [flatT_append, List.length_append, ← hm]
  exact h3
theorem wpIn_append_T {S E : TypeId} (hT : IsTok S E) {F : Fence} {n : Nat} {ops : Array Oper} {rest : List Oper} {o : Oper} {a : Act} {Q : Exit → Act → World → Prop} (w : World) (hg : o.guard = none) (s x : Operand)
    (ho : o.op = .call { callee := .builtin .append, args := #[s, x], argTypes := #[S, S] })
    (base : Nat) (v : Value) (xs ys : List Tok) (hs : a.eval s = v) (hown : OwnT E w base v xs) (ad : Addr) (m c : Nat) (hx : a.eval x = .slice (some ad) m c) (hm : m = ys.length) (hc : ∀ j u, (flatT ys)[j]? = some u → w.cell? (ad.add j) = some u)
    (hroom : xs.length + ys.length ≤ 3000000) (hbase : base ≤ w.heap.size)
    (h : ∀ v' w', OwnT E w' base v' (xs ++ ys) → w.grownBy w' v.ownBlock → (v'.ownBlock = v.ownBlock ∨ v'.ownBlock = some w.heap.size) → wpListIn F n Tryz.prog ops Q rest (a.put o.dst v') w') : wpListIn F n Tryz.prog ops Q (o :: rest) a w := by
  refine wpListIn_plain hg fun K hK' => ?_
  obtain ⟨v', w', hrun, r1, r2, r3⟩ := append_T hT w o.type base v xs ys hown ad m c hm hc hroom hbase
  unfold Oper.wpIn
  refine ⟨?_, ?_⟩
  · simp [Oper.about, ho, resolve, Target.leads, Sem.run_pure]
  · rw [Oper.semAt_plain F _ _ (by rw [ho]; intro c hc'; cases hc')]
    simp [execOp, ho, resolve, invoke, builtin, hs, hx, hrun, Result.andThen]
    exact hK' _ _ (h v' w' r1 r2 r3)
theorem wp_append_T {S E : TypeId} (hT : IsTok S E) {ops : Array Oper} {rest : List Oper} {o : Oper} {a : Act} {Q : Exit → Act → World → Prop} (w : World) (hg : o.guard = none) (s x : Operand)
    (ho : o.op = .call { callee := .builtin .append, args := #[s, x], argTypes := #[S, S] })
    (base : Nat) (v : Value) (xs ys : List Tok) (hs : a.eval s = v) (hown : OwnT E w base v xs) (ad : Addr) (m c : Nat) (hx : a.eval x = .slice (some ad) m c) (hm : m = ys.length) (hc : ∀ j u, (flatT ys)[j]? = some u → w.cell? (ad.add j) = some u)
    (hroom : xs.length + ys.length ≤ 3000000) (hbase : base ≤ w.heap.size)
    (h : ∀ v' w', OwnT E w' base v' (xs ++ ys) → Below base w w' → w.grownBy w' v.ownBlock → (v'.ownBlock = v.ownBlock ∨ v'.ownBlock = some w.heap.size) → wpList Tryz.prog ops Q rest (a.put o.dst v') w') : wpList Tryz.prog ops Q (o :: rest) a w := by
  refine wpList_plain hg fun K hK => ?_
  obtain ⟨v', w', hrun, h2, h3, h4⟩ := append_T hT w o.type base v xs ys hown ad m c hm hc hroom hbase
  unfold Oper.wp execOp
  simp only [ho, resolve, invoke, builtin, Sem.run_bind, Sem.run_pure, Result.andThen_ok, List.map_toArray, List.map_cons, List.map_nil, hs, hx, hrun]
  exact hK _ _ (h v' w' h2 ((Below.refl _ _).grown h3 hbase (fun k hk => (hown.lt k hk).1)) h3 h4)
/-- The cells of one token that was just laid. -/
theorem lit_T (w : World) (x : Tok) (T : TypeId) : ∀ j u, (flatT [x])[j]? = some u → (w.alloc (.cells #[.int .i64 x.k, .string x.t, .int .i64 x.v.k, .bool x.v.f, .int .i64 x.v.n, .string x.v.t, .int .i64 x.a] T)).cell? ((⟨w.heap.size, 0, none⟩ : Addr).add j) = some u := by
  intro j u hj
  have hn := heap_alloc_new w (.cells #[.int .i64 x.k, .string x.t, .int .i64 x.v.k, .bool x.v.f, .int .i64 x.v.n, .string x.v.t, .int .i64 x.a] T)
  have e : (⟨w.heap.size, 0, none⟩ : Addr).add j = ⟨w.heap.size, j, none⟩ := by unfold Addr.add; split <;> simp_all
  rw [e, cell_of_row _ w.heap.size j _ T (0, 0) hn, ← hj]
  simp [flatT]
end
end Go.Proofs.YtkobfngnnblpeaaGreatDoor
