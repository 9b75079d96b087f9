/-
  Going up from a tenant: its name, and those above it, come one by one, till the loop's body has enough.
  Condition: names are no longer than texts can be; from the tenant up it comes to an end.
-/
import Derived.RangeFuncNested
import Derived.RangeFuncBound
import Derived.RangeFuncCalls
import Derived.RangeFuncLeaves
import Derived.Shelf.Abstract
import Derived.Shelf.RegionOpen
import Derived.WalkKit
import Derived.OwnWalkIn
import Derived.TacticsInMore
import Derived.LoopNIn
import Derived.LoopIn
import Derived.Test.YtoeggpoeongnhaaTna
namespace Go.Proofs.Ytoeggpoeongnhaa
open Go.RowKit Go.Maps Go.Shelf

attribute [local go_sem] Oper.semAt_some

/-- From n up these names stand. -/
inductive Chain (L : List Tn) : ByteArray → List ByteArray → Prop
  | stop {n : ByteArray} : findN L n = none → Chain L n []
  | step {n : ByteArray} {x : Tn} {c : List ByteArray} : findN L n = some x → Chain L x.2 c → Chain L n (n :: c)

theorem Chain.det {L : List Tn} : ∀ {n : ByteArray} {c d : List ByteArray}, Chain L n c → Chain L n d → c = d := by
  intro n c d hc
  induction hc generalizing d with
  | stop h =>
    intro hd
    cases hd with
    | stop _ => rfl
    | step h2 _ => rw [h] at h2; cases h2
  | step h _ ih =>
    intro hd
    cases hd with
    | stop h2 => rw [h] at h2; cases h2
    | step h2 hc2 =>
      rw [h] at h2
      injection h2 with h2
      subst h2
      rw [ih hc2]
theorem Chain.parts {L : List Tn} {n : ByteArray} {c : List ByteArray} (h : Chain L n c) : (findN L n = none ∧ c = []) ∨ ∃ x d, findN L n = some x ∧ c = n :: d ∧ Chain L x.2 d := by
  cases h with
  | stop h => exact .inl ⟨h, rfl⟩
  | step h hc => exact .inr ⟨_, _, h, rfl, hc⟩
theorem TreeB.from {w0 w : World} {t b : Nat} {D : DataW Value} {L : List Tn} (h : TreeB w0 t b D L) (hb : Below w0.heap.size w0 w) : TreeB w t b D L := h.below hb
open Classical in
/-- How many stand from n up. -/
noncomputable def upLen (L : List Tn) (n : ByteArray) : Nat := if h : ∃ c, Chain L n c then h.choose.length else 0
theorem upLen_eq {L : List Tn} {n : ByteArray} {c : List ByteArray} (h : Chain L n c) : upLen L n = c.length := by
  have hex : ∃ c, Chain L n c := ⟨c, h⟩
  unfold upLen
  rw [dif_pos hex, hex.choose_spec.det h]
noncomputable def upM (L : List Tn) : Value → Nat
  | .string r => upLen L r
  | _ => 0

set_option maxRecDepth 10000 in
theorem field_T (x : Tn) (W : World) : (Instr.field 71 (.agg #[.string x.1, .string x.2]) 1).run Try.prog W = .ok (.string x.2) W := by
  obtain ⟨a, b⟩ := x
  rfl
set_option maxRecDepth 10000 in
theorem look_T {w : World} {t b : Nat} {D : DataW Value} {L : List Tn} (h : TreeB w t b D L) (key : ByteArray) (hk : key.size ≤ maxLen) :
    (Instr.lookup 119 (.map (some b)) (.string key) false).run Try.prog w = .ok (orT (findN L key)) w := by
  obtain ⟨_, h3, h4, _⟩ := h
  obtain ⟨v, ps, hrun, hv⟩ := h3.lookup lawT Try.underlying119 (zeroT w) (zd := .held noT) (zp := []) rfl (Go.WideMaps.keyOf_string_mk Try.underlying9 hk)
  rw [hrun, h4.at hv]

set_option maxRecDepth 100000 in
set_option maxHeartbeats 2000000 in
theorem up1_in (n l Bt Bp t b : Nat) (D : DataW Value) (L : List Tn) (w0 : World) (nm : ByteArray) (ys : List ByteArray) (hc : Chain L nm ys) (hT : TreeB w0 t b D L) (hl : ∀ x ∈ L, x.2.size ≤ maxLen) (hn : nm.size ≤ maxLen)
    (hBt : w0.cell? ⟨Bt, 0, none⟩ = some (.string nm)) (hBp : w0.cell? ⟨Bp, 0, none⟩ = some (.pointer (some ⟨t, 0, none⟩))) (J Jx : List ByteArray → World → Prop)
    (hJ : ∀ pre A B, J pre A → Below A.heap.size A B → J pre B)
    (hY : ∀ pre x W, J pre W → pre.length < ys.length → YieldAt Fence.wide (n - 1) Try.prog l #[.string x] W fun e W' =>
      (e = .returned (.bool true) ∧ J (pre ++ [x]) W' ∧ Below w0.heap.size W W') ∨ (e = .returned (.bool false) ∧ Jx (pre ++ [x]) W'))
    (W : World) (hb0 : Below w0.heap.size w0 W) (h0 : J [] W) :
    CallsIn Fence.wide n Try.prog 105 #[.func (.yield l) #[] #[], .pointer (some ⟨Bt, 0, none⟩), .pointer (some ⟨Bp, 0, none⟩)] W fun e W' => (∃ v, e = .returned v) ∧
      ((∃ zs, zs = ys ∧ J zs W') ∨ (∃ pre, pre <+: ys ∧ Jx pre W')) := by
  have hdd : ∀ k : Nat, (Fence.wide.depth.isSome = true → 1 ≤ k) := fun k h => by cases h
  have HJ := Lib.hid hJ
  have HY := Lib.hid hY
  have HB0 := Lib.hid hb0
  have HZ := Lib.hid h0
  have HC := Lib.hid hc
  have HT := Lib.hid hT
  have HL := Lib.hid hl
  have hbt := World.block_lt_of_cell? w0 _ hBt
  have hbp := World.block_lt_of_cell? w0 _ hBp
  have CP := Lib.hid hBp
  have cT := (hb0.cell (p := ⟨Bt, 0, none⟩) hbt).trans hBt
  have CM := Lib.hid (cell_rowT w0 t _ _ hT.1)
  have htl : t < w0.heap.size := hT.2.2.2.2.1
  clear hJ hY hb0 h0 hc hT hl hBt hBp
  refine callsIn_of_wp Try.func105 rfl trivial ?_ rfl
  simp only [Try.ntmps105, List.size_toArray, List.length_cons, List.length_nil, Nat.reduceAdd, Nat.reduceSub, Array.replicate_succ, Array.replicate_zero, List.push_toArray, List.append_toArray, List.nil_append, List.cons_append]
  gi_wp2
  gi_loopw [4] (fun v wr => ∃ (pre rest : List ByteArray) (r : ByteArray), v = .string r ∧ r.size ≤ maxLen ∧ Hid (ys = pre ++ rest) ∧ Hid (Chain L r rest) ∧ J pre wr ∧ Below w0.heap.size w0 wr)
    (fun v _ => upM L v)
  case atStart => exact ⟨[], ys, nm, rfl, hn, Lib.hid rfl, HC, HZ.out, HB0.out⟩
  case round =>
    obtain ⟨pre, rest, r, rfl, hr, HE, HCH, hj, hb⟩ := hrel
    have HJJ := Lib.hid hj
    have HB := Lib.hid hb
    have cP := (hb.cell (p := ⟨Bp, 0, none⟩) hbp).trans CP.out
    have HH := Lib.hid (t_has t b D L r wr (TreeB.from HT.out hb) hr)
    clear hj hb
    rcases HCH.out.parts with ⟨hf, hrest⟩ | ⟨x, d, hf, hrest, hd⟩
    · rw [hf] at HH
      have HH2 : Hid (Calls Try.prog 35 #[.pointer (some ⟨t, 0, none⟩), .string r] wr fun e w' => e = .returned (.bool false) ∧ Below wr.heap.size wr w') := HH
      have HRE := Lib.hid hrest
      clear hrest hf HH
      gi_wp2_with (fail)
      refine ⟨trivial, hdd _, ?_⟩
      refine (callsIn_wide.2 HH2.out).mono ?_
      rintro e w1 ⟨rfl, hb1⟩
      have HB1 := Lib.hid hb1
      clear hb1
      gi_wp2
      refine ⟨fun _ h => (by cases h), ?_⟩
      gi_wp2
      go_end0
      exact ⟨⟨_, rfl⟩, .inl ⟨pre, by rw [HE.out, HRE.out, List.append_nil], HJ.out _ _ _ HJJ.out HB1.out⟩⟩
    · rw [hf] at HH
      have HH2 : Hid (Calls Try.prog 35 #[.pointer (some ⟨t, 0, none⟩), .string r] wr fun e w' => e = .returned (.bool true) ∧ Below wr.heap.size wr w') := HH
      have HRE := Lib.hid hrest
      have HF := Lib.hid hf
      have HD := Lib.hid hd
      have HXL := Lib.hid (HL.out x (List.mem_of_find?_eq_some hf))
      clear hrest hf HH hd
      gi_wp2_with (fail)
      refine ⟨trivial, hdd _, ?_⟩
      refine (callsIn_wide.2 HH2.out).mono ?_
      rintro e w1 ⟨rfl, hb1⟩
      have HB1 := Lib.hid (HB.out.trans (hb1.mono HB.out.size))
      obtain ⟨fn, tmps, assign, body, hy, hRnd⟩ := HY.out pre r w1 (HJ.out _ _ _ HJJ.out hb1) (by rw [HE.out, HRE.out]; simp)
      have HRR := Lib.hid hRnd
      clear hb1 hRnd
      gi_wp2
      (try refine ⟨hdd _, ?_⟩)
      refine HRR.out.mono ?_
      rintro e W4 (⟨rfl, hj4, hb4⟩ | ⟨rfl, hjx⟩)
      · have HB4 := Lib.hid (HB1.out.trans hb4)
        have HJ4 := Lib.hid hj4
        have cP4 := (HB4.out.cell (p := ⟨Bp, 0, none⟩) hbp).trans CP.out
        have cM4 := (HB4.out.cell (p := ⟨t, 0, none⟩) htl).trans CM.out
        have hlk := look_T (TreeB.from HT.out HB4.out) r hr
        rw [HF.out] at hlk
        unfold orT tnV at hlk
        clear hb4 hj4
        have hfd := fun W : World => field_T x W
        gi_wp2
        go_roundw
        case rel => exact ⟨pre ++ [r], d, x.2, rfl, HXL.out, Lib.hid (by rw [HE.out, HRE.out]; simp), HD, HJ4.out, HB4.out⟩
        case measure =>
          show upLen L x.2 < upLen L r
          rw [upLen_eq HD.out, upLen_eq HCH.out, HRE.out]
          simp
      · have HJX := Lib.hid hjx
        clear hjx
        gi_wp2
        go_end0
        exact ⟨⟨_, rfl⟩, .inr ⟨_, ⟨d, by rw [HE.out, HRE.out]; simp⟩, HJX.out⟩⟩
end Go.Proofs.Ytoeggpoeongnhaa
