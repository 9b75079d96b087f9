/-
  Going up from a tenant: its name, and those above it, come one by one, till the loop's body has enough.
  Condition: names are no longer than texts can be; from the tenant up it comes to an end.
  The names from a tenant up, as a list of the call's own: slices.AppendSeq and slices.Collect of going up; Above, Depth.
  Condition: names are no longer than texts can be; from the tenant up it comes to an end, behind no more than a thousand names.
  Depth of a tenant; whether one stands under another.
  Condition: names are no longer than texts can be; from the tenant up it comes to an end, behind no more than a thousand names.
-/
import Derived.RangeFuncNested
import Derived.RangeFuncBound
import Derived.RangeFuncCalls
import Derived.RangeFuncLeaves
import Derived.Shelf.Abstract
import Derived.Shelf.RegionOpen
import Derived.WalkKit
import Derived.OwnWalkIn
import Derived.TacticsInMore
import Derived.LoopNIn
import Derived.LoopIn
import Derived.RangeFuncBox
import Derived.Test.YtdhpoaecedpbdaaGreatZ11
namespace Go.Proofs.YtdhpoaecedpbdaaGreat
section
open Go.RowKit Go.Maps Go.Shelf

attribute [local go_sem] Oper.semAt_some

/-- From n up these names stand. -/
inductive Chain (L : List Tn) : ByteArray → List ByteArray → Prop
  | stop {n : ByteArray} : findN L n = none → Chain L n []
  | step {n : ByteArray} {x : Tn} {c : List ByteArray} : findN L n = some x → Chain L x.2 c → Chain L n (n :: c)

theorem Chain.det {L : List Tn} : ∀ {n : ByteArray} {c d : List ByteArray}, Chain L n c → Chain L n d → c = d := by
  intro n c d hc
  induction hc generalizing d with
  | stop h =>
    intro hd
    cases hd with
    | stop _ => rfl
    | step h2 _ => rw [h] at h2; cases h2
  | step h _ ih =>
    intro hd
    cases hd with
    | stop h2 => rw [h] at h2; cases h2
    | step h2 hc2 =>
      rw [h] at h2
      injection h2 with h2
      subst h2
      rw [ih hc2]
theorem Chain.parts {L : List Tn} {n : ByteArray} {c : List ByteArray} (h : Chain L n c) : (findN L n = none ∧ c = []) ∨ ∃ x d, findN L n = some x ∧ c = n :: d ∧ Chain L x.2 d := by
  cases h with
  | stop h => exact .inl ⟨h, rfl⟩
  | step h hc => exact .inr ⟨_, _, h, rfl, hc⟩
theorem TreeB.from {w0 w : World} {t b : Nat} {D : DataW Value} {L : List Tn} (h : TreeB w0 t b D L) (hb : Below w0.heap.size w0 w) : TreeB w t b D L := h.below hb
open Classical in
/-- How many stand from n up. -/
noncomputable def upLen (L : List Tn) (n : ByteArray) : Nat := if h : ∃ c, Chain L n c then h.choose.length else 0
theorem upLen_eq {L : List Tn} {n : ByteArray} {c : List ByteArray} (h : Chain L n c) : upLen L n = c.length := by
  have hex : ∃ c, Chain L n c := ⟨c, h⟩
  unfold upLen
  rw [dif_pos hex, hex.choose_spec.det h]
noncomputable def upM (L : List Tn) : Value → Nat
  | .string r => upLen L r
  | _ => 0

set_option maxRecDepth 10000 in
theorem field_T (x : Tn) (W : World) : (Instr.field 27 (.agg #[.string x.1, .string x.2]) 1).run Tryz.prog W = .ok (.string x.2) W := by
  obtain ⟨a, b⟩ := x
  rfl
set_option maxRecDepth 10000 in
theorem look_T {w : World} {t b : Nat} {D : DataW Value} {L : List Tn} (h : TreeB w t b D L) (key : ByteArray) (hk : key.size ≤ maxLen) :
    (Instr.lookup 104 (.map (some b)) (.string key) false).run Tryz.prog w = .ok (orT (findN L key)) w := by
  obtain ⟨_, h3, h4, _⟩ := h
  obtain ⟨v, ps, hrun, hv⟩ := h3.lookup lawT Tryz.underlying104 (zeroT w) (zd := .held noT) (zp := []) rfl (Go.WideMaps.keyOf_string_mk Tryz.underlying9 hk)
  rw [hrun, h4.at hv]

set_option maxRecDepth 100000 in
set_option maxHeartbeats 2000000 in
theorem up1_in (n l Bt Bp t b : Nat) (D : DataW Value) (L : List Tn) (w0 : World) (nm : ByteArray) (ys : List ByteArray) (hc : Chain L nm ys) (hT : TreeB w0 t b D L) (hl : ∀ x ∈ L, x.2.size ≤ maxLen) (hn : nm.size ≤ maxLen)
    (hBt : w0.cell? ⟨Bt, 0, none⟩ = some (.string nm)) (hBp : w0.cell? ⟨Bp, 0, none⟩ = some (.pointer (some ⟨t, 0, none⟩))) (J Jx : List ByteArray → World → Prop)
    (hJ : ∀ pre A B, J pre A → Below A.heap.size A B → J pre B)
    (hY : ∀ pre x W, J pre W → pre.length < ys.length → YieldAt Fence.wide (n - 1) Tryz.prog l #[.string x] W fun e W' =>
      (e = .returned (.bool true) ∧ J (pre ++ [x]) W' ∧ Below w0.heap.size W W') ∨ (e = .returned (.bool false) ∧ Jx (pre ++ [x]) W'))
    (W : World) (hb0 : Below w0.heap.size w0 W) (h0 : J [] W) :
    CallsIn Fence.wide n Tryz.prog 131 #[.func (.yield l) #[] #[], .pointer (some ⟨Bt, 0, none⟩), .pointer (some ⟨Bp, 0, none⟩)] W fun e W' => (∃ v, e = .returned v) ∧
      ((∃ zs, zs = ys ∧ J zs W') ∨ (∃ pre, pre <+: ys ∧ Jx pre W')) := by
  have hdd : ∀ k : Nat, (Fence.wide.depth.isSome = true → 1 ≤ k) := fun k h => by cases h
  have HJ := Lib.hid hJ
  have HY := Lib.hid hY
  have HB0 := Lib.hid hb0
  have HZ := Lib.hid h0
  have HC := Lib.hid hc
  have HT := Lib.hid hT
  have HL := Lib.hid hl
  have hbt := World.block_lt_of_cell? w0 _ hBt
  have hbp := World.block_lt_of_cell? w0 _ hBp
  have CP := Lib.hid hBp
  have cT := (hb0.cell (p := ⟨Bt, 0, none⟩) hbt).trans hBt
  have CM := Lib.hid (cell_rowT w0 t _ _ hT.1)
  have htl : t < w0.heap.size := hT.2.2.2.2.1
  clear hJ hY hb0 h0 hc hT hl hBt hBp
  refine callsIn_of_wp Tryz.func131 rfl trivial ?_ rfl
  simp only [Tryz.ntmps131, List.size_toArray, List.length_cons, List.length_nil, Nat.reduceAdd, Nat.reduceSub, Array.replicate_succ, Array.replicate_zero, List.push_toArray, List.append_toArray, List.nil_append, List.cons_append]
  gi_wp2
  gi_loopw [4] (fun v wr => ∃ (pre rest : List ByteArray) (r : ByteArray), v = .string r ∧ r.size ≤ maxLen ∧ Hid (ys = pre ++ rest) ∧ Hid (Chain L r rest) ∧ J pre wr ∧ Below w0.heap.size w0 wr)
    (fun v _ => upM L v)
  case atStart => exact ⟨[], ys, nm, rfl, hn, Lib.hid rfl, HC, HZ.out, HB0.out⟩
  case round =>
    obtain ⟨pre, rest, r, rfl, hr, HE, HCH, hj, hb⟩ := hrel
    have HJJ := Lib.hid hj
    have HB := Lib.hid hb
    have cP := (hb.cell (p := ⟨Bp, 0, none⟩) hbp).trans CP.out
    have HH := Lib.hid (t_has t b D L r wr (TreeB.from HT.out hb) hr)
    clear hj hb
    rcases HCH.out.parts with ⟨hf, hrest⟩ | ⟨x, d, hf, hrest, hd⟩
    · rw [hf] at HH
      have HH2 : Hid (Calls Tryz.prog 61 #[.pointer (some ⟨t, 0, none⟩), .string r] wr fun e w' => e = .returned (.bool false) ∧ Below wr.heap.size wr w') := HH
      have HRE := Lib.hid hrest
      clear hrest hf HH
      gi_wp2_with (fail)
      refine ⟨trivial, hdd _, ?_⟩
      refine (callsIn_wide.2 HH2.out).mono ?_
      rintro e w1 ⟨rfl, hb1⟩
      have HB1 := Lib.hid hb1
      clear hb1
      gi_wp2
      refine ⟨fun _ h => (by cases h), ?_⟩
      gi_wp2
      go_end0
      exact ⟨⟨_, rfl⟩, .inl ⟨pre, by rw [HE.out, HRE.out, List.append_nil], HJ.out _ _ _ HJJ.out HB1.out⟩⟩
    · rw [hf] at HH
      have HH2 : Hid (Calls Tryz.prog 61 #[.pointer (some ⟨t, 0, none⟩), .string r] wr fun e w' => e = .returned (.bool true) ∧ Below wr.heap.size wr w') := HH
      have HRE := Lib.hid hrest
      have HF := Lib.hid hf
      have HD := Lib.hid hd
      have HXL := Lib.hid (HL.out x (List.mem_of_find?_eq_some hf))
      clear hrest hf HH hd
      gi_wp2_with (fail)
      refine ⟨trivial, hdd _, ?_⟩
      refine (callsIn_wide.2 HH2.out).mono ?_
      rintro e w1 ⟨rfl, hb1⟩
      have HB1 := Lib.hid (HB.out.trans (hb1.mono HB.out.size))
      obtain ⟨fn, tmps, assign, body, hy, hRnd⟩ := HY.out pre r w1 (HJ.out _ _ _ HJJ.out hb1) (by rw [HE.out, HRE.out]; simp)
      have HRR := Lib.hid hRnd
      clear hb1 hRnd
      gi_wp2
      (try refine ⟨hdd _, ?_⟩)
      refine HRR.out.mono ?_
      rintro e W4 (⟨rfl, hj4, hb4⟩ | ⟨rfl, hjx⟩)
      · have HB4 := Lib.hid (HB1.out.trans hb4)
        have HJ4 := Lib.hid hj4
        have cP4 := (HB4.out.cell (p := ⟨Bp, 0, none⟩) hbp).trans CP.out
        have cM4 := (HB4.out.cell (p := ⟨t, 0, none⟩) htl).trans CM.out
        have hlk := look_T (TreeB.from HT.out HB4.out) r hr
        rw [HF.out] at hlk
        unfold orT tnV at hlk
        clear hb4 hj4
        have hfd := fun W : World => field_T x W
        gi_wp2
        go_roundw
        case rel => exact ⟨pre ++ [r], d, x.2, rfl, HXL.out, Lib.hid (by rw [HE.out, HRE.out]; simp), HD, HJ4.out, HB4.out⟩
        case measure =>
          show upLen L x.2 < upLen L r
          rw [upLen_eq HD.out, upLen_eq HCH.out, HRE.out]
          simp
      · have HJX := Lib.hid hjx
        clear hjx
        gi_wp2
        go_end0
        exact ⟨⟨_, rfl⟩, .inr ⟨_, ⟨d, by rw [HE.out, HRE.out]; simp⟩, HJX.out⟩⟩
end
end Go.Proofs.YtdhpoaecedpbdaaGreat
namespace Go.Proofs.YtdhpoaecedpbdaaGreat
section
open Go.RowKit Go.Maps Go.Shelf

attribute [local go_sem] Oper.semAt_some

/-- v is a list of texts of the call's own. -/
def OwnL (w : World) (base : Nat) (v : Value) (ss : List ByteArray) : Prop := w.ownsRow base 9 1 v ss.length (ss.map Value.string)
theorem OwnL.nil (w : World) (base : Nat) : OwnL w base (.slice none 0 0) [] := World.ownsRow_nil w base _ _
theorem OwnL.kept {w w' : World} {base : Nat} {v : Value} {ss : List ByteArray} {row : Option Nat} (h : OwnL w base v ss) (hg : w.grownBy w' row) (hr : ∀ r, row = some r → ∃ o : Obj, w.heap[r]? = some o ∧ o.isCells = false) : OwnL w' base v ss := by
  refine World.ownsRow.kept h hg ?_
  rcases h.2 with ⟨rfl, _⟩ | ⟨g, cap, cur, rfl, _, hgb, _⟩
  · exact .inl rfl
  · refine .inr fun e' => ?_
    obtain ⟨o, ho, hc⟩ := hr g (by simpa [Value.ownBlock] using e'.symm)
    rw [hgb] at ho
    cases ho
    cases hc
theorem OwnL.lower {w : World} {base b2 : Nat} {v : Value} {ss : List ByteArray} (h : OwnL w base v ss) (hb : b2 ≤ base) : OwnL w b2 v ss := by
  refine ⟨h.1, ?_⟩
  rcases h.2 with hn | ⟨g, cap, cur, hv, hg, hh, r⟩
  · exact Or.inl hn
  · exact Or.inr ⟨g, cap, cur, hv, Nat.le_trans hb hg, hh, r⟩
theorem info_X : (Tryz.prog.info? 9).map (fun i => (i.zero, i.size, i.bytes)) = some (some (.string ⟨#[]⟩), 1, 16) := by kernel_rfl

theorem rowL_succ {w : World} {base k : Nat} {v : Value} {xs : List Value} (h : w.ownsRow base 9 1 v (k + 1) xs) : ∃ g c, v = .slice (some ⟨g, 0, none⟩) (k + 1) c := by
  rcases h.2 with ⟨_, hn⟩ | ⟨g, cap, cur, rfl, _, _, _, _⟩
  · first | omega | (simp at hn)
  · exact ⟨g, cap, rfl⟩
theorem lit_X (w : World) (v : Value) (ty : TypeId) : ∀ j u, [v][j]? = some u → (w.alloc (.cells #[v] ty)).cell? ((⟨w.heap.size, 0, none⟩ : Addr).add j) = some u := by
  intro j u hj
  cases j with
  | zero =>
    have e : v = u := by simpa using hj
    subst e
    exact new_cellT _ _ _ 0
  | succ j => simp at hj
/-- What the loop of AppendSeq has behind the names that have come. -/
def TJ (n0 bo : Nat) (pre : List ByteArray) (W : World) : Prop := ∃ v, Boxed W bo 40 v ∧ OwnL W n0 v pre
theorem tj_own (n0 bo : Nat) : Go.Own (fun (pre : List ByteArray) W => TJ n0 bo pre W) := by
  intro s X Y row hs hg hr
  obtain ⟨v, h1, h2⟩ := hs
  exact ⟨v, boxed_own (β := Unit) _ _ (fun _ => v) () X Y row h1 hg hr, h2.kept hg hr⟩

theorem up_stops (n Bt Bp t b : Nat) (D : DataW Value) (L : List Tn) (w0 : World) (nm : ByteArray) (ys : List ByteArray) (hc : Chain L nm ys) (hT : TreeB w0 t b D L) (hl : ∀ x ∈ L, x.2.size ≤ maxLen) (hn : nm.size ≤ maxLen)
    (hBt : w0.cell? ⟨Bt, 0, none⟩ = some (.string nm)) (hBp : w0.cell? ⟨Bp, 0, none⟩ = some (.pointer (some ⟨t, 0, none⟩))) (W0 : World) (hb0 : Below w0.heap.size w0 W0) :
    SeqStopsK Fence.wide n Tryz.prog 131 #[.pointer (some ⟨Bt, 0, none⟩), .pointer (some ⟨Bp, 0, none⟩)] (fun x : ByteArray => #[.string x]) (Below w0.heap.size) (fun zs => zs = ys) (fun pre => pre <+: ys) ys.length W0 :=
  fun l J Jx W hW hJ _ hY h0 => up1_in n l Bt Bp t b D L w0 nm ys hc hT hl hn hBt hBp J Jx (fun pre A B hj hb => hJ pre A B none hj ⟨hb.os, hb.tape, hb.output, hb.size, fun k hk _ => hb.block k hk⟩ (fun r e => by cases e)) hY W (hb0.trans (hW.mono hb0.size)) h0

set_option maxRecDepth 100000 in
set_option maxHeartbeats 2000000 in
theorem t_append_g (Bt Bp : Nat) (w : World) (ys : List ByteArray) (hS : ∀ n W0, Below w.heap.size w W0 → SeqStopsK Fence.wide n Tryz.prog 131 #[.pointer (some ⟨Bt, 0, none⟩), .pointer (some ⟨Bp, 0, none⟩)] (fun x : ByteArray => #[.string x]) (Below w.heap.size) (fun zs => zs = ys) (fun pre => pre <+: ys) ys.length W0) (hy : ys.length ≤ 1000) :
    Calls Tryz.prog 152 #[.slice none 0 0, .func (.func 131) #[] #[.pointer (some ⟨Bt, 0, none⟩), .pointer (some ⟨Bp, 0, none⟩)]] w fun e w' => ∃ v, e = .returned v ∧ OwnL w' w.heap.size v ys ∧ Below w.heap.size w w' := by
  have HT := Lib.hid hS
  clear hS
  refine (callsIn_wide (n := 5)).1 ?_
  refine callsIn_of_wp_marks Tryz.func152 rfl trivial ?_ rfl
  simp only [Tryz.ntmps152, List.size_toArray, List.length_cons, List.length_nil, Nat.reduceAdd, Nat.reduceSub, Array.replicate_succ, Array.replicate_zero, List.push_toArray, List.append_toArray, List.nil_append, List.cons_append]
  gi_wp2
  have bO := Boxed.new w 40 (.slice none 0 0)
  have hB0 : Below w.heap.size w (w.alloc (.cells #[.slice none 0 0] 40)) := one_new w _
  refine wpIn_rangeFunc_ownG rfl (by omega) (gf := 131) (lb := #[.pointer (some ⟨Bt, 0, none⟩), .pointer (some ⟨Bp, 0, none⟩)]) rfl trivial (enters_of Tryz.func131 (by kernel_rfl) rfl)
    (HT.out _ _ hB0) belowK_t (belowK_b (by simp)) (Below.refl _ _) (fun _ => rfl)
    (fun pre W => TJ w.heap.size w.heap.size pre W ∧ Below w.heap.size w W)
    (fun _ _ _ => False)
    (OwnFrom.and (Own.from (tj_own _ _) _) (ownFrom_below (Nat.le_refl _) (by simp)))
    (fun _ _ _ _ _ hs _ _ => hs)
    ⟨⟨_, bO, OwnL.nil _ _⟩, hB0⟩
    (fun x => { tmps := #[.slice none 0 0, .func (.func 131) #[] #[.pointer (some ⟨Bt, 0, none⟩), .pointer (some ⟨Bp, 0, none⟩)], .pointer (some ⟨w.heap.size, 0, none⟩), undef, .slice none 0 0, .string x, .func (.func 131) #[] #[.pointer (some ⟨Bt, 0, none⟩), .pointer (some ⟨Bp, 0, none⟩)], .string x, undef, undef, undef, undef, undef], defers := [] }) ?assign ?body ?done ?stop
  case assign =>
    intro l x W K hK
    gi_wp2
    exact hK
  case body =>
    rintro lb pre x W ⟨⟨v, bo, hown⟩, hB⟩ hpl
    obtain ⟨i, hi, hz, hsize, hby⟩ := info_parts info_X
    have cb := bo.cell
    have hsz := hB.size
    have H1 := Lib.hid bo
    have H2 := Lib.hid hown
    have HB := Lib.hid hB
    have H3 := Lib.hid (World.ownsRow.alloc hown (.cells #[.string x] 9))
    have hpl2 : pre.length < 1000 := by omega
    clear bo hown hB
    gi_wp2_with (gi_at_builtin; refine wpListIn_append_own _ rfl (.tmp 8) (.tmp 10) 40 rfl w.heap.size 9 i _ 1 16 Tryz.underlying40 hi hz hsize hby rfl (by omega) v pre.length (pre.map Value.string) rfl H3.out ⟨W.heap.size, 0, none⟩ 1 1 [.string x] rfl rfl (lit_X W _ _) (by simp [Value.oneCell']) (by unfold maxLen; omega) (by omega) (by simp; omega) ?_; intro v' w5 hown' hgrow _; obtain ⟨g', cap', hv'⟩ := rowL_succ hown'; subst hv'; have happ := Boxed.appended (W := W) (w1 := w5) H1.out (by decide) H2.out (by omega) (by omega) hown' hgrow; obtain ⟨q1, q2, q3, q4, q5⟩ := happ; have cQ := q1.cell; have fQ := q1.frozen)
    refine ⟨q4.from _, q5, ⟨_, q2, ?_⟩, HB.out.trans q5⟩
    unfold OwnL
    rw [List.length_append, List.map_append]
    exact q3
  case done =>
    rintro D zs W hD rfl ⟨⟨v, bo, hown⟩, hB⟩ hK
    have cb := bo.cell
    have HK := Lib.hid hK
    have HBW := Lib.hid hB
    have hown2 := ownsRow_putObj hown (.deferred none) hK rfl
    have HO2 := Lib.hid hown2
    have hD' : w.heap.size + 1 ≤ D := by simpa using hD
    clear bo hown hB hK hown2
    gi_wp2
    refine ⟨by simp, .inl ⟨_, _, rfl, run_takeDeferred HK.out, ?_⟩⟩
    exact ⟨_, results_tmp rfl _ _ _, v, rfl, HO2.out, HBW.out.trans (belowK_b (w := w) (Nat.le_refl _) W D _ (.deferred none) (by omega) HK.out rfl rfl)⟩
  case stop =>
    rintro D c pre W _ _ h _
    exact h.elim

set_option maxHeartbeats 1000000 in
theorem t_collect_g (Bt Bp : Nat) (w : World) (ys : List ByteArray) (hS : ∀ n W0, Below w.heap.size w W0 → SeqStopsK Fence.wide n Tryz.prog 131 #[.pointer (some ⟨Bt, 0, none⟩), .pointer (some ⟨Bp, 0, none⟩)] (fun x : ByteArray => #[.string x]) (Below w.heap.size) (fun zs => zs = ys) (fun pre => pre <+: ys) ys.length W0) (hy : ys.length ≤ 1000) :
    Calls Tryz.prog 130 #[.func (.func 131) #[] #[.pointer (some ⟨Bt, 0, none⟩), .pointer (some ⟨Bp, 0, none⟩)]] w fun e w' => ∃ v, e = .returned v ∧ OwnL w' w.heap.size v ys ∧ Below w.heap.size w w' := by
  have HA := Lib.hid (t_append_g Bt Bp w ys hS hy)
  clear hS
  go_enter Tryz.func130, Tryz.ntmps130
  go_wp2_with fail
  refine HA.out.mono ?_
  rintro e w1 ⟨v, rfl, hown, hb⟩
  have HO := Lib.hid hown
  have HB := Lib.hid hb
  clear hown hb
  go_wp2
  go_ret
  exact ⟨v, rfl, HO.out, HB.out⟩
theorem t_collect (Bt Bp t b : Nat) (D : DataW Value) (L : List Tn) (w : World) (nm : ByteArray) (ys : List ByteArray) (hc : Chain L nm ys) (hT : TreeB w t b D L) (hl : ∀ x ∈ L, x.2.size ≤ maxLen) (hn : nm.size ≤ maxLen)
    (hBt : w.cell? ⟨Bt, 0, none⟩ = some (.string nm)) (hBp : w.cell? ⟨Bp, 0, none⟩ = some (.pointer (some ⟨t, 0, none⟩))) (hy : ys.length ≤ 1000) :
    Calls Tryz.prog 130 #[.func (.func 131) #[] #[.pointer (some ⟨Bt, 0, none⟩), .pointer (some ⟨Bp, 0, none⟩)]] w fun e w' => ∃ v, e = .returned v ∧ OwnL w' w.heap.size v ys ∧ Below w.heap.size w w' :=
  t_collect_g Bt Bp w ys (fun n W0 hb => up_stops n Bt Bp t b D L w nm ys hc hT hl hn hBt hBp W0 hb) hy
set_option maxHeartbeats 1000000 in
theorem t_up (p : Option Addr) (nm : ByteArray) (w : World) : Calls Tryz.prog 107 #[.pointer p, .string nm] w fun e w' => e = .returned (.func (.func 131) #[] #[.pointer (some ⟨w.heap.size + 1, 0, none⟩), .pointer (some ⟨w.heap.size, 0, none⟩)]) ∧
    w' = (w.alloc (.cells #[.pointer p] 29)).alloc (.cells #[.string nm] 9) := by
  go_enter Tryz.func107, Tryz.ntmps107
  go_wp2
  go_ret
  exact ⟨by simp, rfl⟩
set_option maxHeartbeats 1000000 in
/-- Above: it, and those above it. -/
theorem t_above (t b : Nat) (D : DataW Value) (L : List Tn) (w : World) (nm : ByteArray) (ys : List ByteArray) (hc : Chain L nm ys) (hT : TreeB w t b D L) (hl : ∀ x ∈ L, x.2.size ≤ maxLen) (hn : nm.size ≤ maxLen) (hy : ys.length ≤ 1000) :
    Calls Tryz.prog 105 #[.pointer (some ⟨t, 0, none⟩), .string nm] w fun e w' => ∃ v, e = .returned v ∧ OwnL w' w.heap.size v ys ∧ Below w.heap.size w w' := by
  have hb2 := two_new w (.cells #[.pointer (some ⟨t, 0, none⟩)] 29) (.cells #[.string nm] 9)
  have HA := Lib.hid (t_collect (w.heap.size + 1) w.heap.size t b D L ((w.alloc (.cells #[.pointer (some ⟨t, 0, none⟩)] 29)).alloc (.cells #[.string nm] 9)) nm ys hc (hT.below hb2) hl hn
    (by have h := new_cellT (w.alloc (.cells #[.pointer (some ⟨t, 0, none⟩)] 29)) #[.string nm] 9 0; rw [World.size_alloc] at h; exact h)
    (((one_new _ _).cell (p := ⟨w.heap.size, 0, none⟩) (by simp)).trans (new_cellT _ _ _ 0)) hy)
  have HB2 := Lib.hid hb2
  clear hc hT hl hn hb2
  go_enter Tryz.func105, Tryz.ntmps105
  go_wp2_with fail
  refine (t_up _ nm w).mono ?_
  rintro e w1 ⟨rfl, rfl⟩
  go_wp2_with fail
  refine HA.out.mono ?_
  rintro e w2 ⟨v, rfl, hown, hb⟩
  have HO := Lib.hid (OwnL.lower (b2 := w.heap.size) hown (by simp; omega))
  have HB := Lib.hid (HB2.out.trans (hb.mono (by simp; omega)))
  clear hown hb
  go_wp2
  go_ret
  exact ⟨v, rfl, HO.out, HB.out⟩
end
end Go.Proofs.YtdhpoaecedpbdaaGreat
namespace Go.Proofs.YtdhpoaecedpbdaaGreat
section
open Go.RowKit Go.Maps Go.Shelf

attribute [local go_sem] Oper.semAt_some

theorem OwnL.form {w : World} {base : Nat} {v : Value} {ss : List ByteArray} (h : OwnL w base v ss) : ∃ A c, v = .slice A ss.length c := by
  rcases h.2 with ⟨rfl, hn⟩ | ⟨g, cap, cur, rfl, _, _, _, _⟩
  · have hl : ss.length = 0 := by first | omega | simpa using hn
    exact ⟨none, 0, by rw [hl]⟩
  · exact ⟨_, cap, rfl⟩
set_option maxHeartbeats 1000000 in
theorem t_depth (t b : Nat) (D : DataW Value) (L : List Tn) (w : World) (nm : ByteArray) (ys : List ByteArray) (hc : Chain L nm ys) (hT : TreeB w t b D L) (hl : ∀ x ∈ L, x.2.size ≤ maxLen) (hn : nm.size ≤ maxLen) (hy : ys.length ≤ 1000) :
    Calls Tryz.prog 63 #[.pointer (some ⟨t, 0, none⟩), .string nm] w fun e w' => e = .returned (.int .i64 (ys.length : Int)) ∧ Below w.heap.size w w' := by
  have HA := Lib.hid (t_above t b D L w nm ys hc hT hl hn hy)
  clear hc hT hl hn
  go_enter Tryz.func63, Tryz.ntmps63
  go_wp2_with fail
  refine HA.out.mono ?_
  rintro e w2 ⟨v, rfl, hown, hb⟩
  obtain ⟨A, c, rfl⟩ := hown.form
  have HB := Lib.hid hb
  clear hown hb
  go_wp2
  go_ret
  exact ⟨rfl, HB.out⟩

def hasX (ab : ByteArray) (ys : List ByteArray) : Bool := ys.any fun x => x.toList == ab.toList
/-- What the loop of isUnder has behind the names that have come. -/
def UJ (h : Nat) (ab : ByteArray) (r : Bool) (W : World) : Prop := Boxed W h 9 (.string ab) ∧ Boxed W (h + 1) 4 (.bool r)
theorem uj_own {α : Type} (h : Nat) (ab : ByteArray) (r : Bool) : Go.Own (fun (_ : α) W => UJ h ab r W) := by
  intro s X Y row hs hg hr
  obtain ⟨h1, h2⟩ := hs
  exact ⟨boxed_own (β := Unit) _ _ (fun _ => _) () X Y row h1 hg hr, boxed_own (β := Unit) _ _ (fun _ => _) () X Y row h2 hg hr⟩

set_option maxRecDepth 100000 in
set_option maxHeartbeats 2000000 in
theorem t_isUnder (t b : Nat) (D : DataW Value) (L : List Tn) (w : World) (nm ab : ByteArray) (ys : List ByteArray) (hc : Chain L nm ys) (hT : TreeB w t b D L) (hl : ∀ x ∈ L, x.2.size ≤ maxLen) (hn : nm.size ≤ maxLen) :
    Calls Tryz.prog 69 #[.pointer (some ⟨t, 0, none⟩), .string nm, .string ab] w fun e w' => e = .returned (.bool (hasX ab ys)) ∧ Below w.heap.size w w' := by
  obtain ⟨W0, hW0⟩ : ∃ W0, W0 = (((w.alloc (.cells #[.string ab] 9)).alloc (.cells #[.bool false] 4)).alloc (.cells #[.pointer (some ⟨t, 0, none⟩)] 29)).alloc (.cells #[.string nm] 9) := ⟨_, rfl⟩
  have bA := ((Boxed.new w 9 (.string ab)).alloc (.cells #[.bool false] 4)).alloc (.cells #[.pointer (some ⟨t, 0, none⟩)] 29) |>.alloc (.cells #[.string nm] 9)
  have bR := ((Boxed.new (w.alloc (.cells #[.string ab] 9)) 4 (.bool false)).alloc (.cells #[.pointer (some ⟨t, 0, none⟩)] 29)).alloc (.cells #[.string nm] 9)
  have bP := (Boxed.new ((w.alloc (.cells #[.string ab] 9)).alloc (.cells #[.bool false] 4)) 29 (.pointer (some ⟨t, 0, none⟩))).alloc (.cells #[.string nm] 9)
  have bN := Boxed.new (((w.alloc (.cells #[.string ab] 9)).alloc (.cells #[.bool false] 4)).alloc (.cells #[.pointer (some ⟨t, 0, none⟩)] 29)) 9 (.string nm)
  have hB0 : Below w.heap.size w ((((w.alloc (.cells #[.string ab] 9)).alloc (.cells #[.bool false] 4)).alloc (.cells #[.pointer (some ⟨t, 0, none⟩)] 29)).alloc (.cells #[.string nm] 9)) := (((one_new w _).alloc (by simp) _).alloc (by simp; omega) _).alloc (by simp; omega) _
  have hsz : ((((w.alloc (.cells #[.string ab] 9)).alloc (.cells #[.bool false] 4)).alloc (.cells #[.pointer (some ⟨t, 0, none⟩)] 29)).alloc (.cells #[.string nm] 9)).heap.size = w.heap.size + 4 := by simp
  simp only [World.size_alloc] at bR bP bN
  rw [← hW0] at bA bR bP bN hB0 hsz
  have HT := Lib.hid (fun n W1 (hb : Below W0.heap.size W0 W1) => up_stops n (w.heap.size + 1 + 1 + 1) (w.heap.size + 1 + 1) t b D L W0 nm ys hc (hT.below hB0) hl hn bN.cell bP.cell W1 hb)
  have HW0 := Lib.hid hW0
  clear hc hT hl hn bP bN hW0
  refine (callsIn_wide (n := 5)).1 ?_
  refine callsIn_of_wp_marks Tryz.func69 rfl trivial ?_ rfl
  simp only [Tryz.ntmps69, List.size_toArray, List.length_cons, List.length_nil, Nat.reduceAdd, Nat.reduceSub, Array.replicate_succ, Array.replicate_zero, List.push_toArray, List.append_toArray, List.nil_append, List.cons_append]
  gi_wp2_with fail
  refine ⟨trivial, ?_⟩
  refine (callsIn_wide.2 (t_up _ nm _)).mono ?_
  rintro e w1 ⟨rfl, rfl⟩
  gi_wp2
  rw [← HW0.out]
  refine wpIn_rangeFunc_ownG rfl (by omega) (gf := 131) (lb := #[.pointer (some ⟨w.heap.size + 1 + 1 + 1, 0, none⟩), .pointer (some ⟨w.heap.size + 1 + 1, 0, none⟩)]) rfl trivial (enters_of Tryz.func131 (by kernel_rfl) rfl)
    (HT.out _ _ (Below.refl _ _)) belowK_t (belowK_b (Nat.le_refl _)) (Below.refl _ _) (fun _ => rfl)
    (fun pre W => UJ w.heap.size ab false W ∧ Hid (hasX ab pre = false) ∧ Below w.heap.size w W)
    (fun c pre W => UJ w.heap.size ab true W ∧ (c = .ret ∧ Hid (hasX ab pre = true)) ∧ Below w.heap.size w W)
    (OwnFrom.and (Own.from (uj_own _ _ _) _) (OwnFrom.and (ownFrom_pure _ _) (ownFrom_below (Nat.le_refl _) (by omega))))
    (fun c => OwnFrom.and (Own.from (uj_own _ _ _) _) (OwnFrom.and (ownFrom_pure _ _) (ownFrom_below (Nat.le_refl _) (by omega))))
    ⟨⟨bA, bR⟩, Lib.hid rfl, hB0⟩
    (fun x => { tmps := #[.pointer (some ⟨t, 0, none⟩), .string nm, .string ab, undef, undef, .pointer (some ⟨w.heap.size, 0, none⟩), .pointer (some ⟨w.heap.size + 1, 0, none⟩), .string x, .pointer (some ⟨t, 0, none⟩), .string nm, .func (.func 131) #[] #[.pointer (some ⟨w.heap.size + 1 + 1 + 1, 0, none⟩), .pointer (some ⟨w.heap.size + 1 + 1, 0, none⟩)], .string x, undef, undef, undef], defers := [] }) ?assign ?body ?done ?stop
  case assign =>
    intro l x W K hK
    gi_wp2
    exact hK
  case body =>
    rintro lb pre x W ⟨⟨h1, h2⟩, h3, h4⟩ hpl
    have cA := h1.cell
    have fR := h2.frozen
    have cR := h2.cell
    have H1 := Lib.hid h1
    have H2 := Lib.hid h2
    have H4 := Lib.hid h4
    have happ : hasX ab (pre ++ [x]) = (hasX ab pre || (x.toList == ab.toList)) := by unfold hasX; rw [List.any_append]; simp
    have HAP := Lib.hid happ
    clear h1 h2 h4 happ
    rcases Bool.eq_false_or_eq_true (x.toList == ab.toList) with he | he
    · have HE := Lib.hid he
      gi_wp2
      exact ⟨(KeepsOthers.setCell _ _ _).from _, ⟨Boxed.other H1.out (B' := w.heap.size + 1) (by omega) _, Boxed.set (.bool true) H2.out⟩, ⟨rfl, Lib.hid (by rw [HAP.out, HE.out, Bool.or_true])⟩, H4.out.setCell (p := ⟨w.heap.size + 1, 0, none⟩) (by simp) _⟩
    · have HE := Lib.hid he
      gi_wp2
      exact ⟨KeepsFrom.refl _ _, Below.refl _ _, ⟨H1.out, H2.out⟩, Lib.hid (by rw [HAP.out, HE.out, h3.out]; rfl), H4.out⟩
  case done =>
    rintro E ys' W hD rfl ⟨⟨h1, h2⟩, h3, h4⟩ hK
    have cR := h2.cell
    have fR := h2.frozen
    have H2 := Lib.hid h2
    have H4 := Lib.hid h4
    have HK := Lib.hid hK
    clear h1 h2 h4 hK
    gi_wp2
    have hK2 : (W.setCell ⟨w.heap.size + 1, 0, none⟩ (.bool false)).heap[E]? = some (.deferred (some [])) := by
      rw [Below.heap_setCell _ _ _ E (by show E ≠ w.heap.size + 1; omega)]
      exact HK.out
    refine ⟨by simp, .inl ⟨_, _, rfl, run_takeDeferred hK2, ?_⟩⟩
    have d0 := ((Boxed.set (.bool false) H2.out).kept (grownBy_putObj' _ E (.deferred none)) (by simp; omega)).cell
    refine ⟨.bool false, ?_, by rw [h3.out], (H4.out.setCell (p := ⟨w.heap.size + 1, 0, none⟩) (by simp) _).trans (belowK_b (w := w) (Nat.le_refl _) _ E _ (.deferred none) (by omega) hK2 rfl rfl)⟩
    simp [results, Tryz.f69, go_sem, d0]
  case stop =>
    rintro E c pre W hD hpre ⟨⟨h1, h2⟩, ⟨rfl, h3⟩, h4⟩ hK
    gi_wp2
    refine ⟨by simp, .inl ⟨_, _, rfl, run_takeDeferred hK, ?_⟩⟩
    have d0 := (h2.kept (grownBy_putObj' _ E (.deferred none)) (by simp; omega)).cell
    refine ⟨.bool true, ?_, ?_, h4.trans (belowK_b (w := w) (Nat.le_refl _) _ E _ (.deferred none) (by omega) hK rfl rfl)⟩
    · simp [results, Tryz.f69, go_sem, d0]
    · obtain ⟨rs, hrs⟩ := hpre
      have ht : hasX ab ys = true := by
        rw [← hrs]
        unfold hasX
        rw [List.any_append]
        have := h3.out
        unfold hasX at this
        rw [this]
        rfl
      rw [ht]
end
end Go.Proofs.YtdhpoaecedpbdaaGreat
