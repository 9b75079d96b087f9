/-
  The names from a tenant up, as a list of the call's own: slices.AppendSeq and slices.Collect of going up; Above, Depth.
  Condition: names are no longer than texts can be; from the tenant up it comes to an end, behind no more than a thousand names.
-/
import Derived.Test.YtoeggpoeongnhaaTnb
import Derived.RangeFuncBox
import Derived.OwnWalkIn
namespace Go.Proofs.Ytoeggpoeongnhaa
open Go.RowKit Go.Maps Go.Shelf

attribute [local go_sem] Oper.semAt_some

/-- v is a list of texts of the call's own. -/
def OwnL (w : World) (base : Nat) (v : Value) (ss : List ByteArray) : Prop := w.ownsRow base 9 1 v ss.length (ss.map Value.string)
theorem OwnL.nil (w : World) (base : Nat) : OwnL w base (.slice none 0 0) [] := World.ownsRow_nil w base _ _
theorem OwnL.kept {w w' : World} {base : Nat} {v : Value} {ss : List ByteArray} {row : Option Nat} (h : OwnL w base v ss) (hg : w.grownBy w' row) (hr : ∀ r, row = some r → ∃ o : Obj, w.heap[r]? = some o ∧ o.isCells = false) : OwnL w' base v ss := by
  refine World.ownsRow.kept h hg ?_
  rcases h.2 with ⟨rfl, _⟩ | ⟨g, cap, cur, rfl, _, hgb, _⟩
  · exact .inl rfl
  · refine .inr fun e' => ?_
    obtain ⟨o, ho, hc⟩ := hr g (by simpa [Value.ownBlock] using e'.symm)
    rw [hgb] at ho
    cases ho
    cases hc
theorem OwnL.lower {w : World} {base b2 : Nat} {v : Value} {ss : List ByteArray} (h : OwnL w base v ss) (hb : b2 ≤ base) : OwnL w b2 v ss := by
  refine ⟨h.1, ?_⟩
  rcases h.2 with hn | ⟨g, cap, cur, hv, hg, hh, r⟩
  · exact Or.inl hn
  · exact Or.inr ⟨g, cap, cur, hv, Nat.le_trans hb hg, hh, r⟩
theorem info_X : (Try.prog.info? 9).map (fun i => (i.zero, i.size, i.bytes)) = some (some (.string ⟨#[]⟩), 1, 16) := by kernel_rfl

theorem rowL_succ {w : World} {base k : Nat} {v : Value} {xs : List Value} (h : w.ownsRow base 9 1 v (k + 1) xs) : ∃ g c, v = .slice (some ⟨g, 0, none⟩) (k + 1) c := by
  rcases h.2 with ⟨_, hn⟩ | ⟨g, cap, cur, rfl, _, _, _, _⟩
  · first | omega | (simp at hn)
  · exact ⟨g, cap, rfl⟩
theorem lit_X (w : World) (v : Value) (ty : TypeId) : ∀ j u, [v][j]? = some u → (w.alloc (.cells #[v] ty)).cell? ((⟨w.heap.size, 0, none⟩ : Addr).add j) = some u := by
  intro j u hj
  cases j with
  | zero =>
    have e : v = u := by simpa using hj
    subst e
    exact new_cellT _ _ _ 0
  | succ j => simp at hj
/-- What the loop of AppendSeq has behind the names that have come. -/
def TJ (n0 bo : Nat) (pre : List ByteArray) (W : World) : Prop := ∃ v, Boxed W bo 76 v ∧ OwnL W n0 v pre
theorem tj_own (n0 bo : Nat) : Go.Own (fun (pre : List ByteArray) W => TJ n0 bo pre W) := by
  intro s X Y row hs hg hr
  obtain ⟨v, h1, h2⟩ := hs
  exact ⟨v, boxed_own (β := Unit) _ _ (fun _ => v) () X Y row h1 hg hr, h2.kept hg hr⟩

theorem up_stops (n Bt Bp t b : Nat) (D : DataW Value) (L : List Tn) (w0 : World) (nm : ByteArray) (ys : List ByteArray) (hc : Chain L nm ys) (hT : TreeB w0 t b D L) (hl : ∀ x ∈ L, x.2.size ≤ maxLen) (hn : nm.size ≤ maxLen)
    (hBt : w0.cell? ⟨Bt, 0, none⟩ = some (.string nm)) (hBp : w0.cell? ⟨Bp, 0, none⟩ = some (.pointer (some ⟨t, 0, none⟩))) (W0 : World) (hb0 : Below w0.heap.size w0 W0) :
    SeqStopsK Fence.wide n Try.prog 105 #[.pointer (some ⟨Bt, 0, none⟩), .pointer (some ⟨Bp, 0, none⟩)] (fun x : ByteArray => #[.string x]) (Below w0.heap.size) (fun zs => zs = ys) (fun pre => pre <+: ys) ys.length W0 :=
  fun l J Jx W hW hJ _ hY h0 => up1_in n l Bt Bp t b D L w0 nm ys hc hT hl hn hBt hBp J Jx (fun pre A B hj hb => hJ pre A B none hj ⟨hb.os, hb.tape, hb.output, hb.size, fun k hk _ => hb.block k hk⟩ (fun r e => by cases e)) hY W (hb0.trans (hW.mono hb0.size)) h0

set_option maxRecDepth 100000 in
set_option maxHeartbeats 2000000 in
theorem t_append_g (Bt Bp : Nat) (w : World) (ys : List ByteArray) (hS : ∀ n W0, Below w.heap.size w W0 → SeqStopsK Fence.wide n Try.prog 105 #[.pointer (some ⟨Bt, 0, none⟩), .pointer (some ⟨Bp, 0, none⟩)] (fun x : ByteArray => #[.string x]) (Below w.heap.size) (fun zs => zs = ys) (fun pre => pre <+: ys) ys.length W0) (hy : ys.length ≤ 1000) :
    Calls Try.prog 104 #[.slice none 0 0, .func (.func 105) #[] #[.pointer (some ⟨Bt, 0, none⟩), .pointer (some ⟨Bp, 0, none⟩)]] w fun e w' => ∃ v, e = .returned v ∧ OwnL w' w.heap.size v ys ∧ Below w.heap.size w w' := by
  have HT := Lib.hid hS
  clear hS
  refine (callsIn_wide (n := 5)).1 ?_
  refine callsIn_of_wp_marks Try.func104 rfl trivial ?_ rfl
  simp only [Try.ntmps104, List.size_toArray, List.length_cons, List.length_nil, Nat.reduceAdd, Nat.reduceSub, Array.replicate_succ, Array.replicate_zero, List.push_toArray, List.append_toArray, List.nil_append, List.cons_append]
  gi_wp2
  have bO := Boxed.new w 76 (.slice none 0 0)
  have hB0 : Below w.heap.size w (w.alloc (.cells #[.slice none 0 0] 76)) := one_new w _
  refine wpIn_rangeFunc_ownG rfl (by omega) (gf := 105) (lb := #[.pointer (some ⟨Bt, 0, none⟩), .pointer (some ⟨Bp, 0, none⟩)]) rfl trivial (enters_of Try.func105 (by kernel_rfl) rfl)
    (HT.out _ _ hB0) belowK_t (belowK_b (by simp)) (Below.refl _ _) (fun _ => rfl)
    (fun pre W => TJ w.heap.size w.heap.size pre W ∧ Below w.heap.size w W)
    (fun _ _ _ => False)
    (OwnFrom.and (Own.from (tj_own _ _) _) (ownFrom_below (Nat.le_refl _) (by simp)))
    (fun _ _ _ _ _ hs _ _ => hs)
    ⟨⟨_, bO, OwnL.nil _ _⟩, hB0⟩
    (fun x => { tmps := #[.slice none 0 0, .func (.func 105) #[] #[.pointer (some ⟨Bt, 0, none⟩), .pointer (some ⟨Bp, 0, none⟩)], .pointer (some ⟨w.heap.size, 0, none⟩), undef, .slice none 0 0, .string x, .func (.func 105) #[] #[.pointer (some ⟨Bt, 0, none⟩), .pointer (some ⟨Bp, 0, none⟩)], .string x, undef, undef, undef, undef, undef], defers := [] }) ?assign ?body ?done ?stop
  case assign =>
    intro l x W K hK
    gi_wp2
    exact hK
  case body =>
    rintro lb pre x W ⟨⟨v, bo, hown⟩, hB⟩ hpl
    obtain ⟨i, hi, hz, hsize, hby⟩ := info_parts info_X
    have cb := bo.cell
    have hsz := hB.size
    have H1 := Lib.hid bo
    have H2 := Lib.hid hown
    have HB := Lib.hid hB
    have H3 := Lib.hid (World.ownsRow.alloc hown (.cells #[.string x] 9))
    have hpl2 : pre.length < 1000 := by omega
    clear bo hown hB
    gi_wp2_with (gi_at_builtin; refine wpListIn_append_own _ rfl (.tmp 8) (.tmp 10) 76 rfl w.heap.size 9 i _ 1 16 Try.underlying76 hi hz hsize hby rfl (by omega) v pre.length (pre.map Value.string) rfl H3.out ⟨W.heap.size, 0, none⟩ 1 1 [.string x] rfl rfl (lit_X W _ _) (by simp [Value.oneCell']) (by unfold maxLen; omega) (by omega) (by simp; omega) ?_; intro v' w5 hown' hgrow _; obtain ⟨g', cap', hv'⟩ := rowL_succ hown'; subst hv'; have happ := Boxed.appended (W := W) (w1 := w5) H1.out (by decide) H2.out (by omega) (by omega) hown' hgrow; obtain ⟨q1, q2, q3, q4, q5⟩ := happ; have cQ := q1.cell; have fQ := q1.frozen)
    refine ⟨q4.from _, q5, ⟨_, q2, ?_⟩, HB.out.trans q5⟩
    unfold OwnL
    rw [List.length_append, List.map_append]
    exact q3
  case done =>
    rintro D zs W hD rfl ⟨⟨v, bo, hown⟩, hB⟩ hK
    have cb := bo.cell
    have HK := Lib.hid hK
    have HBW := Lib.hid hB
    have hown2 := ownsRow_putObj hown (.deferred none) hK rfl
    have HO2 := Lib.hid hown2
    have hD' : w.heap.size + 1 ≤ D := by simpa using hD
    clear bo hown hB hK hown2
    gi_wp2
    refine ⟨by simp, .inl ⟨_, _, rfl, run_takeDeferred HK.out, ?_⟩⟩
    exact ⟨_, results_tmp rfl _ _ _, v, rfl, HO2.out, HBW.out.trans (belowK_b (w := w) (Nat.le_refl _) W D _ (.deferred none) (by omega) HK.out rfl rfl)⟩
  case stop =>
    rintro D c pre W _ _ h _
    exact h.elim

set_option maxHeartbeats 1000000 in
theorem t_collect_g (Bt Bp : Nat) (w : World) (ys : List ByteArray) (hS : ∀ n W0, Below w.heap.size w W0 → SeqStopsK Fence.wide n Try.prog 105 #[.pointer (some ⟨Bt, 0, none⟩), .pointer (some ⟨Bp, 0, none⟩)] (fun x : ByteArray => #[.string x]) (Below w.heap.size) (fun zs => zs = ys) (fun pre => pre <+: ys) ys.length W0) (hy : ys.length ≤ 1000) :
    Calls Try.prog 76 #[.func (.func 105) #[] #[.pointer (some ⟨Bt, 0, none⟩), .pointer (some ⟨Bp, 0, none⟩)]] w fun e w' => ∃ v, e = .returned v ∧ OwnL w' w.heap.size v ys ∧ Below w.heap.size w w' := by
  have HA := Lib.hid (t_append_g Bt Bp w ys hS hy)
  clear hS
  go_enter Try.func76, Try.ntmps76
  go_wp2_with fail
  refine HA.out.mono ?_
  rintro e w1 ⟨v, rfl, hown, hb⟩
  have HO := Lib.hid hown
  have HB := Lib.hid hb
  clear hown hb
  go_wp2
  go_ret
  exact ⟨v, rfl, HO.out, HB.out⟩
theorem t_collect (Bt Bp t b : Nat) (D : DataW Value) (L : List Tn) (w : World) (nm : ByteArray) (ys : List ByteArray) (hc : Chain L nm ys) (hT : TreeB w t b D L) (hl : ∀ x ∈ L, x.2.size ≤ maxLen) (hn : nm.size ≤ maxLen)
    (hBt : w.cell? ⟨Bt, 0, none⟩ = some (.string nm)) (hBp : w.cell? ⟨Bp, 0, none⟩ = some (.pointer (some ⟨t, 0, none⟩))) (hy : ys.length ≤ 1000) :
    Calls Try.prog 76 #[.func (.func 105) #[] #[.pointer (some ⟨Bt, 0, none⟩), .pointer (some ⟨Bp, 0, none⟩)]] w fun e w' => ∃ v, e = .returned v ∧ OwnL w' w.heap.size v ys ∧ Below w.heap.size w w' :=
  t_collect_g Bt Bp w ys (fun n W0 hb => up_stops n Bt Bp t b D L w nm ys hc hT hl hn hBt hBp W0 hb) hy
set_option maxHeartbeats 1000000 in
theorem t_up (p : Option Addr) (nm : ByteArray) (w : World) : Calls Try.prog 77 #[.pointer p, .string nm] w fun e w' => e = .returned (.func (.func 105) #[] #[.pointer (some ⟨w.heap.size + 1, 0, none⟩), .pointer (some ⟨w.heap.size, 0, none⟩)]) ∧
    w' = (w.alloc (.cells #[.pointer p] 61)).alloc (.cells #[.string nm] 9) := by
  go_enter Try.func77, Try.ntmps77
  go_wp2
  go_ret
  exact ⟨by simp, rfl⟩
set_option maxHeartbeats 1000000 in
/-- Above: it, and those above it. -/
theorem t_above (t b : Nat) (D : DataW Value) (L : List Tn) (w : World) (nm : ByteArray) (ys : List ByteArray) (hc : Chain L nm ys) (hT : TreeB w t b D L) (hl : ∀ x ∈ L, x.2.size ≤ maxLen) (hn : nm.size ≤ maxLen) (hy : ys.length ≤ 1000) :
    Calls Try.prog 40 #[.pointer (some ⟨t, 0, none⟩), .string nm] w fun e w' => ∃ v, e = .returned v ∧ OwnL w' w.heap.size v ys ∧ Below w.heap.size w w' := by
  have hb2 := two_new w (.cells #[.pointer (some ⟨t, 0, none⟩)] 61) (.cells #[.string nm] 9)
  have HA := Lib.hid (t_collect (w.heap.size + 1) w.heap.size t b D L ((w.alloc (.cells #[.pointer (some ⟨t, 0, none⟩)] 61)).alloc (.cells #[.string nm] 9)) nm ys hc (hT.below hb2) hl hn
    (by have h := new_cellT (w.alloc (.cells #[.pointer (some ⟨t, 0, none⟩)] 61)) #[.string nm] 9 0; rw [World.size_alloc] at h; exact h)
    (((one_new _ _).cell (p := ⟨w.heap.size, 0, none⟩) (by simp)).trans (new_cellT _ _ _ 0)) hy)
  have HB2 := Lib.hid hb2
  clear hc hT hl hn hb2
  go_enter Try.func40, Try.ntmps40
  go_wp2_with fail
  refine (t_up _ nm w).mono ?_
  rintro e w1 ⟨rfl, rfl⟩
  go_wp2_with fail
  refine HA.out.mono ?_
  rintro e w2 ⟨v, rfl, hown, hb⟩
  have HO := Lib.hid (OwnL.lower (b2 := w.heap.size) hown (by simp; omega))
  have HB := Lib.hid (HB2.out.trans (hb.mono (by simp; omega)))
  clear hown hb
  go_wp2
  go_ret
  exact ⟨v, rfl, HO.out, HB.out⟩
end Go.Proofs.Ytoeggpoeongnhaa
