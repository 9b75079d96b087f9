/-
  The names of a map, collected and sorted: slices.Sorted of maps.Keys.
  Condition: no more than a thousand names.
-/
import Derived.Test.YtojpccngcicbmaaYq
import Derived.Sort.MapsRangeIn
import Derived.RangeFuncBox
import Derived.RangeFuncNested
import Derived.OwnWalkIn
namespace Go.Proofs.Ytojpccngcicbmaa
open Go.RowKit Go.Maps Go.Shelf Go.Sort

attribute [local go_sem] Oper.semAt_some

/-- Any order of the names. -/
def AnyK (S : List Mn) (zs : List ByteArray) : Prop := zs.length ≤ S.length ∧ zs.Nodup ∧ ∀ s, s ∈ zs ↔ (findM S s).isSome = true
def keyB (x : ByteArray) : List UInt8 := x.data.toList
theorem keyB_inj {x y : ByteArray} (h : keyB x = keyB y) : x = y := by
  unfold keyB at h
  obtain ⟨⟨l⟩⟩ := x
  obtain ⟨⟨l'⟩⟩ := y
  have e : l = l' := h
  rw [e]

set_option maxHeartbeats 1000000 in
theorem k_keys (b : Nat) (w : World) : Calls Try.prog 24 #[.map (some b)] w fun e w' =>
    e = .returned (.func (.func 38) #[] #[.pointer (some ⟨w.heap.size, 0, none⟩)]) ∧ w' = w.alloc (.cells #[.map (some b)] 49) := by
  go_enter Try.func24, Try.ntmps24
  go_wp2
  go_ret
  exact ⟨by simp, rfl⟩

set_option maxRecDepth 100000 in
set_option maxHeartbeats 2000000 in
theorem k_keys1 (n l Bm b nn : Nat) (D : DataW Value) (S : List Mn) (J Jx : List ByteArray → World → Prop)
    (hY : ∀ pre x W, J pre W → pre.length < S.length → YieldAt Fence.wide (n - 1) Try.prog l #[.string x] W fun e W' =>
      (e = .returned (.bool true) ∧ J (pre ++ [x]) W' ∧ KeepsWalks W W') ∨ (e = .returned (.bool false) ∧ Jx (pre ++ [x]) W'))
    (W : World) (hJ : AbidesFrom W.heap.size J) (hm : W.cell? ⟨Bm, 0, none⟩ = some (.map (some b))) (hown : W.ownsMap Try.prog 9 RpM b nn D) (hR : RelM D S) (h0 : J [] W) :
    CallsIn Fence.wide n Try.prog 38 #[.func (.yield l) #[] #[], .pointer (some ⟨Bm, 0, none⟩)] W fun e W' => (∃ v, e = .returned v) ∧
      ((∃ zs, AnyK S zs ∧ J zs W') ∨ (∃ pre, True ∧ Jx pre W')) := by
  have hdd : ∀ k : Nat, (Fence.wide.depth.isSome = true → 1 ≤ k) := fun k h => by cases h
  have HJ := Lib.hid hJ
  have HY := Lib.hid hY
  have HZ := Lib.hid h0
  have HR := Lib.hid hR
  have hsz : Maps.size D = S.length := hR.2.2.1
  clear hJ hY h0 hR
  refine callsIn_of_wp Try.func38 rfl trivial ?_ rfl
  simp only [Try.ntmps38, List.size_toArray, List.length_cons, List.length_nil, Nat.reduceAdd, Nat.reduceSub, Array.replicate_succ, Array.replicate_zero, List.push_toArray, List.append_toArray, List.nil_append, List.cons_append]
  gi_wp2_with (first
    | (gi_at_range; refine wpListIn_range_own _ rfl _ 49 rfl 9 26 lawM Try.underlying49 _ b nn _ rfl hown ?_; intro w0 hrg0 hg0 hs0)
    | gi_in)
  have hj0 := HJ.out [] W w0 none HZ.out hg0 (fun r e => by cases e)
  go_frame
  gi_loopw [3] (fun _ wr => ∃ (left : Lit → Bool) (cnt : Nat) (ps : List ByteArray), wr.ranges Try.prog 9 RpM b W.heap.size nn D left cnt ∧ ps.length + cnt ≤ S.length ∧ Hid (Collected D left (ps.map keyB)) ∧ J ps wr)
    (fun _ wr => wr.rangeLeft b W.heap.size)
  case atStart =>
    exact ⟨_, _, [], hrg0, by simp [hsz], Lib.hid (Collected.start D), hj0⟩
  case round =>
    obtain ⟨left, cnt, ps, hrg, hcs, HC, hJs⟩ := hrel
    gi_wp2_with (first
      | (gi_at_next; refine wpListIn_next_ranges _ rfl _ rfl 9 lawM RpM encStr (fun v : Value => v) (fun key kl hk => by obtain ⟨x, hx, _⟩ := Maps.keyOf_str Try.underlying9 hk; exact ⟨x, hx⟩) (fun v y hv => ⟨v, rfl⟩) b W.heap.size nn _ _ _ rfl hrg ?_ ?_)
      | gi_in)
    · intro hc0 hl0
      gi_wp2
      go_end0
      refine ⟨⟨_, rfl⟩, .inl ⟨ps, ⟨by omega, ?_, fun s => ?_⟩, hJs⟩⟩
      · have h := HC.out.1
        exact List.Pairwise.imp (fun h e => h (by rw [e])) (List.pairwise_map.1 h)
      · rw [← HR.out.2.1 s]
        constructor
        · intro hs
          exact ((HC.out.2 (keyB s)).1 (List.mem_map.2 ⟨s, hs, rfl⟩)).1
        · intro hs
          have h := (HC.out.2 (keyB s)).2 ⟨hs, hl0 _⟩
          obtain ⟨y, hy, he⟩ := List.mem_map.1 h
          rw [← keyB_inj he]
          exact hy
    · intro x c kl yd yp w2 cnt2 hkey hlk hv hat hrg2 hlt hg2 hs2 hen
      obtain ⟨x', ex, rfl, _⟩ := Maps.keyOf_str Try.underlying9 hkey
      obtain rfl : x = x' := encStr_inj ex
      have HC2 := Lib.hid (HC.out.step hlk hat)
      have hJ2 : J ps w2 := HJ.out ps wr w2 (some W.heap.size) hJs hg2 (fun r e => by cases e; exact ⟨Nat.le_refl _, hrg.iter_walk⟩)
      obtain ⟨fn, tmps, assign, body, hy, hRnd⟩ := HY.out ps ⟨x.toArray⟩ w2 hJ2 (by omega)
      have HRR := Lib.hid hRnd
      unfold encStr at hen
      clear hs2 hRnd hat hlk hkey hJ2 hv
      gi_wp2
      (try refine ⟨hdd _, ?_⟩)
      refine HRR.out.mono ?_
      rintro e W3 (⟨rfl, hJ3, hk3⟩ | ⟨rfl, hJx3⟩)
      · gi_wp2
        have hrg3 := hrg2.of_walks hk3
        go_roundw
        case rel =>
          refine ⟨_, cnt2, ps ++ [⟨x.toArray⟩], hrg3, by simp; omega, Lib.hid ?_, hJ3⟩
          rw [List.map_append, List.map_cons, List.map_nil]
          exact HC2.out
        case measure => rw [hrg3.left_eq, hrg.left_eq]; exact hlt
      · gi_wp2
        refine bodyPost_ret (results_none rfl _ _ _) rfl ?_
        exact ⟨⟨_, rfl⟩, .inr ⟨_, trivial, hJx3⟩⟩

theorem k_stops (n Bm b nn : Nat) (D : DataW Value) (S : List Mn) (w : World) (hBm : Bm < w.heap.size) (hm : w.cell? ⟨Bm, 0, none⟩ = some (.map (some b))) (hown : w.ownsMap Try.prog 9 RpM b nn D) (hR : RelM D S) :
    SeqStopsK Fence.wide n Try.prog 38 #[.pointer (some ⟨Bm, 0, none⟩)] (fun x : ByteArray => #[.string x]) KeepsWalks (AnyK S) (fun _ => True) S.length w :=
  fun l J Jx W hW hJ _ hY h0 => k_keys1 n l Bm b nn D S J Jx hY W hJ ((hW.cell (p := ⟨Bm, 0, none⟩) hBm).trans hm) (ownsMapM_block hown (hW.block b (ownsMapM_lt hown))) hR h0

theorem rowY_succ {w : World} {base k : Nat} {v : Value} {xs : List Value} (h : w.ownsRow base 9 1 v (k + 1) xs) : ∃ g c, v = .slice (some ⟨g, 0, none⟩) (k + 1) c := by
  rcases h.2 with ⟨_, hn⟩ | ⟨g, cap, cur, rfl, _, _, _, _⟩
  · first | omega | (simp at hn)
  · exact ⟨g, cap, rfl⟩
/-- What the loop of AppendSeq has behind the names that have come. -/
def KJ (n0 bo : Nat) (pre : List ByteArray) (W : World) : Prop := ∃ v, Boxed W bo 26 v ∧ OwnL W n0 v pre
theorem kj_own (n0 bo : Nat) : Go.Own (fun (pre : List ByteArray) W => KJ n0 bo pre W) := by
  intro s X Y row hs hg hr
  obtain ⟨v, h1, h2⟩ := hs
  exact ⟨v, boxed_own (β := Unit) _ _ (fun _ => v) () X Y row h1 hg hr, h2.kept hg hr⟩

set_option maxRecDepth 100000 in
set_option maxHeartbeats 2000000 in
theorem k_append (Bm b nn : Nat) (D : DataW Value) (S : List Mn) (w : World) (hBm : Bm < w.heap.size) (hm : w.cell? ⟨Bm, 0, none⟩ = some (.map (some b))) (hown : w.ownsMap Try.prog 9 RpM b nn D) (hR : RelM D S) (hy : S.length ≤ 1000) :
    Calls Try.prog 46 #[.slice none 0 0, .func (.func 38) #[] #[.pointer (some ⟨Bm, 0, none⟩)]] w fun e w' => ∃ v zs, e = .returned v ∧ AnyK S zs ∧ OwnL w' w.heap.size v zs ∧ Below w.heap.size w w' := by
  have hbl := ownsMapM_lt hown
  have HT := Lib.hid (fun n W0 (hb : Below w.heap.size w W0) => k_stops n Bm b nn D S W0 (Nat.lt_of_lt_of_le hBm hb.size) ((hb.cell (p := ⟨Bm, 0, none⟩) hBm).trans hm) (ownsMapM_block hown (hb.block b hbl)) hR)
  clear hown hR hm
  refine (callsIn_wide (n := 5)).1 ?_
  refine callsIn_of_wp_marks Try.func46 rfl trivial ?_ rfl
  simp only [Try.ntmps46, List.size_toArray, List.length_cons, List.length_nil, Nat.reduceAdd, Nat.reduceSub, Array.replicate_succ, Array.replicate_zero, List.push_toArray, List.append_toArray, List.nil_append, List.cons_append]
  gi_wp2
  have bO := Boxed.new w 26 (.slice none 0 0)
  have hB0 : Below w.heap.size w (w.alloc (.cells #[.slice none 0 0] 26)) := one_new w _
  refine wpIn_rangeFunc_ownG rfl (by omega) (gf := 38) (lb := #[.pointer (some ⟨Bm, 0, none⟩)]) rfl trivial (enters_of Try.func38 (by kernel_rfl) rfl)
    (HT.out _ _ hB0) walksK_t walksK_b (Below.refl _ _) (fun _ => rfl)
    (fun pre W => KJ w.heap.size w.heap.size pre W ∧ Below w.heap.size w W)
    (fun _ _ _ => False)
    (OwnFrom.and (Own.from (kj_own _ _) _) (ownFrom_below (Nat.le_refl _) (by simp)))
    (fun _ _ _ _ _ hs _ _ => hs)
    ⟨⟨_, bO, OwnL.nil _ _⟩, hB0⟩
    (fun x => { tmps := #[.slice none 0 0, .func (.func 38) #[] #[.pointer (some ⟨Bm, 0, none⟩)], .pointer (some ⟨w.heap.size, 0, none⟩), undef, .slice none 0 0, .string x, .func (.func 38) #[] #[.pointer (some ⟨Bm, 0, none⟩)], .string x, undef, undef, undef, undef, undef], defers := [] }) ?assign ?body ?done ?stop
  case assign =>
    intro l x W K hK
    gi_wp2
    exact hK
  case body =>
    rintro lb pre x W ⟨⟨v, bo, hown⟩, hB⟩ hpl
    obtain ⟨i, hi, hz, hsize, hby⟩ := info_parts info_X
    have cb := bo.cell
    have hsz := hB.size
    have H1 := Lib.hid bo
    have H2 := Lib.hid hown
    have HB := Lib.hid hB
    have H3 := Lib.hid (World.ownsRow.alloc hown (.cells #[.string x] 9))
    have hpl2 : pre.length < 1000 := by omega
    clear bo hown hB
    gi_wp2_with (gi_at_builtin; refine wpListIn_append_own _ rfl (.tmp 8) (.tmp 10) 26 rfl w.heap.size 9 i _ 1 16 Try.underlying26 hi hz hsize hby rfl (by omega) v pre.length (pre.map Value.string) rfl H3.out ⟨W.heap.size, 0, none⟩ 1 1 [.string x] rfl rfl (lit_X W _ _) (by simp [Value.oneCell']) (by unfold maxLen; omega) (by omega) (by simp; omega) ?_; intro v' w5 hown' hgrow _; obtain ⟨g', cap', hv'⟩ := rowY_succ hown'; subst hv'; have happ := Boxed.appended (W := W) (w1 := w5) H1.out (by decide) H2.out (by omega) (by omega) hown' hgrow; obtain ⟨q1, q2, q3, q4, q5⟩ := happ; have cQ := q1.cell; have fQ := q1.frozen)
    refine ⟨q4.from _, q4.walks, ⟨_, q2, ?_⟩, HB.out.trans q5⟩
    unfold OwnL
    rw [List.length_append, List.map_append]
    exact q3
  case done =>
    rintro D zs W hD hzs ⟨⟨v, bo, hown⟩, hB⟩ hK
    have cb := bo.cell
    have HK := Lib.hid hK
    have HBW := Lib.hid hB
    have HZ := Lib.hid hzs
    have hown2 := ownsRow_putObj hown (.deferred none) hK rfl
    have HO2 := Lib.hid hown2
    have hD' : w.heap.size + 1 ≤ D := by simpa using hD
    clear bo hown hB hK hown2 hzs
    gi_wp2
    refine ⟨by simp, .inl ⟨_, _, rfl, run_takeDeferred HK.out, ?_⟩⟩
    exact ⟨_, results_tmp rfl _ _ _, v, zs, rfl, HZ.out, HO2.out, HBW.out.trans (belowK_b (w := w) (Nat.le_refl _) W D _ (.deferred none) (by omega) HK.out rfl rfl)⟩
  case stop =>
    rintro D c pre W _ _ h _
    exact h.elim

set_option maxHeartbeats 1000000 in
theorem k_collect (Bm b nn : Nat) (D : DataW Value) (S : List Mn) (w : World) (hBm : Bm < w.heap.size) (hm : w.cell? ⟨Bm, 0, none⟩ = some (.map (some b))) (hown : w.ownsMap Try.prog 9 RpM b nn D) (hR : RelM D S) (hy : S.length ≤ 1000) :
    Calls Try.prog 37 #[.func (.func 38) #[] #[.pointer (some ⟨Bm, 0, none⟩)]] w fun e w' => ∃ v zs, e = .returned v ∧ AnyK S zs ∧ OwnL w' w.heap.size v zs ∧ Below w.heap.size w w' := by
  have HA := Lib.hid (k_append Bm b nn D S w hBm hm hown hR hy)
  clear hown hR hm
  go_enter Try.func37, Try.ntmps37
  go_wp2_with fail
  refine HA.out.mono ?_
  rintro e w1 ⟨v, zs, rfl, hz, hown, hb⟩
  have HO := Lib.hid hown
  have HB := Lib.hid hb
  have HZ := Lib.hid hz
  clear hown hb hz
  go_wp2
  go_ret
  exact ⟨v, zs, rfl, HZ.out, HO.out, HB.out⟩

/-- Any order of a map's names sorts to one list. -/
theorem any_sorted {S : List Mn} {zs : List ByteArray} (hz : AnyK S zs) {l : List Rl} (hk : ∀ s, (findM S s).isSome = hasX s (nms l)) : (srtL zs).map ofL = sortN (nms l) := by
  have hmem : ∀ y, y ∈ (srtL zs).map ofL ↔ y ∈ zs := fun y => by
    unfold srtL
    constructor
    · intro h
      obtain ⟨x, hx, rfl⟩ := List.mem_map.1 h
      rw [List.mem_mergeSort] at hx
      obtain ⟨z, hz2, rfl⟩ := List.mem_map.1 hx
      exact hz2
    · intro h
      refine List.mem_map.2 ⟨byL y, ?_, rfl⟩
      rw [List.mem_mergeSort]
      exact List.mem_map.2 ⟨y, h, rfl⟩
  refine sortedS_one _ _ ?_ (sortN_srt _) fun y => ?_
  · unfold SrtS
    rw [List.pairwise_map]
    refine List.pairwise_iff_getElem.2 fun i j hi hj hij => ?_
    have h1 := srtL_up zs i j hij hj
    rw [getElem!_pos (srtL zs) i hi, getElem!_pos (srtL zs) j hj] at h1
    have hnd : (srtL zs).Nodup := by
      unfold srtL
      rw [(List.mergeSort_perm _ _).nodup_iff]
      exact List.pairwise_map.2 (List.Pairwise.imp (fun h e => h (by have := congrArg ofL e; exact this)) hz.2.1)
    have hne := List.pairwise_iff_getElem.1 hnd i j hi hj hij
    have h2 : ¬ cmpS (ofL (srtL zs)[j]) (ofL (srtL zs)[i]) < 0 := fun h => h1 ((lt_by _ _).2 h)
    have h3 := cmpS_antiY (ofL (srtL zs)[i]) (ofL (srtL zs)[j])
    have h4 : cmpS (ofL (srtL zs)[i]) (ofL (srtL zs)[j]) ≠ 0 := fun h => hne (by have := cmpS_eqY _ _ h; exact congrArg byL this)
    omega
  · rw [hmem, hz.2.2 y, hk y, hasX_iff, sortN_mem]

set_option maxRecDepth 100000 in
set_option maxHeartbeats 2000000 in
theorem k_sorted (Bm b nn : Nat) (D : DataW Value) (S : List Mn) (l : List Rl) (w : World) (hBm : Bm < w.heap.size) (hm : w.cell? ⟨Bm, 0, none⟩ = some (.map (some b))) (hown : w.ownsMap Try.prog 9 RpM b nn D) (hR : RelM D S) (hy : S.length ≤ 1000) (hk : ∀ s, (findM S s).isSome = hasX s (nms l)) :
    Calls Try.prog 23 #[.func (.func 38) #[] #[.pointer (some ⟨Bm, 0, none⟩)]] w fun e w' => ∃ v, e = .returned v ∧ OwnL w' w.heap.size v (sortN (nms l)) ∧ (sortN (nms l)).length = S.length ∧ Below w.heap.size w w' := by
  have HC := Lib.hid (k_collect Bm b nn D S w hBm hm hown hR hy)
  have HK := Lib.hid hk
  have hdist := hR.2.2.2
  have HD := Lib.hid hdist
  clear hown hR hm hk hdist
  go_enter Try.func23, Try.ntmps23
  go_wp2_with fail
  refine HC.out.mono ?_
  rintro e w1 ⟨v, zs, rfl, hz, hown, hb⟩
  have HAS := Lib.hid (any_sorted hz HK.out)
  have hzl : zs.length = S.length := by
    have hnd : (S.map (·.1)).Nodup := List.pairwise_map.2 HD.out
    have hp : zs.Perm (S.map (·.1)) := (List.perm_ext_iff_of_nodup hz.2.1 hnd).2 fun s => by
      rw [hz.2.2 s]
      constructor
      · intro h
        obtain ⟨x, hx⟩ := Option.isSome_iff_exists.1 h
        obtain ⟨h1, h2⟩ := findM_some hx
        exact List.mem_map.2 ⟨x, h1, h2⟩
      · intro h
        obtain ⟨x, hx, rfl⟩ := List.mem_map.1 h
        cases hf : findM S x.1 with
        | none => exact absurd rfl (findM_none hf x hx)
        | some y => rfl
    have := hp.length_eq
    rwa [List.length_map] at this
  have hsl : (sortN (nms l)).length = S.length := by
    rw [← HAS.out, List.length_map, srtL_len, hzl]
  have HSL := Lib.hid hsl
  have HB := Lib.hid hb
  have hl1000 : zs.length ≤ 1000 := by omega
  clear hz hsl hzl
  rcases hown.2 with ⟨rfl, hn⟩ | ⟨g, cap, cur, rfl, hbg, hbk, h1, h2, h3, h4⟩
  · have e : zs = [] := List.length_eq_zero_iff.1 hn
    subst e
    have hnil : sortN (nms l) = [] := by
      rw [← HAS.out]
      have : srtL [] = [] := List.length_eq_zero_iff.1 (srtL_len [])
      rw [this]
      rfl
    have HN := Lib.hid hnil
    clear hnil hn hown hb
    go_wp2_with fail
    refine (Try.slices_Sort_string_none none 0 w1).mono ?_
    rintro e w2 ⟨rfl, rfl⟩
    go_wp2
    go_ret
    exact ⟨_, rfl, by rw [HN.out]; exact OwnL.nil _ _, HSL.out, HB.out⟩
  · have hg : g < w1.heap.size := (Array.getElem?_eq_some_iff.1 hbk).1
    have hH : Holds encStr w1 g 0 (zs.map byL).toArray := holds_of_block hbk (by rw [List.length_map, map_by]; simpa using h4)
    have hS := Try.slices_Sort_string g 0 cap (zs.map byL) w1 hH hg (by rw [List.length_map]; omega)
    rw [List.length_map] at hS
    have HS := Lib.hid hS
    have hown1 : ∀ n os, (grow (putRow encStr (Sort.ahead w1 n) g 0 (srtL zs).toArray) os).ownsRow w.heap.size 9 1 (.slice (some ⟨g, 0, none⟩) (zs.map byL).length cap) (zs.map byL).length ((srtL zs).map encStr) := fun n os =>
      ownsRow_sorted (by rw [srtL_len, List.length_map]) hbg hbk (by rw [List.length_map]; exact h1) h2 h3
    have hbl : ∀ n os, Below w.heap.size w1 (grow (putRow encStr (Sort.ahead w1 n) g 0 (srtL zs).toArray) os) := fun n os => (Below.refl _ _).grown (grownBy_sorted _) hb.size (fun k hk => by injection hk with hk; omega)
    have HO := Lib.hid hown1
    have HBL := Lib.hid hbl
    clear hS hown1 hbl hown h3 h4 hH hb
    go_wp2_with fail
    refine HS.out.mono ?_
    rintro e w2 ⟨rfl, n, os, hw⟩
    have ho := HO.out n os
    have hb2 := HBL.out n os
    have hw' : w2 = grow (putRow encStr (Sort.ahead w1 n) g 0 (srtL zs).toArray) os := hw
    rw [← hw'] at ho hb2
    have hfin : OwnL w2 w.heap.size (.slice (some ⟨g, 0, none⟩) zs.length cap) (sortN (nms l)) := by
      unfold OwnL
      rw [← HAS.out, List.length_map, srtL_len, List.map_map]
      rw [List.length_map] at ho
      exact ho
    have HF := Lib.hid hfin
    have HB2 := Lib.hid (HB.out.trans hb2)
    clear hw hw' HO HBL HS ho hb2 hfin
    go_wp2
    go_ret
    exact ⟨_, rfl, HF.out, HSL.out, HB2.out⟩
end Go.Proofs.Ytojpccngcicbmaa
