/-
  Merge of package bag: each row of another bag comes, so many times; where one would be there too often nothing is changed.
  No condition but that the bags have no more rows than fits.
-/
import Derived.Test.YtbenpcnmkhmkbaaMpure
import Derived.Test.YtbenpcnmkhmkbaaBsame
namespace Go.Proofs.Ytbenpcnmkhmkbaa
open Go.RowKit Go.Shelf

attribute [local go_sem] Oper.semAt_some

theorem far_cell (w : World) {b b' : Nat} (h : b ≠ b') (v : Value) (i : Nat) : (w.setCell ⟨b', 0, none⟩ v).cell? ⟨b, i, none⟩ = w.cell? ⟨b, i, none⟩ := World.cell?_of_block (w := w) (Below.heap_setCell w _ v b h)
theorem mstep_over (times : Int) (s : List En × Int) (e : En) (k : Int) (l : List En) (h0 : s.2 = 0) (hk : e.2 * times = k) (hl : l = s.1) (hov : k < -1073741824 - manyL e.1 l ∨ 1073741824 - manyL e.1 l < k) : mstep times s e = (s.1, 10) := by
  subst hk hl
  unfold mstep
  rw [if_pos h0, if_pos hov]
theorem mstep_ok (times : Int) (s : List En × Int) (e : En) (k : Int) (l : List En) (h0 : s.2 = 0) (hk : e.2 * times = k) (hl : l = s.1) (hov : ¬ (k < -1073741824 - manyL e.1 l ∨ 1073741824 - manyL e.1 l < k)) : mstep times s e = (setL e.1 (manyL e.1 l + k) l, 0) := by
  subst hk hl
  unfold mstep
  rw [if_pos h0, if_neg hov]
/-- What a Merge by times that can be makes. -/
def mres (times : Int) (l o : List En) : List En × Int := if (mergeS times l o).2 = 0 then ((mergeS times l o).1, 0) else (l, 10)
/-- Blocks of Q, less a loop's own boxes. -/
def Less (Q : Nat → Prop) (s k : Nat) : Prop := Q k ∧ (k < s ∨ s + 4 ≤ k)

/-- What a loop of Merge has behind the rows that have come: its boxes, and the tree so far. -/
def MI (w : World) (Q : Nat → Prop) (times : Int) (l : List En) (pre : List En) (W : World) : Prop :=
  ∃ p t, Boxed W (w.heap.size + 2) 82 (.pointer p) ∧ TreeAt W (Less Q w.heap.size) p t ∧ t.toL = (mergeS times l pre).1 ∧ (mergeS times l pre).2 = 0
theorem mi_own (w : World) (Q : Nat → Prop) (times : Int) (l : List En) {α : Type} (f : List α → List En) : Go.Own (fun (pre : List α) W => MI w Q times l (f pre) W) := by
  intro s X Y row hs hg hr
  obtain ⟨p, t, h1, h2, h3, h4⟩ := hs
  exact ⟨p, t, boxed_own (β := Unit) _ _ (fun _ => Value.pointer p) () X Y row h1 hg hr, TreeAt.kept hg hr h2, h3, h4⟩

set_option maxRecDepth 100000 in
set_option maxHeartbeats 4000000 in
theorem b_merge_ok (Q : Nat → Prop) (g : Nat) (po : Option Addr) (l o : List En) (times : Int) (w : World) (hQ : ∀ k, w.heap.size ≤ k → Q k) (hg : ¬ Q g) (hb : BagL w Q g l) (go : Nat) (hpo : po = some ⟨go, 0, none⟩) (ho : BagL w Q go o) (ht : -1073741824 ≤ times ∧ times ≤ 1073741824) (hlen : l.length + o.length ≤ 700000) :
    Calls Try.prog 34 #[.pointer (some ⟨g, 0, none⟩), .pointer po, .int .i64 times] w (Changes w Q g (mres times l o)) := by
  subst hpo
  obtain ⟨hgo, p0, t0, htl, hbox, hT⟩ := hb
  obtain ⟨hgoo, q, t0o, htl2, hbox2, hT2⟩ := ho
  obtain ⟨xs, hnds, hxs⟩ := nds_of (by rw [htl2]; exact hgoo.ok) hT2
  have HQ := Lib.hid hQ
  have HG := Lib.hid hg
  have HGO := Lib.hid hgo
  have HGO2 := Lib.hid hgoo
  have HTL := Lib.hid htl
  have HT := Lib.hid hT
  have HBX := Lib.hid hbox
  have HN := Lib.hid hnds
  have HXS := Lib.hid (hxs.trans htl2)
  have hglt := hbox.lt
  have hglt2 := hbox2.lt
  have cg := hbox.cell
  have cg2 := hbox2.cell
  have HLEN := Lib.hid hlen
  obtain ⟨ht1, ht2⟩ := ht
  have hd1 : decide (times < -1073741824) = false := by simp; omega
  have hd2 : decide (1073741824 < times) = false := by simp; omega
  have hgo1 : go < w.heap.size + 1 := by omega
  have hgo2 : go < w.heap.size + 1 + 1 := by omega
  have hgo3 : go < w.heap.size + 1 + 1 + 1 := by omega
  have hgo4 : go < w.heap.size + 1 + 1 + 1 + 1 := by omega
  clear hQ hg hgo hgoo htl htl2 hT hT2 hbox hbox2 hnds hxs hlen
  refine (callsIn_wide (n := 5)).1 ?_
  refine callsIn_of_wp_marks Try.func34 rfl trivial ?_ rfl
  simp only [Try.ntmps34, List.size_toArray, List.length_cons, List.length_nil, Nat.reduceAdd, Nat.reduceSub, Array.replicate_succ, Array.replicate_zero, List.push_toArray, List.append_toArray, List.nil_append, List.cons_append]
  gi_wp2_with fail
  refine ⟨trivial, ?_⟩
  refine (callsIn_wide.2 (all_in q _)).mono ?_
  rintro e w1 ⟨rfl, rfl⟩
  gi_wp2_with fail
  have bT : Boxed (((((w.alloc (.cells #[.int .i64 times] 2)).alloc (.cells #[.int .i64 0] 36)).alloc (.cells #[.pointer p0] 82)).alloc (.cells #[.int .i64 0] 36)).alloc (.cells #[.pointer q] 82)) w.heap.size 2 (.int .i64 times) := ((((Boxed.new w _ _).alloc _).alloc _).alloc _).alloc _
  have bR : Boxed (((((w.alloc (.cells #[.int .i64 times] 2)).alloc (.cells #[.int .i64 0] 36)).alloc (.cells #[.pointer p0] 82)).alloc (.cells #[.int .i64 0] 36)).alloc (.cells #[.pointer q] 82)) (w.heap.size + 1) 36 (.int .i64 0) := by
    have h := Boxed.new (w.alloc (.cells #[.int .i64 times] 2)) 36 (.int .i64 0)
    rw [World.size_alloc] at h
    exact ((h.alloc _).alloc _).alloc _
  have bO : Boxed (((((w.alloc (.cells #[.int .i64 times] 2)).alloc (.cells #[.int .i64 0] 36)).alloc (.cells #[.pointer p0] 82)).alloc (.cells #[.int .i64 0] 36)).alloc (.cells #[.pointer q] 82)) (w.heap.size + 2) 82 (.pointer p0) := by
    have h := Boxed.new ((w.alloc (.cells #[.int .i64 times] 2)).alloc (.cells #[.int .i64 0] 36)) 82 (.pointer p0)
    rw [World.size_alloc, World.size_alloc] at h
    exact (h.alloc _).alloc _
  have bY : Boxed (((((w.alloc (.cells #[.int .i64 times] 2)).alloc (.cells #[.int .i64 0] 36)).alloc (.cells #[.pointer p0] 82)).alloc (.cells #[.int .i64 0] 36)).alloc (.cells #[.pointer q] 82)) (w.heap.size + 3) 36 (.int .i64 0) := by
    have h := Boxed.new (((w.alloc (.cells #[.int .i64 times] 2)).alloc (.cells #[.int .i64 0] 36)).alloc (.cells #[.pointer p0] 82)) 36 (.int .i64 0)
    rw [World.size_alloc, World.size_alloc, World.size_alloc] at h
    exact h.alloc _
  have bQ : Boxed (((((w.alloc (.cells #[.int .i64 times] 2)).alloc (.cells #[.int .i64 0] 36)).alloc (.cells #[.pointer p0] 82)).alloc (.cells #[.int .i64 0] 36)).alloc (.cells #[.pointer q] 82)) (w.heap.size + 4) 82 (.pointer q) := by
    have h := Boxed.new ((((w.alloc (.cells #[.int .i64 times] 2)).alloc (.cells #[.int .i64 0] 36)).alloc (.cells #[.pointer p0] 82)).alloc (.cells #[.int .i64 0] 36)) 82 (.pointer q)
    rw [World.size_alloc, World.size_alloc, World.size_alloc, World.size_alloc] at h
    exact h
  have hB0 : Below w.heap.size w (((((w.alloc (.cells #[.int .i64 times] 2)).alloc (.cells #[.int .i64 0] 36)).alloc (.cells #[.pointer p0] 82)).alloc (.cells #[.int .i64 0] 36)).alloc (.cells #[.pointer q] 82)) := ((((one_new w _).alloc (by simp) _).alloc (by simp; omega) _).alloc (by simp; omega) _).alloc (by simp; omega) _
  refine wpIn_rangeFunc_ownG rfl (by omega) (gf := 95) (lb := #[.pointer (some ⟨w.heap.size + 1 + 1 + 1 + 1, 0, none⟩)]) rfl trivial (enters_of Try.func95 (by kernel_rfl) rfl)
    (all_stops Fence.wide (Lib.hid rfl) rfl _ trivial trivial rfl w Q (w.heap.size + 1 + 1 + 1 + 1) q t0o xs _ (by simp) hB0 bQ.cell HN.out) belowK_t (belowK_b (by simp; omega)) (Below.refl _ _) (fun _ => rfl)
    (fun pre W => (Boxed W w.heap.size 2 (.int .i64 times) ∧ Boxed W (w.heap.size + 1) 36 (.int .i64 0) ∧ Boxed W (w.heap.size + 3) 36 (.int .i64 0)) ∧ MI w Q times l (pre.map fun x => x.1.2) W ∧ Below w.heap.size w W)
    (fun c pre W => (c = .ret ∧ Boxed W (w.heap.size + 1) 36 (.int .i64 10)) ∧ Hid ((mergeS times l (pre.map fun x => x.1.2)).2 = 10) ∧ Below w.heap.size w W)
    (OwnFrom.and (OwnFrom.and (Own.from (boxed_own _ _ _) _) (OwnFrom.and (Own.from (boxed_own _ _ _) _) (Own.from (boxed_own _ _ _) _))) (OwnFrom.and (Own.from (mi_own w Q times l _) _) (ownFrom_below (Nat.le_refl _) (by simp; omega))))
    (fun c => OwnFrom.and (OwnFrom.and (ownFrom_pure _ _) (Own.from (boxed_own _ _ _) _)) (OwnFrom.and (ownFrom_pure _ _) (ownFrom_below (Nat.le_refl _) (by simp; omega))))
    ⟨⟨bT, bR, bY⟩, ⟨p0, t0, bO, (HT.out.imp (fun k hk hq => ⟨hq, Or.inl hk⟩)).below hB0, HTL.out, rfl⟩, hB0⟩
    (fun x => { tmps := #[.pointer (some ⟨g, 0, none⟩), .pointer (some ⟨go, 0, none⟩), .int .i64 times, undef, undef, .pointer (some ⟨w.heap.size, 0, none⟩), .pointer (some ⟨w.heap.size + 1, 0, none⟩), .pointer (some ⟨w.heap.size + 1 + 1, 0, none⟩), .pointer (some ⟨w.heap.size + 1 + 1 + 1, 0, none⟩), .pointer (some ⟨x.1.1, 0, none⟩), .bool false, .pointer (some ⟨g, 0, none⟩), .bool false, .bool false, .pointer (some ⟨go, 0, none⟩), .bool false, .bool false, .bool false, .int .i64 times, .bool false, .bool false, .int .i64 times, .bool false, .bool false, .pointer (some ⟨g, 0, none⟩), .pointer (some ⟨g, 0, none⟩), .pointer (some ⟨g, 0, none⟩), .pointer p0, .pointer (some ⟨go, 0, none⟩), .pointer (some ⟨go, 0, none⟩), .pointer (some ⟨go, 0, none⟩), .pointer q, .func (.func 95) #[] #[.pointer (some ⟨w.heap.size + 1 + 1 + 1 + 1, 0, none⟩)], .pointer (some ⟨x.1.1, 0, none⟩), undef, undef, undef, undef, undef, undef, undef, undef, undef, undef, undef, undef, undef, undef, undef, undef, undef, undef, undef, undef, undef, undef, undef, undef], defers := [] }) ?assign ?body ?done ?stop
  case assign =>
    intro l x W K hK
    gi_wp2
    exact hK
  case body =>
    rintro lb pre x W ⟨⟨b1, b2, b4⟩, ⟨p, t, b3, htree, htl, herr⟩, hB⟩ hpl
    obtain ⟨rv, hrow, c0, c1, hxlt⟩ := nd_in x hB
    obtain ⟨hxr, hxf⟩ := x.2.2
    have hxb := (fewN_iff _).1 hxf
    have cb := b1.cell
    have cr := b3.cell
    have HRW := Lib.hid hrow
    obtain ⟨_, A', c', rfl, _, _⟩ := hrow
    have HBW := Lib.hid hB
    have HTA := Lib.hid htree
    have HTT := Lib.hid htl
    have HER := Lib.hid herr
    have HB1 := Lib.hid b1
    have HB2 := Lib.hid b2
    have HB3 := Lib.hid b3
    have HB4 := Lib.hid b4
    have hsz := hB.size
    have hk0 := b1.lt
    have hk1 := b2.lt
    have hk2' := b3.lt
    have hk3 := b4.lt
    have hxlt' : x.1.1 < W.heap.size := by omega
    clear b1 b2 b3 b4 hB htree htl herr
    have hkb := prod_bound x.1.2.2 times hxb ⟨ht1, ht2⟩
    have hwr : IntKind.i64.wrap (x.1.2.2 * times) = x.1.2.2 * times := IntWalk.i64_in _ (by omega)
    have HPR := Lib.hid (mergeS_snoc times l (pre.map fun x => x.1.2) x.1.2)
    have hgood := mergeS_good times l (pre.map fun x => x.1.2) HGO.out (by
      intro e he
      obtain ⟨y, _, rfl⟩ := List.mem_map.1 he
      exact y.2.2.1)
    have hcnt := mergeS_len times l (pre.map fun x => x.1.2)
    rw [List.length_map] at hcnt
    have hxl : xs.length = o.length := by rw [← HXS.out, List.length_map]
    have hlen := HLEN.out
    have HTT2 := Lib.hid HTT.out
    generalize hk : x.1.2.2 * times = k at *
    have HKK := Lib.hid hk
    generalize hms : mergeS times l (pre.map fun x => x.1.2) = ms at *
    have HMS := Lib.hid hms
    have hcn : t.toL.length ≤ 800000 := by rw [HTT2.out]; omega
    have HCN := Lib.hid hcn
    have hgt : Good t.toL := by rw [HTT2.out]; exact hgood
    have HGT := Lib.hid hgt
    have hk2 : -9223372036854775808 ≤ k ∧ k ≤ 9223372036854775807 := by omega
    clear hk hms hgood hcnt hxl hlen hcn hgt
    by_cases hov : k < -1073741824 - manyL x.1.2.1 t.toL ∨ 1073741824 - manyL x.1.2.1 t.toL < k
    · have HP := Lib.hid (plusT_over x.1.2.1 k t HGT.out hov)
      have HOV := Lib.hid hov
      clear hov
      gi_wp2_with fail
      refine region_round (S := fun w' => w'.cell? { block := w.heap.size, off := 0 } = some (.int .i64 times) ∧ w'.cell? { block := x.1.1, off := 0 } = some (.slice A' x.1.2.1.length c') ∧ w'.cell? { block := x.1.1, off := 1 } = some (.int .i64 x.1.2.2)) (by kernel_rfl) (by kernel_rfl) ⟨cb, c0, c1⟩ (fun hHeld => ?_)
      change wpAnyH _ _ _ _ _ 19 (Array.replicate 19 false) _ _
      refine' take_at (i := 1) rfl rfl (by kernel_rfl) (by kernel_rfl) (by kernel_rfl) (by rfl) ?hy1 (by assumption) ?rest1
      case hy1 => (intro w hSw; (try dsimp only at hSw); go_simp; (first | done | rfl))
      simp only [List.setIfInBounds_toArray, List.set_cons_zero, List.set_cons_succ]
      refine' take_at (i := 2) rfl rfl (by kernel_rfl) (by kernel_rfl) (by kernel_rfl) (by rfl) ?hy2 (by assumption) ?rest2
      case hy2 => (intro w hSw; (try dsimp only at hSw); go_simp; (first | done | rfl))
      simp only [List.setIfInBounds_toArray, List.set_cons_zero, List.set_cons_succ]
      refine' take_at (i := 3) rfl rfl (by kernel_rfl) (by kernel_rfl) (by kernel_rfl) (by rfl) ?hy3 (by assumption) ?rest3
      case hy3 => (intro w hSw; (try dsimp only at hSw); go_simp; (first | done | rfl))
      simp only [List.setIfInBounds_toArray, List.set_cons_zero, List.set_cons_succ]
      refine' take_at (i := 4) rfl rfl (by kernel_rfl) (by kernel_rfl) (by kernel_rfl) (by rfl) ?hy4 (by assumption) ?rest4
      case hy4 => (intro w hSw; (try dsimp only at hSw); go_simp; (first | done | rfl))
      simp only [List.setIfInBounds_toArray, List.set_cons_zero, List.set_cons_succ]
      refine' take_at (i := 5) rfl rfl (by kernel_rfl) (by kernel_rfl) (by kernel_rfl) (by rfl) ?hy5 (by assumption) ?rest5
      case hy5 => (intro w hSw; (try dsimp only at hSw); go_simp; (first | done | rfl))
      simp only [List.setIfInBounds_toArray, List.set_cons_zero, List.set_cons_succ]
      refine' take_at (i := 6) rfl rfl (by kernel_rfl) (by kernel_rfl) (by kernel_rfl) (by rfl) ?hy6 (by assumption) ?rest6
      case hy6 => (intro w hSw; (try dsimp only at hSw); go_simp; (first | done | rfl))
      simp only [List.setIfInBounds_toArray, List.set_cons_zero, List.set_cons_succ]
      refine' take_at (i := 7) rfl rfl (by kernel_rfl) (by kernel_rfl) (by kernel_rfl) (by rfl) ?hy7 (by assumption) ?rest7
      case hy7 => (intro w hSw; (try dsimp only at hSw); go_simp; (first | done | rfl))
      simp only [List.setIfInBounds_toArray, List.set_cons_zero, List.set_cons_succ]
      refine' take_at (i := 8) rfl rfl (by kernel_rfl) (by kernel_rfl) (by kernel_rfl) (by rfl) ?hy8 (by assumption) ?rest8
      case hy8 => (intro w hSw; (try dsimp only at hSw); go_simp; (first | done | rfl))
      simp only [List.setIfInBounds_toArray, List.set_cons_zero, List.set_cons_succ]
      refine' take_at (i := 9) rfl rfl (by kernel_rfl) (by kernel_rfl) (by kernel_rfl) (by rfl) ?hy9 (by assumption) ?rest9
      case hy9 => (intro w hSw; (try dsimp only at hSw); go_simp; (first | done | rfl))
      simp only [List.setIfInBounds_toArray, List.set_cons_zero, List.set_cons_succ]
      refine' take_at (i := 10) rfl rfl (by kernel_rfl) (by kernel_rfl) (by kernel_rfl) (by rfl) ?hy10 (by assumption) ?rest10
      case hy10 => (intro w hSw; (try dsimp only at hSw); go_simp; (first | done | rfl))
      simp only [List.setIfInBounds_toArray, List.set_cons_zero, List.set_cons_succ]
      refine' take_at (i := 11) rfl rfl (by kernel_rfl) (by kernel_rfl) (by kernel_rfl) (by rfl) ?hy11 (by assumption) ?rest11
      case hy11 => (intro w hSw; (try dsimp only at hSw); go_simp; (first | done | rfl))
      simp only [List.setIfInBounds_toArray, List.set_cons_zero, List.set_cons_succ]
      refine' take_at (i := 12) rfl rfl (by kernel_rfl) (by kernel_rfl) (by kernel_rfl) (by rfl) ?hy12 (by assumption) ?rest12
      case hy12 => (intro w hSw; (try dsimp only at hSw); go_simp; (first | done | rfl))
      simp only [List.setIfInBounds_toArray, List.set_cons_zero, List.set_cons_succ]
      rw [HKK.out, hwr]
      refine' next_at (i := 0) (by kernel_rfl) rfl (by rfl) ?_
      intro K hK
      go_simp
      refine hK.out _ _ ⟨hHeld.1, hHeld.2.1, hHeld.2.2⟩ (fun _ => ?_)
      clear hK K
      refine' next_at (i := 13) (by kernel_rfl) rfl (by rfl) ?_
      intro K hK
      go_simp
      refine (t_plus Q _ x.1.2.1 k (Less Q w.heap.size) t p _ HGT.out.1 (by rw [Tr.many_toL _ t HGT.out.1]; exact HGT.out.many _) hk2 (fun j hj => ⟨HQ.out j (by simp at hj; omega), Or.inr (by simp at hj; omega)⟩) (HRW.out.below (below_drew _ _)) (HTA.out.below (below_drew _ _)) (by rw [← Tr.len_toL]; exact HCN.out)).mono ?_
      rintro e w1 ⟨q1, rfl, hT1, hbw⟩
      rw [HP.out] at hT1 ⊢
      have hbb := (below_drew W.heap.size W).trans hbw
      have hs2 : w1.cell? { block := w.heap.size, off := 0 } = some (.int .i64 times) := (cl_of hbb _ 0 hk0).trans cb
      have hs3 : w1.cell? { block := x.1.1, off := 0 } = some (.slice A' x.1.2.1.length c') := (cl_of hbb _ 0 hxlt').trans c0
      have hs4 : w1.cell? { block := x.1.1, off := 1 } = some (.int .i64 x.1.2.2) := (cl_of hbb _ 1 hxlt').trans c1
      have b3 := Boxed.below HB1.out hbb
      have b4 := Boxed.below HB2.out hbb
      have b5 := Boxed.below HB3.out hbb
      have b6 := Boxed.below HB4.out hbb
      have c5 := b5.cell
      have f5 := b5.frozen
      have c6 := b6.cell
      have f6 := b6.frozen
      have HBB := Lib.hid hbb
      have HC1 := Lib.hid b3
      have HC2 := Lib.hid b4
      have HC3 := Lib.hid b5
      have HC4 := Lib.hid b6
      have HT1 := Lib.hid hT1
      clear hbb hbw b3 b4 b5 b6 hT1
      refine hK.out _ _ ⟨hs2, hs3, hs4⟩ (fun hHeld2 => ?_)
      clear hK K hHeld
      refine' take_at (i := 14) rfl rfl (by kernel_rfl) (by kernel_rfl) (by kernel_rfl) (by rfl) ?hy13 (by assumption) ?rest13
      case hy13 => (intro w hSw; (try dsimp only at hSw); go_simp; (first | done | rfl))
      simp only [List.setIfInBounds_toArray, List.set_cons_zero, List.set_cons_succ]
      refine' take_at (i := 15) rfl rfl (by kernel_rfl) (by kernel_rfl) (by kernel_rfl) (by rfl) ?hy14 (by assumption) ?rest14
      case hy14 => (intro w hSw; (try dsimp only at hSw); go_simp; (first | done | rfl))
      simp only [List.setIfInBounds_toArray, List.set_cons_zero, List.set_cons_succ]
      refine' take_at (i := 16) rfl rfl (by kernel_rfl) (by kernel_rfl) (by kernel_rfl) (by rfl) ?hy15 (by assumption) ?rest15
      case hy15 => (intro w hSw; (try dsimp only at hSw); go_simp; (first | done | rfl))
      simp only [List.setIfInBounds_toArray, List.set_cons_zero, List.set_cons_succ]
      have n02 : w.heap.size ≠ w.heap.size + 1 + 1 := by omega
      have n03 : w.heap.size ≠ w.heap.size + 1 + 1 + 1 := by omega
      have n12 : w.heap.size + 1 ≠ w.heap.size + 1 + 1 := by omega
      have n13 : w.heap.size + 1 ≠ w.heap.size + 1 + 1 + 1 := by omega
      have n23 : w.heap.size + 1 + 1 ≠ w.heap.size + 1 + 1 + 1 := by omega
      have nx2 : x.1.1 ≠ w.heap.size + 1 + 1 := by omega
      have nx3 : x.1.1 ≠ w.heap.size + 1 + 1 + 1 := by omega
      refine' next_at (i := 17) (by kernel_rfl) rfl (by rfl) ?_
      intro K hK
      go_simp
      refine hK.out _ _ ⟨(far_cell _ n02 _ 0).trans hs2, (far_cell _ nx2 _ 0).trans hs3, (far_cell _ nx2 _ 1).trans hs4⟩ (fun _ => ?_)
      clear hK K
      have b6 := HC4.out.other (B' := w.heap.size + 1 + 1) (Ne.symm n23) (.pointer q1)
      have c7 := b6.cell
      have f7 := b6.frozen
      clear b6
      refine' next_at (i := 18) (by kernel_rfl) rfl (by rfl) ?_
      intro K hK
      go_simp
      refine hK.out _ _ ⟨(far_cell _ n03 _ 0).trans ((far_cell _ n02 _ 0).trans hs2), (far_cell _ nx3 _ 0).trans ((far_cell _ nx2 _ 0).trans hs3), (far_cell _ nx3 _ 1).trans ((far_cell _ nx2 _ 1).trans hs4)⟩ (fun _ => ?_)
      clear hK K
      refine all_done (by kernel_rfl) ?_
      clear c5 f5 c6 f6 c7 f7 hs2 hs3 hs4 hHeld2
      have d1 := (HC1.out.other (B' := w.heap.size + 1 + 1) n02 (.pointer q1)).other (B' := w.heap.size + 1 + 1 + 1) n03 (.int .i64 10)
      have d2 := (HC2.out.other (B' := w.heap.size + 1 + 1) n12 (.pointer q1)).other (B' := w.heap.size + 1 + 1 + 1) n13 (.int .i64 10)
      have d3 := (HC3.out.set (.pointer q1)).other (B' := w.heap.size + 1 + 1 + 1) n23 (.int .i64 10)
      have d4 := (HC4.out.other (B' := w.heap.size + 1 + 1) (Ne.symm n23) (.pointer q1)).set (.int .i64 10)
      have dk : KeepsOthers w1 ((w1.setCell ⟨w.heap.size + 1 + 1, 0, none⟩ (.pointer q1)).setCell ⟨w.heap.size + 1 + 1 + 1, 0, none⟩ (.int .i64 10)) := (KeepsOthers.setCell _ _ _).trans (KeepsOthers.setCell _ _ _)
      have db : Below w.heap.size w1 ((w1.setCell ⟨w.heap.size + 1 + 1, 0, none⟩ (.pointer q1)).setCell ⟨w.heap.size + 1 + 1 + 1, 0, none⟩ (.int .i64 10)) := ((Below.refl _ w1).setCell (p := ⟨w.heap.size + 1 + 1, 0, none⟩) (by simp; omega) _).setCell (p := ⟨w.heap.size + 1 + 1 + 1, 0, none⟩) (by simp; omega) _
      have dq : KeepQ (Less Q w.heap.size) w1 ((w1.setCell ⟨w.heap.size + 1 + 1, 0, none⟩ (.pointer q1)).setCell ⟨w.heap.size + 1 + 1 + 1, 0, none⟩ (.int .i64 10)) := by
        intro j hj _
        have h2 := hj.2
        rw [Below.heap_setCell _ _ _ _ (by show j ≠ w.heap.size + 1 + 1 + 1; omega), Below.heap_setCell _ _ _ _ (by show j ≠ w.heap.size + 1 + 1; omega)]
      generalize (w1.setCell ⟨w.heap.size + 1 + 1, 0, none⟩ (.pointer q1)).setCell ⟨w.heap.size + 1 + 1 + 1, 0, none⟩ (.int .i64 10) = w3 at *
      have e4 := d4.cell
      have e2 := d2.cell
      have g2 := d2.frozen
      have HD1 := Lib.hid d1
      have HD2 := Lib.hid d2
      have HD3 := Lib.hid d3
      have HD4 := Lib.hid d4
      have HDK := Lib.hid dk
      have HDB := Lib.hid db
      have HDQ := Lib.hid dq
      clear d1 d2 d3 d4 dk db dq
      gi_wp2
      exact ⟨((keeps_below HBB.out).trans (HDK.out.from _)).trans ((KeepsOthers.setCell _ _ _).from _), ⟨rfl, HD2.out.set _⟩, Lib.hid (by rw [List.map_append, List.map_singleton, HPR.out, mstep_over times ms x.1.2 k t.toL HER.out HKK.out HTT.out HOV.out]), ((HBW.out.trans (HBB.out.mono hsz)).trans HDB.out).setCell (p := ⟨w.heap.size + 1, 0, none⟩) (by simp) _⟩

    · have hpk := plusT_ok x.1.2.1 k t HGT.out hov
      have HOV := Lib.hid hov
      have HP := Lib.hid hpk.1
      have HPL := Lib.hid hpk.2
      clear hov hpk
      gi_wp2_with fail
      refine region_round (S := fun w' => w'.cell? { block := w.heap.size, off := 0 } = some (.int .i64 times) ∧ w'.cell? { block := x.1.1, off := 0 } = some (.slice A' x.1.2.1.length c') ∧ w'.cell? { block := x.1.1, off := 1 } = some (.int .i64 x.1.2.2)) (by kernel_rfl) (by kernel_rfl) ⟨cb, c0, c1⟩ (fun hHeld => ?_)
      change wpAnyH _ _ _ _ _ 19 (Array.replicate 19 false) _ _
      refine' take_at (i := 1) rfl rfl (by kernel_rfl) (by kernel_rfl) (by kernel_rfl) (by rfl) ?hy16 (by assumption) ?rest16
      case hy16 => (intro w hSw; (try dsimp only at hSw); go_simp; (first | done | rfl))
      simp only [List.setIfInBounds_toArray, List.set_cons_zero, List.set_cons_succ]
      refine' take_at (i := 2) rfl rfl (by kernel_rfl) (by kernel_rfl) (by kernel_rfl) (by rfl) ?hy17 (by assumption) ?rest17
      case hy17 => (intro w hSw; (try dsimp only at hSw); go_simp; (first | done | rfl))
      simp only [List.setIfInBounds_toArray, List.set_cons_zero, List.set_cons_succ]
      refine' take_at (i := 3) rfl rfl (by kernel_rfl) (by kernel_rfl) (by kernel_rfl) (by rfl) ?hy18 (by assumption) ?rest18
      case hy18 => (intro w hSw; (try dsimp only at hSw); go_simp; (first | done | rfl))
      simp only [List.setIfInBounds_toArray, List.set_cons_zero, List.set_cons_succ]
      refine' take_at (i := 4) rfl rfl (by kernel_rfl) (by kernel_rfl) (by kernel_rfl) (by rfl) ?hy19 (by assumption) ?rest19
      case hy19 => (intro w hSw; (try dsimp only at hSw); go_simp; (first | done | rfl))
      simp only [List.setIfInBounds_toArray, List.set_cons_zero, List.set_cons_succ]
      refine' take_at (i := 5) rfl rfl (by kernel_rfl) (by kernel_rfl) (by kernel_rfl) (by rfl) ?hy20 (by assumption) ?rest20
      case hy20 => (intro w hSw; (try dsimp only at hSw); go_simp; (first | done | rfl))
      simp only [List.setIfInBounds_toArray, List.set_cons_zero, List.set_cons_succ]
      refine' take_at (i := 6) rfl rfl (by kernel_rfl) (by kernel_rfl) (by kernel_rfl) (by rfl) ?hy21 (by assumption) ?rest21
      case hy21 => (intro w hSw; (try dsimp only at hSw); go_simp; (first | done | rfl))
      simp only [List.setIfInBounds_toArray, List.set_cons_zero, List.set_cons_succ]
      refine' take_at (i := 7) rfl rfl (by kernel_rfl) (by kernel_rfl) (by kernel_rfl) (by rfl) ?hy22 (by assumption) ?rest22
      case hy22 => (intro w hSw; (try dsimp only at hSw); go_simp; (first | done | rfl))
      simp only [List.setIfInBounds_toArray, List.set_cons_zero, List.set_cons_succ]
      refine' take_at (i := 8) rfl rfl (by kernel_rfl) (by kernel_rfl) (by kernel_rfl) (by rfl) ?hy23 (by assumption) ?rest23
      case hy23 => (intro w hSw; (try dsimp only at hSw); go_simp; (first | done | rfl))
      simp only [List.setIfInBounds_toArray, List.set_cons_zero, List.set_cons_succ]
      refine' take_at (i := 9) rfl rfl (by kernel_rfl) (by kernel_rfl) (by kernel_rfl) (by rfl) ?hy24 (by assumption) ?rest24
      case hy24 => (intro w hSw; (try dsimp only at hSw); go_simp; (first | done | rfl))
      simp only [List.setIfInBounds_toArray, List.set_cons_zero, List.set_cons_succ]
      refine' take_at (i := 10) rfl rfl (by kernel_rfl) (by kernel_rfl) (by kernel_rfl) (by rfl) ?hy25 (by assumption) ?rest25
      case hy25 => (intro w hSw; (try dsimp only at hSw); go_simp; (first | done | rfl))
      simp only [List.setIfInBounds_toArray, List.set_cons_zero, List.set_cons_succ]
      refine' take_at (i := 11) rfl rfl (by kernel_rfl) (by kernel_rfl) (by kernel_rfl) (by rfl) ?hy26 (by assumption) ?rest26
      case hy26 => (intro w hSw; (try dsimp only at hSw); go_simp; (first | done | rfl))
      simp only [List.setIfInBounds_toArray, List.set_cons_zero, List.set_cons_succ]
      refine' take_at (i := 12) rfl rfl (by kernel_rfl) (by kernel_rfl) (by kernel_rfl) (by rfl) ?hy27 (by assumption) ?rest27
      case hy27 => (intro w hSw; (try dsimp only at hSw); go_simp; (first | done | rfl))
      simp only [List.setIfInBounds_toArray, List.set_cons_zero, List.set_cons_succ]
      rw [HKK.out, hwr]
      refine' next_at (i := 0) (by kernel_rfl) rfl (by rfl) ?_
      intro K hK
      go_simp
      refine hK.out _ _ ⟨hHeld.1, hHeld.2.1, hHeld.2.2⟩ (fun _ => ?_)
      clear hK K
      refine' next_at (i := 13) (by kernel_rfl) rfl (by rfl) ?_
      intro K hK
      go_simp
      refine (t_plus Q _ x.1.2.1 k (Less Q w.heap.size) t p _ HGT.out.1 (by rw [Tr.many_toL _ t HGT.out.1]; exact HGT.out.many _) hk2 (fun j hj => ⟨HQ.out j (by simp at hj; omega), Or.inr (by simp at hj; omega)⟩) (HRW.out.below (below_drew _ _)) (HTA.out.below (below_drew _ _)) (by rw [← Tr.len_toL]; exact HCN.out)).mono ?_
      rintro e w1 ⟨q1, rfl, hT1, hbw⟩
      rw [HP.out]
      have hbb := (below_drew W.heap.size W).trans hbw
      have hs2 : w1.cell? { block := w.heap.size, off := 0 } = some (.int .i64 times) := (cl_of hbb _ 0 hk0).trans cb
      have hs3 : w1.cell? { block := x.1.1, off := 0 } = some (.slice A' x.1.2.1.length c') := (cl_of hbb _ 0 hxlt').trans c0
      have hs4 : w1.cell? { block := x.1.1, off := 1 } = some (.int .i64 x.1.2.2) := (cl_of hbb _ 1 hxlt').trans c1
      have b3 := Boxed.below HB1.out hbb
      have b4 := Boxed.below HB2.out hbb
      have b5 := Boxed.below HB3.out hbb
      have b6 := Boxed.below HB4.out hbb
      have c5 := b5.cell
      have f5 := b5.frozen
      have c6 := b6.cell
      have f6 := b6.frozen
      have HBB := Lib.hid hbb
      have HC1 := Lib.hid b3
      have HC2 := Lib.hid b4
      have HC3 := Lib.hid b5
      have HC4 := Lib.hid b6
      have HT1 := Lib.hid hT1
      clear hbb hbw b3 b4 b5 b6 hT1
      refine hK.out _ _ ⟨hs2, hs3, hs4⟩ (fun hHeld2 => ?_)
      clear hK K hHeld
      refine' take_at (i := 14) rfl rfl (by kernel_rfl) (by kernel_rfl) (by kernel_rfl) (by rfl) ?hy28 (by assumption) ?rest28
      case hy28 => (intro w hSw; (try dsimp only at hSw); go_simp; (first | done | rfl))
      simp only [List.setIfInBounds_toArray, List.set_cons_zero, List.set_cons_succ]
      refine' take_at (i := 15) rfl rfl (by kernel_rfl) (by kernel_rfl) (by kernel_rfl) (by rfl) ?hy29 (by assumption) ?rest29
      case hy29 => (intro w hSw; (try dsimp only at hSw); go_simp; (first | done | rfl))
      simp only [List.setIfInBounds_toArray, List.set_cons_zero, List.set_cons_succ]
      refine' take_at (i := 16) rfl rfl (by kernel_rfl) (by kernel_rfl) (by kernel_rfl) (by rfl) ?hy30 (by assumption) ?rest30
      case hy30 => (intro w hSw; (try dsimp only at hSw); go_simp; (first | done | rfl))
      simp only [List.setIfInBounds_toArray, List.set_cons_zero, List.set_cons_succ]
      have n02 : w.heap.size ≠ w.heap.size + 1 + 1 := by omega
      have n03 : w.heap.size ≠ w.heap.size + 1 + 1 + 1 := by omega
      have n12 : w.heap.size + 1 ≠ w.heap.size + 1 + 1 := by omega
      have n13 : w.heap.size + 1 ≠ w.heap.size + 1 + 1 + 1 := by omega
      have n23 : w.heap.size + 1 + 1 ≠ w.heap.size + 1 + 1 + 1 := by omega
      have nx2 : x.1.1 ≠ w.heap.size + 1 + 1 := by omega
      have nx3 : x.1.1 ≠ w.heap.size + 1 + 1 + 1 := by omega
      refine' next_at (i := 17) (by kernel_rfl) rfl (by rfl) ?_
      intro K hK
      go_simp
      refine hK.out _ _ ⟨(far_cell _ n02 _ 0).trans hs2, (far_cell _ nx2 _ 0).trans hs3, (far_cell _ nx2 _ 1).trans hs4⟩ (fun _ => ?_)
      clear hK K
      have b6 := HC4.out.other (B' := w.heap.size + 1 + 1) (Ne.symm n23) (.pointer q1)
      have c7 := b6.cell
      have f7 := b6.frozen
      clear b6
      refine' next_at (i := 18) (by kernel_rfl) rfl (by rfl) ?_
      intro K hK
      go_simp
      refine hK.out _ _ ⟨(far_cell _ n03 _ 0).trans ((far_cell _ n02 _ 0).trans hs2), (far_cell _ nx3 _ 0).trans ((far_cell _ nx2 _ 0).trans hs3), (far_cell _ nx3 _ 1).trans ((far_cell _ nx2 _ 1).trans hs4)⟩ (fun _ => ?_)
      clear hK K
      refine all_done (by kernel_rfl) ?_
      clear c5 f5 c6 f6 c7 f7 hs2 hs3 hs4 hHeld2
      have d1 := (HC1.out.other (B' := w.heap.size + 1 + 1) n02 (.pointer q1)).other (B' := w.heap.size + 1 + 1 + 1) n03 (.int .i64 0)
      have d2 := (HC2.out.other (B' := w.heap.size + 1 + 1) n12 (.pointer q1)).other (B' := w.heap.size + 1 + 1 + 1) n13 (.int .i64 0)
      have d3 := (HC3.out.set (.pointer q1)).other (B' := w.heap.size + 1 + 1 + 1) n23 (.int .i64 0)
      have d4 := (HC4.out.other (B' := w.heap.size + 1 + 1) (Ne.symm n23) (.pointer q1)).set (.int .i64 0)
      have dk : KeepsOthers w1 ((w1.setCell ⟨w.heap.size + 1 + 1, 0, none⟩ (.pointer q1)).setCell ⟨w.heap.size + 1 + 1 + 1, 0, none⟩ (.int .i64 0)) := (KeepsOthers.setCell _ _ _).trans (KeepsOthers.setCell _ _ _)
      have db : Below w.heap.size w1 ((w1.setCell ⟨w.heap.size + 1 + 1, 0, none⟩ (.pointer q1)).setCell ⟨w.heap.size + 1 + 1 + 1, 0, none⟩ (.int .i64 0)) := ((Below.refl _ w1).setCell (p := ⟨w.heap.size + 1 + 1, 0, none⟩) (by simp; omega) _).setCell (p := ⟨w.heap.size + 1 + 1 + 1, 0, none⟩) (by simp; omega) _
      have dq : KeepQ (Less Q w.heap.size) w1 ((w1.setCell ⟨w.heap.size + 1 + 1, 0, none⟩ (.pointer q1)).setCell ⟨w.heap.size + 1 + 1 + 1, 0, none⟩ (.int .i64 0)) := by
        intro j hj _
        have h2 := hj.2
        rw [Below.heap_setCell _ _ _ _ (by show j ≠ w.heap.size + 1 + 1 + 1; omega), Below.heap_setCell _ _ _ _ (by show j ≠ w.heap.size + 1 + 1; omega)]
      generalize (w1.setCell ⟨w.heap.size + 1 + 1, 0, none⟩ (.pointer q1)).setCell ⟨w.heap.size + 1 + 1 + 1, 0, none⟩ (.int .i64 0) = w3 at *
      have e4 := d4.cell
      have e2 := d2.cell
      have g2 := d2.frozen
      have HD1 := Lib.hid d1
      have HD2 := Lib.hid d2
      have HD3 := Lib.hid d3
      have HD4 := Lib.hid d4
      have HDK := Lib.hid dk
      have HDB := Lib.hid db
      have HDQ := Lib.hid dq
      clear d1 d2 d3 d4 dk db dq
      gi_wp2
      have hms2 : mergeS times l ((pre ++ [x]).map fun x => x.1.2) = (setL x.1.2.1 (manyL x.1.2.1 t.toL + k) t.toL, 0) := by rw [List.map_append, List.map_singleton, HPR.out, mstep_ok times ms x.1.2 k t.toL HER.out HKK.out HTT.out HOV.out]
      exact ⟨(keeps_below HBB.out).trans (HDK.out.from _), (HBB.out.mono hsz).trans HDB.out, ⟨HD1.out, HD2.out, HD4.out⟩, ⟨q1, _, HD3.out, HT1.out.keep HDQ.out, by rw [hms2, HPL.out], by rw [hms2]⟩, (HBW.out.trans (HBB.out.mono hsz)).trans HDB.out⟩

  case done =>
    rintro D ys W hD rfl ⟨⟨b1, b2, b4⟩, ⟨p, t, b3, htree, htl, herr⟩, hB⟩ hK
    have HK := Lib.hid hK
    have HB2 := Lib.hid b2
    have HBW := Lib.hid hB
    have HTA := Lib.hid htree
    have HTT := Lib.hid htl
    have HER := Lib.hid herr
    have b5 : Boxed W g 84 (.pointer p0) := (hB.block g hglt).trans HBX.out
    have HB5 := Lib.hid b5
    have c3 := b3.cell
    have c5 := b5.cell
    have f5 := b5.frozen
    have hk1 := b2.lt
    have hk0 := b1.lt
    have ng1 : w.heap.size + 1 ≠ g := by omega
    have b6 := b2.other (B' := g) ng1 (.pointer p)
    have HB6 := Lib.hid b6
    have c6 := b6.cell
    have f6 := b6.frozen
    clear hK b1 b2 b3 b4 b5 b6 hB htree htl herr
    gi_wp2
    have hK2 := ((KeepsOthers.setCell W ⟨g, 0, none⟩ (.pointer p)).trans (KeepsOthers.setCell _ ⟨w.heap.size + 1, 0, none⟩ (.int .i64 0))).same D _ HK.out rfl
    refine ⟨by simp, .inl ⟨_, _, rfl, run_takeDeferred hK2, ?_⟩⟩
    have hD' : w.heap.size + 5 ≤ D := by simpa using hD
    have hc5 := ((HB6.out.set (.int .i64 0)).kept (grownBy_putObj' _ D (.deferred none)) (by simp; omega)).cell
    have hgb := ((HB5.out.set (.pointer p)).other (B' := w.heap.size + 1) (Ne.symm ng1) (.int .i64 0)).kept (grownBy_putObj' _ D (.deferred none)) (by simp; omega)
    have hkq : KeepQ (Less Q w.heap.size) W ((W.setCell ⟨g, 0, none⟩ (.pointer p)).setCell ⟨w.heap.size + 1, 0, none⟩ (.int .i64 0)) := by
      intro j hj _
      have h2 := hj.2
      have h3 : j ≠ g := fun e => HG.out (e ▸ hj.1)
      rw [Below.heap_setCell _ _ _ _ (by show j ≠ w.heap.size + 1; omega), Below.heap_setCell _ _ _ _ h3]
    have htr := TreeAt.kept (grownBy_putObj' _ D (.deferred none)) (fun r e => by cases e; exact ⟨_, hK2, rfl⟩) (HTA.out.keep hkq)
    refine ⟨.int .i64 0, ?_, ?_, ?_, ?_, ?_⟩
    · simp [results, Try.f34, go_sem, hc5]
    · rw [← HXS.out]
      unfold mres
      rw [if_pos HER.out]
    · rw [← HXS.out]
      unfold mres
      rw [if_pos HER.out]
      refine ⟨?_, p, t, HTT.out, hgb, htr.imp fun k _ hk => hk.1⟩
      rw [HXS.out]
      exact mergeS_good times l o HGO.out fun e he => (HGO2.out.2 e he).2.2
    · exact (((HBW.out.mono (Nat.le_of_lt hglt)).setCell (p := ⟨g, 0, none⟩) (Nat.le_refl _) _).setCell (p := ⟨w.heap.size + 1, 0, none⟩) (by show g ≤ w.heap.size + 1; omega) _).trans (belowK_b (w := w) (Nat.le_of_lt hglt) _ D _ _ (by omega) hK2 rfl rfl)
    · intro k hk hkg
      have e1 := (belowK_b (w := w) (Nat.le_refl _) _ D (.deferred (some [])) (.deferred none) (by omega) hK2 rfl rfl).block k hk
      rw [e1, Below.heap_setCell _ _ _ _ (by show k ≠ w.heap.size + 1; omega), Below.heap_setCell _ _ _ _ hkg]
      exact HBW.out.block k hk
  case stop =>
    rintro D c pre W hD hpre ⟨⟨rfl, b2⟩, hp, hB⟩ hK
    have HK := Lib.hid hK
    have HB1 := Lib.hid b2
    have HBW := Lib.hid hB
    clear hK b2 hB
    gi_wp2
    refine ⟨by simp, .inl ⟨_, _, rfl, run_takeDeferred HK.out, ?_⟩⟩
    have hD' : w.heap.size + 5 ≤ D := by simpa using hD
    have hc5 := (HB1.out.kept (grownBy_putObj' _ D (.deferred none)) (by simp; omega)).cell
    have hbb := HBW.out.trans (belowK_b (w := w) (Nat.le_refl _) W D _ (.deferred none) (by omega) HK.out rfl rfl)
    have hm : mres times l o = (l, 10) := by
      obtain ⟨rest, hrest⟩ := hpre
      have h1 : o = (pre.map fun x => x.1.2) ++ rest.map fun x => x.1.2 := by rw [← HXS.out, ← hrest, List.map_append]
      have h2 : (mergeS times l o).2 = 10 := by rw [h1, mergeS_stuck _ _ _ _ (by rw [hp.out]; decide), hp.out]
      unfold mres
      rw [if_neg (by rw [h2]; decide)]
    refine ⟨.int .i64 10, ?_, ?_, ?_, ?_⟩
    · simp [results, Try.f34, go_sem, hc5]
    · rw [hm]
    · rw [hm]
      exact BagL.below ⟨HGO.out, p0, t0, HTL.out, HBX.out, HT.out⟩ hbb
    · exact Only.of_below hbb (Nat.le_of_lt hglt)

set_option maxRecDepth 100000 in
set_option maxHeartbeats 1000000 in
theorem b_merge_arg (g : Nat) (ao : Addr) (times : Int) (w : World) (ht : times < -1073741824 ∨ 1073741824 < times) :
    Calls Try.prog 34 #[.pointer (some ⟨g, 0, none⟩), .pointer (some ao), .int .i64 times] w fun e w' => e = .returned (.int .i64 2) ∧ Below w.heap.size w w' := by
  rcases ht with ht | ht
  · have hd1 : decide (times < -1073741824) = true := by simp; omega
    go_enter Try.func34, Try.ntmps34
    go_wp2
    refine bodyPost_ret (v := .int .i64 2) (by simp [results, Try.f34, go_sem]) rfl ?_
    exact ⟨rfl, two_new _ _ _⟩
  · have hd1 : decide (times < -1073741824) = false := by simp; omega
    have hd2 : decide (1073741824 < times) = true := by simp; omega
    go_enter Try.func34, Try.ntmps34
    go_wp2
    refine bodyPost_ret (v := .int .i64 2) (by simp [results, Try.f34, go_sem]) rfl ?_
    exact ⟨rfl, two_new _ _ _⟩
set_option maxRecDepth 100000 in
set_option maxHeartbeats 1000000 in
theorem b_merge_nil (po : Option Addr) (times : Int) (w : World) :
    Calls Try.prog 34 #[.pointer none, .pointer po, .int .i64 times] w fun e w' => e = .returned (.int .i64 1) ∧ Below w.heap.size w w' := by
  go_enter Try.func34, Try.ntmps34
  go_wp2
  refine bodyPost_ret (v := .int .i64 1) (by simp [results, Try.f34, go_sem]) rfl ?_
  exact ⟨rfl, two_new _ _ _⟩
set_option maxRecDepth 100000 in
set_option maxHeartbeats 1000000 in
theorem b_merge_nil2 (a : Addr) (times : Int) (w : World) :
    Calls Try.prog 34 #[.pointer (some a), .pointer none, .int .i64 times] w fun e w' => e = .returned (.int .i64 1) ∧ Below w.heap.size w w' := by
  go_enter Try.func34, Try.ntmps34
  go_wp2
  refine bodyPost_ret (v := .int .i64 1) (by simp [results, Try.f34, go_sem]) rfl ?_
  exact ⟨rfl, two_new _ _ _⟩
theorem b_merge (Q : Nat → Prop) (g : Nat) (l o : List En) (times : Int) (w : World) (hQ : ∀ k, w.heap.size ≤ k → Q k) (hg : ¬ Q g) (hb : BagL w Q g l) (go : Nat) (ho : BagL w Q go o) (hlen : l.length + o.length ≤ 700000) :
    Calls Try.prog 34 #[.pointer (some ⟨g, 0, none⟩), .pointer (some ⟨go, 0, none⟩), .int .i64 times] w (Changes w Q g (mergeL times l o)) := by
  unfold mergeL
  by_cases ht : fewN times = true
  · have ht' : ¬ fewN times = false := by simp [ht]
    rw [if_neg ht']
    exact b_merge_ok Q g _ l o times w hQ hg hb go rfl ho ((fewN_iff _).1 ht) hlen
  · have ht' : fewN times = false := by simpa using ht
    rw [if_pos ht']
    refine (b_merge_arg g _ times w ?_).mono ?_
    · by_cases h : times < -1073741824
      · exact Or.inl h
      · right
        by_cases h2 : times ≤ 1073741824
        · exact absurd ((fewN_iff _).2 ⟨by omega, h2⟩) ht
        · omega
    · rintro e w' ⟨rfl, hbb⟩
      exact ⟨rfl, hb.below hbb, Only.of_below hbb (Nat.le_of_lt hb.lt)⟩
end Go.Proofs.Ytbenpcnmkhmkbaa
