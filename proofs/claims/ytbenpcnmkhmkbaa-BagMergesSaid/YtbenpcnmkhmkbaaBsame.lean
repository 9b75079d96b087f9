/-
  Same of package bag: have two bags the same rows, each as often?
  No condition.
-/
import Derived.Test.YtbenpcnmkhmkbaaRound
namespace Go.Proofs.Ytbenpcnmkhmkbaa
open Go.RowKit Go.Shelf

attribute [local go_sem] Oper.semAt_some

/-- Have two lists equally many rows, and is each of the first in the second as often? -/
def sameL (a b : List En) : Bool := a.length == b.length && a.all fun e => manyL e.1 b == e.2

theorem keeps_below {B : Nat} {W W' : World} (h : Below W.heap.size W W') : KeepsFrom B W W' := ⟨h.size, fun k _ _ hk _ => (h.block k (Array.getElem?_eq_some_iff.1 hk).1).trans hk⟩
theorem Boxed.below {W W' : World} {B : Nat} {t : TypeId} {v : Value} (hv : Boxed W B t v) (h : Below W.heap.size W W') : Boxed W' B t v := (h.block B hv.lt).trans hv
theorem Boxed.drewQ {W : World} {B : Nat} {t : TypeId} {v : Value} (hv : Boxed W B t v) : Boxed W.drew B t v := hv
theorem nd_in {w W : World} {Q : Nat → Prop} (x : Nd w Q) (h : Below w.heap.size w W) : ∃ v, IsRow W Q v x.1.2.1 ∧ W.cell? ⟨x.1.1, 0, none⟩ = some v ∧ W.cell? ⟨x.1.1, 1, none⟩ = some (.int .i64 x.1.2.2) ∧ x.1.1 < w.heap.size := by
  obtain ⟨s, pl, ph, hn⟩ := x.2.1
  obtain ⟨_, h2, ⟨v, h3, h4⟩, h5, _⟩ := hn.keep (Below.keepQ h Q)
  obtain ⟨_, hlt, _⟩ := hn
  exact ⟨v, h3, h4, h5, hlt⟩

theorem all_snoc {α : Type} {p : α → Prop} {l : List α} {x : α} (h : ∀ y ∈ l, p y) (hx : p x) : ∀ y ∈ l ++ [x], p y := by
  intro y hy
  rcases List.mem_append.1 hy with hy | hy
  · exact h y hy
  · rw [List.mem_singleton] at hy
    rw [hy]
    exact hx

set_option maxRecDepth 100000 in
set_option maxHeartbeats 2000000 in
theorem b_same_yes (Q : Nat → Prop) (pa pb : Option Addr) (la lb : List En) (w : World) (ha : BagP w Q pa la) (hb : BagP w Q pb lb) (hlen : (((la.length : Nat) : Int) != ((lb.length : Nat) : Int)) = false) :
    Calls Try.prog 32 #[.pointer pa, .pointer pb] w fun e w' => e = .returned (.bool (la.all fun e => manyL e.1 lb == e.2)) ∧ Below w.heap.size w w' := by
  have HLA := Lib.hid (fun W (h : Below w.heap.size w W) => b_len Q pa la W (ha.below h))
  have HLB := Lib.hid (fun W (h : Below w.heap.size w W) => b_len Q pb lb W (hb.below h))
  have HTA := Lib.hid (b_top Q pa la w ha)
  have HA := Lib.hid ha
  have HB := Lib.hid hb
  obtain ⟨q, t, xs, hl, hnds, hxs⟩ : ∃ (q : Option Addr) (t : Tr) (xs : List (Nd w Q)), (∀ W, Below w.heap.size w W → Calls Try.prog 67 #[.pointer pa] W fun e w' => e = .returned (.pointer q) ∧ W = w') ∧ Nds w Q q t xs ∧ xs.map (fun x => x.1.2) = la := by
    rcases ha with ⟨rfl, rfl⟩ | ⟨g, rfl, hgo, q, t, rfl, hbox, ht⟩
    · exact ⟨none, .nil, [], fun W _ => top_nil W, ⟨rfl, rfl⟩, rfl⟩
    · obtain ⟨xs, h1, h2⟩ := nds_of hgo.ok ht
      exact ⟨q, t, xs, fun W hW => top_at g q W ((hW.cell (p := ⟨g, 0, none⟩) hbox.lt).trans hbox.cell), h1, h2⟩
  have HTOP := Lib.hid hl
  have HN := Lib.hid hnds
  have HXS := Lib.hid hxs
  clear ha hb hl hnds hxs HTA
  refine (callsIn_wide (n := 5)).1 ?_
  refine callsIn_of_wp_marks Try.func32 rfl trivial ?_ rfl
  simp only [Try.ntmps32, List.size_toArray, List.length_cons, List.length_nil, Nat.reduceAdd, Nat.reduceSub, Array.replicate_succ, Array.replicate_zero, List.push_toArray, List.append_toArray, List.nil_append, List.cons_append]
  gi_wp2_with fail
  refine wpIn_wide.2 ?_
  go_region_held3 (fun w' => w'.cell? { block := w.heap.size, off := 0 } = some (.pointer pb)) (go_keep)
    (first
    | (go_at_call_of 36 (Value.pointer pa); refine (HLA.out _ (by exact (two_new _ _ _).trans (below_drew _ _))).mono ?_; rintro e w1 ⟨rfl, rfl⟩)
    | (go_at_call_of 36 (Value.pointer pb); refine (HLB.out _ (by exact (two_new _ _ _).trans (below_drew _ _))).mono ?_; rintro e w1 ⟨rfl, rfl⟩))
  gi_wp2_with fail
  refine ⟨trivial, ?_⟩
  refine (callsIn_wide.2 (HTOP.out _ ((two_new _ _ _).trans (below_drew _ _)))).mono ?_
  rintro e w1 ⟨rfl, rfl⟩
  gi_wp2_with fail
  refine ⟨trivial, ?_⟩
  refine (callsIn_wide.2 (all_in q _)).mono ?_
  rintro e w1 ⟨rfl, rfl⟩
  have bP := (((Boxed.new w 31 (.pointer pb)).alloc (.cells #[.bool false] 4)))
  have bR := Boxed.new (w.alloc (.cells #[.pointer pb] 31)) 4 (.bool false)
  have hB0 : Below w.heap.size w (((w.alloc (.cells #[.pointer pb] 31)).alloc (.cells #[.bool false] 4)).drew.alloc (.cells #[.pointer q] 82)) := ((two_new _ _ _).trans (below_drew _ _)).alloc (by simp; omega) _
  have bQ := Boxed.new ((w.alloc (.cells #[.pointer pb] 31)).alloc (.cells #[.bool false] 4)).drew 82 (.pointer q)
  gi_wp2_with fail
  refine wpIn_rangeFunc_ownG rfl (by omega) (gf := 95) (lb := #[.pointer (some ⟨w.heap.size + 2, 0, none⟩)]) rfl trivial (enters_of Try.func95 (by kernel_rfl) rfl)
    (all_stops Fence.wide (Lib.hid rfl) rfl _ trivial trivial rfl w Q (w.heap.size + 2) q t xs _ (by simp) hB0 (by simpa using bQ.cell) HN.out) belowK_t (belowK_b (by simp; omega)) (Below.refl _ _) (fun _ => rfl)
    (fun pre W => (Boxed W w.heap.size 31 (.pointer pb) ∧ Boxed W (w.heap.size + 1) 4 (.bool false)) ∧ Hid (∀ x ∈ pre, (manyL x.1.2.1 lb == x.1.2.2) = true) ∧ Below w.heap.size w W)
    (fun c pre W => (c = .ret ∧ Boxed W (w.heap.size + 1) 4 (.bool false)) ∧ Hid (∃ x ∈ pre, (manyL x.1.2.1 lb == x.1.2.2) = false) ∧ Below w.heap.size w W)
    (OwnFrom.and (OwnFrom.and (Own.from (boxed_own _ _ _) _) (Own.from (boxed_own _ _ _) _)) (OwnFrom.and (ownFrom_pure _ _) (ownFrom_below (Nat.le_refl _) (by simp; omega))))
    (fun c => OwnFrom.and (OwnFrom.and (ownFrom_pure _ _) (Own.from (boxed_own _ _ _) _)) (OwnFrom.and (ownFrom_pure _ _) (ownFrom_below (Nat.le_refl _) (by simp; omega))))
    ⟨⟨bP.alloc _, (by rw [World.size_alloc] at bR; exact (Boxed.drewQ bR).alloc _)⟩, Lib.hid (fun x hx => by cases hx), hB0⟩
    (fun x => { tmps := #[.pointer pa, .pointer pb, undef, .pointer (some ⟨w.heap.size, 0, none⟩), .pointer (some ⟨w.heap.size + 1, 0, none⟩), .pointer (some ⟨x.1.1, 0, none⟩), .pointer pa, .int .i64 (la.length : Int), .pointer pb, .int .i64 (lb.length : Int), .bool false, .pointer pa, .pointer q, .func (.func 95) #[] #[.pointer (some ⟨w.heap.size + 2, 0, none⟩)], .pointer (some ⟨x.1.1, 0, none⟩), undef, undef, undef, undef, undef, undef, undef, undef, undef, undef, undef, undef, undef], defers := [] }) ?assign ?body ?done ?stop
  case assign =>
    intro l x W K hK
    gi_wp2
    exact hK
  case body =>
    rintro l pre x W ⟨⟨b1, b2⟩, hp, hB⟩ _
    obtain ⟨rv, hrow, c0, c1, hxlt⟩ := nd_in x hB
    have cb := b1.cell
    have HRW := Lib.hid hrow
    obtain ⟨_, A', c', rfl, _, _⟩ := hrow
    have HBW := Lib.hid hB
    have hsz := hB.size
    have hblt := b1.lt
    have hb1' : w.heap.size < W.heap.size := hblt
    have hxlt' : x.1.1 < W.heap.size := by omega
    have HP := Lib.hid hp
    clear hp hB
    rcases Bool.eq_false_or_eq_true (manyL x.1.2.1 lb == x.1.2.2) with hq | hq
    · have hne : (manyL x.1.2.1 lb != x.1.2.2) = false := by
        unfold bne
        rw [hq]
        rfl
      have HNE := Lib.hid hne
      have HQQ := Lib.hid hq
      clear hne hq
      gi_wp2_with fail
      refine region_round (S := fun w' => w'.cell? { block := w.heap.size, off := 0 } = some (.pointer pb) ∧ w'.cell? { block := x.1.1, off := 0 } = some (.slice A' x.1.2.1.length c') ∧ w'.cell? { block := x.1.1, off := 1 } = some (.int .i64 x.1.2.2)) (by kernel_rfl) (by kernel_rfl) ⟨cb, c0, c1⟩ (fun hHeld => ?_)
      change wpAnyH _ _ _ _ _ 13 (Array.replicate 13 false) _ _
      refine' take_at (i := 0) rfl rfl (by kernel_rfl) (by kernel_rfl) (by kernel_rfl) (by rfl) ?hy1 (by assumption) ?rest1
      case hy1 => (intro w hSw; (try dsimp only at hSw); go_simp; (first | done | rfl))
      simp only [List.setIfInBounds_toArray, List.set_cons_zero, List.set_cons_succ]
      refine' take_at (i := 1) rfl rfl (by kernel_rfl) (by kernel_rfl) (by kernel_rfl) (by rfl) ?hy2 (by assumption) ?rest2
      case hy2 => (intro w hSw; (try dsimp only at hSw); go_simp; (first | done | rfl))
      simp only [List.setIfInBounds_toArray, List.set_cons_zero, List.set_cons_succ]
      refine' take_at (i := 2) rfl rfl (by kernel_rfl) (by kernel_rfl) (by kernel_rfl) (by rfl) ?hy3 (by assumption) ?rest3
      case hy3 => (intro w hSw; (try dsimp only at hSw); go_simp; (first | done | rfl))
      simp only [List.setIfInBounds_toArray, List.set_cons_zero, List.set_cons_succ]
      refine' take_at (i := 3) rfl rfl (by kernel_rfl) (by kernel_rfl) (by kernel_rfl) (by rfl) ?hy4 (by assumption) ?rest4
      case hy4 => (intro w hSw; (try dsimp only at hSw); go_simp; (first | done | rfl))
      simp only [List.setIfInBounds_toArray, List.set_cons_zero, List.set_cons_succ]
      refine' take_at (i := 4) rfl rfl (by kernel_rfl) (by kernel_rfl) (by kernel_rfl) (by rfl) ?hy5 (by assumption) ?rest5
      case hy5 => (intro w hSw; (try dsimp only at hSw); go_simp; (first | done | rfl))
      simp only [List.setIfInBounds_toArray, List.set_cons_zero, List.set_cons_succ]
      refine' take_at (i := 5) rfl rfl (by kernel_rfl) (by kernel_rfl) (by kernel_rfl) (by rfl) ?hy6 (by assumption) ?rest6
      case hy6 => (intro w hSw; (try dsimp only at hSw); go_simp; (first | done | rfl))
      simp only [List.setIfInBounds_toArray, List.set_cons_zero, List.set_cons_succ]
      refine' take_at (i := 7) rfl rfl (by kernel_rfl) (by kernel_rfl) (by kernel_rfl) (by rfl) ?hy7 (by assumption) ?rest7
      case hy7 => (intro w hSw; (try dsimp only at hSw); go_simp; (first | done | rfl))
      simp only [List.setIfInBounds_toArray, List.set_cons_zero, List.set_cons_succ]
      refine' take_at (i := 8) rfl rfl (by kernel_rfl) (by kernel_rfl) (by kernel_rfl) (by rfl) ?hy8 (by assumption) ?rest8
      case hy8 => (intro w hSw; (try dsimp only at hSw); go_simp; (first | done | rfl))
      simp only [List.setIfInBounds_toArray, List.set_cons_zero, List.set_cons_succ]
      refine' take_at (i := 9) rfl rfl (by kernel_rfl) (by kernel_rfl) (by kernel_rfl) (by rfl) ?hy9 (by assumption) ?rest9
      case hy9 => (intro w hSw; (try dsimp only at hSw); go_simp; (first | done | rfl))
      simp only [List.setIfInBounds_toArray, List.set_cons_zero, List.set_cons_succ]
      refine' take_at (i := 10) rfl rfl (by kernel_rfl) (by kernel_rfl) (by kernel_rfl) (by rfl) ?hy10 (by assumption) ?rest10
      case hy10 => (intro w hSw; (try dsimp only at hSw); go_simp; (first | done | rfl))
      simp only [List.setIfInBounds_toArray, List.set_cons_zero, List.set_cons_succ]
      refine' take_at (i := 11) rfl rfl (by kernel_rfl) (by kernel_rfl) (by kernel_rfl) (by rfl) ?hy11 (by assumption) ?rest11
      case hy11 => (intro w hSw; (try dsimp only at hSw); go_simp; (first | done | rfl))
      simp only [List.setIfInBounds_toArray, List.set_cons_zero, List.set_cons_succ]
      refine' next_at (i := 6) (by kernel_rfl) rfl (by rfl) ?_
      intro K hK
      go_simp
      refine (b_many Q _ x.1.2.1 Q pb lb _ (HRW.out.below (below_drew _ _)) (HB.out.below (HBW.out.trans (below_drew _ _)))).mono ?_
      rintro e w1 ⟨rfl, hbw⟩
      have hbb := (below_drew W.heap.size W).trans hbw
      have hs2 : w1.cell? { block := w.heap.size, off := 0 } = some (.pointer pb) := (cl_of hbb _ 0 hb1').trans cb
      have hs3 : w1.cell? { block := x.1.1, off := 0 } = some (.slice A' x.1.2.1.length c') := (cl_of hbb _ 0 hxlt').trans c0
      have hs4 : w1.cell? { block := x.1.1, off := 1 } = some (.int .i64 x.1.2.2) := (cl_of hbb _ 1 hxlt').trans c1
      have b3 := Boxed.below b2 hbb
      have b4 := Boxed.below b1 hbb
      have c3 := b3.cell
      have f3 := b3.frozen
      have HBB := Lib.hid hbb
      have HB3 := Lib.hid b3
      have HB4 := Lib.hid b4
      clear hbb hbw b3 b4 b1 b2
      refine hK.out _ _ ⟨hs2, hs3, hs4⟩ (fun hHeld2 => ?_)
      clear hK K
      refine' take_at (i := 12) rfl rfl (by kernel_rfl) (by kernel_rfl) (by kernel_rfl) (by rfl) ?hy12 (by assumption) ?rest12
      case hy12 => (intro w hSw; (try dsimp only at hSw); go_simp; (first | done | rfl))
      simp only [List.setIfInBounds_toArray, List.set_cons_zero, List.set_cons_succ]
      refine all_done (by kernel_rfl) ?_
      rw [HNE.out]
      gi_wp2
      exact ⟨keeps_below HBB.out, HBB.out.mono hsz, ⟨HB4.out, HB3.out⟩, Lib.hid (all_snoc HP.out HQQ.out), HBW.out.trans (HBB.out.mono hsz)⟩
    · have hne : (manyL x.1.2.1 lb != x.1.2.2) = true := by
        unfold bne
        rw [hq]
        rfl
      have HNE := Lib.hid hne
      have HQQ := Lib.hid hq
      clear hne hq
      gi_wp2_with fail
      refine region_round (S := fun w' => w'.cell? { block := w.heap.size, off := 0 } = some (.pointer pb) ∧ w'.cell? { block := x.1.1, off := 0 } = some (.slice A' x.1.2.1.length c') ∧ w'.cell? { block := x.1.1, off := 1 } = some (.int .i64 x.1.2.2)) (by kernel_rfl) (by kernel_rfl) ⟨cb, c0, c1⟩ (fun hHeld => ?_)
      change wpAnyH _ _ _ _ _ 13 (Array.replicate 13 false) _ _
      refine' take_at (i := 0) rfl rfl (by kernel_rfl) (by kernel_rfl) (by kernel_rfl) (by rfl) ?hy13 (by assumption) ?rest13
      case hy13 => (intro w hSw; (try dsimp only at hSw); go_simp; (first | done | rfl))
      simp only [List.setIfInBounds_toArray, List.set_cons_zero, List.set_cons_succ]
      refine' take_at (i := 1) rfl rfl (by kernel_rfl) (by kernel_rfl) (by kernel_rfl) (by rfl) ?hy14 (by assumption) ?rest14
      case hy14 => (intro w hSw; (try dsimp only at hSw); go_simp; (first | done | rfl))
      simp only [List.setIfInBounds_toArray, List.set_cons_zero, List.set_cons_succ]
      refine' take_at (i := 2) rfl rfl (by kernel_rfl) (by kernel_rfl) (by kernel_rfl) (by rfl) ?hy15 (by assumption) ?rest15
      case hy15 => (intro w hSw; (try dsimp only at hSw); go_simp; (first | done | rfl))
      simp only [List.setIfInBounds_toArray, List.set_cons_zero, List.set_cons_succ]
      refine' take_at (i := 3) rfl rfl (by kernel_rfl) (by kernel_rfl) (by kernel_rfl) (by rfl) ?hy16 (by assumption) ?rest16
      case hy16 => (intro w hSw; (try dsimp only at hSw); go_simp; (first | done | rfl))
      simp only [List.setIfInBounds_toArray, List.set_cons_zero, List.set_cons_succ]
      refine' take_at (i := 4) rfl rfl (by kernel_rfl) (by kernel_rfl) (by kernel_rfl) (by rfl) ?hy17 (by assumption) ?rest17
      case hy17 => (intro w hSw; (try dsimp only at hSw); go_simp; (first | done | rfl))
      simp only [List.setIfInBounds_toArray, List.set_cons_zero, List.set_cons_succ]
      refine' take_at (i := 5) rfl rfl (by kernel_rfl) (by kernel_rfl) (by kernel_rfl) (by rfl) ?hy18 (by assumption) ?rest18
      case hy18 => (intro w hSw; (try dsimp only at hSw); go_simp; (first | done | rfl))
      simp only [List.setIfInBounds_toArray, List.set_cons_zero, List.set_cons_succ]
      refine' take_at (i := 7) rfl rfl (by kernel_rfl) (by kernel_rfl) (by kernel_rfl) (by rfl) ?hy19 (by assumption) ?rest19
      case hy19 => (intro w hSw; (try dsimp only at hSw); go_simp; (first | done | rfl))
      simp only [List.setIfInBounds_toArray, List.set_cons_zero, List.set_cons_succ]
      refine' take_at (i := 8) rfl rfl (by kernel_rfl) (by kernel_rfl) (by kernel_rfl) (by rfl) ?hy20 (by assumption) ?rest20
      case hy20 => (intro w hSw; (try dsimp only at hSw); go_simp; (first | done | rfl))
      simp only [List.setIfInBounds_toArray, List.set_cons_zero, List.set_cons_succ]
      refine' take_at (i := 9) rfl rfl (by kernel_rfl) (by kernel_rfl) (by kernel_rfl) (by rfl) ?hy21 (by assumption) ?rest21
      case hy21 => (intro w hSw; (try dsimp only at hSw); go_simp; (first | done | rfl))
      simp only [List.setIfInBounds_toArray, List.set_cons_zero, List.set_cons_succ]
      refine' take_at (i := 10) rfl rfl (by kernel_rfl) (by kernel_rfl) (by kernel_rfl) (by rfl) ?hy22 (by assumption) ?rest22
      case hy22 => (intro w hSw; (try dsimp only at hSw); go_simp; (first | done | rfl))
      simp only [List.setIfInBounds_toArray, List.set_cons_zero, List.set_cons_succ]
      refine' take_at (i := 11) rfl rfl (by kernel_rfl) (by kernel_rfl) (by kernel_rfl) (by rfl) ?hy23 (by assumption) ?rest23
      case hy23 => (intro w hSw; (try dsimp only at hSw); go_simp; (first | done | rfl))
      simp only [List.setIfInBounds_toArray, List.set_cons_zero, List.set_cons_succ]
      refine' next_at (i := 6) (by kernel_rfl) rfl (by rfl) ?_
      intro K hK
      go_simp
      refine (b_many Q _ x.1.2.1 Q pb lb _ (HRW.out.below (below_drew _ _)) (HB.out.below (HBW.out.trans (below_drew _ _)))).mono ?_
      rintro e w1 ⟨rfl, hbw⟩
      have hbb := (below_drew W.heap.size W).trans hbw
      have hs2 : w1.cell? { block := w.heap.size, off := 0 } = some (.pointer pb) := (cl_of hbb _ 0 hb1').trans cb
      have hs3 : w1.cell? { block := x.1.1, off := 0 } = some (.slice A' x.1.2.1.length c') := (cl_of hbb _ 0 hxlt').trans c0
      have hs4 : w1.cell? { block := x.1.1, off := 1 } = some (.int .i64 x.1.2.2) := (cl_of hbb _ 1 hxlt').trans c1
      have b3 := Boxed.below b2 hbb
      have b4 := Boxed.below b1 hbb
      have c3 := b3.cell
      have f3 := b3.frozen
      have HBB := Lib.hid hbb
      have HB3 := Lib.hid b3
      have HB4 := Lib.hid b4
      clear hbb hbw b3 b4 b1 b2
      refine hK.out _ _ ⟨hs2, hs3, hs4⟩ (fun hHeld2 => ?_)
      clear hK K
      refine' take_at (i := 12) rfl rfl (by kernel_rfl) (by kernel_rfl) (by kernel_rfl) (by rfl) ?hy24 (by assumption) ?rest24
      case hy24 => (intro w hSw; (try dsimp only at hSw); go_simp; (first | done | rfl))
      simp only [List.setIfInBounds_toArray, List.set_cons_zero, List.set_cons_succ]
      refine all_done (by kernel_rfl) ?_
      rw [HNE.out]
      gi_wp2
      exact ⟨(keeps_below HBB.out).trans ((KeepsOthers.setCell _ _ _).from _), ⟨rfl, HB3.out.set _⟩, Lib.hid ⟨x, by simp, HQQ.out⟩, (HBW.out.trans (HBB.out.mono hsz)).setCell (p := ⟨w.heap.size + 1, 0, none⟩) (by simp) _⟩
  case done =>
    rintro D ys W hD rfl ⟨⟨b1, b2⟩, hp, hB⟩ hK
    have HK := Lib.hid hK
    have HB1 := Lib.hid b2
    have HP := Lib.hid hp
    have HBW := Lib.hid hB
    have c2 := b2.cell
    have f2 := b2.frozen
    clear hK b1 b2 hp hB
    gi_wp2
    have hK2 := (KeepsOthers.setCell W ⟨w.heap.size + 1, 0, none⟩ (.bool true)).same D _ HK.out rfl
    refine ⟨by simp, .inl ⟨_, _, rfl, run_takeDeferred hK2, ?_⟩⟩
    have hD' : w.heap.size + 3 ≤ D := by simpa using hD
    have hc5 := ((HB1.out.set (.bool true)).kept (grownBy_putObj' _ D (.deferred none)) (by simp; omega)).cell
    refine ⟨.bool true, ?_, ?_, (HBW.out.setCell (p := ⟨w.heap.size + 1, 0, none⟩) (by simp) _).trans (belowK_b (w := w) (Nat.le_refl _) _ D _ _ (by omega) hK2 rfl rfl)⟩
    · simp [results, Try.f32, go_sem, hc5]
    · have : (la.all fun e => manyL e.1 lb == e.2) = true := by
        rw [← HXS.out, List.all_map]
        exact List.all_eq_true.2 fun x hx => HP.out x hx
      rw [this]
  case stop =>
    rintro D c pre W hD hpre ⟨⟨rfl, b2⟩, hp, hB⟩ hK
    have HK := Lib.hid hK
    have HB1 := Lib.hid b2
    have HP := Lib.hid hp
    have HBW := Lib.hid hB
    have c2 := b2.cell
    have f2 := b2.frozen
    clear hK b2 hp hB
    gi_wp2
    refine ⟨by simp, .inl ⟨_, _, rfl, run_takeDeferred HK.out, ?_⟩⟩
    have hD' : w.heap.size + 3 ≤ D := by simpa using hD
    have hc5 := (HB1.out.kept (grownBy_putObj' _ D (.deferred none)) (by simp; omega)).cell
    refine ⟨.bool false, ?_, ?_, HBW.out.trans (belowK_b (w := w) (Nat.le_refl _) _ D _ _ (by omega) HK.out rfl rfl)⟩
    · simp [results, Try.f32, go_sem, hc5]
    · have : (la.all fun e => manyL e.1 lb == e.2) = false := by
        obtain ⟨x, hx, hq⟩ := HP.out
        rw [← HXS.out, List.all_map]
        refine List.all_eq_false.2 ⟨x, hpre.subset hx, ?_⟩
        show ¬ (manyL x.1.2.1 lb == x.1.2.2) = true
        rw [hq]
        simp
      rw [this]

set_option maxRecDepth 100000 in
set_option maxHeartbeats 2000000 in
theorem b_same_no (Q : Nat → Prop) (pa pb : Option Addr) (la lb : List En) (w : World) (ha : BagP w Q pa la) (hb : BagP w Q pb lb) (hlen : (((la.length : Nat) : Int) != ((lb.length : Nat) : Int)) = true) :
    Calls Try.prog 32 #[.pointer pa, .pointer pb] w fun e w' => e = .returned (.bool false) ∧ Below w.heap.size w w' := by
  have HLA := Lib.hid (fun W (h : Below w.heap.size w W) => b_len Q pa la W (ha.below h))
  have HLB := Lib.hid (fun W (h : Below w.heap.size w W) => b_len Q pb lb W (hb.below h))
  clear ha hb
  go_enter Try.func32, Try.ntmps32
  go_wp2
  go_region_held3 (fun w' => w'.cell? { block := w.heap.size, off := 0 } = some (.pointer pb)) (go_keep)
    (first
    | (go_at_call_of 36 (Value.pointer pa); refine (HLA.out _ (by exact (two_new _ _ _).trans (below_drew _ _))).mono ?_; rintro e w1 ⟨rfl, rfl⟩)
    | (go_at_call_of 36 (Value.pointer pb); refine (HLB.out _ (by exact (two_new _ _ _).trans (below_drew _ _))).mono ?_; rintro e w1 ⟨rfl, rfl⟩))
  go_wp2
  refine bodyPost_ret (v := .bool false) (by simp [results, Try.f32, go_sem]) rfl ?_
  exact ⟨rfl, (two_new _ _ _).trans (below_drew _ _)⟩

theorem b_same (Q : Nat → Prop) (pa pb : Option Addr) (la lb : List En) (w : World) (ha : BagP w Q pa la) (hb : BagP w Q pb lb) :
    Calls Try.prog 32 #[.pointer pa, .pointer pb] w fun e w' => e = .returned (.bool (sameL la lb)) ∧ Below w.heap.size w w' := by
  have key : (((la.length : Nat) : Int) != ((lb.length : Nat) : Int)) = !(la.length == lb.length) := by
    unfold bne
    congr 1
    rw [Bool.eq_iff_iff, beq_iff_eq, beq_iff_eq]
    omega
  unfold sameL
  rcases Bool.eq_false_or_eq_true (la.length == lb.length) with h | h
  · rw [h, Bool.true_and]
    exact b_same_yes Q pa pb la lb w ha hb (by rw [key, h]; rfl)
  · rw [h, Bool.false_and]
    exact b_same_no Q pa pb la lb w ha hb (by rw [key, h]; rfl)
end Go.Proofs.Ytbenpcnmkhmkbaa
