/-
  Rows of package bag: all rows in order, each with how often, as a list of the call's own.
  No condition but that a bag has no more rows than fits.
-/
import Derived.Test.YtpliofhphijdkaaEnt
import Derived.Test.YtpliofhphijdkaaBmerge
namespace Go.Proofs.Ytpliofhphijdkaa
open Go.RowKit Go.Shelf

attribute [local go_sem] Oper.semAt_some

theorem EnR.kept {w w' : World} {Q : Nat → Prop} {row : Option Nat} (hg : w.grownBy w' row) (hr : ∀ r, row = some r → ∃ o : Obj, w.heap[r]? = some o ∧ o.isCells = false) : ∀ {ls : List RE} {l : List En}, EnR w Q ls l → EnR w' Q ls l
  | [], [], _ => trivial
  | _ :: _, _ :: _, ⟨h1, ⟨h0, A, c, e, hA, h2⟩, h3⟩ => ⟨h1, ⟨h0, A, c, e, hA, h2.kept hg hr⟩, EnR.kept hg hr h3⟩
theorem OwnE.kept {w w' : World} {base : Nat} {v : Value} {ls : List RE} {row : Option Nat} (h : OwnE w base v ls) (hg : w.grownBy w' row) (hr : ∀ r, row = some r → ∃ o : Obj, w.heap[r]? = some o ∧ o.isCells = false) : OwnE w' base v ls := by
  refine World.ownsRow.kept h hg ?_
  rcases h.2 with ⟨rfl, _⟩ | ⟨g, cap, cur, rfl, _, hgb, _⟩
  · exact .inl rfl
  · refine .inr fun e' => ?_
    obtain ⟨o, ho, hc⟩ := hr g (by simpa [Value.ownBlock] using e'.symm)
    rw [hgb] at ho
    cases ho
    cases hc

/-- What the loop of Rows has behind the rows that have come. -/
def RI (n0 bo : Nat) (Q : Nat → Prop) (pre : List En) (W : World) : Prop :=
  ∃ v ls, Boxed W bo 22 v ∧ OwnE W n0 v ls ∧ EnR W (fun k => Q k ∧ k ≠ bo ∧ some k ≠ v.ownBlock) ls pre
theorem ri_own (n0 bo : Nat) (Q : Nat → Prop) {α : Type} (f : List α → List En) : Go.Own (fun (pre : List α) W => RI n0 bo Q (f pre) W) := by
  intro s X Y row hs hg hr
  obtain ⟨v, ls, h1, h2, h3⟩ := hs
  exact ⟨v, ls, boxed_own (β := Unit) _ _ (fun _ => v) () X Y row h1 hg hr, h2.kept hg hr, EnR.kept hg hr h3⟩

theorem en_next {w w1 W w3 w5 : World} {Q : Nat → Prop} {v v' : Value} {ls : List RE} {pre : List En} {u : Value} {e : En} {o : Obj} (hQ : ∀ k, w.heap.size ≤ k → Q k) (hw : w.heap.size ≤ W.heap.size) (hbo : w1.heap.size < W.heap.size) (hown : OwnE W w.heap.size v ls) (hb : Below W.heap.size W w3)
    (hen : EnR W (fun k => Q k ∧ k ≠ w1.heap.size ∧ some k ≠ v.ownBlock) ls pre) (hu : IsRow w3 (fun k => W.heap.size ≤ k) u e.1) (hg : (w3.alloc o).grownBy w5 v.ownBlock) (hor : v'.ownBlock = v.ownBlock ∨ v'.ownBlock = some (w3.alloc o).heap.size) :
    EnR (w5.setCell ⟨w1.heap.size, 0, none⟩ v') (fun k => Q k ∧ k ≠ w1.heap.size ∧ some k ≠ v'.ownBlock) (ls ++ [(u, e.2)]) (pre ++ [e]) := by
  have hlt : ∀ k, v.ownBlock = some k → k < W.heap.size := fun k hk => (World.ownsRow.lt hown k hk).2
  have hs := hb.size
  have key : ∀ k, k < w3.heap.size → some k ≠ v.ownBlock → some k ≠ v'.ownBlock := by
    intro k hk hkv
    rcases hor with h | h
    · rw [h]
      exact hkv
    · rw [h, World.size_alloc]
      intro e
      injection e with e
      omega
  have h1 : EnR w3 (fun k => Q k ∧ k ≠ w1.heap.size ∧ some k ≠ v.ownBlock ∧ some k ≠ v'.ownBlock) (ls ++ [(u, e.2)]) (pre ++ [e]) := by
    refine EnR.append (EnR.imp (fun k hk h => ⟨h.1, h.2.1, h.2.2, key k hk h.2.2⟩) (EnR.keep (Below.keepQ hb _) hen)) ⟨rfl, hu.imp (fun k hk h => ?_), trivial⟩
    have hkv : some k ≠ v.ownBlock := fun e => by have := hlt k e.symm; omega
    exact ⟨hQ k (by omega), by omega, hkv, key k hk hkv⟩
  refine EnR.imp (fun k _ h => ⟨h.1, h.2.1, h.2.2.2⟩) (EnR.keep ?_ h1)
  intro k hk hlt3
  rw [Below.heap_setCell _ _ _ _ hk.2.1, hg.block k (by simp; omega) (fun e => hk.2.2.1 (by rw [e])), Below.heap_alloc _ _ _ hlt3]

set_option maxRecDepth 100000 in
set_option maxHeartbeats 4000000 in
theorem b_rows2 (Q : Nat → Prop) (p : Option Addr) (l : List En) (w : World) (hQ : ∀ k, w.heap.size ≤ k → Q k) (hb : BagP w Q p l) (hlen : l.length ≤ 700000) :
    Calls Try.prog 23 #[.pointer p] w fun e w' => ∃ L c ls, e = .returned (.slice L l.length c) ∧ OwnE w' w.heap.size (.slice L l.length c) ls ∧ EnR w' (fun k => Q k ∧ some k ≠ (Value.slice L l.length c).ownBlock) ls l ∧ Below w.heap.size w w' := by
  have HQ := Lib.hid hQ
  have HLN := Lib.hid (b_len Q p l w hb)
  obtain ⟨q, t, xs, hl, hnds, hxs⟩ : ∃ (q : Option Addr) (t : Tr) (xs : List (Nd w Q)), (∀ W, Below w.heap.size w W → Calls Try.prog 39 #[.pointer p] W fun e w' => e = .returned (.pointer q) ∧ W = w') ∧ Nds w Q q t xs ∧ xs.map (fun x => x.1.2) = l := by
    rcases hb with ⟨rfl, rfl⟩ | ⟨g, rfl, hgo, q, t, rfl, hbox, ht⟩
    · exact ⟨none, .nil, [], fun W _ => top_nil W, ⟨rfl, rfl⟩, rfl⟩
    · obtain ⟨xs, h1, h2⟩ := nds_of hgo.ok ht
      exact ⟨q, t, xs, fun W hW => top_at g q W ((hW.cell (p := ⟨g, 0, none⟩) hbox.lt).trans hbox.cell), h1, h2⟩
  have HTOP := Lib.hid hl
  have HN := Lib.hid hnds
  have HXS := Lib.hid hxs
  clear hb hl hnds hxs hQ
  refine (callsIn_wide (n := 5)).1 ?_
  refine callsIn_of_wp_marks Try.func23 rfl trivial ?_ rfl
  simp only [Try.ntmps23, List.size_toArray, List.length_cons, List.length_nil, Nat.reduceAdd, Nat.reduceSub, Array.replicate_succ, Array.replicate_zero, List.push_toArray, List.append_toArray, List.nil_append, List.cons_append]
  refine wpIn_wide.2 ?_
  go_wp2_with fail
  refine HLN.out.mono ?_
  rintro e w1 ⟨rfl, rfl⟩
  go_wp2_with (at_make; go_must (refine wp_make_E _ rfl _ _ rfl w.heap.size l.length rfl rfl (by omega) (Nat.le_refl _) ?_; intro v0 w1 hown0 hb0; obtain ⟨A0, cc0, hv0, _, _, _⟩ := hown0.slice (fun _ => True) (fun _ _ => trivial); subst hv0))
  refine (HTOP.out _ (hb0.trans ((one_new _ _).mono hb0.size))).mono ?_
  rintro e w2 ⟨rfl, rfl⟩
  go_wp2_with fail
  refine (all_in q _).mono ?_
  rintro e w2 ⟨rfl, rfl⟩
  go_wp2_with fail
  refine (wpIn_wide (n := 5)).1 ?_
  have bO := Boxed.new w1 22 (.slice A0 0 cc0)
  have bO1 := bO.alloc (.cells #[.pointer q] 65)
  have bQ := Boxed.new (w1.alloc (.cells #[.slice A0 0 cc0] 22)) 65 (.pointer q)
  rw [World.size_alloc] at bQ
  have hsz0 := hb0.size
  have hB0 : Below w.heap.size w ((w1.alloc (.cells #[.slice A0 0 cc0] 22)).alloc (.cells #[.pointer q] 65)) := (hb0.alloc hsz0 _).alloc (by simp; omega) _
  have hown1 : OwnE ((w1.alloc (.cells #[.slice A0 0 cc0] 22)).alloc (.cells #[.pointer q] 65)) w.heap.size (.slice A0 0 cc0) [] := (hown0.alloc _).alloc _
  refine wpIn_rangeFunc_ownG rfl (by omega) (gf := 54) (lb := #[.pointer (some ⟨w1.heap.size + 1, 0, none⟩)]) rfl trivial (enters_of Try.func54 (by kernel_rfl) rfl)
    (all_stops Fence.wide (Lib.hid rfl) rfl _ trivial trivial rfl w Q (w1.heap.size + 1) q t xs _ (by simp) hB0 bQ.cell HN.out) belowK_t (belowK_b (by simp; omega)) (Below.refl _ _) (fun _ => rfl)
    (fun pre W => RI w.heap.size w1.heap.size Q (pre.map fun x => x.1.2) W ∧ Below w.heap.size w W)
    (fun _ _ _ => False)
    (OwnFrom.and (Own.from (ri_own _ _ Q _) _) (ownFrom_below (Nat.le_refl _) (by simp; omega)))
    (fun _ _ _ _ _ hs _ _ => hs)
    ⟨⟨_, [], bO1, hown1, trivial⟩, hB0⟩
    (fun x => { tmps := #[.pointer p, undef, .slice none 0 0, .pointer (some ⟨w1.heap.size, 0, none⟩), .pointer (some ⟨x.1.1, 0, none⟩), .pointer p, .int .i64 (l.length : Int), .slice A0 0 cc0, .pointer p, .pointer q, .func (.func 54) #[] #[.pointer (some ⟨w1.heap.size + 1, 0, none⟩)], .pointer (some ⟨x.1.1, 0, none⟩), undef, undef, undef, undef, undef, undef, undef, undef, undef, undef, undef, undef, undef, undef, undef, undef], defers := [] }) ?assign ?body ?done ?stop
  case assign =>
    intro l x W K hK
    gi_wp2
    exact hK
  case body =>
    rintro lb pre x W ⟨⟨v, ls, bo, hown, hen⟩, hB⟩ hpl
    obtain ⟨rv, hrow, c0, c1, hxlt⟩ := nd_in x hB
    have cb := bo.cell
    have HRW := Lib.hid hrow
    obtain ⟨_, A', c', rfl, _, _⟩ := hrow
    have HBW := Lib.hid hB
    have HOW := Lib.hid hown
    have HEN := Lib.hid hen
    have HBO := Lib.hid bo
    have hsz := hB.size
    have hk0 := bo.lt
    have hxlt' : x.1.1 < W.heap.size := by omega
    have hlsb : ls.length ≤ 700000 := by
      have h1 := hen.len
      have h2 : xs.length = l.length := by rw [← HXS.out, List.length_map]
      rw [List.length_map] at h1
      omega
    clear bo hB hown hen
    gi_wp2_with fail
    refine region_round (S := fun w' => w'.cell? { block := x.1.1, off := 0 } = some (.slice A' x.1.2.1.length c') ∧ w'.cell? { block := x.1.1, off := 1 } = some (.int .i64 x.1.2.2)) (by kernel_rfl) (by kernel_rfl) ⟨c0, c1⟩ (fun hHeld => ?_)
    change wpAnyH _ _ _ _ _ 16 (Array.replicate 16 false) _ _
    have cbd : W.drew.cell? ⟨w1.heap.size, 0, none⟩ = some v := cb
    refine' take_at (i := 1) rfl rfl (by kernel_rfl) (by kernel_rfl) (by kernel_rfl) (by rfl) ?hy1 (by assumption) ?rest1
    case hy1 => (intro w hSw; (try dsimp only at hSw); go_simp; (first | done | rfl))
    simp only [List.setIfInBounds_toArray, List.set_cons_zero, List.set_cons_succ]
    refine' take_at (i := 2) rfl rfl (by kernel_rfl) (by kernel_rfl) (by kernel_rfl) (by rfl) ?hy2 (by assumption) ?rest2
    case hy2 => (intro w hSw; (try dsimp only at hSw); go_simp; (first | done | rfl))
    simp only [List.setIfInBounds_toArray, List.set_cons_zero, List.set_cons_succ]
    refine' take_at (i := 3) rfl rfl (by kernel_rfl) (by kernel_rfl) (by kernel_rfl) (by rfl) ?hy3 (by assumption) ?rest3
    case hy3 => (intro w hSw; (try dsimp only at hSw); go_simp; (first | done | rfl))
    simp only [List.setIfInBounds_toArray, List.set_cons_zero, List.set_cons_succ]
    refine' take_at (i := 4) rfl rfl (by kernel_rfl) (by kernel_rfl) (by kernel_rfl) (by rfl) ?hy4 (by assumption) ?rest4
    case hy4 => (intro w hSw; (try dsimp only at hSw); go_simp; (first | done | rfl))
    simp only [List.setIfInBounds_toArray, List.set_cons_zero, List.set_cons_succ]
    refine' take_at (i := 5) rfl rfl (by kernel_rfl) (by kernel_rfl) (by kernel_rfl) (by rfl) ?hy5 (by assumption) ?rest5
    case hy5 => (intro w hSw; (try dsimp only at hSw); go_simp; (first | done | rfl))
    simp only [List.setIfInBounds_toArray, List.set_cons_zero, List.set_cons_succ]
    refine' take_at (i := 7) rfl rfl (by kernel_rfl) (by kernel_rfl) (by kernel_rfl) (by rfl) ?hy6 (by assumption) ?rest6
    case hy6 => (intro w hSw; (try dsimp only at hSw); go_simp; (first | done | rfl))
    simp only [List.setIfInBounds_toArray, List.set_cons_zero, List.set_cons_succ]
    refine' take_at (i := 8) rfl rfl (by kernel_rfl) (by kernel_rfl) (by kernel_rfl) (by rfl) ?hy7 (by assumption) ?rest7
    case hy7 => (intro w hSw; (try dsimp only at hSw); go_simp; (first | done | rfl))
    simp only [List.setIfInBounds_toArray, List.set_cons_zero, List.set_cons_succ]
    refine' take_at (i := 9) rfl rfl (by kernel_rfl) (by kernel_rfl) (by kernel_rfl) (by rfl) ?hy8 (by assumption) ?rest8
    case hy8 => (intro w hSw; (try dsimp only at hSw); go_simp; (first | done | rfl))
    simp only [List.setIfInBounds_toArray, List.set_cons_zero, List.set_cons_succ]
    refine' take_at (i := 10) rfl rfl (by kernel_rfl) (by kernel_rfl) (by kernel_rfl) (by rfl) ?hy9 (by assumption) ?rest9
    case hy9 => (intro w hSw; (try dsimp only at hSw); go_simp; (first | done | rfl))
    simp only [List.setIfInBounds_toArray, List.set_cons_zero, List.set_cons_succ]
    refine' take_at (i := 11) rfl rfl (by kernel_rfl) (by kernel_rfl) (by kernel_rfl) (by rfl) ?hy10 (by assumption) ?rest10
    case hy10 => (intro w hSw; (try dsimp only at hSw); go_simp; (first | done | rfl))
    simp only [List.setIfInBounds_toArray, List.set_cons_zero, List.set_cons_succ]
    refine' next_at2 (i := 0) (j := 6) (by kernel_rfl) rfl rfl (by rfl) (by rfl) ?fst1 ?snd1
    case fst1 =>
      intro K hK
      go_simp
      refine hK.out _ _ ⟨hHeld.1, hHeld.2⟩ (fun _ => ?_)
      clear hK K
      refine' next_at (i := 6) (by kernel_rfl) rfl (by rfl) ?_
      intro K hK
      go_simp
      refine (of_rows Q (fun k => W.heap.size ≤ k) _ x.1.2.1 _ (fun j hj => by exact hj) (HRW.out.below (below_drew _ _))).mono ?_
      rintro e w3 ⟨u, rfl, hu, hbw⟩
      have hbb := (below_drew W.heap.size W).trans hbw
      have hs5 := hbb.size
      have hx3 : x.1.1 < w3.heap.size := by omega
      have hk3 : w1.heap.size < w3.heap.size := by omega
      have hs3 : w3.cell? { block := x.1.1, off := 0 } = some (.slice A' x.1.2.1.length c') := (cl_of hbb _ 0 hxlt').trans c0
      have hs4 : w3.cell? { block := x.1.1, off := 1 } = some (.int .i64 x.1.2.2) := (cl_of hbb _ 1 hxlt').trans c1
      have b4 := Boxed.below HBO.out hbb
      have c4 := b4.cell
      have HC4 := Lib.hid b4
      have HBB := Lib.hid hbb
      have HU := Lib.hid hu
      obtain ⟨_, A2, c2, rfl, _, _⟩ := hu
      clear b4 hbb hbw
      refine hK.out _ _ ⟨hs3, hs4⟩ (fun _ => ?_)
      clear hK K
      refine' take_at (i := 12) rfl rfl (by kernel_rfl) (by kernel_rfl) (by kernel_rfl) (by rfl) ?hy11 (by assumption) ?rest11
      case hy11 => (intro w hSw; (try dsimp only at hSw); go_simp; (first | done | rfl))
      simp only [List.setIfInBounds_toArray, List.set_cons_zero, List.set_cons_succ]
      refine' next_at (i := 13) (by kernel_rfl) rfl (by rfl) ?_
      intro K hK
      go_simp
      refine hK.out _ _ ⟨(cl_of (one_new w3 _) _ 0 hx3).trans hs3, (cl_of (one_new w3 _) _ 1 hx3).trans hs4⟩ (fun _ => ?_)
      clear hK K
      have hlit := ent_lit1 w3 (.slice A2 x.1.2.1.length c2) x.1.2.2 (fun _ => True) (fun _ _ => trivial)
      have hown3 : OwnE w3 w.heap.size v ls := HOW.out.below HBB.out
      refine' next_at (i := 14) (by kernel_rfl) rfl (by rfl) ?_
      intro K hK
      refine op_append_Ed _ (.tmp 12) (.tmp 25) 26 rfl rfl w.heap.size v ls [(.slice A2 x.1.2.1.length c2, x.1.2.2)] rfl (hown3.alloc _) _ _ _ rfl rfl (fun _ => True) hlit (by simp [flatE, Value.oneCell']) (by simp; omega) (by simp; omega) ?_
      intro v' w5 hown' hb' hgrow hor
      obtain ⟨g', cap', hv'⟩ := hown'.succ
      subst hv'
      have happ := Boxed.appended (W := w3) (w1 := w5) HC4.out (by decide) hown3 (by omega) (by omega) hown' hgrow
      obtain ⟨q1, q2, q3, q4, q5⟩ := happ
      have cq := q1.cell
      have fq := q1.frozen
      have hx5 : w5.cell? { block := x.1.1, off := 0 } = some (.slice A' x.1.2.1.length c') := (hb'.cell (p := ⟨x.1.1, 0, none⟩) hxlt).trans ((cl_of (one_new w3 _) _ 0 hx3).trans hs3)
      have hx6 : w5.cell? { block := x.1.1, off := 1 } = some (.int .i64 x.1.2.2) := (hb'.cell (p := ⟨x.1.1, 1, none⟩) hxlt).trans ((cl_of (one_new w3 _) _ 1 hx3).trans hs4)
      have hne : x.1.1 ≠ w1.heap.size := by omega
      have HQ2 := Lib.hid q2
      have HQ3 := Lib.hid q3
      have HQ4 := Lib.hid q4
      have HQ5 := Lib.hid q5
      have HOR := Lib.hid hor
      have HGR := Lib.hid hgrow
      clear q1 q2 q3 q4 q5 hor hgrow hown'
      refine hK.out _ _ ⟨hx5, hx6⟩ (fun _ => ?_)
      clear hK K
      simp only [List.setIfInBounds_toArray, List.set_cons_zero, List.set_cons_succ]
      refine' next_at (i := 15) (by kernel_rfl) rfl (by rfl) ?_
      intro K hK
      go_simp
      refine hK.out _ _ ⟨(far_cell _ hne _ 0).trans hx5, (far_cell _ hne _ 1).trans hx6⟩ (fun _ => ?_)
      clear hK K
      refine all_done (by kernel_rfl) ?_
      clear cq fq hx5 hx6
      gi_wp2
      refine ⟨(keeps_below HBB.out).trans (HQ4.out.from _), (HBB.out.mono hsz).trans HQ5.out, ⟨⟨_, _, HQ2.out, HQ3.out, ?_⟩, (HBW.out.trans (HBB.out.mono hsz)).trans HQ5.out⟩⟩
      rw [List.map_append, List.map_singleton]
      exact en_next HQ.out HBW.out.size hk0 HOW.out HBB.out HEN.out HU.out HGR.out HOR.out
    case snd1 =>
      intro K hK
      go_simp
      refine (of_rows Q (fun k => W.heap.size ≤ k) _ x.1.2.1 _ (fun j hj => by exact hj) (HRW.out.below (below_drew _ _))).mono ?_
      rintro e w3 ⟨u, rfl, hu, hbw⟩
      have hbb := (below_drew W.heap.size W).trans hbw
      have hs5 := hbb.size
      have hx3 : x.1.1 < w3.heap.size := by omega
      have hk3 : w1.heap.size < w3.heap.size := by omega
      have hs3 : w3.cell? { block := x.1.1, off := 0 } = some (.slice A' x.1.2.1.length c') := (cl_of hbb _ 0 hxlt').trans c0
      have hs4 : w3.cell? { block := x.1.1, off := 1 } = some (.int .i64 x.1.2.2) := (cl_of hbb _ 1 hxlt').trans c1
      have b4 := Boxed.below HBO.out hbb
      have c4 := b4.cell
      have HC4 := Lib.hid b4
      have HBB := Lib.hid hbb
      have HU := Lib.hid hu
      obtain ⟨_, A2, c2, rfl, _, _⟩ := hu
      clear b4 hbb hbw
      refine hK.out _ _ ⟨hs3, hs4⟩ (fun _ => ?_)
      clear hK K
      refine' take_at (i := 12) rfl rfl (by kernel_rfl) (by kernel_rfl) (by kernel_rfl) (by rfl) ?hy12 (by assumption) ?rest12
      case hy12 => (intro w hSw; (try dsimp only at hSw); go_simp; (first | done | rfl))
      simp only [List.setIfInBounds_toArray, List.set_cons_zero, List.set_cons_succ]
      refine' next_at2 (i := 0) (j := 13) (by kernel_rfl) rfl rfl (by rfl) (by rfl) ?fst2 ?snd2
      case fst2 =>
        intro K hK
        go_simp
        refine hK.out _ _ ⟨hs3, hs4⟩ (fun _ => ?_)
        clear hK K
        refine' next_at (i := 13) (by kernel_rfl) rfl (by rfl) ?_
        intro K hK
        go_simp
        refine hK.out _ _ ⟨(cl_of (one_new w3 _) _ 0 hx3).trans hs3, (cl_of (one_new w3 _) _ 1 hx3).trans hs4⟩ (fun _ => ?_)
        clear hK K
        have hlit := ent_lit1 w3 (.slice A2 x.1.2.1.length c2) x.1.2.2 (fun _ => True) (fun _ _ => trivial)
        have hown3 : OwnE w3 w.heap.size v ls := HOW.out.below HBB.out
        refine' next_at (i := 14) (by kernel_rfl) rfl (by rfl) ?_
        intro K hK
        refine op_append_Ed _ (.tmp 12) (.tmp 25) 26 rfl rfl w.heap.size v ls [(.slice A2 x.1.2.1.length c2, x.1.2.2)] rfl (hown3.alloc _) _ _ _ rfl rfl (fun _ => True) hlit (by simp [flatE, Value.oneCell']) (by simp; omega) (by simp; omega) ?_
        intro v' w5 hown' hb' hgrow hor
        obtain ⟨g', cap', hv'⟩ := hown'.succ
        subst hv'
        have happ := Boxed.appended (W := w3) (w1 := w5) HC4.out (by decide) hown3 (by omega) (by omega) hown' hgrow
        obtain ⟨q1, q2, q3, q4, q5⟩ := happ
        have cq := q1.cell
        have fq := q1.frozen
        have hx5 : w5.cell? { block := x.1.1, off := 0 } = some (.slice A' x.1.2.1.length c') := (hb'.cell (p := ⟨x.1.1, 0, none⟩) hxlt).trans ((cl_of (one_new w3 _) _ 0 hx3).trans hs3)
        have hx6 : w5.cell? { block := x.1.1, off := 1 } = some (.int .i64 x.1.2.2) := (hb'.cell (p := ⟨x.1.1, 1, none⟩) hxlt).trans ((cl_of (one_new w3 _) _ 1 hx3).trans hs4)
        have hne : x.1.1 ≠ w1.heap.size := by omega
        have HQ2 := Lib.hid q2
        have HQ3 := Lib.hid q3
        have HQ4 := Lib.hid q4
        have HQ5 := Lib.hid q5
        have HOR := Lib.hid hor
        have HGR := Lib.hid hgrow
        clear q1 q2 q3 q4 q5 hor hgrow hown'
        refine hK.out _ _ ⟨hx5, hx6⟩ (fun _ => ?_)
        clear hK K
        simp only [List.setIfInBounds_toArray, List.set_cons_zero, List.set_cons_succ]
        refine' next_at (i := 15) (by kernel_rfl) rfl (by rfl) ?_
        intro K hK
        go_simp
        refine hK.out _ _ ⟨(far_cell _ hne _ 0).trans hx5, (far_cell _ hne _ 1).trans hx6⟩ (fun _ => ?_)
        clear hK K
        refine all_done (by kernel_rfl) ?_
        clear cq fq hx5 hx6
        gi_wp2
        refine ⟨(keeps_below HBB.out).trans (HQ4.out.from _), (HBB.out.mono hsz).trans HQ5.out, ⟨⟨_, _, HQ2.out, HQ3.out, ?_⟩, (HBW.out.trans (HBB.out.mono hsz)).trans HQ5.out⟩⟩
        rw [List.map_append, List.map_singleton]
        exact en_next HQ.out HBW.out.size hk0 HOW.out HBB.out HEN.out HU.out HGR.out HOR.out
      case snd2 =>
        intro K hK
        go_simp
        refine hK.out _ _ ⟨(cl_of (one_new w3 _) _ 0 hx3).trans hs3, (cl_of (one_new w3 _) _ 1 hx3).trans hs4⟩ (fun _ => ?_)
        clear hK K
        refine' next_at (i := 0) (by kernel_rfl) rfl (by rfl) ?_
        intro K hK
        go_simp
        refine hK.out _ _ ⟨(cl_of (one_new w3 _) _ 0 hx3).trans hs3, (cl_of (one_new w3 _) _ 1 hx3).trans hs4⟩ (fun _ => ?_)
        clear hK K
        have hlit := ent_lit1 w3 (.slice A2 x.1.2.1.length c2) x.1.2.2 (fun _ => True) (fun _ _ => trivial)
        have hown3 : OwnE w3 w.heap.size v ls := HOW.out.below HBB.out
        refine' next_at (i := 14) (by kernel_rfl) rfl (by rfl) ?_
        intro K hK
        refine op_append_Ed _ (.tmp 12) (.tmp 25) 26 rfl rfl w.heap.size v ls [(.slice A2 x.1.2.1.length c2, x.1.2.2)] rfl (hown3.alloc _) _ _ _ rfl rfl (fun _ => True) hlit (by simp [flatE, Value.oneCell']) (by simp; omega) (by simp; omega) ?_
        intro v' w5 hown' hb' hgrow hor
        obtain ⟨g', cap', hv'⟩ := hown'.succ
        subst hv'
        have happ := Boxed.appended (W := w3) (w1 := w5) HC4.out (by decide) hown3 (by omega) (by omega) hown' hgrow
        obtain ⟨q1, q2, q3, q4, q5⟩ := happ
        have cq := q1.cell
        have fq := q1.frozen
        have hx5 : w5.cell? { block := x.1.1, off := 0 } = some (.slice A' x.1.2.1.length c') := (hb'.cell (p := ⟨x.1.1, 0, none⟩) hxlt).trans ((cl_of (one_new w3 _) _ 0 hx3).trans hs3)
        have hx6 : w5.cell? { block := x.1.1, off := 1 } = some (.int .i64 x.1.2.2) := (hb'.cell (p := ⟨x.1.1, 1, none⟩) hxlt).trans ((cl_of (one_new w3 _) _ 1 hx3).trans hs4)
        have hne : x.1.1 ≠ w1.heap.size := by omega
        have HQ2 := Lib.hid q2
        have HQ3 := Lib.hid q3
        have HQ4 := Lib.hid q4
        have HQ5 := Lib.hid q5
        have HOR := Lib.hid hor
        have HGR := Lib.hid hgrow
        clear q1 q2 q3 q4 q5 hor hgrow hown'
        refine hK.out _ _ ⟨hx5, hx6⟩ (fun _ => ?_)
        clear hK K
        simp only [List.setIfInBounds_toArray, List.set_cons_zero, List.set_cons_succ]
        refine' next_at (i := 15) (by kernel_rfl) rfl (by rfl) ?_
        intro K hK
        go_simp
        refine hK.out _ _ ⟨(far_cell _ hne _ 0).trans hx5, (far_cell _ hne _ 1).trans hx6⟩ (fun _ => ?_)
        clear hK K
        refine all_done (by kernel_rfl) ?_
        clear cq fq hx5 hx6
        gi_wp2
        refine ⟨(keeps_below HBB.out).trans (HQ4.out.from _), (HBB.out.mono hsz).trans HQ5.out, ⟨⟨_, _, HQ2.out, HQ3.out, ?_⟩, (HBW.out.trans (HBB.out.mono hsz)).trans HQ5.out⟩⟩
        rw [List.map_append, List.map_singleton]
        exact en_next HQ.out HBW.out.size hk0 HOW.out HBB.out HEN.out HU.out HGR.out HOR.out
  case done =>
    rintro D ys W hD rfl ⟨⟨v, ls, bo, hown, hen⟩, hB⟩ hK
    have cb := bo.cell
    have HK := Lib.hid hK
    have HBW := Lib.hid hB
    have hown2 := ownsRow_putObj hown (.deferred none) hK rfl
    have hen2 := EnR.kept (grownBy_putObj' W D (.deferred none)) (fun r e => by cases e; exact ⟨_, hK, rfl⟩) hen
    have hlen2 := hen2.len
    rw [HXS.out] at hen2 hlen2
    obtain ⟨A5, c5, hv, hA5, _, hc5⟩ := OwnE.slice hown2 Q HQ.out
    subst hv
    have hD' : w1.heap.size + 2 ≤ D := by simpa using hD
    have HE := Lib.hid hen2
    have HC5 := Lib.hid hc5
    have HA5 := Lib.hid hA5
    have HL5 := Lib.hid hlen2
    have HO5 := Lib.hid hown2
    clear bo hown hen hB hK hown2 hen2 hc5 hA5 hlen2
    go_wp2
    refine ⟨by simp, .inl ⟨_, _, rfl, run_takeDeferred HK.out, ?_⟩⟩
    refine ⟨_, results_tmp rfl _ _ _, A5, c5, ls, ?_, ?_, ?_, HBW.out.trans (belowK_b (w := w) (Nat.le_refl _) W D _ (.deferred none) (by omega) HK.out rfl rfl)⟩
    · rw [← HL5.out]
      rfl
    · rw [← HL5.out]
      exact HO5.out
    · rw [← HL5.out]
      exact EnR.imp (fun k _ h => ⟨h.1, h.2.2⟩) HE.out
  case stop =>
    rintro D c pre W _ _ h _
    exact h.elim

theorem b_rows (Q : Nat → Prop) (p : Option Addr) (l : List En) (w : World) (hQ : ∀ k, w.heap.size ≤ k → Q k) (hb : BagP w Q p l) (hlen : l.length ≤ 700000) :
    Calls Try.prog 23 #[.pointer p] w fun e w' => ∃ L c, e = .returned (.slice L l.length c) ∧ (L = none → c = 0) ∧ EntsQ w' Q L l ∧ Below w.heap.size w w' := by
  refine (b_rows2 Q p l w hQ hb hlen).mono ?_
  rintro e w' ⟨L, c, ls, rfl, hown, hen, hb⟩
  obtain ⟨A, c', hv, hA, _, hc⟩ := hown.slice Q hQ
  injection hv with h1 h2 h3
  subst h1
  subst h3
  exact ⟨_, _, rfl, hA, ⟨ls, hen.imp (fun k _ h => h.1), hc⟩, hb⟩
end Go.Proofs.Ytpliofhphijdkaa
