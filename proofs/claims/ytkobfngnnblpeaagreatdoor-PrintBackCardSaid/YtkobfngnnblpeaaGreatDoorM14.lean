/-
  Read of package lex answers the tokens of every text, or where, and why, it has none; nothing that was there is changed.
  Condition: the library's variables are as the program's text lays them.
-/
import Derived.Test.YtkobfngnnblpeaaGreatDoorM12
import Derived.Test.YtkobfngnnblpeaaGreatDoorM13
namespace Go.Proofs.YtkobfngnnblpeaaGreatDoor
open Go.RowKit Go.Shelf

attribute [local go_sem] Oper.semAt_some

theorem blk_kept {W W' : World} {row : Option Nat} {B : Nat} {cs : Array Value} {t : TypeId} {f : Nat × Nat} (h : W.heap[B]? = some (.cells cs t f)) (hg : W.grownBy W' row) (hr : ∀ r, row = some r → ∃ o : Obj, W.heap[r]? = some o ∧ o.isCells = false) : W'.heap[B]? = some (.cells cs t f) := by
  refine (hg.block B (Array.getElem?_eq_some_iff.1 h).1 (fun e => ?_)).trans h
  obtain ⟨o, ho, hc⟩ := hr B e.symm
  rw [h] at ho
  cases ho
  cases hc
theorem OwnT.kept {E : TypeId} {w w' : World} {base : Nat} {v : Value} {ls : List Tok} {row : Option Nat} (h : OwnT E w base v ls) (hg : w.grownBy w' row) (hr : ∀ r, row = some r → ∃ o : Obj, w.heap[r]? = some o ∧ o.isCells = false) : OwnT E w' base v ls := by
  refine World.ownsRow.kept h hg ?_
  rcases h.2 with ⟨rfl, _⟩ | ⟨g, cap, cur, rfl, _, hgb, _⟩
  · exact .inl rfl
  · refine .inr fun e' => ?_
    obtain ⟨o, ho, hc⟩ := hr g (by simpa [Value.ownBlock] using e'.symm)
    rw [hgb] at ho
    cases ho
    cases hc

theorem cell_other (w : World) {b b' : Nat} (h : b ≠ b') (o : Nat) (v : Value) : (w.setCell ⟨b', 0, none⟩ v).cell? ⟨b, o, none⟩ = w.cell? ⟨b, o, none⟩ := World.cell?_of_block (w := w) (Below.heap_setCell _ _ _ b h)
theorem Boxed.drew' {W : World} {B : Nat} {t : TypeId} {v : Value} (hv : Boxed W B t v) : Boxed W.drew B t v := hv
theorem KB.of_below {n0 bo : Nat} {T : TypeId} {W W' : World} (h0 : n0 ≤ W.heap.size) (h : Below W.heap.size W W') : KB n0 bo T W W' :=
  ⟨h.mono h0, fun v hv => ⟨fun k _ hk _ _ _ => (h.block k (Array.getElem?_eq_some_iff.1 hk).1).trans hk, v, (h.block bo hv.lt).trans hv, fun _ e => .inl e⟩⟩

theorem KB.append {n0 bo : Nat} {T : TypeId} {W w1 : World} {v v' : Value} {tmp : Obj} (hv : Boxed W bo T v) (hg : (W.alloc tmp).grownBy w1 v.ownBlock) (hor : v'.ownBlock = v.ownBlock ∨ v'.ownBlock = some (W.alloc tmp).heap.size) (h2 : Boxed (w1.setCell ⟨bo, 0, none⟩ v') bo T v')
    (h5 : Below n0 W (w1.setCell ⟨bo, 0, none⟩ v')) (hlt : ∀ k, v'.ownBlock = some k → k < (w1.setCell ⟨bo, 0, none⟩ v').heap.size) : KB n0 bo T W (w1.setCell ⟨bo, 0, none⟩ v') := by
  refine ⟨h5, fun u hu => ?_⟩
  have e : u = v := by
    have e1 : some (Obj.cells #[u] T (0, 0)) = some (Obj.cells #[v] T (0, 0)) := (show W.heap[bo]? = _ from hu).symm.trans hv
    injection e1 with e1
    injection e1 with e1
    simpa using e1
  subst e
  refine ⟨fun k o hk _ hb hn => ?_, v', h2, fun k hk => ?_⟩
  · have hlt : k < W.heap.size := (Array.getElem?_eq_some_iff.1 hk).1
    rw [Below.heap_setCell _ _ _ k hb, hg.block k (by simp; omega) (fun e => hn e.symm), Below.heap_alloc _ _ _ hlt]
    exact hk
  · rcases hor with h | h
    · exact .inl (h ▸ hk)
    · refine .inr ⟨?_, hlt k hk⟩
      rw [h, World.size_alloc] at hk
      injection hk with hk
      omega

set_option maxHeartbeats 1000000 in
theorem lx_tokens (s : ByteArray) (w : World) : Calls Tryz.prog 12 #[.string s] w fun e w' => e = .returned (.func (.func 28) #[] #[.pointer (some ⟨w.heap.size, 0, none⟩)]) ∧ w' = w.alloc (.cells #[.string s] 9) := by
  go_enter Tryz.func12, Tryz.ntmps12
  go_wp2
  go_ret
  exact ⟨rfl, rfl⟩

theorem tk_stops (n : Nat) (Bt bo : Nat) (T : TypeId) (s : ByteArray) (hs : s.size ≤ 300) (w0 : World) (hv : Vars w0) (W0 : World) (hb0 : Below w0.heap.size w0 W0) (hbt : bo ≠ Bt) (hBt : Boxed W0 Bt 9 (.string s)) (hrow : RowOk W0 bo T Bt) :
    SeqStopsK Fence.wide n Tryz.prog 28 #[.pointer (some ⟨Bt, 0, none⟩)] (fun x : Tok => #[x.val]) (KB w0.heap.size bo T) (fun ys => ys = lexA s.size s.data.toList) (fun pre => pre <+: lexA s.size s.data.toList) (lexA s.size s.data.toList).length W0 :=
  fun l J Jx W hW hJ _ hY h0 => tk1_in n l Bt bo T s hs w0 hv J Jx (fun pre A B hj hb => hJ pre A B none hj (grown_of_below hb) (fun r e => by cases e)) hY W (hb0.trans (hW.mono hb0.size)) hbt ((hW.block Bt hBt.lt).trans hBt) (hrow.below hW) h0

/-- What the loop of Read has behind the tokens that have come. -/
def TI (w : World) (pre : List Tok) (W : World) : Prop :=
  (∃ v, Boxed W (w.heap.size + 1 + 1 + 1) 23 v ∧ OwnT 31 W w.heap.size v pre) ∧ Boxed W w.heap.size 23 (.slice none 0 0) ∧ Boxed W (w.heap.size + 1) 3 (.int .i64 0) ∧ Boxed W (w.heap.size + 1 + 1) 24 (.int .i64 0)
theorem ti_own (w : World) : Go.Own (fun (pre : List Tok) W => TI w pre W) := by
  intro s X Y row hs hg hr
  obtain ⟨⟨v, h1, h2⟩, h3, h4, h5⟩ := hs
  exact ⟨⟨v, blk_kept h1 hg hr, h2.kept hg hr⟩, blk_kept h3 hg hr, blk_kept h4 hg hr, blk_kept h5 hg hr⟩
/-- What it has left where a token was wrong. -/
def TX (w : World) (pre : List Tok) (W : World) : Prop :=
  ∃ q x, pre = q ++ [x] ∧ x.k = 0 ∧ (∀ y ∈ q, y.k ≠ 0) ∧ Boxed W w.heap.size 23 (.slice none 0 0) ∧ Boxed W (w.heap.size + 1) 3 (.int .i64 x.a) ∧ Boxed W (w.heap.size + 1 + 1) 24 (.int .i64 7)
theorem tx_own (w : World) : Go.Own (fun (pre : List Tok) W => TX w pre W) := by
  intro s X Y row hs hg hr
  obtain ⟨q, x, h0, h1, h2, h3, h4, h5⟩ := hs
  exact ⟨q, x, h0, h1, h2, blk_kept h3 hg hr, blk_kept h4 hg hr, blk_kept h5 hg hr⟩
set_option maxRecDepth 100000 in
set_option maxHeartbeats 4000000 in
theorem lx_read2 (s : ByteArray) (w : World) (hv : Vars w) : Calls Tryz.prog 5 #[.string s] w fun e w' => ∃ A c, e = .returned (.tuple #[.slice A (lexR s.data.toList).1.length c, .int .i64 (lexR s.data.toList).2.1, .int .i64 (lexR s.data.toList).2.2]) ∧ (A = none → c = 0) ∧ (lexR s.data.toList).1.length ≤ c ∧ ToksAt w' A (lexR s.data.toList).1 ∧ (∀ a, A = some a → ∃ g, a = ⟨g, 0, none⟩) ∧ Below w.heap.size w w' := by
  have HV := Lib.hid hv
  have hsl : s.data.toList.length = s.size := rfl
  clear hv
  by_cases hbig : 300 < s.size
  · have hr : lexR s.data.toList = ([], 0, 9) := by unfold lexR; rw [hsl, if_pos hbig]
    rw [hr]
    clear hr hsl
    go_enter Tryz.func5, Tryz.ntmps5
    go_wp2
    refine bodyPost_ret (v := .tuple #[.slice none 0 0, .int .i64 0, .int .i64 9]) (by simp [results, Tryz.results5, go_sem]) rfl ⟨none, 0, rfl, fun _ => rfl, Nat.le_refl _, fun j u hj => by simp [flatT] at hj, fun a h => (by cases h), ?_⟩
    exact (two_new _ _ _).alloc (by simp; omega) _
  · have hs : s.size ≤ 300 := by omega
    clear hbig
    refine (callsIn_wide (n := 5)).1 ?_
    refine callsIn_of_wp_marks Tryz.func5 rfl trivial ?_ rfl
    simp only [Tryz.ntmps5, List.size_toArray, List.length_cons, List.length_nil, Nat.reduceAdd, Nat.reduceSub, Array.replicate_succ, Array.replicate_zero, List.push_toArray, List.append_toArray, List.nil_append, List.cons_append]
    gi_wp2_with fail
    refine ⟨trivial, ?_⟩
    refine (callsIn_wide.2 (lx_tokens s _)).mono ?_
    rintro e w1 ⟨rfl, rfl⟩
    gi_wp2
    obtain ⟨W0, hW0⟩ : ∃ W0, W0 = ((((w.alloc (.cells #[.slice none 0 0] 23)).alloc (.cells #[.int .i64 0] 3)).alloc (.cells #[.int .i64 0] 24)).alloc (.cells #[.slice none 0 0] 23)).alloc (.cells #[.string s] 9) := ⟨_, rfl⟩
    have bR := ((((Boxed.new w 23 (.slice none 0 0)).alloc (.cells #[.int .i64 0] 3)).alloc (.cells #[.int .i64 0] 24)).alloc (.cells #[.slice none 0 0] 23)).alloc (.cells #[.string s] 9)
    have bA := (((Boxed.new (w.alloc (.cells #[.slice none 0 0] 23)) 3 (.int .i64 0)).alloc (.cells #[.int .i64 0] 24)).alloc (.cells #[.slice none 0 0] 23)).alloc (.cells #[.string s] 9)
    have bE := ((Boxed.new ((w.alloc (.cells #[.slice none 0 0] 23)).alloc (.cells #[.int .i64 0] 3)) 24 (.int .i64 0)).alloc (.cells #[.slice none 0 0] 23)).alloc (.cells #[.string s] 9)
    have bO := (Boxed.new (((w.alloc (.cells #[.slice none 0 0] 23)).alloc (.cells #[.int .i64 0] 3)).alloc (.cells #[.int .i64 0] 24)) 23 (.slice none 0 0)).alloc (.cells #[.string s] 9)
    have bT := Boxed.new ((((w.alloc (.cells #[.slice none 0 0] 23)).alloc (.cells #[.int .i64 0] 3)).alloc (.cells #[.int .i64 0] 24)).alloc (.cells #[.slice none 0 0] 23)) 9 (.string s)
    have hB0 : Below w.heap.size w (((((w.alloc (.cells #[.slice none 0 0] 23)).alloc (.cells #[.int .i64 0] 3)).alloc (.cells #[.int .i64 0] 24)).alloc (.cells #[.slice none 0 0] 23)).alloc (.cells #[.string s] 9)) := ((((one_new w _).alloc (by simp) _).alloc (by simp; omega) _).alloc (by simp; omega) _).alloc (by simp; omega) _
    have hsz : (((((w.alloc (.cells #[.slice none 0 0] 23)).alloc (.cells #[.int .i64 0] 3)).alloc (.cells #[.int .i64 0] 24)).alloc (.cells #[.slice none 0 0] 23)).alloc (.cells #[.string s] 9)).heap.size = w.heap.size + 5 := by simp
    simp only [World.size_alloc] at bA bE bO bT
    rw [← hW0] at bR bA bE bO bT hB0 hsz ⊢
    clear hW0
    have hro : RowOk W0 (w.heap.size + 1 + 1 + 1) 23 (w.heap.size + 1 + 1 + 1 + 1) := ⟨_, bO, fun k hk => by cases hk⟩
    have HT := Lib.hid (tk_stops (5 - 1) (w.heap.size + 1 + 1 + 1 + 1) (w.heap.size + 1 + 1 + 1) 23 s hs w HV.out W0 hB0 (by omega) bT hro)
    obtain ⟨ys, hys⟩ : ∃ ys, ys = lexA s.size s.data.toList := ⟨_, rfl⟩
    have hyl : ys.length ≤ 301 := by
      rw [hys]
      have := lexA_len s.size s.data.toList
      omega
    rw [← hys] at HT
    have HYS := Lib.hid hys
    clear hys
    refine wpIn_rangeFunc_ownH rfl (by omega) (gf := 28) (lb := #[.pointer (some ⟨w.heap.size + 1 + 1 + 1 + 1, 0, none⟩)]) rfl trivial (enters_of Tryz.func28 (by kernel_rfl) rfl)
      HT.out (fun h1 h2 => KB.trans h1 h2) (fun W l o o' h1 h2 h3 h4 => KB.turn hB0.size W l o o' h1 h2 h3 h4) (Below.refl _ _) (fun _ => rfl)
      (fun pre W => TI w pre W ∧ Hid (∀ y ∈ pre, y.k ≠ 0) ∧ Below w.heap.size w W)
      (fun c pre W => (c = .ret ∧ TX w pre W) ∧ Below w.heap.size w W)
      (OwnFrom.and (Own.from (ti_own w) _) (OwnFrom.and (ownFrom_pure _ _) (ownFrom_below (Nat.le_refl _) (by omega))))
      (fun c => OwnFrom.and (OwnFrom.and (ownFrom_pure _ _) (Own.from (tx_own w) _)) (ownFrom_below (Nat.le_refl _) (by omega)))
      ⟨⟨⟨_, bO, OwnT.nil _ _ _⟩, bR, bA, bE⟩, Lib.hid (fun y hy => by cases hy), hB0⟩
      (fun x a' W => ∃ Bx, w.heap.size + 1 + 1 + 1 < Bx ∧ W.heap[Bx]? = some (.cells #[.int .i64 x.k, .string x.t, .int .i64 x.v.k, .bool x.v.f, .int .i64 x.v.n, .string x.v.t, .int .i64 x.a] 31 (0, 0)) ∧
        a' = { tmps := #[.string s, undef, .pointer (some ⟨w.heap.size, 0, none⟩), .pointer (some ⟨w.heap.size + 1, 0, none⟩), .pointer (some ⟨w.heap.size + 1 + 1, 0, none⟩), .pointer (some ⟨w.heap.size + 1 + 1 + 1, 0, none⟩), .pointer (some ⟨Bx, 0, none⟩), .string s, .int .i64 s.size, .bool (decide (300 < (s.size : Int))), .string s, .func (.func 28) #[] #[.pointer (some ⟨w.heap.size + 1 + 1 + 1 + 1, 0, none⟩)], x.val, undef, undef, undef, undef, undef, undef, undef, undef, undef, undef], defers := [] })
      (fun x a' _ X Y row hs hg hr => by obtain ⟨Bx, h1, h2, h3⟩ := hs; exact ⟨Bx, h1, blk_kept h2 hg (fun r e => (hr r e).2), h3⟩)
      ?assign ?body ?done ?stop
    case assign =>
      rintro l pre x W K ⟨⟨⟨v, h1, h2⟩, h3, h4, h5⟩, h6, h7⟩ hK
      gi_wp2
      have hsW := h7.size
      exact hK _ _ ((KeepsOthers.alloc _ _).from _) (KB.of_below hsW (one_new _ _)) ⟨⟨⟨v, h1.alloc _, h2.alloc _⟩, h3.alloc _, h4.alloc _, h5.alloc _⟩, h6, h7.alloc hsW _⟩ ⟨W.heap.size, h1.lt, World.alloc_heap_new _ _, rfl⟩
    case body =>
      rintro l pre x a' W hl ⟨r, hr⟩ ⟨⟨⟨v, h1, h2⟩, h3, h4, h5⟩, h6, h7⟩ ⟨Bx, hBx, hX, rfl⟩ hlt
      have c0 : W.cell? ⟨Bx, 0, none⟩ = some (.int .i64 x.k) := cell_of_row _ Bx 0 _ _ (0, 0) hX
      have c1 : W.cell? ⟨Bx, 1, none⟩ = some (.string x.t) := cell_of_row _ Bx 1 _ _ (0, 0) hX
      have c2 : W.cell? ⟨Bx, 2, none⟩ = some (.int .i64 x.v.k) := cell_of_row _ Bx 2 _ _ (0, 0) hX
      have c3 : W.cell? ⟨Bx, 3, none⟩ = some (.bool x.v.f) := cell_of_row _ Bx 3 _ _ (0, 0) hX
      have c4 : W.cell? ⟨Bx, 4, none⟩ = some (.int .i64 x.v.n) := cell_of_row _ Bx 4 _ _ (0, 0) hX
      have c5 : W.cell? ⟨Bx, 5, none⟩ = some (.string x.v.t) := cell_of_row _ Bx 5 _ _ (0, 0) hX
      have c6 : W.cell? ⟨Bx, 6, none⟩ = some (.int .i64 x.a) := cell_of_row _ Bx 6 _ _ (0, 0) hX
      have cO := h1.cell
      have cR := h3.cell
      have cA := h4.cell
      have cE := h5.cell
      have fO := h1.frozen
      have fR := h3.frozen
      have fA := h4.frozen
      have fE := h5.frozen
      have hsW := h7.size
      have H1 := Lib.hid h1
      have H2 := Lib.hid h2
      have H3 := Lib.hid h3
      have H4 := Lib.hid h4
      have H5 := Lib.hid h5
      have H7 := Lib.hid h7
      have HX := Lib.hid hX
      have HR := Lib.hid hr
      by_cases h0 : x.k = 0
      · have b0 : (x.k == 0) = true := by simpa using h0
        have H0 := Lib.hid h0
        clear h1 h2 h3 h4 h5 h7 hX hr h0
        gi_wp2
        refine region_round (S := fun w' => w'.cell? { block := Bx, off := 6 } = some (.int .i64 x.a)) (by kernel_rfl) (by kernel_rfl) c6 (fun hHeld => ?_)
        change wpAnyH _ _ _ _ _ 5 (Array.replicate 5 false) _ _
        refine' take_at (i := 0) rfl rfl (by kernel_rfl) (by kernel_rfl) (by kernel_rfl) (by rfl) ?hy1 (by assumption) ?rest1
        case hy1 => (intro w hSw; (try dsimp only at hSw); go_simp; (first | done | rfl))
        simp only [List.setIfInBounds_toArray, List.set_cons_zero, List.set_cons_succ]
        refine' take_at (i := 1) rfl rfl (by kernel_rfl) (by kernel_rfl) (by kernel_rfl) (by rfl) ?hy2 (by assumption) ?rest2
        case hy2 => (intro w hSw; (try dsimp only at hSw); go_simp; (first | done | rfl))
        simp only [List.setIfInBounds_toArray, List.set_cons_zero, List.set_cons_succ]
        refine' next_at (i := 2) (by kernel_rfl) rfl (by rfl) ?_
        intro K hK
        go_simp
        have s1 := (cell_other W.drew (b := Bx) (b' := w.heap.size) (by omega) 6 (.slice none 0 0)).trans hHeld
        refine hK.out _ _ s1 (fun _ => ?_)
        clear hK K
        refine' next_at (i := 3) (by kernel_rfl) rfl (by rfl) ?_
        intro K hK
        go_simp
        have s2 := (cell_other _ (b := Bx) (b' := w.heap.size + 1) (by omega) 6 (.int .i64 x.a)).trans s1
        refine hK.out _ _ s2 (fun _ => ?_)
        clear hK K
        refine' next_at (i := 4) (by kernel_rfl) rfl (by rfl) ?_
        intro K hK
        go_simp
        have s3 := (cell_other _ (b := Bx) (b' := w.heap.size + 1 + 1) (by omega) 6 (.int .i64 7)).trans s2
        refine hK.out _ _ s3 (fun _ => ?_)
        clear hK K
        refine all_done (by kernel_rfl) ?_
        clear s1 s2 s3 hHeld
        gi_wp2
        have q1 : Below w.heap.size W (((W.drew.setCell ⟨w.heap.size, 0, none⟩ (.slice none 0 0)).setCell ⟨w.heap.size + 1, 0, none⟩ (.int .i64 x.a)).setCell ⟨w.heap.size + 1 + 1, 0, none⟩ (.int .i64 7)) := ((((Below.refl _ W).drew).setCell (p := ⟨w.heap.size, 0, none⟩) (by simp) _).setCell (p := ⟨w.heap.size + 1, 0, none⟩) (by simp) _).setCell (p := ⟨w.heap.size + 1 + 1, 0, none⟩) (by simp; omega) _
        exact ⟨((((KeepsOthers.drew W).trans (KeepsOthers.setCell _ _ _)).trans (KeepsOthers.setCell _ _ _)).trans (KeepsOthers.setCell _ _ _)).from _, ⟨rfl, pre, x, rfl, H0.out, h6.out,
          (Boxed.other (Boxed.other (Boxed.set _ (Boxed.drew' H3.out)) (by omega) _) (by omega) _), (Boxed.other (Boxed.set _ (Boxed.other (Boxed.drew' H4.out) (by omega) _)) (by omega) _), (Boxed.set _ (Boxed.other (Boxed.other (Boxed.drew' H5.out) (by omega) _) (by omega) _))⟩, H7.out.trans q1⟩
      · have b0 : (x.k == 0) = false := by simpa using h0
        have H0 := Lib.hid h0
        clear h1 h2 h3 h4 h5 h7 hX hr h0
        have hfx : W.frozen? ⟨Bx, 0, none⟩ = false := by unfold World.frozen?; rw [HX.out]; simp
        have hpl : pre.length ≤ 300 := by omega
        clear hfx
        gi_wp2_with (gi_at_builtin; refine wpIn_append_T isTok_lex _ rfl (.tmp 18) (.tmp 20) rfl w.heap.size v pre [x] rfl (H2.out.alloc _) ⟨W.heap.size, 0, none⟩ 1 1 rfl rfl (lit_T W x _) (by simp; omega) (by simp; omega) ?_; intro v' w1 hown' hgrow hor; obtain ⟨g', cap', hv'⟩ := hown'.succ; subst hv'; have happ := Boxed.appended (W := W) (w1 := w1) H1.out (by decide) H2.out (by omega) (by omega) hown' hgrow; obtain ⟨q1, q2, q3, q4, q5⟩ := happ; have cQ := q1.cell; have fQ := q1.frozen)
        have hkb := KB.append (n0 := w.heap.size) H1.out hgrow hor q2 q5 (fun k e => (World.ownsRow.lt q3 k e).2)
        have hkeep := (hkb.2 v H1.out).1
        refine ⟨q4.from _, hkb, ⟨⟨_, q2, q3⟩, ?_, ?_, ?_⟩, Lib.hid (fun y hy => ?_), H7.out.trans q5⟩
        · exact hkeep _ _ H3.out rfl (by omega) (fun e => Boxed.not_row H3.out (by decide) H2.out e.symm)
        · exact hkeep _ _ H4.out rfl (by omega) (fun e => Boxed.not_row H4.out (by decide) H2.out e.symm)
        · exact hkeep _ _ H5.out rfl (by omega) (fun e => Boxed.not_row H5.out (by decide) H2.out e.symm)
        · rcases List.mem_append.1 hy with h | h
          · exact h6.out y h
          · rw [List.mem_singleton] at h
            rw [h]
            simpa using b0
    case done =>
      rintro D zs W hD rfl ⟨⟨⟨v, h1, h2⟩, h3, h4, h5⟩, h6, h7⟩ hK
      have cO := h1.cell
      have fR := h3.frozen
      have cR := h3.cell
      have fA := h4.frozen
      have cA := h4.cell
      have fE := h5.frozen
      have cE := h5.cell
      have HK := Lib.hid hK
      have H1 := Lib.hid h1
      have H2 := Lib.hid h2
      have H3 := Lib.hid h3
      have H4 := Lib.hid h4
      have H5 := Lib.hid h5
      have H7 := Lib.hid h7
      clear h1 h2 h3 h4 h5 h7 hK
      obtain ⟨A, c, hv', hA, hcap, hto, hag⟩ := H2.out.slice
      subst hv'
      gi_wp2
      have hr : lexR s.data.toList = (zs, 0, 0) := by
        unfold lexR
        rw [hsl, if_neg (by omega), ← HYS.out, List.find?_eq_none.2 (fun y hy => by simpa using h6.out y hy)]
      rw [hr]
      have hK2 : (((W.setCell ⟨w.heap.size, 0, none⟩ (.slice A zs.length c)).setCell ⟨w.heap.size + 1, 0, none⟩ (.int .i64 0)).setCell ⟨w.heap.size + 1 + 1, 0, none⟩ (.int .i64 0)).heap[D]? = some (.deferred (some [])) := by
        rw [Below.heap_setCell _ _ _ D (by show D ≠ w.heap.size + 1 + 1; omega), Below.heap_setCell _ _ _ D (by show D ≠ w.heap.size + 1; omega), Below.heap_setCell _ _ _ D (by show D ≠ w.heap.size; omega)]
        exact HK.out
      refine ⟨by simp, .inl ⟨_, _, rfl, run_takeDeferred hK2, ?_⟩⟩
      have d0 := ((Boxed.other (Boxed.other (Boxed.set (.slice A zs.length c) H3.out) (B' := w.heap.size + 1) (by omega) (.int .i64 0)) (B' := w.heap.size + 1 + 1) (by omega) (.int .i64 0)).kept (grownBy_putObj' _ D (.deferred none)) (by simp; omega)).cell
      have d1 := ((Boxed.other (Boxed.set (.int .i64 0) (Boxed.other H4.out (B' := w.heap.size) (by omega) (.slice A zs.length c))) (B' := w.heap.size + 1 + 1) (by omega) (.int .i64 0)).kept (grownBy_putObj' _ D (.deferred none)) (by simp; omega)).cell
      have d2 := ((Boxed.set (.int .i64 0) (Boxed.other (Boxed.other H5.out (B' := w.heap.size) (by omega) (.slice A zs.length c)) (B' := w.heap.size + 1) (by omega) (.int .i64 0))).kept (grownBy_putObj' _ D (.deferred none)) (by simp; omega)).cell
      have hbs : Below w.heap.size W (((W.setCell ⟨w.heap.size, 0, none⟩ (.slice A zs.length c)).setCell ⟨w.heap.size + 1, 0, none⟩ (.int .i64 0)).setCell ⟨w.heap.size + 1 + 1, 0, none⟩ (.int .i64 0)) := (((Below.refl _ W).setCell (p := ⟨w.heap.size, 0, none⟩) (by simp) _).setCell (p := ⟨w.heap.size + 1, 0, none⟩) (by simp) _).setCell (p := ⟨w.heap.size + 1 + 1, 0, none⟩) (by simp; omega) _
      have hown : OwnT 31 (((W.setCell ⟨w.heap.size, 0, none⟩ (.slice A zs.length c)).setCell ⟨w.heap.size + 1, 0, none⟩ (.int .i64 0)).setCell ⟨w.heap.size + 1 + 1, 0, none⟩ (.int .i64 0)) w.heap.size (.slice A zs.length c) zs := by
        have n0 := Boxed.not_row H3.out (by decide) H2.out
        have n1 := Boxed.not_row H4.out (by decide) H2.out
        have n2 := Boxed.not_row H5.out (by decide) H2.out
        exact World.ownsRow.kept (World.ownsRow.kept (World.ownsRow.kept H2.out (grownBy_setCell' _ _ _) (.inr (Ne.symm n0))) (grownBy_setCell' _ _ _) (.inr (Ne.symm n1))) (grownBy_setCell' _ _ _) (.inr (Ne.symm n2))
      have hown2 := hown.kept (grownBy_putObj' _ D (.deferred none)) (fun r e => by cases e; exact ⟨_, hK2, rfl⟩)
      obtain ⟨A2, c2, e2, hA2, _, hto2, _⟩ := hown2.slice
      refine ⟨.tuple #[.slice A zs.length c, .int .i64 0, .int .i64 0], ?_, A, c, rfl, hA, hcap, ?_, hag, H7.out.trans (hbs.trans (belowK_b (w := w) (Nat.le_refl _) _ D _ _ (by omega) hK2 rfl rfl))⟩
      · simp [results, Tryz.f5, go_sem, d0, d1, d2]
      · injection e2 with e3 _ e4
        subst e3
        exact hto2
    case stop =>
      rintro D c pre W hD hpre ⟨⟨rfl, q, x, hq, hx0, hall, h3, h4, h5⟩, h7⟩ hK
      gi_wp2
      have hr : lexR s.data.toList = ([], x.a, 7) := by
        unfold lexR
        obtain ⟨rest, hrest⟩ := hpre
        have e : (lexA s.size s.data.toList).find? (fun t => decide (t.k = 0)) = some x := by
          rw [← HYS.out, ← hrest, hq, List.append_assoc, List.find?_append, List.find?_eq_none.2 (fun y hy => by simpa using hall y hy)]
          simp [hx0]
        rw [hsl, if_neg (by omega), e]
      rw [hr]
      refine ⟨by simp, .inl ⟨_, _, rfl, run_takeDeferred hK, ?_⟩⟩
      have d0 := (h3.kept (grownBy_putObj' _ D (.deferred none)) (by simp; omega)).cell
      have d1 := (h4.kept (grownBy_putObj' _ D (.deferred none)) (by simp; omega)).cell
      have d2 := (h5.kept (grownBy_putObj' _ D (.deferred none)) (by simp; omega)).cell
      refine ⟨.tuple #[.slice none 0 0, .int .i64 x.a, .int .i64 7], ?_, none, 0, rfl, fun _ => rfl, Nat.le_refl _, fun j u hj => by simp [flatT] at hj, fun a h => (by cases h), h7.trans (belowK_b (w := w) (Nat.le_refl _) _ D _ _ (by omega) hK rfl rfl)⟩
      simp [results, Tryz.f5, go_sem, d0, d1, d2]
theorem lx_read (s : ByteArray) (w : World) (hv : Vars w) : Calls Tryz.prog 5 #[.string s] w fun e w' => ∃ A c, e = .returned (.tuple #[.slice A (lexR s.data.toList).1.length c, .int .i64 (lexR s.data.toList).2.1, .int .i64 (lexR s.data.toList).2.2]) ∧ (A = none → c = 0) ∧ ToksAt w' A (lexR s.data.toList).1 ∧ (∀ a, A = some a → ∃ g, a = ⟨g, 0, none⟩) ∧ Below w.heap.size w w' :=
  (lx_read2 s w hv).mono fun _ _ ⟨A, c, h1, h2, _, h3⟩ => ⟨A, c, h1, h2, h3⟩
end Go.Proofs.YtkobfngnnblpeaaGreatDoor
