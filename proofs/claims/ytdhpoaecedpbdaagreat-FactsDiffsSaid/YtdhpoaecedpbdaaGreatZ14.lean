/-
  All tenants of the program's tree: the values of its map, collected.
  Condition: no more than a thousand tenants.
-/
import Derived.Sort.MapsRangeIn
import Derived.Sort.KeysCollected
import Derived.Test.YtdhpoaecedpbdaaGreatZ13
namespace Go.Proofs.YtdhpoaecedpbdaaGreat
open Go.RowKit Go.Maps Go.Shelf Go.Sort

attribute [local go_sem] Oper.semAt_some

/-- Any order of the tenants. -/
def AnyT (L zs : List Tn) : Prop := zs.length ≤ L.length ∧ (zs.Pairwise fun a b => a.1 ≠ b.1) ∧ ∀ x, x ∈ zs ↔ x ∈ L
def keyT (x : Tn) : List UInt8 := x.1.data.toList
theorem keyT_inj {x y : Tn} (h : keyT x = keyT y) : x.1 = y.1 := by
  unfold keyT at h
  obtain ⟨⟨⟨l⟩⟩, _⟩ := x
  obtain ⟨⟨⟨l'⟩⟩, _⟩ := y
  have e : l = l' := h
  rw [e]

set_option maxHeartbeats 1000000 in
theorem t_vals (b : Nat) (w : World) : Calls Tryz.prog 83 #[.map (some b)] w fun e w' =>
    e = .returned (.func (.func 115) #[] #[.pointer (some ⟨w.heap.size, 0, none⟩)]) ∧ w' = w.alloc (.cells #[.map (some b)] 104) := by
  go_enter Tryz.func83, Tryz.ntmps83
  go_wp2
  go_ret
  exact ⟨by simp, rfl⟩

set_option maxRecDepth 100000 in
set_option maxHeartbeats 2000000 in
theorem t_vals1 (n l Bm b nn : Nat) (D : DataW Value) (L : List Tn) (J Jx : List Tn → World → Prop)
    (hY : ∀ pre x W, J pre W → pre.length < L.length → YieldAt Fence.wide (n - 1) Tryz.prog l #[tnV x] W fun e W' =>
      (e = .returned (.bool true) ∧ J (pre ++ [x]) W' ∧ KeepsWalks W W') ∨ (e = .returned (.bool false) ∧ Jx (pre ++ [x]) W'))
    (W : World) (hJ : AbidesFrom W.heap.size J) (hm : W.cell? ⟨Bm, 0, none⟩ = some (.map (some b))) (hown : W.ownsMap Tryz.prog 9 RpT b nn D) (hR : RelT D L) (h0 : J [] W) :
    CallsIn Fence.wide n Tryz.prog 115 #[.func (.yield l) #[] #[], .pointer (some ⟨Bm, 0, none⟩)] W fun e W' => (∃ v, e = .returned v) ∧
      ((∃ zs, AnyT L zs ∧ J zs W') ∨ (∃ pre, True ∧ Jx pre W')) := by
  have hdd : ∀ k : Nat, (Fence.wide.depth.isSome = true → 1 ≤ k) := fun k h => by cases h
  have HJ := Lib.hid hJ
  have hJ0 : ∀ pre A B, J pre A → Below A.heap.size A B → J pre B := fun pre A B hj hb => hJ pre A B none hj ⟨hb.os, hb.tape, hb.output, hb.size, fun k hk _ => hb.block k hk⟩ (fun r e => by cases e)
  have HY := Lib.hid hY
  have HZ := Lib.hid h0
  have HR := Lib.hid hR
  have hsz : Maps.size D = L.length := hR.2.2.1
  clear hJ hY h0 hR
  refine callsIn_of_wp Tryz.func115 rfl trivial ?_ rfl
  simp only [Tryz.ntmps115, List.size_toArray, List.length_cons, List.length_nil, Nat.reduceAdd, Nat.reduceSub, Array.replicate_succ, Array.replicate_zero, List.push_toArray, List.append_toArray, List.nil_append, List.cons_append]
  gi_wp2_with (first
    | (gi_at_range; refine wpListIn_range_own _ rfl _ 104 rfl 9 27 lawT Tryz.underlying104 _ b nn _ rfl hown ?_; intro w0 hrg0 hg0 hs0)
    | gi_in)
  have hj0 := HJ.out [] W w0 none HZ.out hg0 (fun r e => by cases e)
  go_frame
  gi_loopw [4] (fun _ wr => ∃ (left : Lit → Bool) (cnt : Nat) (ps : List Tn), wr.ranges Tryz.prog 9 RpT b W.heap.size nn D left cnt ∧ ps.length + cnt ≤ L.length ∧ Hid (Collected D left (ps.map keyT)) ∧ Hid (∀ p ∈ ps, p ∈ L) ∧ J ps wr)
    (fun _ wr => wr.rangeLeft b W.heap.size)
  case atStart =>
    exact ⟨_, _, [], hrg0, by simp [hsz], Lib.hid (Collected.start D), Lib.hid (by simp), hj0⟩
  case round =>
    obtain ⟨left, cnt, ps, hrg, hcs, HC, HV, hJs⟩ := hrel
    gi_wp2_with (first
      | (gi_at_next; refine wpListIn_next_ranges _ rfl _ rfl 9 lawT RpT encStr (fun v : Value => v) (fun key kl hk => by obtain ⟨x, hx, _⟩ := Maps.keyOf_str Tryz.underlying9 hk; exact ⟨x, hx⟩) (fun v y hv => ⟨v, rfl⟩) b W.heap.size nn _ _ _ rfl hrg ?_ ?_)
      | gi_in)
    · intro hc0 hl0
      gi_wp2
      go_end0
      refine ⟨⟨_, rfl⟩, .inl ⟨ps, ⟨by omega, ?_, fun x => ⟨HV.out x, fun hx => ?_⟩⟩, hJs⟩⟩
      · have h := HC.out.1
        exact List.Pairwise.imp (fun h e => h (by unfold keyT; rw [e])) (List.pairwise_map.1 h)
      · have h := (HC.out.2 (keyT x)).2 ⟨?_, hl0 _⟩
        · obtain ⟨y, hy, he⟩ := List.mem_map.1 h
          have e1 := findN_mem HR.out.2.2.2 (HV.out y hy)
          rw [keyT_inj he, findN_mem HR.out.2.2.2 hx] at e1
          injection e1 with e1
          rw [e1]
          exact hy
        · have := HR.out.2.1 x.1
          rw [findN_mem HR.out.2.2.2 hx] at this
          exact this
    · intro x c kl yd yp w2 cnt2 hkey hlk hv hat hrg2 hlt hg2 hs2 hen
      obtain ⟨x', ex, rfl, _⟩ := Maps.keyOf_str Tryz.underlying9 hkey
      obtain rfl : x = x' := encStr_inj ex
      have hyd : yd = .held c := by
        unfold RpT at hv
        injection hv with hv
        injection hv with hv _
        exact hv.symm
      subst hyd
      obtain ⟨tn, htn⟩ : ∃ tn, findN L ⟨x.toArray⟩ = some tn := by
        have h1 := HR.out.2.1 ⟨x.toArray⟩
        have h2 : Maps.has D (kt ⟨x.toArray⟩) = true := has_true_of_atKey (k := .string x) hat
        rw [h2] at h1
        exact Option.isSome_iff_exists.1 h1.symm
      obtain ⟨tn1, tn2⟩ := tn
      obtain ⟨hmem, hname⟩ := findN_some htn
      have hc : c = tnV (tn1, tn2) := by
        have h1 := HR.out.1 ⟨x.toArray⟩
        have h2 : D.atKey (kt ⟨x.toArray⟩) (.held noT) = .held c := hat _
        rw [h2, htn] at h1
        injection h1
      subst hc
      have hkx : keyT (tn1, tn2) = x := by
        unfold keyT
        rw [show ((tn1, tn2) : Tn).1 = (⟨x.toArray⟩ : ByteArray) from hname]
      have HC2 := Lib.hid (HC.out.step hlk hat)
      have HM := Lib.hid hmem
      have hJ2 : J ps w2 := HJ.out ps wr w2 (some W.heap.size) hJs hg2 (fun r e => by cases e; exact ⟨Nat.le_refl _, hrg.iter_walk⟩)
      have hba := one_new w2 (.cells #[.string tn1, .string tn2] 27)
      have hJ3' : J ps (w2.alloc (.cells #[.string tn1, .string tn2] 27)) := hJ0 ps w2 _ hJ2 hba
      obtain ⟨fn, tmps, assign, body, hy, hRnd⟩ := HY.out ps (tn1, tn2) (w2.alloc (.cells #[.string tn1, .string tn2] 27)) hJ3' (by omega)
      have HRR := Lib.hid hRnd
      unfold tnV at hen hy
      clear hs2 hRnd hat hlk hkey hJ2 hv htn hname hba hJ3'
      unfold tnV
      gi_wp2
      (try refine ⟨hdd _, ?_⟩)
      refine HRR.out.mono ?_
      rintro e W3 (⟨rfl, hJ3, hk3⟩ | ⟨rfl, hJx3⟩)
      · gi_wp2
        have hrg3 := hrg2.of_walks ((KeepsWalks.alloc w2 _).trans hk3)
        go_roundw
        case rel =>
          refine ⟨_, cnt2, ps ++ [(tn1, tn2)], hrg3, by simp; omega, Lib.hid ?_, Lib.hid ?_, hJ3⟩
          · rw [List.map_append, List.map_cons, List.map_nil, hkx]
            exact HC2.out
          · intro p hp
            rcases List.mem_append.1 hp with hp | hp
            · exact HV.out p hp
            · rw [List.mem_singleton.1 hp]; exact HM.out
        case measure => rw [hrg3.left_eq, hrg.left_eq]; exact hlt
      · gi_wp2
        refine bodyPost_ret (results_none rfl _ _ _) rfl ?_
        exact ⟨⟨_, rfl⟩, .inr ⟨_, trivial, hJx3⟩⟩

theorem t_vals_stops (n Bm b nn : Nat) (D : DataW Value) (L : List Tn) (w : World) (hBm : Bm < w.heap.size) (hm : w.cell? ⟨Bm, 0, none⟩ = some (.map (some b))) (hown : w.ownsMap Tryz.prog 9 RpT b nn D) (hR : RelT D L) :
    SeqStopsK Fence.wide n Tryz.prog 115 #[.pointer (some ⟨Bm, 0, none⟩)] (fun x : Tn => #[tnV x]) KeepsWalks (AnyT L) (fun _ => True) L.length w :=
  fun l J Jx W hW hJ _ hY h0 => t_vals1 n l Bm b nn D L J Jx hY W hJ ((hW.cell (p := ⟨Bm, 0, none⟩) hBm).trans hm) (ownsMapT_block hown (hW.block b hown.lt)) hR h0

/-- The cells of tenants. -/
def flatT (zs : List Tn) : List Value := zs.flatMap fun x => [.string x.1, .string x.2]
theorem flatT_len (zs : List Tn) : (flatT zs).length = zs.length * 2 := by
  induction zs with
  | nil => rfl
  | cons x zs ih =>
    have h : (flatT (x :: zs)).length = 2 + (flatT zs).length := by simp [flatT]; omega
    rw [h, ih, List.length_cons]
    omega
theorem flatT_append (xs ys : List Tn) : flatT (xs ++ ys) = flatT xs ++ flatT ys := by simp [flatT]
/-- v is a list of tenants of the call's own. -/
def OwnN (w : World) (base : Nat) (v : Value) (zs : List Tn) : Prop := w.ownsRow base 27 2 v zs.length (flatT zs)
theorem OwnN.nil (w : World) (base : Nat) : OwnN w base (.slice none 0 0) [] := World.ownsRow_nil w base _ _
theorem OwnN.kept {w w' : World} {base : Nat} {v : Value} {ss : List Tn} {row : Option Nat} (h : OwnN w base v ss) (hg : w.grownBy w' row) (hr : ∀ r, row = some r → ∃ o : Obj, w.heap[r]? = some o ∧ o.isCells = false) : OwnN w' base v ss := by
  refine World.ownsRow.kept h hg ?_
  rcases h.2 with ⟨rfl, _⟩ | ⟨g, cap, cur, rfl, _, hgb, _⟩
  · exact .inl rfl
  · refine .inr fun e' => ?_
    obtain ⟨o, ho, hc⟩ := hr g (by simpa [Value.ownBlock] using e'.symm)
    rw [hgb] at ho
    cases ho
    cases hc
theorem OwnN.lower {w : World} {base b2 : Nat} {v : Value} {ss : List Tn} (h : OwnN w base v ss) (hb : b2 ≤ base) : OwnN w b2 v ss := by
  refine ⟨h.1, ?_⟩
  rcases h.2 with hn | ⟨g, cap, cur, hv, hg, hh, r⟩
  · exact Or.inl hn
  · exact Or.inr ⟨g, cap, cur, hv, Nat.le_trans hb hg, hh, r⟩
theorem OwnN.form {w : World} {base : Nat} {v : Value} {ss : List Tn} (h : OwnN w base v ss) : ∃ A c, v = .slice A ss.length c := by
  rcases h.2 with ⟨rfl, hn⟩ | ⟨g, cap, cur, rfl, _, _, _, _⟩
  · have hl : ss.length = 0 := by first | omega | simpa using hn
    exact ⟨none, 0, by rw [hl]⟩
  · exact ⟨_, cap, rfl⟩
theorem info_N : (Tryz.prog.info? 27).map (fun i => (i.zero, i.size, i.bytes)) = some (some noT, 2, 32) := by kernel_rfl
theorem rowN_succ {w : World} {base k : Nat} {v : Value} {xs : List Value} (h : w.ownsRow base 27 2 v (k + 1) xs) : ∃ g c, v = .slice (some ⟨g, 0, none⟩) (k + 1) c := by
  rcases h.2 with ⟨_, hn⟩ | ⟨g, cap, cur, rfl, _, _, _, _⟩
  · first | omega | (simp at hn)
  · exact ⟨g, cap, rfl⟩
theorem lit_N (w : World) (x : Tn) (ty : TypeId) : ∀ j u, [Value.string x.1, Value.string x.2][j]? = some u → (w.alloc (.cells #[.string x.1, .string x.2] ty)).cell? ((⟨w.heap.size, 0, none⟩ : Addr).add j) = some u := by
  intro j u hj
  match j, hj with
  | 0, hj =>
    have e : Value.string x.1 = u := by simpa using hj
    subst e
    exact new_cellT _ _ _ 0
  | 1, hj =>
    have e : Value.string x.2 = u := by simpa using hj
    subst e
    exact new_cellT _ _ _ 1
  | j + 2, hj => simp at hj
/-- A tenant in a block of its own. -/
def BoxN (W : World) (B : Nat) (x : Tn) : Prop := W.heap[B]? = some (.cells #[.string x.1, .string x.2] 27 (0, 0))
theorem BoxN.kept {W W' : World} {B : Nat} {x : Tn} {row : Option Nat} (h : BoxN W B x) (hg : W.grownBy W' row) (hr : ∀ r, row = some r → ∃ o : Obj, W.heap[r]? = some o ∧ o.isCells = false) : BoxN W' B x := by
  have hlt : B < W.heap.size := (Array.getElem?_eq_some_iff.1 h).1
  refine (hg.block B hlt fun e => ?_).trans h
  obtain ⟨o, ho, hc⟩ := hr B e.symm
  unfold BoxN at h
  rw [h] at ho
  cases ho
  cases hc
theorem BoxN.cell0 {W : World} {B : Nat} {x : Tn} (h : BoxN W B x) : W.cell? ⟨B, 0, none⟩ = some (.string x.1) := by unfold World.cell?; rw [h]; rfl
theorem BoxN.cell1 {W : World} {B : Nat} {x : Tn} (h : BoxN W B x) : W.cell? ⟨B, 1, none⟩ = some (.string x.2) := by unfold World.cell?; rw [h]; rfl
/-- What the loop of AppendSeq has behind the tenants that have come. -/
def NJ (n0 bo : Nat) (pre : List Tn) (W : World) : Prop := ∃ v, Boxed W bo 78 v ∧ OwnN W n0 v pre
theorem nj_own (n0 bo : Nat) : Go.Own (fun (pre : List Tn) W => NJ n0 bo pre W) := by
  intro s X Y row hs hg hr
  obtain ⟨v, h1, h2⟩ := hs
  exact ⟨v, boxed_own (β := Unit) _ _ (fun _ => v) () X Y row h1 hg hr, h2.kept hg hr⟩

set_option maxRecDepth 100000 in
set_option maxHeartbeats 2000000 in
theorem t_appendN (Bm b nn : Nat) (D : DataW Value) (L : List Tn) (w : World) (hBm : Bm < w.heap.size) (hm : w.cell? ⟨Bm, 0, none⟩ = some (.map (some b))) (hown : w.ownsMap Tryz.prog 9 RpT b nn D) (hR : RelT D L) (hy : L.length ≤ 1000) :
    Calls Tryz.prog 134 #[.slice none 0 0, .func (.func 115) #[] #[.pointer (some ⟨Bm, 0, none⟩)]] w fun e w' => ∃ v zs, e = .returned v ∧ AnyT L zs ∧ OwnN w' w.heap.size v zs ∧ Below w.heap.size w w' := by
  have hbl := hown.lt
  have HT := Lib.hid (fun n W0 (hb : Below w.heap.size w W0) => t_vals_stops n Bm b nn D L W0 (Nat.lt_of_lt_of_le hBm hb.size) ((hb.cell (p := ⟨Bm, 0, none⟩) hBm).trans hm) (ownsMapT_block hown (hb.block b hbl)) hR)
  clear hown hR hm
  refine (callsIn_wide (n := 5)).1 ?_
  refine callsIn_of_wp_marks Tryz.func134 rfl trivial ?_ rfl
  simp only [Tryz.ntmps134, List.size_toArray, List.length_cons, List.length_nil, Nat.reduceAdd, Nat.reduceSub, Array.replicate_succ, Array.replicate_zero, List.push_toArray, List.append_toArray, List.nil_append, List.cons_append]
  gi_wp2
  have bO := Boxed.new w 78 (.slice none 0 0)
  have hB0 : Below w.heap.size w (w.alloc (.cells #[.slice none 0 0] 78)) := one_new w _
  refine wpIn_rangeFunc_ownH rfl (by omega) (gf := 115) (lb := #[.pointer (some ⟨Bm, 0, none⟩)]) rfl trivial (enters_of Tryz.func115 (by kernel_rfl) rfl)
    (HT.out _ _ hB0) walksK_t walksK_b (Below.refl _ _) (fun _ => rfl)
    (fun pre W => NJ w.heap.size w.heap.size pre W ∧ Below w.heap.size w W)
    (fun _ _ _ => False)
    (OwnFrom.and (Own.from (nj_own _ _) _) (ownFrom_below (Nat.le_refl _) (by simp)))
    (fun _ _ _ _ _ hs _ _ => hs)
    ⟨⟨_, bO, OwnN.nil _ _⟩, hB0⟩
    (fun x a' W => ∃ Bx, w.heap.size < Bx ∧ BoxN W Bx x ∧ a' = { tmps := #[.slice none 0 0, .func (.func 115) #[] #[.pointer (some ⟨Bm, 0, none⟩)], .pointer (some ⟨w.heap.size, 0, none⟩), undef, .slice none 0 0, .pointer (some ⟨Bx, 0, none⟩), .func (.func 115) #[] #[.pointer (some ⟨Bm, 0, none⟩)], tnV x, undef, undef, undef, undef, undef], defers := [] })
    (fun x a' s W W' row hs hg hr => by
      obtain ⟨Bx, h1, h2, h3⟩ := hs
      exact ⟨Bx, h1, h2.kept hg (fun r e => (hr r e).2), h3⟩) ?assign ?body ?done ?stop
  case assign =>
    rintro l pre ⟨x1, x2⟩ W K ⟨⟨v, bo, hown⟩, hB⟩ hK
    have hsz := hB.size
    have HK := Lib.hid hK
    have H1 := Lib.hid bo
    have H2 := Lib.hid hown
    have HB := Lib.hid hB
    clear hK bo hown hB
    unfold tnV
    gi_wp2
    exact HK.out _ _ ((KeepsOthers.alloc W _).from _) (KeepsWalks.alloc W _) ⟨⟨v, H1.out.alloc _, H2.out.kept (World.grownBy_alloc W _ none) (by simp)⟩, HB.out.alloc hsz _⟩ ⟨W.heap.size, H1.out.lt, World.alloc_heap_new W _, rfl⟩
  case body =>
    rintro lb pre ⟨x1, x2⟩ a' W hlb hloop ⟨⟨v, bo, hown⟩, hB⟩ ⟨Bx, hBx, hbx, rfl⟩ hpl
    unfold tnV
    obtain ⟨i, hi, hz, hsize, hby⟩ := info_parts info_N
    have cb := bo.cell
    have d0 := hbx.cell0
    have d1 := hbx.cell1
    have hsz := hB.size
    have H1 := Lib.hid bo
    have H2 := Lib.hid hown
    have HB := Lib.hid hB
    have H3 := Lib.hid (World.ownsRow.alloc hown (.cells #[.string x1, .string x2] 27))
    have hpl2 : pre.length < 1000 := by omega
    clear bo hown hB hloop hbx
    gi_wp2_with (gi_at_builtin; refine wpListIn_append_own _ rfl (.tmp 8) (.tmp 10) 78 rfl w.heap.size 27 i _ 2 32 Tryz.underlying78 hi hz hsize hby rfl (by omega) v pre.length (flatT pre) rfl H3.out ⟨W.heap.size, 0, none⟩ 1 1 [.string x1, .string x2] rfl rfl (lit_N W (x1, x2) _) (by simp [Value.oneCell']) (by unfold maxLen; omega) (by omega) (by simp; omega) ?_; intro v' w5 hown' hgrow _; obtain ⟨g', cap', hv'⟩ := rowN_succ hown'; subst hv'; have happ := Boxed.appended (W := W) (w1 := w5) H1.out (by decide) H2.out (by omega) (by omega) hown' hgrow; obtain ⟨q1, q2, q3, q4, q5⟩ := happ; have cQ := q1.cell; have fQ := q1.frozen)
    refine ⟨q4.from _, q4.walks, ⟨_, q2, ?_⟩, HB.out.trans q5⟩
    unfold OwnN
    rw [List.length_append, flatT_append]
    exact q3
  case done =>
    rintro E zs W hD hany ⟨⟨v, bo, hown⟩, hB⟩ hK
    have cb := bo.cell
    have HK := Lib.hid hK
    have HBW := Lib.hid hB
    have HAN := Lib.hid hany
    have hown2 := ownsRow_putObj hown (.deferred none) hK rfl
    have HO2 := Lib.hid hown2
    have hD' : w.heap.size + 1 ≤ E := by simpa using hD
    clear bo hown hB hK hown2 hany
    gi_wp2
    refine ⟨by simp, .inl ⟨_, _, rfl, run_takeDeferred HK.out, ?_⟩⟩
    exact ⟨_, results_tmp rfl _ _ _, v, zs, rfl, HAN.out, HO2.out, HBW.out.trans (belowK_b (w := w) (Nat.le_refl _) W E _ (.deferred none) (by omega) HK.out rfl rfl)⟩
  case stop =>
    rintro E c pre W _ _ h _
    exact h.elim

set_option maxHeartbeats 1000000 in
theorem t_collectN (Bm b nn : Nat) (D : DataW Value) (L : List Tn) (w : World) (hBm : Bm < w.heap.size) (hm : w.cell? ⟨Bm, 0, none⟩ = some (.map (some b))) (hown : w.ownsMap Tryz.prog 9 RpT b nn D) (hR : RelT D L) (hy : L.length ≤ 1000) :
    Calls Tryz.prog 113 #[.func (.func 115) #[] #[.pointer (some ⟨Bm, 0, none⟩)]] w fun e w' => ∃ v zs, e = .returned v ∧ AnyT L zs ∧ OwnN w' w.heap.size v zs ∧ Below w.heap.size w w' := by
  have HA := Lib.hid (t_appendN Bm b nn D L w hBm hm hown hR hy)
  clear hown hR hm
  go_enter Tryz.func113, Tryz.ntmps113
  go_wp2_with fail
  refine HA.out.mono ?_
  rintro e w1 ⟨v, zs, rfl, hany, hown, hb⟩
  have HN := Lib.hid hany
  have HO := Lib.hid hown
  have HB := Lib.hid hb
  clear hown hb hany
  go_wp2
  go_ret
  exact ⟨v, zs, rfl, HN.out, HO.out, HB.out⟩
end Go.Proofs.YtdhpoaecedpbdaaGreat
