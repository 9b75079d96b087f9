/-
  The document's bag: Add makes of its list what the plain Add does.
  No condition but that a bag has no more rows, and a row no more cells, than fits.
-/
import Derived.Test.YtpliofhphijdkaaRbag
import Derived.Deep.Cut
namespace Go.Proofs.Ytpliofhphijdkaa
open Go.RowKit

/-- A call that changes the document's bag, and nothing else that was there. -/
def RChanges (w : World) (Q : Nat → Prop) (g : Nat) (r : List En × Int) (e : Ending) (w' : World) : Prop := e = .returned (.int .i64 r.2) ∧ RefL w' Q g r.1 ∧ Only g w w'

theorem far_cellR (w : World) {b b' : Nat} (h : b ≠ b') (v : Value) (i : Nat) : (w.setCell ⟨b', 0, none⟩ v).cell? ⟨b, i, none⟩ = w.cell? ⟨b, i, none⟩ := World.cell?_of_block (w := w) (Below.heap_setCell w _ v b h)
theorem IsRow.rowAt {w : World} {Q : Nat → Prop} {A : Option Addr} {n c : Nat} {xs : List V} (h : IsRow w Q (.slice A n c) xs) : RowAt w w.heap.size A xs := by
  obtain ⟨_, A', c', e, _, h1⟩ := h
  injection e with e1
  subst e1
  exact h1.at

theorem setL_len2 (x : List V) (k : Int) : ∀ l : List En, (setL x k l).length ≤ l.length + 1
  | [] => by
    unfold setL
    split <;> simp
  | e :: l => by
    have ih := setL_len2 x k l
    rw [setL_cons]
    split
    · simp only [List.length_cons]; omega
    · split
      · split <;> simp only [List.length_cons] <;> omega
      · split <;> simp only [List.length_cons] <;> omega
theorem drop_cells {w : World} {Q : Nat → Prop} {L : Option Addr} {ls : List RE} (h : CellsQ w Q L (flatE ls)) (c at2 : Nat) (hc : ls.length ≤ c) (A : Option Addr) (hA : ∀ a, L = some a → A = if c = at2 then some a else some (a.add (at2 * 2))) : CellsQ w Q A (flatE (ls.drop at2)) := by
  cases L with
  | none =>
    have hn : ls = [] := by
      cases ls with
      | nil => rfl
      | cons y ys =>
        obtain ⟨a, ha, _⟩ := h 0 _ rfl
        cases ha
    subst hn
    intro j u hj
    simp [flatE] at hj
  | some a =>
    rw [hA a rfl]
    split
    · rw [List.drop_of_length_le (by omega)]
      intro j u hj
      simp [flatE] at hj
    · rw [flatE_drop]
      exact h.drop _
theorem r_fin (Q : Nat → Prop) (g : Nat) (w w5 w8 : World) (A8 : Option Addr) (n8 c8 : Nat) (u : Value) (ls : List RE) (l : List En) (hQ : ∀ k, w.heap.size ≤ k → Q k) (hg : ¬ Q g) (hglt : g < w.heap.size) (hbox : Boxed w g 42 u) (hb5 : Below w.heap.size w w5) (hb8 : Below w5.heap.size w5 w8)
    (hown : OwnE w8 w5.heap.size (.slice A8 n8 c8) ls) (hen : EnR w5 Q ls l) (hgo : Good l) (hl : l.length ≤ 700000) : RChanges w Q g (l, 0) (.returned (.int .i64 0)) (w8.setCell ⟨g, 0, none⟩ (.slice A8 n8 c8)) := by
  have hs5 := hb5.size
  have hb := hb5.trans (hb8.mono hs5)
  have hgl5 : g < w5.heap.size := by omega
  have hset : KeepQ Q w8 (w8.setCell ⟨g, 0, none⟩ (.slice A8 n8 c8)) := fun k hk _ => Below.heap_setCell w8 ⟨g, 0, none⟩ _ k (fun e => hg ((show k = g from e) ▸ hk))
  obtain ⟨A, c, hv, hA, hlc, hcells⟩ := hown.slice Q (fun k hk => hQ k (by omega))
  injection hv with e1 e2 e3
  subst e1 e2 e3
  have hlen := hen.len
  refine ⟨rfl, ⟨hgo, hl, A8, c8, hA, by rw [← hlen]; exact hlc, ?_, ls, (hen.keep (Below.keepQ hb8 Q)).keep hset, hcells.keep hset⟩, ?_⟩
  · rw [hlen]
    exact (show Boxed w8 g _ u from (hb.block g hglt).trans hbox).set _
  · refine ⟨(hb.mono (show g ≤ w.heap.size from Nat.le_of_lt hglt)).setCell (p := ⟨g, 0, none⟩) (Nat.le_refl _) _, fun k hk hne => ?_⟩
    rw [Below.heap_setCell _ _ _ _ hne]
    exact hb.block k hk

set_option maxRecDepth 100000 in
set_option maxHeartbeats 4000000 in
theorem r_add_fk (R : Nat → Prop) (v : Value) (x : List V) (k : Int) (Q : Nat → Prop) (g : Nat) (l : List En) (w : World) (hQ : ∀ k, w.heap.size ≤ k → Q k) (hg : ¬ Q g) (hx : IsRow w R v x) (hb : RefL w Q g l) (hc : l.length ≤ 600000) (hr : rightR x = true) (hk : -1073741824 ≤ manyL x l + k ∧ manyL x l + k ≤ 1073741824) (hh : hasL x l = true) (hz : ¬ manyL x l + k = 0) :
    Calls Try.prog 17 #[.pointer (some ⟨g, 0, none⟩), v, .int .i64 k] w (RChanges w Q g (setL x (manyL x l + k) l, 0)) := by
  have hmb := hb.1.many x
  have hlt := hasL_lt x l hh
  obtain ⟨en, he⟩ : ∃ en, l[findL x l]? = some en := ⟨_, List.getElem?_eq_getElem hlt⟩
  have hset := setL_yes x (manyL x l + k) l en hh he
  rw [if_neg hz] at hset
  have HSET := Lib.hid hset
  have HGO := Lib.hid (setL_good x (manyL x l + k) l hb.1 hr ((fewN_iff _).2 hk))
  have hsl := setL_len2 x (manyL x l + k) l
  have HM := Lib.hid (r_many R v x Q g l)
  have HF := Lib.hid (r_find R v x Q g l)
  have HR := Lib.hid (ref_right_rows R v x w hx)
  have HRB := Lib.hid hb
  obtain ⟨hgo, hlen, L, c, hL, hcc, hbox, hent⟩ := hb
  have HX := Lib.hid hx
  have HB := Lib.hid hbox
  have HE := Lib.hid hent
  have HQ := Lib.hid hQ
  have HG := Lib.hid hg
  have hglt := hbox.lt
  have HEE := Lib.hid he
  clear he
  have HH := Lib.hid hh
  have HRR := Lib.hid hr
  have hzz : ((manyL x l + k) == 0) = false := by simpa using hz
  have hzn : ((manyL x l + k) != 0) = true := by unfold bne; rw [hzz]; rfl
  obtain ⟨hxl, A, cx, rfl, _, _⟩ := hx
  clear hgo hbox hent hQ hg hh hr hset
  generalize hm : manyL x l = m at *
  generalize hat : findL x l = at1 at *
  generalize hn : l.length = n at *
  generalize hl' : setL x (m + k) l = l' at *
  have HN := Lib.hid hn
  clear hm hat hn hl'
  obtain ⟨hm1, hm2⟩ := hmb
  obtain ⟨hk1, hk2⟩ := hk
  have hfew : fewN (m + k) = true := (fewN_iff _).2 ⟨hk1, hk2⟩
  have HFW := Lib.hid hfew
  have hd1 : decide (k < -2147483648) = false := by simp; omega
  have hd2 : decide (2147483648 < k) = false := by simp; omega
  clear hfew
  go_enter Try.func17, Try.ntmps17
  go_wp2_with fail
  refine HR.out.mono ?_
  rintro e2 w1 ⟨rfl, hbw1⟩
  rw [HRR.out]
  go_wp2_with fail
  refine (HM.out _ (HX.out.below hbw1) (HRB.out.below hbw1)).mono ?_
  rintro e2 w2 ⟨rfl, hbw2⟩
  have HB2 := Lib.hid (hbw1.trans (hbw2.mono hbw1.size))
  clear hbw1 hbw2
  go_wp2_with fail
  refine (r_few _ _).mono ?_
  rintro e2 w3 ⟨rfl, rfl⟩
  rw [HFW.out]
  go_wp2_with fail
  refine (HF.out _ (HX.out.below HB2.out) (HRB.out.below HB2.out)).mono ?_
  rintro e2 w3 ⟨rfl, hbw3⟩
  rw [HH.out]
  have HB3 := Lib.hid (HB2.out.trans (hbw3.mono HB2.out.size))
  clear hbw3
  have hx3 := (HX.out.below HB3.out).below (one_new w3 (.cells #[.slice none 0 0, .int .i64 (m + k)] 46))
  have HX3 := Lib.hid hx3.rowAt
  clear hx3
  have hs3 := HB3.out.size
  obtain ⟨a, rv, rfl, hrow, hblt, c0, c1⟩ := HE.out.get at1 en HEE.out
  have HROW := Lib.hid hrow
  obtain ⟨_, Ar, cr, rfl, _, _⟩ := hrow
  have hg3 : g < w3.heap.size := by omega
  have cg : w.cell? ⟨g, 0, none⟩ = some (.slice (some a) n c) := HB.out.cell
  go_upto_region 12 with (at_builtin; go_must (refine wp_append_V _ rfl (.tmp 42) (.tmp 43) rfl (w3.heap.size + 1) _ [] x rfl (Own.nil _ _) _ A _ cx rfl rfl HX3.out (by simp; omega) (by simp) ?_; intro v4 w4 hown4 hb4 _; rw [List.nil_append] at hown4; obtain ⟨A4, c4, hv4, _, _⟩ := hown4.row; subst hv4; have HOW4 := Lib.hid hown4; have HB4 := Lib.hid hb4; have hb34 := HB3.out.trans (((one_new w3 _).mono hs3).trans (hb4.mono (by omega))); have HB34 := Lib.hid hb34; have hs34 := hb4.size; have e0 : w4.cell? ⟨w3.heap.size, 0, none⟩ = some (.slice none 0 0) := (hb4.cell (p := ⟨w3.heap.size, 0, none⟩) (by simp)).trans (alloc_new_cells _ _ _ 0); have e1 : w4.cell? ⟨w3.heap.size, 1, none⟩ = some (.int .i64 (m + k)) := (hb4.cell (p := ⟨w3.heap.size, 1, none⟩) (by simp)).trans (alloc_new_cells _ _ _ 1); have f0 : w4.frozen? ⟨w3.heap.size, 0, none⟩ = false := (hb4.frozen (p := ⟨w3.heap.size, 0, none⟩) (by simp)).trans (by simp); have g1 : (w4.setCell ⟨w3.heap.size, 0, none⟩ (.slice A4 x.length c4)).cell? ⟨g, 0, none⟩ = some (.slice (some a) n c) := (far_cellR _ (by omega) _ 0).trans ((hb34.cell (p := ⟨g, 0, none⟩) hglt).trans cg); have g2 : (w4.setCell ⟨w3.heap.size, 0, none⟩ (.slice A4 x.length c4)).cell? (a.add (at1 * 2)) = some (.slice Ar en.1.length cr) := (World.cell?_of_block (w := w4) (Below.heap_setCell w4 _ _ _ (by show (a.add (at1 * 2)).block ≠ w3.heap.size; omega))).trans ((hb34.cell hblt).trans c0); clear hown4 hb4 hb34))
  have HB5 : Below w.heap.size w ((w4.setCell ⟨w3.heap.size, 0, none⟩ (.slice A4 x.length c4)).setCell ⟨w3.heap.size, 0, none⟩ (.slice Ar en.1.length cr)) := (HB34.out.setCell (p := ⟨w3.heap.size, 0, none⟩) hs3 _).setCell (p := ⟨w3.heap.size, 0, none⟩) hs3 _
  have k0 : ((w4.setCell ⟨w3.heap.size, 0, none⟩ (.slice A4 x.length c4)).setCell ⟨w3.heap.size, 0, none⟩ (.slice Ar en.1.length cr)).cell? ⟨w3.heap.size, 0, none⟩ = some (Value.slice Ar en.1.length cr) := World.cell?_setCell_same _ _ _ (World.cell?_setCell_same _ _ _ e0)
  have k1 : ((w4.setCell ⟨w3.heap.size, 0, none⟩ (.slice A4 x.length c4)).setCell ⟨w3.heap.size, 0, none⟩ (.slice Ar en.1.length cr)).cell? ⟨w3.heap.size, 1, none⟩ = some (.int .i64 (m + k)) := by
    rw [World.cell?_setCell_other _ _ _ _ (by simp), World.cell?_setCell_other _ _ _ _ (by simp)]
    exact e1
  have hrow5 : IsRow ((w4.setCell ⟨w3.heap.size, 0, none⟩ (.slice A4 x.length c4)).setCell ⟨w3.heap.size, 0, none⟩ (.slice Ar en.1.length cr)) Q (Value.slice Ar en.1.length cr) en.1 := HROW.out.below HB5
  have hw45 : ((w4.setCell ⟨w3.heap.size, 0, none⟩ (.slice A4 x.length c4)).setCell ⟨w3.heap.size, 0, none⟩ (.slice Ar en.1.length cr)).heap.size = w4.heap.size := by simp [World.setCell]
  generalize ((w4.setCell ⟨w3.heap.size, 0, none⟩ (.slice A4 x.length c4)).setCell ⟨w3.heap.size, 0, none⟩ (.slice Ar en.1.length cr)) = w5 at *
  clear e0 e1 f0 g1 g2
  obtain ⟨ls, hen, hcells⟩ := HE.out
  have hls : ls.length = n := hen.len.trans HN.out
  have hs5 := HB5.size
  have cg5 : w5.cell? ⟨g, 0, none⟩ = some (.slice (some a) n c) := (HB5.cell (p := ⟨g, 0, none⟩) hglt).trans cg
  have hcells5 := hcells.keep (Below.keepQ HB5 Q)
  have hsrc1 : CellsQ w5 Q (some a) (flatE (ls.take at1)) := by rw [flatE_take]; exact hcells5.take _
  have hone1 := (hen.take at1).one
  have hone3 := (hen.drop (at1 + 1)).one
  have htl : at1 = (ls.take at1).length := by rw [List.length_take]; omega
  have hdl : n - (at1 + 1) = (ls.drop (at1 + 1)).length := by rw [List.length_drop]; omega
  have hen5 : EnR w5 Q (ls.take at1 ++ [(Value.slice Ar en.1.length cr, m + k)] ++ ls.drop (at1 + 1)) l' := by
    rw [HSET.out]
    have h1 := hen.keep (Below.keepQ HB5 Q)
    exact ((h1.take at1).append (show EnR w5 Q [(Value.slice Ar en.1.length cr, m + k)] [(en.1, m + k)] from ⟨rfl, hrow5, trivial⟩)).append (h1.drop (at1 + 1))
  have HEN5 := Lib.hid hen5
  have HS1 := Lib.hid hsrc1
  have HC5 := Lib.hid hcells5
  have HO1 := Lib.hid hone1
  have HO3 := Lib.hid hone3
  have HB5' := Lib.hid HB5
  have HTL := Lib.hid htl
  have HDL := Lib.hid hdl
  have HLS := Lib.hid hls
  have hw3 : w3.heap.size < w5.heap.size := World.block_lt_of_cell? w5 _ k0
  have hg5 : g < w5.heap.size := by omega
  have fg5 : w5.frozen? ⟨g, 0, none⟩ = false := (HB5.frozen (p := ⟨g, 0, none⟩) hglt).trans HB.out.frozen
  clear hcells hcells5 hsrc1 hone1 hone3 hen htl hdl HB5 hls hen5 hrow5 hw45
  go_upto_region 13 with (at_builtin; go_must (refine wp_append_E _ rfl (.tmp 56) (.tmp 62) rfl w5.heap.size _ [] (ls.take at1) rfl (OwnE.nil _ _) (some a) at1 _ rfl HTL.out Q HS1.out HO1.out (by rw [← HTL.out]; simp; omega) (Nat.le_refl _) ?_; intro v6 w6 hown6 hb6 _ _; rw [List.nil_append] at hown6; obtain ⟨A6, c6, hv6, _, _, _⟩ := hown6.slice (fun _ => True) (fun _ _ => trivial); rw [← HTL.out] at hv6; subst hv6; have HOW6 := Lib.hid hown6; have HB6 := Lib.hid hb6; have cg6 := (hb6.cell (p := ⟨g, 0, none⟩) hg5).trans cg5; have fg6 := (hb6.frozen (p := ⟨g, 0, none⟩) hg5).trans fg5; have k06 := (hb6.cell (p := ⟨w3.heap.size, 0, none⟩) hw3).trans k0; have k16 := (hb6.cell (p := ⟨w3.heap.size, 1, none⟩) hw3).trans k1; have hs6 := hb6.size; clear hown6 hb6))
  go_upto_region 17 with (at_builtin; go_must (refine wp_append_E _ rfl (.tmp 67) (.tmp 69) rfl w5.heap.size _ (ls.take at1) [(Value.slice Ar en.1.length cr, m + k)] rfl (HOW6.out.alloc _) _ 1 _ rfl rfl (fun _ => True) (ent_lit1 w6 _ _ _ (fun _ _ => trivial)) (by simp [flatE, Value.oneCell']) (by rw [← HTL.out]; simp; omega) (by simp; omega) ?_; intro v7 w7 hown7 hb7 _ _; obtain ⟨A7, c7, hv7, _, _, _⟩ := hown7.slice (fun _ => True) (fun _ _ => trivial); rw [List.length_append, ← HTL.out, List.length_singleton] at hv7; subst hv7; have HOW7 := Lib.hid hown7; have HB7 := Lib.hid (HB6.out.trans (((one_new w6 _).mono hs6).trans hb7)); have cg7 := (HB7.out.cell (p := ⟨g, 0, none⟩) hg5).trans cg5; have fg7 := (HB7.out.frozen (p := ⟨g, 0, none⟩) hg5).trans fg5; have hs7 := HB7.out.size; clear hown7 hb7))
  have HC7 : CellsQ w7 Q (some a) (flatE ls) := HC5.out.keep (Below.keepQ HB7.out Q)
  have HS3 := Lib.hid (drop_cells HC7 c (at1 + 1) (by rw [HLS.out]; exact hcc))
  clear HC7
  go_wp2_with (at_builtin; go_must (refine wp_append_E _ rfl (.tmp 75) (.tmp 81) rfl w5.heap.size _ (ls.take at1 ++ [(Value.slice Ar en.1.length cr, m + k)]) (ls.drop (at1 + 1)) rfl HOW7.out _ _ _ rfl HDL.out Q (HS3.out _ (by intro b hb; injection hb with hb; subst hb; rfl)) HO3.out (by rw [List.length_append, ← HTL.out, ← HDL.out]; simp; omega) (by omega) ?_; intro v8 w8 hown8 hb8 _ _; obtain ⟨A8, c8, hv8, _, _, _⟩ := hown8.slice (fun _ => True) (fun _ _ => trivial); generalize hn8 : List.length _ = n8 at hv8; clear hn8; subst hv8; have HOW8 := Lib.hid hown8; have HB8 := Lib.hid (HB7.out.trans hb8); have cg8 := (HB8.out.cell (p := ⟨g, 0, none⟩) hg5).trans cg5; have fg8 := (HB8.out.frozen (p := ⟨g, 0, none⟩) hg5).trans fg5; clear hown8 hb8))
  all_goals
    go_ret
    have hfin := HEN5.out
    exact r_fin Q g w w5 w8 A8 n8 c8 _ _ l' HQ.out HG.out hglt HB.out HB5'.out HB8.out HOW8.out hfin HGO.out (by omega)

set_option maxRecDepth 100000 in
set_option maxHeartbeats 4000000 in
theorem r_add_fz (R : Nat → Prop) (v : Value) (x : List V) (k : Int) (Q : Nat → Prop) (g : Nat) (l : List En) (w : World) (hQ : ∀ k, w.heap.size ≤ k → Q k) (hg : ¬ Q g) (hx : IsRow w R v x) (hb : RefL w Q g l) (hc : l.length ≤ 600000) (hr : rightR x = true) (hk : -1073741824 ≤ manyL x l + k ∧ manyL x l + k ≤ 1073741824) (hh : hasL x l = true) (hz : manyL x l + k = 0) :
    Calls Try.prog 17 #[.pointer (some ⟨g, 0, none⟩), v, .int .i64 k] w (RChanges w Q g (setL x (manyL x l + k) l, 0)) := by
  have hmb := hb.1.many x
  have hlt := hasL_lt x l hh
  obtain ⟨en, he⟩ : ∃ en, l[findL x l]? = some en := ⟨_, List.getElem?_eq_getElem hlt⟩
  have hset := setL_yes x (manyL x l + k) l en hh he
  rw [if_pos hz] at hset
  have HSET := Lib.hid hset
  have HGO := Lib.hid (setL_good x (manyL x l + k) l hb.1 hr ((fewN_iff _).2 hk))
  have hsl := setL_len2 x (manyL x l + k) l
  have HM := Lib.hid (r_many R v x Q g l)
  have HF := Lib.hid (r_find R v x Q g l)
  have HR := Lib.hid (ref_right_rows R v x w hx)
  have HRB := Lib.hid hb
  obtain ⟨hgo, hlen, L, c, hL, hcc, hbox, hent⟩ := hb
  have HX := Lib.hid hx
  have HB := Lib.hid hbox
  have HE := Lib.hid hent
  have HQ := Lib.hid hQ
  have HG := Lib.hid hg
  have hglt := hbox.lt
  have HEE := Lib.hid he
  clear he
  have HH := Lib.hid hh
  have HRR := Lib.hid hr
  have hzz : ((manyL x l + k) == 0) = true := by simpa using hz
  have hzn : ((manyL x l + k) != 0) = false := by unfold bne; rw [hzz]; rfl
  obtain ⟨hxl, A, cx, rfl, _, _⟩ := hx
  clear hgo hbox hent hQ hg hh hr hset
  generalize hm : manyL x l = m at *
  generalize hat : findL x l = at1 at *
  generalize hn : l.length = n at *
  generalize hl' : setL x (m + k) l = l' at *
  have HN := Lib.hid hn
  clear hm hat hn hl'
  obtain ⟨hm1, hm2⟩ := hmb
  obtain ⟨hk1, hk2⟩ := hk
  have hfew : fewN (m + k) = true := (fewN_iff _).2 ⟨hk1, hk2⟩
  have HFW := Lib.hid hfew
  have hd1 : decide (k < -2147483648) = false := by simp; omega
  have hd2 : decide (2147483648 < k) = false := by simp; omega
  have HZ := Lib.hid hz
  clear hfew hz
  go_enter Try.func17, Try.ntmps17
  go_wp2_with fail
  refine HR.out.mono ?_
  rintro e2 w1 ⟨rfl, hbw1⟩
  rw [HRR.out]
  go_wp2_with fail
  refine (HM.out _ (HX.out.below hbw1) (HRB.out.below hbw1)).mono ?_
  rintro e2 w2 ⟨rfl, hbw2⟩
  have HB2 := Lib.hid (hbw1.trans (hbw2.mono hbw1.size))
  clear hbw1 hbw2
  go_wp2_with fail
  refine (r_few _ _).mono ?_
  rintro e2 w3 ⟨rfl, rfl⟩
  rw [HFW.out]
  go_wp2_with fail
  refine (HF.out _ (HX.out.below HB2.out) (HRB.out.below HB2.out)).mono ?_
  rintro e2 w3 ⟨rfl, hbw3⟩
  rw [HH.out]
  have HB3 := Lib.hid (HB2.out.trans (hbw3.mono HB2.out.size))
  clear hbw3
  have hx3 := (HX.out.below HB3.out).below (one_new w3 (.cells #[.slice none 0 0, .int .i64 (m + k)] 46))
  have HX3 := Lib.hid hx3.rowAt
  clear hx3
  have hs3 := HB3.out.size
  obtain ⟨a, rv, rfl, hrow, hblt, c0, c1⟩ := HE.out.get at1 en HEE.out
  have HROW := Lib.hid hrow
  obtain ⟨_, Ar, cr, rfl, _, _⟩ := hrow
  have hg3 : g < w3.heap.size := by omega
  have cg : w.cell? ⟨g, 0, none⟩ = some (.slice (some a) n c) := HB.out.cell
  go_upto_region 12 with (at_builtin; go_must (refine wp_append_V _ rfl (.tmp 42) (.tmp 43) rfl (w3.heap.size + 1) _ [] x rfl (Own.nil _ _) _ A _ cx rfl rfl HX3.out (by simp; omega) (by simp) ?_; intro v4 w4 hown4 hb4 _; rw [List.nil_append] at hown4; obtain ⟨A4, c4, hv4, _, _⟩ := hown4.row; subst hv4; have HOW4 := Lib.hid hown4; have HB4 := Lib.hid hb4; have hb34 := HB3.out.trans (((one_new w3 _).mono hs3).trans (hb4.mono (by omega))); have HB34 := Lib.hid hb34; have hs34 := hb4.size; have e0 : w4.cell? ⟨w3.heap.size, 0, none⟩ = some (.slice none 0 0) := (hb4.cell (p := ⟨w3.heap.size, 0, none⟩) (by simp)).trans (alloc_new_cells _ _ _ 0); have e1 : w4.cell? ⟨w3.heap.size, 1, none⟩ = some (.int .i64 (m + k)) := (hb4.cell (p := ⟨w3.heap.size, 1, none⟩) (by simp)).trans (alloc_new_cells _ _ _ 1); have f0 : w4.frozen? ⟨w3.heap.size, 0, none⟩ = false := (hb4.frozen (p := ⟨w3.heap.size, 0, none⟩) (by simp)).trans (by simp); have g1 : (w4.setCell ⟨w3.heap.size, 0, none⟩ (.slice A4 x.length c4)).cell? ⟨g, 0, none⟩ = some (.slice (some a) n c) := (far_cellR _ (by omega) _ 0).trans ((hb34.cell (p := ⟨g, 0, none⟩) hglt).trans cg); have g2 : (w4.setCell ⟨w3.heap.size, 0, none⟩ (.slice A4 x.length c4)).cell? (a.add (at1 * 2)) = some (.slice Ar en.1.length cr) := (World.cell?_of_block (w := w4) (Below.heap_setCell w4 _ _ _ (by show (a.add (at1 * 2)).block ≠ w3.heap.size; omega))).trans ((hb34.cell hblt).trans c0); clear hown4 hb4 hb34))
  have HB5 : Below w.heap.size w ((w4.setCell ⟨w3.heap.size, 0, none⟩ (.slice A4 x.length c4)).setCell ⟨w3.heap.size, 0, none⟩ (.slice Ar en.1.length cr)) := (HB34.out.setCell (p := ⟨w3.heap.size, 0, none⟩) hs3 _).setCell (p := ⟨w3.heap.size, 0, none⟩) hs3 _
  have k0 : ((w4.setCell ⟨w3.heap.size, 0, none⟩ (.slice A4 x.length c4)).setCell ⟨w3.heap.size, 0, none⟩ (.slice Ar en.1.length cr)).cell? ⟨w3.heap.size, 0, none⟩ = some (Value.slice Ar en.1.length cr) := World.cell?_setCell_same _ _ _ (World.cell?_setCell_same _ _ _ e0)
  have k1 : ((w4.setCell ⟨w3.heap.size, 0, none⟩ (.slice A4 x.length c4)).setCell ⟨w3.heap.size, 0, none⟩ (.slice Ar en.1.length cr)).cell? ⟨w3.heap.size, 1, none⟩ = some (.int .i64 (m + k)) := by
    rw [World.cell?_setCell_other _ _ _ _ (by simp), World.cell?_setCell_other _ _ _ _ (by simp)]
    exact e1
  have hrow5 : IsRow ((w4.setCell ⟨w3.heap.size, 0, none⟩ (.slice A4 x.length c4)).setCell ⟨w3.heap.size, 0, none⟩ (.slice Ar en.1.length cr)) Q (Value.slice Ar en.1.length cr) en.1 := HROW.out.below HB5
  have hw45 : ((w4.setCell ⟨w3.heap.size, 0, none⟩ (.slice A4 x.length c4)).setCell ⟨w3.heap.size, 0, none⟩ (.slice Ar en.1.length cr)).heap.size = w4.heap.size := by simp [World.setCell]
  generalize ((w4.setCell ⟨w3.heap.size, 0, none⟩ (.slice A4 x.length c4)).setCell ⟨w3.heap.size, 0, none⟩ (.slice Ar en.1.length cr)) = w5 at *
  clear e0 e1 f0 g1 g2
  obtain ⟨ls, hen, hcells⟩ := HE.out
  have hls : ls.length = n := hen.len.trans HN.out
  have hs5 := HB5.size
  have cg5 : w5.cell? ⟨g, 0, none⟩ = some (.slice (some a) n c) := (HB5.cell (p := ⟨g, 0, none⟩) hglt).trans cg
  have hcells5 := hcells.keep (Below.keepQ HB5 Q)
  have hsrc1 : CellsQ w5 Q (some a) (flatE (ls.take at1)) := by rw [flatE_take]; exact hcells5.take _
  have hone1 := (hen.take at1).one
  have hone3 := (hen.drop (at1 + 1)).one
  have htl : at1 = (ls.take at1).length := by rw [List.length_take]; omega
  have hdl : n - (at1 + 1) = (ls.drop (at1 + 1)).length := by rw [List.length_drop]; omega
  have hen5 : EnR w5 Q (ls.take at1 ++ [] ++ ls.drop (at1 + 1)) l' := by
    rw [HSET.out]
    have h1 := hen.keep (Below.keepQ HB5 Q)
    exact ((h1.take at1).append (show EnR w5 Q [] [] from trivial)).append (h1.drop (at1 + 1))
  have HEN5 := Lib.hid hen5
  have HS1 := Lib.hid hsrc1
  have HC5 := Lib.hid hcells5
  have HO1 := Lib.hid hone1
  have HO3 := Lib.hid hone3
  have HB5' := Lib.hid HB5
  have HTL := Lib.hid htl
  have HDL := Lib.hid hdl
  have HLS := Lib.hid hls
  have hw3 : w3.heap.size < w5.heap.size := World.block_lt_of_cell? w5 _ k0
  have hg5 : g < w5.heap.size := by omega
  have fg5 : w5.frozen? ⟨g, 0, none⟩ = false := (HB5.frozen (p := ⟨g, 0, none⟩) hglt).trans HB.out.frozen
  clear hcells hcells5 hsrc1 hone1 hone3 hen htl hdl HB5 hls hen5 hrow5 hw45
  go_upto_region 13 with (at_builtin; go_must (refine wp_append_E _ rfl (.tmp 56) (.tmp 62) rfl w5.heap.size _ [] (ls.take at1) rfl (OwnE.nil _ _) (some a) at1 _ rfl HTL.out Q HS1.out HO1.out (by rw [← HTL.out]; simp; omega) (Nat.le_refl _) ?_; intro v6 w6 hown6 hb6 _ _; rw [List.nil_append] at hown6; obtain ⟨A6, c6, hv6, _, _, _⟩ := hown6.slice (fun _ => True) (fun _ _ => trivial); rw [← HTL.out] at hv6; subst hv6; have HOW6 := Lib.hid hown6; have HB6 := Lib.hid hb6; have cg6 := (hb6.cell (p := ⟨g, 0, none⟩) hg5).trans cg5; have fg6 := (hb6.frozen (p := ⟨g, 0, none⟩) hg5).trans fg5; have k06 := (hb6.cell (p := ⟨w3.heap.size, 0, none⟩) hw3).trans k0; have k16 := (hb6.cell (p := ⟨w3.heap.size, 1, none⟩) hw3).trans k1; have hs6 := hb6.size; clear hown6 hb6))
  have HC7 : CellsQ w6 Q (some a) (flatE ls) := HC5.out.keep (Below.keepQ HB6.out Q)
  have HS3 := Lib.hid (drop_cells HC7 c (at1 + 1) (by rw [HLS.out]; exact hcc))
  clear HC7
  go_wp2_with (at_builtin; go_must (refine wp_append_E _ rfl (.tmp 75) (.tmp 81) rfl w5.heap.size _ (ls.take at1) (ls.drop (at1 + 1)) rfl HOW6.out _ _ _ rfl HDL.out Q (HS3.out _ (by intro b hb; injection hb with hb; subst hb; rfl)) HO3.out (by rw [← HTL.out, ← HDL.out]; omega) (by omega) ?_; intro v8 w8 hown8 hb8 _ _; obtain ⟨A8, c8, hv8, _, _, _⟩ := hown8.slice (fun _ => True) (fun _ _ => trivial); generalize hn8 : List.length _ = n8 at hv8; clear hn8; subst hv8; have HOW8 := Lib.hid hown8; have HB8 := Lib.hid (HB6.out.trans hb8); have cg8 := (HB8.out.cell (p := ⟨g, 0, none⟩) hg5).trans cg5; have fg8 := (HB8.out.frozen (p := ⟨g, 0, none⟩) hg5).trans fg5; clear hown8 hb8))
  all_goals
    go_ret
    have hfin := HEN5.out
    rw [List.append_nil] at hfin
    exact r_fin Q g w w5 w8 A8 n8 c8 _ _ l' HQ.out HG.out hglt HB.out HB5'.out HB8.out HOW8.out hfin HGO.out (by omega)

set_option maxRecDepth 100000 in
set_option maxHeartbeats 4000000 in
theorem r_add_nk (R : Nat → Prop) (v : Value) (x : List V) (k : Int) (Q : Nat → Prop) (g : Nat) (l : List En) (w : World) (hQ : ∀ k, w.heap.size ≤ k → Q k) (hg : ¬ Q g) (hx : IsRow w R v x) (hb : RefL w Q g l) (hc : l.length ≤ 600000) (hr : rightR x = true) (hk : -1073741824 ≤ manyL x l + k ∧ manyL x l + k ≤ 1073741824) (hh : hasL x l = false) (hz : ¬ manyL x l + k = 0) :
    Calls Try.prog 17 #[.pointer (some ⟨g, 0, none⟩), v, .int .i64 k] w (RChanges w Q g (setL x (manyL x l + k) l, 0)) := by
  have hmb := hb.1.many x
  have hlt := findL_le x l
  have hset := setL_no x (manyL x l + k) l hh
  rw [if_neg hz] at hset
  have HSET := Lib.hid hset
  have HGO := Lib.hid (setL_good x (manyL x l + k) l hb.1 hr ((fewN_iff _).2 hk))
  have hsl := setL_len2 x (manyL x l + k) l
  have HM := Lib.hid (r_many R v x Q g l)
  have HF := Lib.hid (r_find R v x Q g l)
  have HR := Lib.hid (ref_right_rows R v x w hx)
  have HRB := Lib.hid hb
  obtain ⟨hgo, hlen, L, c, hL, hcc, hbox, hent⟩ := hb
  have HX := Lib.hid hx
  have HB := Lib.hid hbox
  have HE := Lib.hid hent
  have HQ := Lib.hid hQ
  have HG := Lib.hid hg
  have hglt := hbox.lt
  have HH := Lib.hid hh
  have HRR := Lib.hid hr
  have hzz : ((manyL x l + k) == 0) = false := by simpa using hz
  have hzn : ((manyL x l + k) != 0) = true := by unfold bne; rw [hzz]; rfl
  obtain ⟨hxl, A, cx, rfl, _, _⟩ := hx
  clear hgo hbox hent hQ hg hh hr hset
  generalize hm : manyL x l = m at *
  generalize hat : findL x l = at1 at *
  generalize hn : l.length = n at *
  generalize hl' : setL x (m + k) l = l' at *
  have HN := Lib.hid hn
  clear hm hat hn hl'
  obtain ⟨hm1, hm2⟩ := hmb
  obtain ⟨hk1, hk2⟩ := hk
  have hfew : fewN (m + k) = true := (fewN_iff _).2 ⟨hk1, hk2⟩
  have HFW := Lib.hid hfew
  have hd1 : decide (k < -2147483648) = false := by simp; omega
  have hd2 : decide (2147483648 < k) = false := by simp; omega
  clear hfew
  go_enter Try.func17, Try.ntmps17
  go_wp2_with fail
  refine HR.out.mono ?_
  rintro e2 w1 ⟨rfl, hbw1⟩
  rw [HRR.out]
  go_wp2_with fail
  refine (HM.out _ (HX.out.below hbw1) (HRB.out.below hbw1)).mono ?_
  rintro e2 w2 ⟨rfl, hbw2⟩
  have HB2 := Lib.hid (hbw1.trans (hbw2.mono hbw1.size))
  clear hbw1 hbw2
  go_wp2_with fail
  refine (r_few _ _).mono ?_
  rintro e2 w3 ⟨rfl, rfl⟩
  rw [HFW.out]
  go_wp2_with fail
  refine (HF.out _ (HX.out.below HB2.out) (HRB.out.below HB2.out)).mono ?_
  rintro e2 w3 ⟨rfl, hbw3⟩
  rw [HH.out]
  have HB3 := Lib.hid (HB2.out.trans (hbw3.mono HB2.out.size))
  clear hbw3
  have hx3 := (HX.out.below HB3.out).below (one_new w3 (.cells #[.slice none 0 0, .int .i64 (m + k)] 46))
  have HX3 := Lib.hid hx3.rowAt
  clear hx3
  have hs3 := HB3.out.size
  have hg3 : g < w3.heap.size := by omega
  have cg : w.cell? ⟨g, 0, none⟩ = some (.slice L n c) := HB.out.cell
  go_upto_region 12 with (at_builtin; go_must (refine wp_append_V _ rfl (.tmp 42) (.tmp 43) rfl (w3.heap.size + 1) _ [] x rfl (Own.nil _ _) _ A _ cx rfl rfl HX3.out (by simp; omega) (by simp) ?_; intro v4 w4 hown4 hb4 _; rw [List.nil_append] at hown4; obtain ⟨A4, c4, hv4, _, _⟩ := hown4.row; subst hv4; have HOW4 := Lib.hid hown4; have HB4 := Lib.hid hb4; have hb34 := HB3.out.trans (((one_new w3 _).mono hs3).trans (hb4.mono (by omega))); have HB34 := Lib.hid hb34; have hs34 := hb4.size; have e0 : w4.cell? ⟨w3.heap.size, 0, none⟩ = some (.slice none 0 0) := (hb4.cell (p := ⟨w3.heap.size, 0, none⟩) (by simp)).trans (alloc_new_cells _ _ _ 0); have e1 : w4.cell? ⟨w3.heap.size, 1, none⟩ = some (.int .i64 (m + k)) := (hb4.cell (p := ⟨w3.heap.size, 1, none⟩) (by simp)).trans (alloc_new_cells _ _ _ 1); have f0 : w4.frozen? ⟨w3.heap.size, 0, none⟩ = false := (hb4.frozen (p := ⟨w3.heap.size, 0, none⟩) (by simp)).trans (by simp); have g1 : (w4.setCell ⟨w3.heap.size, 0, none⟩ (.slice A4 x.length c4)).cell? ⟨g, 0, none⟩ = some (.slice L n c) := (far_cellR _ (by omega) _ 0).trans ((hb34.cell (p := ⟨g, 0, none⟩) hglt).trans cg); clear hown4 hb4 hb34))
  have HB5 : Below w.heap.size w (w4.setCell ⟨w3.heap.size, 0, none⟩ (.slice A4 x.length c4)) := HB34.out.setCell (p := ⟨w3.heap.size, 0, none⟩) hs3 _
  have k0 : (w4.setCell ⟨w3.heap.size, 0, none⟩ (.slice A4 x.length c4)).cell? ⟨w3.heap.size, 0, none⟩ = some (Value.slice A4 x.length c4) := World.cell?_setCell_same _ _ _ e0
  have k1 : (w4.setCell ⟨w3.heap.size, 0, none⟩ (.slice A4 x.length c4)).cell? ⟨w3.heap.size, 1, none⟩ = some (.int .i64 (m + k)) := by
    rw [World.cell?_setCell_other _ _ _ _ (by simp)]
    exact e1
  have hrow4 : IsRow w4 (fun j => w3.heap.size + 1 ≤ j) (Value.slice A4 x.length c4) x := IsRow.own (w := w3.alloc (.cells #[.slice none 0 0, .int .i64 (m + k)] 46)) (by simpa using HOW4.out) hxl (fun j hj => by simpa using hj)
  have hrow5 : IsRow (w4.setCell ⟨w3.heap.size, 0, none⟩ (.slice A4 x.length c4)) Q (Value.slice A4 x.length c4) x := (hrow4.keep (fun j hj _ => Below.heap_setCell w4 _ _ j (by show j ≠ w3.heap.size; omega))).imp (fun j _ hj => HQ.out j (by omega))
  have hw45 : (w4.setCell ⟨w3.heap.size, 0, none⟩ (.slice A4 x.length c4)).heap.size = w4.heap.size := by simp [World.setCell]
  generalize (w4.setCell ⟨w3.heap.size, 0, none⟩ (.slice A4 x.length c4)) = w5 at *
  clear e0 e1 f0 g1
  obtain ⟨ls, hen, hcells⟩ := HE.out
  have hls : ls.length = n := hen.len.trans HN.out
  have hs5 := HB5.size
  have cg5 : w5.cell? ⟨g, 0, none⟩ = some (.slice L n c) := (HB5.cell (p := ⟨g, 0, none⟩) hglt).trans cg
  have hcells5 := hcells.keep (Below.keepQ HB5 Q)
  have hsrc1 : CellsQ w5 Q L (flatE (ls.take at1)) := by rw [flatE_take]; exact hcells5.take _
  have hone1 := (hen.take at1).one
  have hone3 := (hen.drop (at1)).one
  have htl : at1 = (ls.take at1).length := by rw [List.length_take]; omega
  have hdl : n - (at1) = (ls.drop (at1)).length := by rw [List.length_drop]; omega
  have hen5 : EnR w5 Q (ls.take at1 ++ [(Value.slice A4 x.length c4, m + k)] ++ ls.drop (at1)) l' := by
    rw [HSET.out]
    have h1 := hen.keep (Below.keepQ HB5 Q)
    exact ((h1.take at1).append (show EnR w5 Q [(Value.slice A4 x.length c4, m + k)] [(x, m + k)] from ⟨rfl, hrow5, trivial⟩)).append (h1.drop (at1))
  have HEN5 := Lib.hid hen5
  have HS1 := Lib.hid hsrc1
  have HC5 := Lib.hid hcells5
  have HO1 := Lib.hid hone1
  have HO3 := Lib.hid hone3
  have HB5' := Lib.hid HB5
  have HTL := Lib.hid htl
  have HDL := Lib.hid hdl
  have HLS := Lib.hid hls
  have hw3 : w3.heap.size < w5.heap.size := World.block_lt_of_cell? w5 _ k0
  have hg5 : g < w5.heap.size := by omega
  have fg5 : w5.frozen? ⟨g, 0, none⟩ = false := (HB5.frozen (p := ⟨g, 0, none⟩) hglt).trans HB.out.frozen
  clear hcells hcells5 hsrc1 hone1 hone3 hen htl hdl HB5 hls hen5 hrow5 hw45
  go_upto_region 13 with (at_builtin; go_must (refine wp_append_E _ rfl (.tmp 56) (.tmp 62) rfl w5.heap.size _ [] (ls.take at1) rfl (OwnE.nil _ _) L at1 _ rfl HTL.out Q HS1.out HO1.out (by rw [← HTL.out]; simp; omega) (Nat.le_refl _) ?_; intro v6 w6 hown6 hb6 _ _; rw [List.nil_append] at hown6; obtain ⟨A6, c6, hv6, _, _, _⟩ := hown6.slice (fun _ => True) (fun _ _ => trivial); rw [← HTL.out] at hv6; subst hv6; have HOW6 := Lib.hid hown6; have HB6 := Lib.hid hb6; have cg6 := (hb6.cell (p := ⟨g, 0, none⟩) hg5).trans cg5; have fg6 := (hb6.frozen (p := ⟨g, 0, none⟩) hg5).trans fg5; have k06 := (hb6.cell (p := ⟨w3.heap.size, 0, none⟩) hw3).trans k0; have k16 := (hb6.cell (p := ⟨w3.heap.size, 1, none⟩) hw3).trans k1; have hs6 := hb6.size; clear hown6 hb6))
  go_upto_region 17 with (at_builtin; go_must (refine wp_append_E _ rfl (.tmp 67) (.tmp 69) rfl w5.heap.size _ (ls.take at1) [(Value.slice A4 x.length c4, m + k)] rfl (HOW6.out.alloc _) _ 1 _ rfl rfl (fun _ => True) (ent_lit1 w6 _ _ _ (fun _ _ => trivial)) (by simp [flatE, Value.oneCell']) (by rw [← HTL.out]; simp; omega) (by simp; omega) ?_; intro v7 w7 hown7 hb7 _ _; obtain ⟨A7, c7, hv7, _, _, _⟩ := hown7.slice (fun _ => True) (fun _ _ => trivial); rw [List.length_append, ← HTL.out, List.length_singleton] at hv7; subst hv7; have HOW7 := Lib.hid hown7; have HB7 := Lib.hid (HB6.out.trans (((one_new w6 _).mono hs6).trans hb7)); have cg7 := (HB7.out.cell (p := ⟨g, 0, none⟩) hg5).trans cg5; have fg7 := (HB7.out.frozen (p := ⟨g, 0, none⟩) hg5).trans fg5; have hs7 := HB7.out.size; clear hown7 hb7))
  have HC7 : CellsQ w7 Q L (flatE ls) := HC5.out.keep (Below.keepQ HB7.out Q)
  have HS3 := Lib.hid (drop_cells HC7 c (at1) (by rw [HLS.out]; exact hcc))
  clear HC7
  go_wp2_with (at_builtin; go_must (refine wp_append_E _ rfl (.tmp 75) (.tmp 81) rfl w5.heap.size _ (ls.take at1 ++ [(Value.slice A4 x.length c4, m + k)]) (ls.drop (at1)) rfl HOW7.out _ _ _ rfl HDL.out Q (HS3.out _ (by intro b hb; subst hb; rfl)) HO3.out (by rw [List.length_append, ← HTL.out, ← HDL.out]; simp; omega) (by omega) ?_; intro v8 w8 hown8 hb8 _ _; obtain ⟨A8, c8, hv8, _, _, _⟩ := hown8.slice (fun _ => True) (fun _ _ => trivial); generalize hn8 : List.length _ = n8 at hv8; clear hn8; subst hv8; have HOW8 := Lib.hid hown8; have HB8 := Lib.hid (HB7.out.trans hb8); have cg8 := (HB8.out.cell (p := ⟨g, 0, none⟩) hg5).trans cg5; have fg8 := (HB8.out.frozen (p := ⟨g, 0, none⟩) hg5).trans fg5; clear hown8 hb8))
  all_goals
    go_ret
    have hfin := HEN5.out
    exact r_fin Q g w w5 w8 A8 n8 c8 _ _ l' HQ.out HG.out hglt HB.out HB5'.out HB8.out HOW8.out hfin HGO.out (by omega)

set_option maxRecDepth 100000 in
set_option maxHeartbeats 4000000 in
theorem r_add_nz (R : Nat → Prop) (v : Value) (x : List V) (k : Int) (Q : Nat → Prop) (g : Nat) (l : List En) (w : World) (hQ : ∀ k, w.heap.size ≤ k → Q k) (hg : ¬ Q g) (hx : IsRow w R v x) (hb : RefL w Q g l) (hc : l.length ≤ 600000) (hr : rightR x = true) (hk : -1073741824 ≤ manyL x l + k ∧ manyL x l + k ≤ 1073741824) (hh : hasL x l = false) (hz : manyL x l + k = 0) :
    Calls Try.prog 17 #[.pointer (some ⟨g, 0, none⟩), v, .int .i64 k] w (RChanges w Q g (setL x (manyL x l + k) l, 0)) := by
  have hmb := hb.1.many x
  have hlt := findL_le x l
  have hset := setL_no x (manyL x l + k) l hh
  rw [if_pos hz] at hset
  have HSET := Lib.hid hset
  have HGO := Lib.hid (setL_good x (manyL x l + k) l hb.1 hr ((fewN_iff _).2 hk))
  have hsl := setL_len2 x (manyL x l + k) l
  have HM := Lib.hid (r_many R v x Q g l)
  have HF := Lib.hid (r_find R v x Q g l)
  have HR := Lib.hid (ref_right_rows R v x w hx)
  have HRB := Lib.hid hb
  obtain ⟨hgo, hlen, L, c, hL, hcc, hbox, hent⟩ := hb
  have HX := Lib.hid hx
  have HB := Lib.hid hbox
  have HE := Lib.hid hent
  have HQ := Lib.hid hQ
  have HG := Lib.hid hg
  have hglt := hbox.lt
  have HH := Lib.hid hh
  have HRR := Lib.hid hr
  have hzz : ((manyL x l + k) == 0) = true := by simpa using hz
  have hzn : ((manyL x l + k) != 0) = false := by unfold bne; rw [hzz]; rfl
  obtain ⟨hxl, A, cx, rfl, _, _⟩ := hx
  clear hgo hbox hent hQ hg hh hr hset
  generalize hm : manyL x l = m at *
  generalize hat : findL x l = at1 at *
  generalize hn : l.length = n at *
  generalize hl' : setL x (m + k) l = l' at *
  have HN := Lib.hid hn
  clear hm hat hn hl'
  obtain ⟨hm1, hm2⟩ := hmb
  obtain ⟨hk1, hk2⟩ := hk
  have hfew : fewN (m + k) = true := (fewN_iff _).2 ⟨hk1, hk2⟩
  have HFW := Lib.hid hfew
  have hd1 : decide (k < -2147483648) = false := by simp; omega
  have hd2 : decide (2147483648 < k) = false := by simp; omega
  have HZ := Lib.hid hz
  clear hfew hz
  go_enter Try.func17, Try.ntmps17
  go_wp2_with fail
  refine HR.out.mono ?_
  rintro e2 w1 ⟨rfl, hbw1⟩
  rw [HRR.out]
  go_wp2_with fail
  refine (HM.out _ (HX.out.below hbw1) (HRB.out.below hbw1)).mono ?_
  rintro e2 w2 ⟨rfl, hbw2⟩
  have HB2 := Lib.hid (hbw1.trans (hbw2.mono hbw1.size))
  clear hbw1 hbw2
  go_wp2_with fail
  refine (r_few _ _).mono ?_
  rintro e2 w3 ⟨rfl, rfl⟩
  rw [HFW.out]
  go_wp2_with fail
  refine (HF.out _ (HX.out.below HB2.out) (HRB.out.below HB2.out)).mono ?_
  rintro e2 w3 ⟨rfl, hbw3⟩
  rw [HH.out]
  have HB3 := Lib.hid (HB2.out.trans (hbw3.mono HB2.out.size))
  clear hbw3
  have hx3 := (HX.out.below HB3.out).below (one_new w3 (.cells #[.slice none 0 0, .int .i64 (m + k)] 46))
  have HX3 := Lib.hid hx3.rowAt
  clear hx3
  have hs3 := HB3.out.size
  have hg3 : g < w3.heap.size := by omega
  have cg : w.cell? ⟨g, 0, none⟩ = some (.slice L n c) := HB.out.cell
  go_upto_region 12 with (at_builtin; go_must (refine wp_append_V _ rfl (.tmp 42) (.tmp 43) rfl (w3.heap.size + 1) _ [] x rfl (Own.nil _ _) _ A _ cx rfl rfl HX3.out (by simp; omega) (by simp) ?_; intro v4 w4 hown4 hb4 _; rw [List.nil_append] at hown4; obtain ⟨A4, c4, hv4, _, _⟩ := hown4.row; subst hv4; have HOW4 := Lib.hid hown4; have HB4 := Lib.hid hb4; have hb34 := HB3.out.trans (((one_new w3 _).mono hs3).trans (hb4.mono (by omega))); have HB34 := Lib.hid hb34; have hs34 := hb4.size; have e0 : w4.cell? ⟨w3.heap.size, 0, none⟩ = some (.slice none 0 0) := (hb4.cell (p := ⟨w3.heap.size, 0, none⟩) (by simp)).trans (alloc_new_cells _ _ _ 0); have e1 : w4.cell? ⟨w3.heap.size, 1, none⟩ = some (.int .i64 (m + k)) := (hb4.cell (p := ⟨w3.heap.size, 1, none⟩) (by simp)).trans (alloc_new_cells _ _ _ 1); have f0 : w4.frozen? ⟨w3.heap.size, 0, none⟩ = false := (hb4.frozen (p := ⟨w3.heap.size, 0, none⟩) (by simp)).trans (by simp); have g1 : (w4.setCell ⟨w3.heap.size, 0, none⟩ (.slice A4 x.length c4)).cell? ⟨g, 0, none⟩ = some (.slice L n c) := (far_cellR _ (by omega) _ 0).trans ((hb34.cell (p := ⟨g, 0, none⟩) hglt).trans cg); clear hown4 hb4 hb34))
  have HB5 : Below w.heap.size w (w4.setCell ⟨w3.heap.size, 0, none⟩ (.slice A4 x.length c4)) := HB34.out.setCell (p := ⟨w3.heap.size, 0, none⟩) hs3 _
  have k0 : (w4.setCell ⟨w3.heap.size, 0, none⟩ (.slice A4 x.length c4)).cell? ⟨w3.heap.size, 0, none⟩ = some (Value.slice A4 x.length c4) := World.cell?_setCell_same _ _ _ e0
  have k1 : (w4.setCell ⟨w3.heap.size, 0, none⟩ (.slice A4 x.length c4)).cell? ⟨w3.heap.size, 1, none⟩ = some (.int .i64 (m + k)) := by
    rw [World.cell?_setCell_other _ _ _ _ (by simp)]
    exact e1
  have hrow4 : IsRow w4 (fun j => w3.heap.size + 1 ≤ j) (Value.slice A4 x.length c4) x := IsRow.own (w := w3.alloc (.cells #[.slice none 0 0, .int .i64 (m + k)] 46)) (by simpa using HOW4.out) hxl (fun j hj => by simpa using hj)
  have hrow5 : IsRow (w4.setCell ⟨w3.heap.size, 0, none⟩ (.slice A4 x.length c4)) Q (Value.slice A4 x.length c4) x := (hrow4.keep (fun j hj _ => Below.heap_setCell w4 _ _ j (by show j ≠ w3.heap.size; omega))).imp (fun j _ hj => HQ.out j (by omega))
  have hw45 : (w4.setCell ⟨w3.heap.size, 0, none⟩ (.slice A4 x.length c4)).heap.size = w4.heap.size := by simp [World.setCell]
  generalize (w4.setCell ⟨w3.heap.size, 0, none⟩ (.slice A4 x.length c4)) = w5 at *
  clear e0 e1 f0 g1
  obtain ⟨ls, hen, hcells⟩ := HE.out
  have hls : ls.length = n := hen.len.trans HN.out
  have hs5 := HB5.size
  have cg5 : w5.cell? ⟨g, 0, none⟩ = some (.slice L n c) := (HB5.cell (p := ⟨g, 0, none⟩) hglt).trans cg
  have hcells5 := hcells.keep (Below.keepQ HB5 Q)
  have hsrc1 : CellsQ w5 Q L (flatE (ls.take at1)) := by rw [flatE_take]; exact hcells5.take _
  have hone1 := (hen.take at1).one
  have hone3 := (hen.drop (at1)).one
  have htl : at1 = (ls.take at1).length := by rw [List.length_take]; omega
  have hdl : n - (at1) = (ls.drop (at1)).length := by rw [List.length_drop]; omega
  have hen5 : EnR w5 Q (ls.take at1 ++ [] ++ ls.drop (at1)) l' := by
    rw [HSET.out]
    have h1 := hen.keep (Below.keepQ HB5 Q)
    exact ((h1.take at1).append (show EnR w5 Q [] [] from trivial)).append (h1.drop (at1))
  have HEN5 := Lib.hid hen5
  have HS1 := Lib.hid hsrc1
  have HC5 := Lib.hid hcells5
  have HO1 := Lib.hid hone1
  have HO3 := Lib.hid hone3
  have HB5' := Lib.hid HB5
  have HTL := Lib.hid htl
  have HDL := Lib.hid hdl
  have HLS := Lib.hid hls
  have hw3 : w3.heap.size < w5.heap.size := World.block_lt_of_cell? w5 _ k0
  have hg5 : g < w5.heap.size := by omega
  have fg5 : w5.frozen? ⟨g, 0, none⟩ = false := (HB5.frozen (p := ⟨g, 0, none⟩) hglt).trans HB.out.frozen
  clear hcells hcells5 hsrc1 hone1 hone3 hen htl hdl HB5 hls hen5 hrow5 hw45
  go_upto_region 13 with (at_builtin; go_must (refine wp_append_E _ rfl (.tmp 56) (.tmp 62) rfl w5.heap.size _ [] (ls.take at1) rfl (OwnE.nil _ _) L at1 _ rfl HTL.out Q HS1.out HO1.out (by rw [← HTL.out]; simp; omega) (Nat.le_refl _) ?_; intro v6 w6 hown6 hb6 _ _; rw [List.nil_append] at hown6; obtain ⟨A6, c6, hv6, _, _, _⟩ := hown6.slice (fun _ => True) (fun _ _ => trivial); rw [← HTL.out] at hv6; subst hv6; have HOW6 := Lib.hid hown6; have HB6 := Lib.hid hb6; have cg6 := (hb6.cell (p := ⟨g, 0, none⟩) hg5).trans cg5; have fg6 := (hb6.frozen (p := ⟨g, 0, none⟩) hg5).trans fg5; have k06 := (hb6.cell (p := ⟨w3.heap.size, 0, none⟩) hw3).trans k0; have k16 := (hb6.cell (p := ⟨w3.heap.size, 1, none⟩) hw3).trans k1; have hs6 := hb6.size; clear hown6 hb6))
  have HC7 : CellsQ w6 Q L (flatE ls) := HC5.out.keep (Below.keepQ HB6.out Q)
  have HS3 := Lib.hid (drop_cells HC7 c (at1) (by rw [HLS.out]; exact hcc))
  clear HC7
  go_wp2_with (at_builtin; go_must (refine wp_append_E _ rfl (.tmp 75) (.tmp 81) rfl w5.heap.size _ (ls.take at1) (ls.drop (at1)) rfl HOW6.out _ _ _ rfl HDL.out Q (HS3.out _ (by intro b hb; subst hb; rfl)) HO3.out (by rw [← HTL.out, ← HDL.out]; omega) (by omega) ?_; intro v8 w8 hown8 hb8 _ _; obtain ⟨A8, c8, hv8, _, _, _⟩ := hown8.slice (fun _ => True) (fun _ _ => trivial); generalize hn8 : List.length _ = n8 at hv8; clear hn8; subst hv8; have HOW8 := Lib.hid hown8; have HB8 := Lib.hid (HB6.out.trans hb8); have cg8 := (HB8.out.cell (p := ⟨g, 0, none⟩) hg5).trans cg5; have fg8 := (HB8.out.frozen (p := ⟨g, 0, none⟩) hg5).trans fg5; clear hown8 hb8))
  all_goals
    go_ret
    have hfin := HEN5.out
    rw [List.append_nil] at hfin
    exact r_fin Q g w w5 w8 A8 n8 c8 _ _ l' HQ.out HG.out hglt HB.out HB5'.out HB8.out HOW8.out hfin HGO.out (by omega)

set_option maxRecDepth 100000 in
set_option maxHeartbeats 1000000 in
theorem r_add_arg (R : Nat → Prop) (v : Value) (x : List V) (k : Int) (g : Nat) (w : World) (hx : IsRow w R v x) (hr : rightR x = false) :
    Calls Try.prog 17 #[.pointer (some ⟨g, 0, none⟩), v, .int .i64 k] w fun e w' => e = .returned (.int .i64 2) ∧ Below w.heap.size w w' := by
  have HR := Lib.hid (ref_right_rows R v x w hx)
  have HRR := Lib.hid hr
  obtain ⟨_, A, c, rfl, _, _⟩ := hx
  clear hr
  go_enter Try.func17, Try.ntmps17
  go_wp2_with fail
  refine HR.out.mono ?_
  rintro e2 w1 ⟨rfl, hbw1⟩
  rw [HRR.out]
  go_wp2
  go_ret
  exact ⟨rfl, hbw1⟩
set_option maxRecDepth 100000 in
set_option maxHeartbeats 1000000 in
theorem r_add_over (R : Nat → Prop) (v : Value) (x : List V) (k : Int) (Q : Nat → Prop) (g : Nat) (l : List En) (w : World) (hx : IsRow w R v x) (hb : RefL w Q g l) (hr : rightR x = true) (hk : k < -1073741824 - manyL x l ∨ 1073741824 - manyL x l < k) :
    Calls Try.prog 17 #[.pointer (some ⟨g, 0, none⟩), v, .int .i64 k] w fun e w' => e = .returned (.int .i64 10) ∧ Below w.heap.size w w' := by
  have hmb := hb.1.many x
  have HR := Lib.hid (ref_right_rows R v x w hx)
  have HM := Lib.hid (r_many R v x Q g l)
  have HRR := Lib.hid hr
  have HX := Lib.hid hx
  have HRB := Lib.hid hb
  obtain ⟨_, A, c, rfl, _, _⟩ := hx
  clear hr hb
  generalize hm : manyL x l = m at *
  clear hm
  obtain ⟨hm1, hm2⟩ := hmb
  by_cases h1 : k < -2147483648
  · have hd1 : decide (k < -2147483648) = true := by simp; omega
    clear hk
    go_enter Try.func17, Try.ntmps17
    go_wp2_with fail
    refine HR.out.mono ?_
    rintro e2 w1 ⟨rfl, hbw1⟩
    rw [HRR.out]
    go_wp2_with fail
    refine (HM.out _ (HX.out.below hbw1) (HRB.out.below hbw1)).mono ?_
    rintro e2 w2 ⟨rfl, hbw2⟩
    go_wp2
    go_ret
    exact ⟨rfl, hbw1.trans (hbw2.mono hbw1.size)⟩
  · by_cases h2 : 2147483648 < k
    · have hd1 : decide (k < -2147483648) = false := by simp; omega
      have hd2 : decide (2147483648 < k) = true := by simp; omega
      clear hk
      go_enter Try.func17, Try.ntmps17
      go_wp2_with fail
      refine HR.out.mono ?_
      rintro e2 w1 ⟨rfl, hbw1⟩
      rw [HRR.out]
      go_wp2_with fail
      refine (HM.out _ (HX.out.below hbw1) (HRB.out.below hbw1)).mono ?_
      rintro e2 w2 ⟨rfl, hbw2⟩
      go_wp2
      go_ret
      exact ⟨rfl, hbw1.trans (hbw2.mono hbw1.size)⟩
    · have hd1 : decide (k < -2147483648) = false := by simp; omega
      have hd2 : decide (2147483648 < k) = false := by simp; omega
      have hfew : fewN (m + k) = false := by
        rcases Bool.eq_false_or_eq_true (fewN (m + k)) with h | h
        · have := (fewN_iff _).1 h
          omega
        · exact h
      have HFW := Lib.hid hfew
      clear hk hfew
      go_enter Try.func17, Try.ntmps17
      go_wp2_with fail
      refine HR.out.mono ?_
      rintro e2 w1 ⟨rfl, hbw1⟩
      rw [HRR.out]
      go_wp2_with fail
      refine (HM.out _ (HX.out.below hbw1) (HRB.out.below hbw1)).mono ?_
      rintro e2 w2 ⟨rfl, hbw2⟩
      go_wp2_with fail
      refine (r_few _ _).mono ?_
      rintro e2 w3 ⟨rfl, rfl⟩
      rw [HFW.out]
      go_wp2
      go_ret
      exact ⟨rfl, hbw1.trans (hbw2.mono hbw1.size)⟩

theorem r_add (R : Nat → Prop) (v : Value) (x : List V) (k : Int) (Q : Nat → Prop) (g : Nat) (l : List En) (w : World) (hQ : ∀ k, w.heap.size ≤ k → Q k) (hg : ¬ Q g) (hx : IsRow w R v x) (hb : RefL w Q g l) (hc : l.length ≤ 600000) :
    Calls Try.prog 17 #[.pointer (some ⟨g, 0, none⟩), v, .int .i64 k] w (RChanges w Q g (addL x k l)) := by
  unfold addL
  rcases Bool.eq_false_or_eq_true (rightR x) with hr | hr
  · rw [if_neg (by simp [hr])]
    by_cases ho : k < -1073741824 - manyL x l ∨ 1073741824 - manyL x l < k
    · rw [if_pos ho]
      refine (r_add_over R v x k Q g l w hx hb hr ho).mono ?_
      rintro e w' ⟨rfl, hbb⟩
      exact ⟨rfl, hb.below hbb, Only.of_below hbb (Nat.le_of_lt hb.lt)⟩
    · rw [if_neg ho]
      have hk : -1073741824 ≤ manyL x l + k ∧ manyL x l + k ≤ 1073741824 := by omega
      rcases Bool.eq_false_or_eq_true (hasL x l) with hh | hh
      · by_cases hz : manyL x l + k = 0
        · exact r_add_fz R v x k Q g l w hQ hg hx hb hc hr hk hh hz
        · exact r_add_fk R v x k Q g l w hQ hg hx hb hc hr hk hh hz
      · by_cases hz : manyL x l + k = 0
        · exact r_add_nz R v x k Q g l w hQ hg hx hb hc hr hk hh hz
        · exact r_add_nk R v x k Q g l w hQ hg hx hb hc hr hk hh hz
  · rw [if_pos hr]
    refine (r_add_arg R v x k g w hx hr).mono ?_
    rintro e w' ⟨rfl, hbb⟩
    exact ⟨rfl, hb.below hbb, Only.of_below hbb (Nat.le_of_lt hb.lt)⟩
end Go.Proofs.Ytpliofhphijdkaa
