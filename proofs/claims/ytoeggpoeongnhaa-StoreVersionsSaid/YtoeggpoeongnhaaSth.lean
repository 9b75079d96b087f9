/-
  put of package store: an object in its place, with the next version.
  Condition: no more than a thousand objects; versions that fit.
-/
import Derived.Test.YtoeggpoeongnhaaStg
import Derived.Deep.Cut
namespace Go.Proofs.Ytoeggpoeongnhaa
open Go.RowKit Go.Maps

theorem set5_below0 {w W : World} {p : Nat} (hb : Below 0 w W) (a0 a1 a2 a3 a4 : Value) : Below 0 w (set5 W p a0 a1 a2 a3 a4) :=
  ((((hb.setCell (p := ⟨p, 0, none⟩) (Nat.zero_le _) a0).setCell (p := ⟨p, 1, none⟩) (Nat.zero_le _) a1).setCell (p := ⟨p, 2, none⟩) (Nat.zero_le _) a2).setCell (p := ⟨p, 3, none⟩) (Nat.zero_le _) a3).setCell (p := ⟨p, 4, none⟩) (Nat.zero_le _) a4
set_option maxRecDepth 100000 in
set_option maxHeartbeats 4000000 in
theorem o_put (Q R : Nat → Prop) (s b : Nat) (os : List Ob) (last : Int) (KL : List Sc) (e : OE) (c : List V) (p q : Nat) (w : World) (hS : StoB w Q s b os last KL) (hQ : ∀ k, w.heap.size ≤ k → Q k) (hr : IsRow w R e.u c) (hRs : ¬ R s) (hk : kOk e.key) (hg : GoesAt os e.key p q) (hl : os.length ≤ 1000) (hv1 : -1000000000 ≤ last) (hv2 : last ≤ 1000000000) :
    Calls Try.prog 68 #[.pointer (some ⟨s, 0, none⟩), oV e] w fun r w' => r = .returned (.int .i64 (last + 1)) ∧ StoB w' Q s b (os.take p ++ ⟨e.key, last + 1, c⟩ :: os.drop q) (last + 1) KL ∧ OnlyS s b w w' := by
  obtain ⟨⟨k1, k2, k3⟩, v, u⟩ := e
  have HS := Lib.hid hS
  have hsl := hS.lt.1
  have hbl := hS.lt.2
  obtain ⟨kv, D, es, h1, h2, h3, h4, h5, h6, -, h8, h9⟩ := hS
  obtain ⟨hcl, A, cu, rfl, hA, hrow⟩ := hr
  have HRW := Lib.hid (show IsRow w R (.slice A c.length cu) c from ⟨hcl, A, cu, rfl, hA, hrow⟩)
  have H1 := Lib.hid h1
  have H2 := Lib.hid h2
  have H3 := Lib.hid h3
  have H4 := Lib.hid h4
  have H5 := Lib.hid h5
  have H8 := Lib.hid h8
  have H9 := Lib.hid h9
  have HQ := Lib.hid hQ
  have HG := Lib.hid hg
  have HK := Lib.hid hk
  unfold oV
  simp only at hk hg ⊢
  have cs2 : _ = some (Value.int .i64 last) := cell_of_row w s 2 _ _ _ h1
  have fs2 := frozen_of_row w s 2 _ _ h1
  have hws : (w.setCell ⟨s, 2, none⟩ (.int .i64 (last + 1))).heap.size = w.heap.size := by simp [World.setCell]
  have hfar : ∀ k, k ≠ s → (w.setCell ⟨s, 2, none⟩ (.int .i64 (last + 1))).heap[k]? = w.heap[k]? := fun k hk => Below.heap_setCell _ ⟨s, 2, none⟩ _ k hk
  have hsw := heap_setCell_same w s 2 _ _ (.int .i64 (last + 1)) h1
  have hon := one_new (w.setCell ⟨s, 2, none⟩ (.int .i64 (last + 1))) (.cells #[.string k1, .string k2, .string k3, .int .i64 v, .slice A c.length cu] 30)
  have hxa := World.alloc_heap_new (w.setCell ⟨s, 2, none⟩ (.int .i64 (last + 1))) (.cells #[.string k1, .string k2, .string k3, .int .i64 v, .slice A c.length cu] 30)
  have hsa := (hon.block s (by rw [hws]; exact hsl)).trans hsw
  have hba := (hon.block b (by rw [hws]; exact hbl)).trans (hfar b (fun e => h6 e.symm))
  rw [hws] at hxa
  have hoa : OnlyS s b w ((w.setCell ⟨s, 2, none⟩ (.int .i64 (last + 1))).alloc (.cells #[.string k1, .string k2, .string k3, .int .i64 v, .slice A c.length cu] 30)) := ⟨((Below.refl 0 w).setCell (p := ⟨s, 2, none⟩) (Nat.zero_le _) _).alloc (Nat.zero_le _) _, fun k hk hks _ => (hon.block k (by rw [hws]; exact hk)).trans (hfar k hks)⟩
  have hro := HRW.out.keep (w' := (w.setCell ⟨s, 2, none⟩ (.int .i64 (last + 1))).alloc (.cells #[.string k1, .string k2, .string k3, .int .i64 v, .slice A c.length cu] 30)) (fun k hk hkl => (hon.block k (by rw [hws]; exact hkl)).trans (hfar k (fun e => hRs (e ▸ hk))))
  have HOW := Lib.hid (o_own R ⟨(k1, k2, k3), v, .slice A c.length cu⟩ c _ hro)
  have hsz : ((w.setCell ⟨s, 2, none⟩ (.int .i64 (last + 1))).alloc (.cells #[.string k1, .string k2, .string k3, .int .i64 v, .slice A c.length cu] 30)).heap.size = w.heap.size + 1 := by simp [World.setCell]
  have HXA := Lib.hid hxa
  have HSA := Lib.hid hsa
  have HBA := Lib.hid hba
  have HOA := Lib.hid hoa
  have HSZ := Lib.hid hsz
  clear h1 h2 h3 h4 h5 h8 h9 hQ hg hk hA hrow hba hxa hsa hoa hsz hro hfar hsw hon
  go_enter Try.func68, Try.ntmps68
  go_wp2_with fail
  refine HOW.out.mono ?_
  rintro r w3 ⟨u', rfl, hrow3, hb3⟩
  rw [HSZ.out] at hrow3
  have HR3 := Lib.hid hrow3
  obtain ⟨_, A', c', rfl, _, _⟩ := hrow3
  have x3 := (hb3.block w.heap.size (by rw [HSZ.out]; omega)).trans HXA.out
  have HX3 := Lib.hid x3
  have HS3 := Lib.hid ((hb3.block s (by rw [HSZ.out]; omega)).trans HSA.out)
  have HBB3 := Lib.hid ((hb3.block b (by rw [HSZ.out]; omega)).trans HBA.out)
  have HO3 := Lib.hid (HOA.out.trans (OnlyS.of (s := s) (b := b) hb3))
  obtain ⟨b0, b1, b2, b3, b4⟩ := five_cells x3
  obtain ⟨g0, g1, g2, g3, g4⟩ := five_thaw x3
  have hw3 : w.heap.size < w3.heap.size := (Array.getElem?_eq_some_iff.1 x3).1
  clear hb3 x3 fs2 cs2 hws HOW HXA HSA HBA HOA HSZ
  unfold oV
  simp only
  go_upto_region 3 with (fail)
  have hx4 := set5_heap HX3.out (.string k1) (.string k2) (.string k3) (.int .i64 v) (.slice A' c.length c')
  have hs4 := (set5_far (W := w3) (p := w.heap.size) (k := s) (by omega) (.string k1) (.string k2) (.string k3) (.int .i64 v) (.slice A' c.length c')).trans HS3.out
  have hb4 := (set5_far (W := w3) (p := w.heap.size) (k := b) (by omega) (.string k1) (.string k2) (.string k3) (.int .i64 v) (.slice A' c.length c')).trans HBB3.out
  have ho4 : OnlyS s b w (set5 w3 w.heap.size (.string k1) (.string k2) (.string k3) (.int .i64 v) (.slice A' c.length c')) := ⟨set5_below0 HO3.out.1 _ _ _ _ _, fun k hk hks hkb => (set5_far (by omega) _ _ _ _ _).trans (HO3.out.2 k hk hks hkb)⟩
  have hr4 : IsRow (set5 w3 w.heap.size (.string k1) (.string k2) (.string k3) (.int .i64 v) (.slice A' c.length c')) (fun j => w.heap.size + 1 ≤ j) (.slice A' c.length c') c := HR3.out.keep fun k hk _ => set5_far (by omega) _ _ _ _ _
  obtain ⟨w4, hw4⟩ : ∃ w4, set5 w3 w.heap.size (.string k1) (.string k2) (.string k3) (.int .i64 v) (.slice A' c.length c') = w4 := ⟨_, rfl⟩
  rw [hw4] at hx4 hs4 hb4 ho4 hr4
  unfold set5 at hw4
  rw [hw4]
  clear hw4 HX3 HS3 HBB3 HO3 HR3 b0 b1 b2 b3 b4 g0 g1 g2 g3 g4
  have cs4 : _ = some (Value.int .i64 (last + 1)) := cell_of_row w4 s 2 _ _ _ hs4
  obtain ⟨b0, b1, b2, b3, b4⟩ := five_cells hx4
  obtain ⟨g0, g1, g2, g3, g4⟩ := five_thaw hx4
  have hx5 := heap_setCell_same w4 w.heap.size 3 _ _ (.int .i64 (last + 1)) hx4
  have hs5 := (Below.heap_setCell w4 ⟨w.heap.size, 3, none⟩ (.int .i64 (last + 1)) s (by show s ≠ w.heap.size; omega)).trans hs4
  have hb5 := (Below.heap_setCell w4 ⟨w.heap.size, 3, none⟩ (.int .i64 (last + 1)) b (by show b ≠ w.heap.size; omega)).trans hb4
  have ho5 : OnlyS s b w (w4.setCell ⟨w.heap.size, 3, none⟩ (.int .i64 (last + 1))) := ⟨ho4.1.setCell (p := ⟨w.heap.size, 3, none⟩) (Nat.zero_le _) _, fun k hk hks hkb => (Below.heap_setCell w4 ⟨w.heap.size, 3, none⟩ _ k (by show k ≠ w.heap.size; omega)).trans (ho4.2 k hk hks hkb)⟩
  have hr5 : IsRow (w4.setCell ⟨w.heap.size, 3, none⟩ (.int .i64 (last + 1))) (fun j => w.heap.size + 1 ≤ j) (.slice A' c.length c') c := hr4.keep fun k hk _ => Below.heap_setCell w4 ⟨w.heap.size, 3, none⟩ _ k (by show k ≠ w.heap.size; omega)
  have HX5 := Lib.hid hx5
  have HS5 := Lib.hid hs5
  have HB5 := Lib.hid hb5
  have HO5 := Lib.hid ho5
  have HR5 := Lib.hid hr5
  clear hx4 hs4 hb4 ho4 hr4 hx5 hs5 hb5 ho5 hr5
  go_upto_region 4 with (fail)
  generalize (w4.setCell ⟨w.heap.size, 3, none⟩ (.int .i64 (last + 1))) = w5 at *
  clear b0 b1 b2 b3 b4 g0 g1 g2 g3 g4 cs4
  have cs5 : _ = some (Value.map (some b)) := cell_of_row w5 s 1 _ _ _ HS5.out
  obtain ⟨b0, b1, b2, b3, b4⟩ := five_cells HX5.out
  have hlen := H5.out.len
  have hb5l : b < w5.heap.size := Nat.lt_of_lt_of_le hbl HO5.out.1.size
  have HPU : Hid (∀ W, Below w5.heap.size w5 W → ∃ w7, (Instr.mapUpdate 99 (.map (some b)) (.agg #[.string k1, .string k2, .string k3]) (.agg #[.string k1, .string k2, .string k3, .int .i64 (last + 1), .slice A' c.length c'])).run Try.prog W = .ok () w7 ∧ w7.ownsMap Try.prog 103 RpO b (es.length + 1) (D.put (ko (k1, k2, k3)) (.held (oV ⟨(k1, k2, k3), last + 1, .slice A' c.length c'⟩))) ∧ W.grownBy w7 (some b)) := Lib.hid (fun W hW => by
    have hown : W.ownsMap Try.prog 103 RpO b es.length D := ownsMapO_block H3.out ((hW.block b hb5l).trans HB5.out)
    exact hown.update (t := 99) (val := oV ⟨(k1, k2, k3), last + 1, .slice A' c.length c'⟩) lawO Try.underlying99 (by unfold maxLen; omega) (keyOf_ky HK.out) (show RpO _ = some (.held _, []) from rfl))
  have HPD : Hid (∀ W, Below w5.heap.size w5 W → W.cell? ⟨w.heap.size, 0, none⟩ = some (.string k1) ∧ W.cell? ⟨w.heap.size, 1, none⟩ = some (.string k2) ∧ W.cell? ⟨w.heap.size, 2, none⟩ = some (.string k3) ∧ W.cell? ⟨w.heap.size, 3, none⟩ = some (.int .i64 (last + 1)) ∧ W.cell? ⟨w.heap.size, 4, none⟩ = some (.slice A' c.length c') ∧ W.cell? ⟨s, 1, none⟩ = some (.map (some b))) := Lib.hid (fun W hW => by
    obtain ⟨d0, d1, d2, d3, d4⟩ := five_cells ((hW.block w.heap.size (Array.getElem?_eq_some_iff.1 HX5.out).1).trans HX5.out)
    exact ⟨d0, d1, d2, d3, d4, (hW.cell (p := ⟨s, 1, none⟩) (World.block_lt_of_cell? w5 _ cs5)).trans cs5⟩)
  have HPC : Hid (∀ W, Below w5.heap.size w5 W → Calls Try.prog 67 #[.agg #[.string k1, .string k2, .string k3, .int .i64 (last + 1), .slice A' c.length c']] W fun r w' => r = .returned (.agg #[.string k1, .string k2, .string k3]) ∧ Below w5.heap.size w5 w') := Lib.hid (fun W hW => (o_place ⟨(k1, k2, k3), last + 1, .slice A' c.length c'⟩ W).mono fun r w' ⟨h1, h2⟩ => ⟨h1, hW.trans (h2.mono hW.size)⟩)
  go_region_law (first
    | (go_simp; go_at_call 67; refine (HPC.out _ (Below.drew (Below.refl _ _))).mono ?_; rintro r w6 ⟨rfl, hb6⟩; obtain ⟨w7, hrun7, ho7, hg7⟩ := HPU.out _ hb6; obtain ⟨d0, d1, d2, d3, d4, e1⟩ := HPD.out _ hb6; have HB6 := Lib.hid hb6; clear hb6))
  all_goals
    have hxl := (Array.getElem?_eq_some_iff.1 HX5.out).1
    have hl6 := HB6.out.size
    have x7 := (hg7.block w.heap.size (by omega) (fun e => by injection e with e; omega)).trans ((HB6.out.block w.heap.size hxl).trans HX5.out)
    have e3 : _ = some (Value.int .i64 (last + 1)) := cell_of_row w7 w.heap.size 3 _ _ _ x7
    have ho6 : OnlyS s b w w6 := HO5.out.trans (OnlyS.of HB6.out)
    have ho7' : OnlyS s b w w7 := ho6.trans ⟨⟨hg7.os, hg7.tape, hg7.output, hg7.size, fun k hk => absurd hk (Nat.not_lt_zero k)⟩, fun k hk _ hkb => hg7.block k hk (fun e => by injection e with e; exact hkb e)⟩
    have hs7 : w7.heap[s]? = some (.cells #[kv, .map (some b), .int .i64 (last + 1)] 101 (0, 0)) := (hg7.block s (by omega) (fun e => by injection e with e; exact h6 e)).trans ((HB6.out.block s (by omega)).trans HS5.out)
    have hr7 : IsRow w7 Q (.slice A' c.length c') c := ((HR5.out.keep (Below.keepQ HB6.out _)).keep (w' := w7) (fun k hk hkl => hg7.block k hkl (fun e => by injection e with e; omega))).imp fun k _ hk => HQ.out k (by omega)
    have HS7 := Lib.hid hs7
    have HR7 := Lib.hid hr7
    have HO7 := Lib.hid ho7
    have HOO := Lib.hid ho7'
    clear x7 hs7 hr7 ho7 ho7' ho6 HPU HPD HPC hrun7
    go_wp2
    go_ret
    have hb7 : b < w7.heap.size := Nat.lt_of_lt_of_le hbl HOO.out.1.size
    have hfin : StoB w7 Q s b (os.take p ++ (⟨(k1, k2, k3), last + 1, c⟩ : Ob) :: os.drop q) (last + 1) KL := StoB.put (w := w) (D := D) (es := es) (os := os) (e := ⟨(k1, k2, k3), last + 1, .slice A' c.length c'⟩) (o := ⟨(k1, k2, k3), last + 1, c⟩) (n := es.length + 1) HS7.out (H2.out.keep (HOO.out.keepQ H8.out H9.out)) HO7.out H4.out (H3.out.tidy lawO) H5.out (H5.out.keep (HOO.out.keepQ H8.out H9.out)) h6 hb7 H8.out H9.out HK.out rfl rfl HR7.out HG.out
    exact ⟨rfl, hfin, HOO.out⟩
end Go.Proofs.Ytoeggpoeongnhaa
