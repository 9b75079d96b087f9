/-
  put of package store: an object in its place, with the next version.
  Condition: fewer than a million objects; versions that fit.
  put of package store: an object in its place, with the next version.
  Condition: no more than a thousand objects; versions that fit.
  Insert of package store: one object more, or why not.
  Condition: no more than a thousand objects; versions that fit.
  Update of package store: other cells in the place of some, or why not. New, Len, Last.
  Condition: no more than a thousand objects; versions that fit.
-/
import Derived.Deep.Cut
import Derived.Test.YtdhpoaecedpbdaaGreatZ23
namespace Go.Proofs.YtdhpoaecedpbdaaGreat
section
open Go.RowKit Go.Maps

/-- Of what was there, blocks s and b alone may have changed. -/
def OnlyS (s b : Nat) (w w' : World) : Prop := Below 0 w w' ∧ ∀ k, k < w.heap.size → k ≠ s → k ≠ b → w'.heap[k]? = w.heap[k]?
theorem OnlyS.below {s b h : Nat} {w w' : World} (ho : OnlyS s b w w') (hs : h ≤ s) (hb : h ≤ b) (hw : h ≤ w.heap.size) : Below h w w' := by
  obtain ⟨h1, h2⟩ := ho
  exact ⟨h1.os, h1.tape, h1.output, h1.size, fun k hk => h2 k (by omega) (by omega) (by omega)⟩
theorem OnlyS.of {s b : Nat} {w w' : World} (hb : Below w.heap.size w w') : OnlyS s b w w' := ⟨hb.mono (Nat.zero_le _), fun k hk _ _ => hb.block k hk⟩
theorem OnlyS.trans {s b : Nat} {w w1 w2 : World} (h1 : OnlyS s b w w1) (h2 : OnlyS s b w1 w2) : OnlyS s b w w2 :=
  ⟨h1.1.trans h2.1, fun k hk hs hb => (h2.2 k (Nat.lt_of_lt_of_le hk h1.1.size) hs hb).trans (h1.2 k hk hs hb)⟩
theorem OnlyS.keepQ {s b : Nat} {w w' : World} {Q : Nat → Prop} (h : OnlyS s b w w') (hs : ¬ Q s) (hb : ¬ Q b) : KeepQ Q w w' := fun k hq hk => h.2 k hk (fun e => hs (e ▸ hq)) (fun e => hb (e ▸ hq))

/-! ### lists -/
theorem find_put {α : Type} {key : α → Ky} (L : List α) (p q : Nat) (x : α) (k : Ky) (hk : key x = k) (hn : L.Pairwise fun a b => key a ≠ key b)
    (hq : (q = p ∧ ∀ y ∈ L, key y ≠ k) ∨ (q = p + 1 ∧ ∃ y, L[p]? = some y ∧ key y = k)) (b : Ky) :
    (L.take p ++ x :: L.drop q).find? (fun y => decide (key y = b)) = if b = k then some x else L.find? (fun y => decide (key y = b)) := by
  have hsplit : L.find? (fun y => decide (key y = b)) = (L.take p ++ L.drop p).find? (fun y => decide (key y = b)) := by rw [List.take_append_drop]
  rw [List.find?_append]
  rcases hq with ⟨rfl, hno⟩ | ⟨rfl, y, hy, hyk⟩
  · by_cases hb : b = k
    · subst hb
      rw [if_pos rfl]
      have h1 : (L.take q).find? (fun y => decide (key y = b)) = none := by
        rw [List.find?_eq_none]
        intro z hz
        simpa using hno z (List.mem_of_mem_take hz)
      rw [h1]
      simp [hk]
    · rw [if_neg hb, hsplit, List.find?_append, List.find?_cons]
      have : decide (key x = b) = false := by rw [hk]; simpa using fun e => hb e.symm
      rw [this]
  · have hlt := (List.getElem?_eq_some_iff.1 hy).1
    have hye := (List.getElem?_eq_some_iff.1 hy).2
    have hd : L.drop p = y :: L.drop (p + 1) := by rw [List.drop_eq_getElem_cons hlt, hye]
    by_cases hb : b = k
    · subst hb
      rw [if_pos rfl]
      have h1 : (L.take p).find? (fun y => decide (key y = b)) = none := by
        rw [List.find?_eq_none]
        intro z hz
        obtain ⟨i, hi, he⟩ := List.mem_iff_getElem.1 hz
        rw [List.length_take] at hi
        rw [List.getElem_take] at he
        have h2 := List.pairwise_iff_getElem.1 hn i p (by omega) hlt (by omega)
        rw [he, hye, hyk] at h2
        simpa using h2
      rw [h1]
      simp [hk]
    · rw [if_neg hb, hsplit, List.find?_append, hd, List.find?_cons, List.find?_cons]
      have h1 : decide (key x = b) = false := by rw [hk]; simpa using fun e => hb e.symm
      have h2 : decide (key y = b) = false := by rw [hyk]; simpa using fun e => hb e.symm
      rw [h1, h2]
theorem put_apart {α : Type} {key : α → Ky} (L : List α) (p q : Nat) (x : α) (k : Ky) (hk : key x = k) (hn : L.Pairwise fun a b => key a ≠ key b)
    (hq : (q = p ∧ ∀ y ∈ L, key y ≠ k) ∨ (q = p + 1 ∧ ∃ y, L[p]? = some y ∧ key y = k)) : (L.take p ++ x :: L.drop q).Pairwise fun a b => key a ≠ key b := by
  have hpq : p ≤ q := by rcases hq with ⟨h, _⟩ | ⟨h, _⟩ <;> omega
  have hnok : (∀ y ∈ L.take p, key y ≠ k) ∧ ∀ y ∈ L.drop q, key y ≠ k := by
    rcases hq with ⟨rfl, hno⟩ | ⟨rfl, y, hy, hyk⟩
    · exact ⟨fun y hy => hno y (List.mem_of_mem_take hy), fun y hy => hno y (List.mem_of_mem_drop hy)⟩
    · have hlt := (List.getElem?_eq_some_iff.1 hy).1
      have hye := (List.getElem?_eq_some_iff.1 hy).2
      refine ⟨fun z hz => ?_, fun z hz => ?_⟩
      · obtain ⟨i, hi, he⟩ := List.mem_iff_getElem.1 hz
        rw [List.length_take] at hi
        rw [List.getElem_take] at he
        have h2 := List.pairwise_iff_getElem.1 hn i p (by omega) hlt (by omega)
        rw [he, hye, hyk] at h2
        exact h2
      · obtain ⟨i, hi, he⟩ := List.mem_iff_getElem.1 hz
        rw [List.length_drop] at hi
        rw [List.getElem_drop] at he
        have h2 := List.pairwise_iff_getElem.1 hn p (p + 1 + i) hlt (by omega) (by omega)
        rw [he, hye, hyk] at h2
        exact Ne.symm h2
  refine List.pairwise_append.2 ⟨hn.sublist (List.take_sublist _ _), List.pairwise_cons.2 ⟨fun y hy => by rw [hk]; exact Ne.symm (hnok.2 y hy), hn.sublist (List.drop_sublist _ _)⟩, fun a ha b hb => ?_⟩
  rcases List.mem_cons.1 hb with rfl | hb
  · rw [hk]; exact hnok.1 a ha
  · obtain ⟨i, hi, he⟩ := List.mem_iff_getElem.1 ha
    obtain ⟨j, hj, hf⟩ := List.mem_iff_getElem.1 hb
    rw [List.length_take] at hi
    rw [List.getElem_take] at he
    rw [List.length_drop] at hj
    rw [List.getElem_drop] at hf
    have h2 := List.pairwise_iff_getElem.1 hn i (q + j) (by omega) (by omega) (by omega)
    rw [he, hf] at h2
    exact h2
/-- Where an object goes. -/
def GoesAt (os : List Ob) (k : Ky) (p q : Nat) : Prop := p ≤ os.length ∧ ((q = p ∧ findB os k = none) ∨ (q = p + 1 ∧ ∃ y, os[p]? = some y ∧ y.key = k))
theorem GoesAt.es {w : World} {Q : Nat → Prop} {es : List OE} {os : List Ob} {k : Ky} {p q : Nat} (h : GoesAt os k p q) (hr : ObR w Q es os) : (q = p ∧ ∀ y ∈ es, y.key ≠ k) ∨ (q = p + 1 ∧ ∃ y, es[p]? = some y ∧ y.key = k) := by
  rcases h.2 with ⟨h1, h2⟩ | ⟨h1, y, h2, h3⟩
  · refine .inl ⟨h1, ?_⟩
    rcases hr.find k with ⟨f1, _⟩ | ⟨e, o, _, f2, _⟩
    · intro y hy
      have := List.find?_eq_none.1 f1 y hy
      simpa using this
    · rw [h2] at f2; cases f2
  · obtain ⟨e, h4, h5, _⟩ := hr.get p y h2
    exact .inr ⟨h1, e, h4, by rw [h5, h3]⟩
theorem StoB.put {w w' : World} {Q : Nat → Prop} {s b : Nat} {kv : Value} {KL : List Sc} {D : DataW Value} {es : List OE} {os : List Ob} {e : OE} {o : Ob} {p q : Nat} {last' : Int} {n : Nat}
    (h1 : w'.heap[s]? = some (.cells #[kv, .map (some b), .int .i64 last'] 100 (0, 0))) (h2 : IsKinds w' Q kv KL) (h3 : w'.ownsMap Tryz.prog 103 RpO b n (D.put (ko e.key) (.held (oV e)))) (h4 : RelO D es) (ht : Tidy D) (h5 : ObR w Q es os) (h5' : ObR w' Q es os)
    (h6 : s ≠ b) (h7 : b < w'.heap.size) (h8 : ¬ Q s) (h9 : ¬ Q b) (hk : kOk e.key) (he : e.key = o.key) (hv : e.v = o.v) (hrow : IsRow w' Q e.u o.c) (hg : GoesAt os o.key p q) : StoB w' Q s b (os.take p ++ o :: os.drop q) last' KL := by
  rw [← he] at hg
  have hq := hg.es h5
  have hlen := h5.len
  have hrel : RelO (D.put (ko e.key) (.held (oV e))) (es.take p ++ e :: es.drop q) := by
    refine RelO.put h4 ht hk (fun b => find_put es p q e e.key rfl h4.2.2.2.1 hq b) ?_ (put_apart es p q e e.key rfl h4.2.2.2.1 hq) ?_
    · have hp := hg.1
      rw [List.length_append, List.length_cons, List.length_take, List.length_drop]
      rcases hq with ⟨h, hno⟩ | ⟨h, y, hy, hyk⟩
      · have : findO es e.key = none := by unfold findO; rw [List.find?_eq_none]; intro y hy; simpa using hno y hy
        rw [this]
        simp only [Option.isSome_none, Bool.false_eq_true, if_false]
        omega
      · have hs : (findO es e.key).isSome = true := by unfold findO; rw [List.find?_isSome]; exact ⟨y, List.mem_of_getElem? hy, by simpa using hyk⟩
        rw [if_pos hs]
        have := (List.getElem?_eq_some_iff.1 hy).1
        omega
    · intro x hx
      rcases List.mem_append.1 hx with hx | hx
      · exact h4.2.2.2.2 x (List.mem_of_mem_take hx)
      · rcases List.mem_cons.1 hx with rfl | hx
        · exact hk
        · exact h4.2.2.2.2 x (List.mem_of_mem_drop hx)
  refine ⟨kv, _, es.take p ++ e :: es.drop q, h1, h2, ?_, hrel, ?_, h6, h7, h8, h9⟩
  · have := ownsMapO_tight h3
    rw [hrel.2.2.1] at this
    exact this
  · exact (h5'.take p).append (show ObR w' Q (e :: es.drop q) (o :: os.drop q) from ⟨⟨he, hv, hrow⟩, h5'.drop q⟩)
end
section
open Go.RowKit Go.Maps

theorem set5_below0 {w W : World} {p : Nat} (hb : Below 0 w W) (a0 a1 a2 a3 a4 : Value) : Below 0 w (set5 W p a0 a1 a2 a3 a4) :=
  ((((hb.setCell (p := ⟨p, 0, none⟩) (Nat.zero_le _) a0).setCell (p := ⟨p, 1, none⟩) (Nat.zero_le _) a1).setCell (p := ⟨p, 2, none⟩) (Nat.zero_le _) a2).setCell (p := ⟨p, 3, none⟩) (Nat.zero_le _) a3).setCell (p := ⟨p, 4, none⟩) (Nat.zero_le _) a4
set_option maxRecDepth 100000 in
set_option maxHeartbeats 4000000 in
theorem o_put (Q R : Nat → Prop) (s b : Nat) (os : List Ob) (last : Int) (KL : List Sc) (e : OE) (c : List V) (p q : Nat) (w : World) (hS : StoB w Q s b os last KL) (hQ : ∀ k, w.heap.size ≤ k → Q k) (hr : IsRow w R e.u c) (hRs : ¬ R s) (hk : kOk e.key) (hg : GoesAt os e.key p q) (hl : os.length ≤ 1000) (hv1 : -1000000000 ≤ last) (hv2 : last ≤ 1000000000) :
    Calls Tryz.prog 76 #[.pointer (some ⟨s, 0, none⟩), oV e] w fun r w' => r = .returned (.int .i64 (last + 1)) ∧ StoB w' Q s b (os.take p ++ ⟨e.key, last + 1, c⟩ :: os.drop q) (last + 1) KL ∧ OnlyS s b w w' := by
  obtain ⟨⟨k1, k2, k3⟩, v, u⟩ := e
  have HS := Lib.hid hS
  have hsl := hS.lt.1
  have hbl := hS.lt.2
  obtain ⟨kv, D, es, h1, h2, h3, h4, h5, h6, -, h8, h9⟩ := hS
  obtain ⟨hcl, A, cu, rfl, hA, hrow⟩ := hr
  have HRW := Lib.hid (show IsRow w R (.slice A c.length cu) c from ⟨hcl, A, cu, rfl, hA, hrow⟩)
  have H1 := Lib.hid h1
  have H2 := Lib.hid h2
  have H3 := Lib.hid h3
  have H4 := Lib.hid h4
  have H5 := Lib.hid h5
  have H8 := Lib.hid h8
  have H9 := Lib.hid h9
  have HQ := Lib.hid hQ
  have HG := Lib.hid hg
  have HK := Lib.hid hk
  unfold oV
  simp only at hk hg ⊢
  have cs2 : _ = some (Value.int .i64 last) := cell_of_row w s 2 _ _ _ h1
  have fs2 := frozen_of_row w s 2 _ _ h1
  have hws : (w.setCell ⟨s, 2, none⟩ (.int .i64 (last + 1))).heap.size = w.heap.size := by simp [World.setCell]
  have hfar : ∀ k, k ≠ s → (w.setCell ⟨s, 2, none⟩ (.int .i64 (last + 1))).heap[k]? = w.heap[k]? := fun k hk => Below.heap_setCell _ ⟨s, 2, none⟩ _ k hk
  have hsw := heap_setCell_same w s 2 _ _ (.int .i64 (last + 1)) h1
  have hon := one_new (w.setCell ⟨s, 2, none⟩ (.int .i64 (last + 1))) (.cells #[.string k1, .string k2, .string k3, .int .i64 v, .slice A c.length cu] 25)
  have hxa := World.alloc_heap_new (w.setCell ⟨s, 2, none⟩ (.int .i64 (last + 1))) (.cells #[.string k1, .string k2, .string k3, .int .i64 v, .slice A c.length cu] 25)
  have hsa := (hon.block s (by rw [hws]; exact hsl)).trans hsw
  have hba := (hon.block b (by rw [hws]; exact hbl)).trans (hfar b (fun e => h6 e.symm))
  rw [hws] at hxa
  have hoa : OnlyS s b w ((w.setCell ⟨s, 2, none⟩ (.int .i64 (last + 1))).alloc (.cells #[.string k1, .string k2, .string k3, .int .i64 v, .slice A c.length cu] 25)) := ⟨((Below.refl 0 w).setCell (p := ⟨s, 2, none⟩) (Nat.zero_le _) _).alloc (Nat.zero_le _) _, fun k hk hks _ => (hon.block k (by rw [hws]; exact hk)).trans (hfar k hks)⟩
  have hro := HRW.out.keep (w' := (w.setCell ⟨s, 2, none⟩ (.int .i64 (last + 1))).alloc (.cells #[.string k1, .string k2, .string k3, .int .i64 v, .slice A c.length cu] 25)) (fun k hk hkl => (hon.block k (by rw [hws]; exact hkl)).trans (hfar k (fun e => hRs (e ▸ hk))))
  have HOW := Lib.hid (o_own R ⟨(k1, k2, k3), v, .slice A c.length cu⟩ c _ hro)
  have hsz : ((w.setCell ⟨s, 2, none⟩ (.int .i64 (last + 1))).alloc (.cells #[.string k1, .string k2, .string k3, .int .i64 v, .slice A c.length cu] 25)).heap.size = w.heap.size + 1 := by simp [World.setCell]
  have HXA := Lib.hid hxa
  have HSA := Lib.hid hsa
  have HBA := Lib.hid hba
  have HOA := Lib.hid hoa
  have HSZ := Lib.hid hsz
  clear h1 h2 h3 h4 h5 h8 h9 hQ hg hk hA hrow hba hxa hsa hoa hsz hro hfar hsw hon
  go_enter Tryz.func76, Tryz.ntmps76
  go_wp2_with fail
  refine HOW.out.mono ?_
  rintro r w3 ⟨u', rfl, hrow3, hb3⟩
  rw [HSZ.out] at hrow3
  have HR3 := Lib.hid hrow3
  obtain ⟨_, A', c', rfl, _, _⟩ := hrow3
  have x3 := (hb3.block w.heap.size (by rw [HSZ.out]; omega)).trans HXA.out
  have HX3 := Lib.hid x3
  have HS3 := Lib.hid ((hb3.block s (by rw [HSZ.out]; omega)).trans HSA.out)
  have HBB3 := Lib.hid ((hb3.block b (by rw [HSZ.out]; omega)).trans HBA.out)
  have HO3 := Lib.hid (HOA.out.trans (OnlyS.of (s := s) (b := b) hb3))
  obtain ⟨b0, b1, b2, b3, b4⟩ := five_cells x3
  obtain ⟨g0, g1, g2, g3, g4⟩ := five_thaw x3
  have hw3 : w.heap.size < w3.heap.size := (Array.getElem?_eq_some_iff.1 x3).1
  clear hb3 x3 fs2 cs2 hws HOW HXA HSA HBA HOA HSZ
  unfold oV
  simp only
  go_upto_region 3 with (fail)
  have hx4 := set5_heap HX3.out (.string k1) (.string k2) (.string k3) (.int .i64 v) (.slice A' c.length c')
  have hs4 := (set5_far (W := w3) (p := w.heap.size) (k := s) (by omega) (.string k1) (.string k2) (.string k3) (.int .i64 v) (.slice A' c.length c')).trans HS3.out
  have hb4 := (set5_far (W := w3) (p := w.heap.size) (k := b) (by omega) (.string k1) (.string k2) (.string k3) (.int .i64 v) (.slice A' c.length c')).trans HBB3.out
  have ho4 : OnlyS s b w (set5 w3 w.heap.size (.string k1) (.string k2) (.string k3) (.int .i64 v) (.slice A' c.length c')) := ⟨set5_below0 HO3.out.1 _ _ _ _ _, fun k hk hks hkb => (set5_far (by omega) _ _ _ _ _).trans (HO3.out.2 k hk hks hkb)⟩
  have hr4 : IsRow (set5 w3 w.heap.size (.string k1) (.string k2) (.string k3) (.int .i64 v) (.slice A' c.length c')) (fun j => w.heap.size + 1 ≤ j) (.slice A' c.length c') c := HR3.out.keep fun k hk _ => set5_far (by omega) _ _ _ _ _
  obtain ⟨w4, hw4⟩ : ∃ w4, set5 w3 w.heap.size (.string k1) (.string k2) (.string k3) (.int .i64 v) (.slice A' c.length c') = w4 := ⟨_, rfl⟩
  rw [hw4] at hx4 hs4 hb4 ho4 hr4
  unfold set5 at hw4
  rw [hw4]
  clear hw4 HX3 HS3 HBB3 HO3 HR3 b0 b1 b2 b3 b4 g0 g1 g2 g3 g4
  have cs4 : _ = some (Value.int .i64 (last + 1)) := cell_of_row w4 s 2 _ _ _ hs4
  obtain ⟨b0, b1, b2, b3, b4⟩ := five_cells hx4
  obtain ⟨g0, g1, g2, g3, g4⟩ := five_thaw hx4
  have hx5 := heap_setCell_same w4 w.heap.size 3 _ _ (.int .i64 (last + 1)) hx4
  have hs5 := (Below.heap_setCell w4 ⟨w.heap.size, 3, none⟩ (.int .i64 (last + 1)) s (by show s ≠ w.heap.size; omega)).trans hs4
  have hb5 := (Below.heap_setCell w4 ⟨w.heap.size, 3, none⟩ (.int .i64 (last + 1)) b (by show b ≠ w.heap.size; omega)).trans hb4
  have ho5 : OnlyS s b w (w4.setCell ⟨w.heap.size, 3, none⟩ (.int .i64 (last + 1))) := ⟨ho4.1.setCell (p := ⟨w.heap.size, 3, none⟩) (Nat.zero_le _) _, fun k hk hks hkb => (Below.heap_setCell w4 ⟨w.heap.size, 3, none⟩ _ k (by show k ≠ w.heap.size; omega)).trans (ho4.2 k hk hks hkb)⟩
  have hr5 : IsRow (w4.setCell ⟨w.heap.size, 3, none⟩ (.int .i64 (last + 1))) (fun j => w.heap.size + 1 ≤ j) (.slice A' c.length c') c := hr4.keep fun k hk _ => Below.heap_setCell w4 ⟨w.heap.size, 3, none⟩ _ k (by show k ≠ w.heap.size; omega)
  have HX5 := Lib.hid hx5
  have HS5 := Lib.hid hs5
  have HB5 := Lib.hid hb5
  have HO5 := Lib.hid ho5
  have HR5 := Lib.hid hr5
  clear hx4 hs4 hb4 ho4 hr4 hx5 hs5 hb5 ho5 hr5
  go_upto_region 4 with (fail)
  generalize (w4.setCell ⟨w.heap.size, 3, none⟩ (.int .i64 (last + 1))) = w5 at *
  clear b0 b1 b2 b3 b4 g0 g1 g2 g3 g4 cs4
  have cs5 : _ = some (Value.map (some b)) := cell_of_row w5 s 1 _ _ _ HS5.out
  obtain ⟨b0, b1, b2, b3, b4⟩ := five_cells HX5.out
  have hlen := H5.out.len
  have hb5l : b < w5.heap.size := Nat.lt_of_lt_of_le hbl HO5.out.1.size
  have HPU : Hid (∀ W, Below w5.heap.size w5 W → ∃ w7, (Instr.mapUpdate 98 (.map (some b)) (.agg #[.string k1, .string k2, .string k3]) (.agg #[.string k1, .string k2, .string k3, .int .i64 (last + 1), .slice A' c.length c'])).run Tryz.prog W = .ok () w7 ∧ w7.ownsMap Tryz.prog 103 RpO b (es.length + 1) (D.put (ko (k1, k2, k3)) (.held (oV ⟨(k1, k2, k3), last + 1, .slice A' c.length c'⟩))) ∧ W.grownBy w7 (some b)) := Lib.hid (fun W hW => by
    have hown : W.ownsMap Tryz.prog 103 RpO b es.length D := ownsMapO_block H3.out ((hW.block b hb5l).trans HB5.out)
    exact hown.update (t := 98) (val := oV ⟨(k1, k2, k3), last + 1, .slice A' c.length c'⟩) lawO Tryz.underlying98 (by unfold maxLen; omega) (keyOf_ky HK.out) (show RpO _ = some (.held _, []) from rfl))
  have HPD : Hid (∀ W, Below w5.heap.size w5 W → W.cell? ⟨w.heap.size, 0, none⟩ = some (.string k1) ∧ W.cell? ⟨w.heap.size, 1, none⟩ = some (.string k2) ∧ W.cell? ⟨w.heap.size, 2, none⟩ = some (.string k3) ∧ W.cell? ⟨w.heap.size, 3, none⟩ = some (.int .i64 (last + 1)) ∧ W.cell? ⟨w.heap.size, 4, none⟩ = some (.slice A' c.length c') ∧ W.cell? ⟨s, 1, none⟩ = some (.map (some b))) := Lib.hid (fun W hW => by
    obtain ⟨d0, d1, d2, d3, d4⟩ := five_cells ((hW.block w.heap.size (Array.getElem?_eq_some_iff.1 HX5.out).1).trans HX5.out)
    exact ⟨d0, d1, d2, d3, d4, (hW.cell (p := ⟨s, 1, none⟩) (World.block_lt_of_cell? w5 _ cs5)).trans cs5⟩)
  have HPC : Hid (∀ W, Below w5.heap.size w5 W → Calls Tryz.prog 75 #[.agg #[.string k1, .string k2, .string k3, .int .i64 (last + 1), .slice A' c.length c']] W fun r w' => r = .returned (.agg #[.string k1, .string k2, .string k3]) ∧ Below w5.heap.size w5 w') := Lib.hid (fun W hW => (o_place ⟨(k1, k2, k3), last + 1, .slice A' c.length c'⟩ W).mono fun r w' ⟨h1, h2⟩ => ⟨h1, hW.trans (h2.mono hW.size)⟩)
  go_region_law (first
    | (go_simp; go_at_call 75; refine (HPC.out _ (Below.drew (Below.refl _ _))).mono ?_; rintro r w6 ⟨rfl, hb6⟩; obtain ⟨w7, hrun7, ho7, hg7⟩ := HPU.out _ hb6; obtain ⟨d0, d1, d2, d3, d4, e1⟩ := HPD.out _ hb6; have HB6 := Lib.hid hb6; clear hb6))
  all_goals
    have hxl := (Array.getElem?_eq_some_iff.1 HX5.out).1
    have hl6 := HB6.out.size
    have x7 := (hg7.block w.heap.size (by omega) (fun e => by injection e with e; omega)).trans ((HB6.out.block w.heap.size hxl).trans HX5.out)
    have e3 : _ = some (Value.int .i64 (last + 1)) := cell_of_row w7 w.heap.size 3 _ _ _ x7
    have ho6 : OnlyS s b w w6 := HO5.out.trans (OnlyS.of HB6.out)
    have ho7' : OnlyS s b w w7 := ho6.trans ⟨⟨hg7.os, hg7.tape, hg7.output, hg7.size, fun k hk => absurd hk (Nat.not_lt_zero k)⟩, fun k hk _ hkb => hg7.block k hk (fun e => by injection e with e; exact hkb e)⟩
    have hs7 : w7.heap[s]? = some (.cells #[kv, .map (some b), .int .i64 (last + 1)] 100 (0, 0)) := (hg7.block s (by omega) (fun e => by injection e with e; exact h6 e)).trans ((HB6.out.block s (by omega)).trans HS5.out)
    have hr7 : IsRow w7 Q (.slice A' c.length c') c := ((HR5.out.keep (Below.keepQ HB6.out _)).keep (w' := w7) (fun k hk hkl => hg7.block k hkl (fun e => by injection e with e; omega))).imp fun k _ hk => HQ.out k (by omega)
    have HS7 := Lib.hid hs7
    have HR7 := Lib.hid hr7
    have HO7 := Lib.hid ho7
    have HOO := Lib.hid ho7'
    clear x7 hs7 hr7 ho7 ho7' ho6 HPU HPD HPC hrun7
    go_wp2
    go_ret
    have hb7 : b < w7.heap.size := Nat.lt_of_lt_of_le hbl HOO.out.1.size
    have hfin : StoB w7 Q s b (os.take p ++ (⟨(k1, k2, k3), last + 1, c⟩ : Ob) :: os.drop q) (last + 1) KL := StoB.put (w := w) (D := D) (es := es) (os := os) (e := ⟨(k1, k2, k3), last + 1, .slice A' c.length c'⟩) (o := ⟨(k1, k2, k3), last + 1, c⟩) (n := es.length + 1) HS7.out (H2.out.keep (HOO.out.keepQ H8.out H9.out)) HO7.out H4.out (H3.out.tidy lawO) H5.out (H5.out.keep (HOO.out.keepQ H8.out H9.out)) h6 hb7 H8.out H9.out HK.out rfl rfl HR7.out HG.out
    exact ⟨rfl, hfin, HOO.out⟩
end
section
open Go.RowKit Go.Maps

/-- Why Insert refuses. -/
def insR (KL : List Sc) (os : List Ob) (k : Ky) (c : List V) : Int := if mayR KL k c ≠ 0 then mayR KL k c else if (findB os k).isSome = true then 4 else if 120 ≤ os.length then 6 else 0
/-- What Insert and Update leave. -/
def PutIs (w : World) (Q : Nat → Prop) (s b : Nat) (os' : List Ob) (last : Int) (KL : List Sc) (err : Int) (r : Ending) (w' : World) : Prop :=
  (err ≠ 0 ∧ r = .returned (.tuple #[.int .i64 0, .int .i64 err]) ∧ Below w.heap.size w w') ∨ (err = 0 ∧ r = .returned (.tuple #[.int .i64 (last + 1), .int .i64 0]) ∧ StoB w' Q s b os' (last + 1) KL ∧ OnlyS s b w w')
theorem PutIs.no {w w' : World} {Q : Nat → Prop} {s b : Nat} {os' : List Ob} {last : Int} {KL : List Sc} {err : Int} (e : Int) (h : err = e) (h0 : e ≠ 0) (hb : Below w.heap.size w w') : PutIs w Q s b os' last KL err (.returned (.tuple #[.int .i64 0, .int .i64 e])) w' :=
  .inl ⟨by rw [h]; exact h0, by rw [h], hb⟩
theorem findB_none {os : List Ob} {k : Ky} (h : findB os k = none) : (findB os k).isSome = false := by rw [h]; rfl

set_option maxRecDepth 100000 in
set_option maxHeartbeats 4000000 in
theorem o_insert (Q R : Nat → Prop) (s b : Nat) (os : List Ob) (last : Int) (KL : List Sc) (e : OE) (c : List V) (p : Nat) (w : World) (hS : StoB w Q s b os last KL) (hQ : ∀ k, w.heap.size ≤ k → Q k) (hr : IsRow w R e.u c) (hRs : ¬ R s) (hk : kOk e.key) (hp : p ≤ os.length) (hl : os.length ≤ 1000) (hv1 : -1000000000 ≤ last) (hv2 : last ≤ 1000000000) :
    Calls Tryz.prog 36 #[.pointer (some ⟨s, 0, none⟩), oV e] w (PutIs w Q s b (os.take p ++ ⟨e.key, last + 1, c⟩ :: os.drop p) last KL (insR KL os e.key c)) := by
  obtain ⟨⟨k1, k2, k3⟩, v, u⟩ := e
  have HS := Lib.hid hS
  have HRW := Lib.hid hr
  obtain ⟨hcl, A, cu, rfl, hA, hrow⟩ := hr
  have HQ := Lib.hid hQ
  have HK := Lib.hid hk
  have hon := one_new w (.cells #[.string k1, .string k2, .string k3, .int .i64 v, .slice A c.length cu] 25)
  have hxa := World.alloc_heap_new w (.cells #[.string k1, .string k2, .string k3, .int .i64 v, .slice A c.length cu] 25)
  have HFA := Lib.hid (o_fault Q R s b os last KL ⟨(k1, k2, k3), v, .slice A c.length cu⟩ c _ (hS.below hon) (HRW.out.keep (Below.keepQ hon R)))
  have HON := Lib.hid hon
  have HXA := Lib.hid hxa
  obtain ⟨a0, a1, a2, a3, a4⟩ := five_cells hxa
  unfold oV at HFA ⊢
  simp only at HFA ⊢
  clear hS hQ hk hon hxa hrow hA
  by_cases hm : mayR KL (k1, k2, k3) c = 0
  · have HINS := Lib.hid (show insR KL os (k1, k2, k3) c = if (findB os (k1, k2, k3)).isSome = true then 4 else if 120 ≤ os.length then 6 else 0 by unfold insR; rw [if_neg (by rw [hm]; simp)])
    rw [hm] at HFA
    clear hm
    go_enter Tryz.func36, Tryz.ntmps36
    go_wp2_with fail
    refine HFA.out.mono ?_
    rintro r w1 ⟨rfl, hb1⟩
    have hb1w := HON.out.trans (hb1.mono (by simp))
    have HB1 := Lib.hid hb1w
    have x1 := (hb1.block w.heap.size (by simp)).trans HXA.out
    have HX1 := Lib.hid x1
    have hl1 := (Array.getElem?_eq_some_iff.1 x1).1
    obtain ⟨kv, D, es, h1, -, h3, h4, h5, -, hbl, -, -⟩ := HS.out.below hb1w
    have HCS := Lib.hid (show w1.cell? ⟨s, 1, none⟩ = some (.map (some b)) from cell_of_row w1 s 1 _ _ _ h1)
    have cs1 := HCS.out
    have hsl : s < w1.heap.size := (Array.getElem?_eq_some_iff.1 h1).1
    have HPC : Hid (∀ W, Below w1.heap.size w1 W → Calls Tryz.prog 75 #[.agg #[.string k1, .string k2, .string k3, .int .i64 v, .slice A c.length cu]] W fun r w' => r = .returned (.agg #[.string k1, .string k2, .string k3]) ∧ Below w1.heap.size w1 w' ∧ Below W.heap.size W w') := Lib.hid (fun W hW => (o_place ⟨(k1, k2, k3), v, .slice A c.length cu⟩ W).mono fun r w' ⟨g1, g2⟩ => ⟨g1, hW.trans (g2.mono hW.size), g2⟩)
    have HPD : Hid (∀ W, Below w1.heap.size w1 W → W.cell? ⟨w.heap.size, 0, none⟩ = some (.string k1) ∧ W.cell? ⟨w.heap.size, 1, none⟩ = some (.string k2) ∧ W.cell? ⟨w.heap.size, 2, none⟩ = some (.string k3) ∧ W.cell? ⟨w.heap.size, 3, none⟩ = some (.int .i64 v) ∧ W.cell? ⟨w.heap.size, 4, none⟩ = some (.slice A c.length cu) ∧ W.cell? ⟨s, 1, none⟩ = some (.map (some b))) := Lib.hid (fun W hW => by
      obtain ⟨d0, d1, d2, d3, d4⟩ := five_cells ((hW.block w.heap.size hl1).trans HX1.out)
      exact ⟨d0, d1, d2, d3, d4, (hW.cell (p := ⟨s, 1, none⟩) hsl).trans HCS.out⟩)
    have HLK : Hid (∀ W, Below w1.heap.size w1 W → (Instr.lookup 98 (.map (some b)) (.agg #[.string k1, .string k2, .string k3]) true).run Tryz.prog W = .ok (.tuple #[orO (findO es (k1, k2, k3)), .bool (findO es (k1, k2, k3)).isSome]) W) := Lib.hid (fun W hW => look_O W b D es (k1, k2, k3) (ownsMapO_block h3 (hW.block b hbl)) h4 HK.out)
    have HLE : Hid (∀ W, Below w1.heap.size w1 W → ∀ ty, (Builtin.len_ #[98] ty #[.map (some b)]).run Tryz.prog W = .ok (.int .i64 (os.length : Int)) W) := Lib.hid (fun W hW ty => by
      have h := (ownsMapO_block (w' := W) h3 (hW.block b hbl)).len Tryz.underlying98 ty
      rw [h4.2.2.1, h5.len] at h
      exact h)
    obtain ⟨d0, d1, d2, d3, d4⟩ := five_cells x1
    clear hb1 hb1w x1 h1 h3 h4 HFA a0 a1 a2 a3 a4 HON
    rcases h5.find (k1, k2, k3) with ⟨f1, f2⟩ | ⟨e, o, f1, f2, f3, f4, f5, f6⟩
    · rw [f1] at HLK
      unfold orO noO at HLK
      have HF := Lib.hid (findB_none f2)
      have HF2 := Lib.hid f2
      clear f1 f2 h5
      go_wp2_with fail
      go_region_law (first
        | (go_simp; go_at_call 75; refine (HPC.out _ (Below.drew (Below.refl _ _))).mono ?_; rintro r w6 ⟨rfl, hb6, -⟩; have HB6 := Lib.hid hb6; have q1 := HLK.out w6 HB6.out; have q2 := HLK.out (w6.alloc (.cells #[.string ⟨#[]⟩, .string ⟨#[]⟩, .string ⟨#[]⟩, .int .i64 0, .slice none 0 0] 25)) (HB6.out.trans ((one_new _ _).mono HB6.out.size)); obtain ⟨e0, e1, e2, e3, e4, e5⟩ := HPD.out w6 HB6.out; obtain ⟨f0, f1, f2, f3, f4, f5⟩ := HPD.out (w6.alloc (.cells #[.string ⟨#[]⟩, .string ⟨#[]⟩, .string ⟨#[]⟩, .int .i64 0, .slice none 0 0] 25)) (HB6.out.trans ((one_new _ _).mono HB6.out.size)); have HBZ := Lib.hid (HB6.out.trans ((one_new w6 (.cells #[.string ⟨#[]⟩, .string ⟨#[]⟩, .string ⟨#[]⟩, .int .i64 0, .slice none 0 0] 25)).mono HB6.out.size)); have HZ : Hid True := Lib.hid trivial; clear hb6)
        | (go_simp; go_at_call 75; refine (HPC.out _ ((one_new _ _).drew)).mono ?_; rintro r w6 ⟨rfl, hb6', hb6⟩; have HB6 := Lib.hid hb6'; have q1 := HLK.out w6 HB6.out; obtain ⟨e0, e1, e2, e3, e4, e5⟩ := HPD.out w6 HB6.out; have x7 := (hb6.block w1.heap.size (by simp)).trans (World.alloc_heap_new w1 (.cells #[.string ⟨#[]⟩, .string ⟨#[]⟩, .string ⟨#[]⟩, .int .i64 0, .slice none 0 0] 25)); obtain ⟨y0, y1, y2, y3, y4⟩ := five_cells x7; obtain ⟨z0, z1, z2, z3, z4⟩ := five_thaw x7; have HBZ := Lib.hid (set5_below (w := w1) HB6.out (Nat.le_refl _) (.string ⟨#[]⟩) (.string ⟨#[]⟩) (.string ⟨#[]⟩) (.int .i64 0) (.slice none 0 0)); clear hb6 hb6' x7))
      all_goals
        first
          | (clear HZ
             generalize (w6.alloc (.cells #[.string ⟨#[]⟩, .string ⟨#[]⟩, .string ⟨#[]⟩, .int .i64 0, .slice none 0 0] 25)) = wz at *)
          | (unfold set5 at HBZ
             generalize (((((w6.setCell ⟨w1.heap.size, 0, none⟩ (.string ⟨#[]⟩)).setCell ⟨w1.heap.size, 1, none⟩ (.string ⟨#[]⟩)).setCell ⟨w1.heap.size, 2, none⟩ (.string ⟨#[]⟩)).setCell ⟨w1.heap.size, 3, none⟩ (.int .i64 0)).setCell ⟨w1.heap.size, 4, none⟩ (.slice none 0 0)) = wz at *)
      all_goals
        clear q1 e0 e1 e2 e3 e4 e5
        try clear q2 f0 f1 f2 f3 f4 f5
        try clear y0 y1 y2 y3 y4 z0 z1 z2 z3 z4
        clear d0 d1 d2 d3 d4 cs1
        obtain ⟨d0, d1, d2, d3, d4, d5⟩ := HPD.out wz HBZ.out
        have hle := HLE.out wz HBZ.out
        have HBW := Lib.hid (HB1.out.trans (HBZ.out.mono HB1.out.size))
        by_cases h120 : 120 ≤ os.length
        · have hg1 : decide ((120 : Int) ≤ (os.length : Int)) = true := by simp; omega
          have HI := Lib.hid (show insR KL os (k1, k2, k3) c = 6 by rw [HINS.out, if_neg (by rw [HF.out]; simp), if_pos h120])
          go_wp2
          go_ret2
          exact PutIs.no 6 HI.out (by decide) HBW.out
        · have hg1 : decide ((120 : Int) ≤ (os.length : Int)) = false := by simp; omega
          have HI := Lib.hid (show insR KL os (k1, k2, k3) c = 0 by rw [HINS.out, if_neg (by rw [HF.out]; simp), if_neg h120])
          have HPT := Lib.hid (o_put Q R s b os last KL ⟨(k1, k2, k3), v, .slice A c.length cu⟩ c p p wz (HS.out.below HBW.out) (fun k hk => HQ.out k (Nat.le_trans HBW.out.size hk)) (HRW.out.keep (Below.keepQ HBW.out R)) hRs HK.out ⟨hp, .inl ⟨rfl, HF2.out⟩⟩ hl hv1 hv2)
          unfold oV at HPT
          simp only at HPT
          go_wp2_with fail
          refine HPT.out.mono ?_
          rintro r w9 ⟨rfl, hS9, ho9⟩
          have HS9 := Lib.hid hS9
          have HO9 := Lib.hid ((OnlyS.of (s := s) (b := b) HBW.out).trans ho9)
          clear hS9 ho9
          go_wp2
          go_ret2
          exact .inr ⟨HI.out, rfl, HS9.out, HO9.out⟩
    · obtain ⟨⟨n1, n2, n3⟩, ev, eu⟩ := e
      obtain ⟨_, A6, c6, hu6, _, _⟩ := f6
      simp only at hu6
      subst hu6
      rw [f1] at HLK
      unfold orO oV at HLK
      simp only at HLK
      have HF := Lib.hid (show (findB os (k1, k2, k3)).isSome = true by rw [f2]; rfl)
      clear f1 f2 f3 f4 f5 h5
      generalize o.c.length = n6 at *
      go_wp2_with fail
      go_region_law (first
        | (go_simp; go_at_call 75; refine (HPC.out _ (Below.drew (Below.refl _ _))).mono ?_; rintro r w6 ⟨rfl, hb6, -⟩; have HB6 := Lib.hid hb6; have q1 := HLK.out w6 HB6.out; have q2 := HLK.out (w6.alloc (.cells #[.string ⟨#[]⟩, .string ⟨#[]⟩, .string ⟨#[]⟩, .int .i64 0, .slice none 0 0] 25)) (HB6.out.trans ((one_new _ _).mono HB6.out.size)); obtain ⟨e0, e1, e2, e3, e4, e5⟩ := HPD.out w6 HB6.out; obtain ⟨f0, f1, f2, f3, f4, f5⟩ := HPD.out (w6.alloc (.cells #[.string ⟨#[]⟩, .string ⟨#[]⟩, .string ⟨#[]⟩, .int .i64 0, .slice none 0 0] 25)) (HB6.out.trans ((one_new _ _).mono HB6.out.size)); have HBZ := Lib.hid (HB6.out.trans ((one_new w6 (.cells #[.string n1, .string n2, .string n3, .int .i64 ev, .slice A6 n6 c6] 25)).mono HB6.out.size)); have HZ : Hid True := Lib.hid trivial; clear hb6)
        | (go_simp; go_at_call 75; refine (HPC.out _ ((one_new _ _).drew)).mono ?_; rintro r w6 ⟨rfl, hb6', hb6⟩; have HB6 := Lib.hid hb6'; have q1 := HLK.out w6 HB6.out; obtain ⟨e0, e1, e2, e3, e4, e5⟩ := HPD.out w6 HB6.out; have x7 := (hb6.block w1.heap.size (by simp)).trans (World.alloc_heap_new w1 (.cells #[.string ⟨#[]⟩, .string ⟨#[]⟩, .string ⟨#[]⟩, .int .i64 0, .slice none 0 0] 25)); obtain ⟨y0, y1, y2, y3, y4⟩ := five_cells x7; obtain ⟨z0, z1, z2, z3, z4⟩ := five_thaw x7; have HBZ := Lib.hid (set5_below (w := w1) HB6.out (Nat.le_refl _) (.string n1) (.string n2) (.string n3) (.int .i64 ev) (.slice A6 n6 c6)); clear hb6 hb6' x7))
      all_goals
        first
          | (clear HZ
             generalize (w6.alloc (.cells #[.string n1, .string n2, .string n3, .int .i64 ev, .slice A6 n6 c6] 25)) = wz at *)
          | (unfold set5 at HBZ
             generalize (((((w6.setCell ⟨w1.heap.size, 0, none⟩ (.string n1)).setCell ⟨w1.heap.size, 1, none⟩ (.string n2)).setCell ⟨w1.heap.size, 2, none⟩ (.string n3)).setCell ⟨w1.heap.size, 3, none⟩ (.int .i64 ev)).setCell ⟨w1.heap.size, 4, none⟩ (.slice A6 n6 c6)) = wz at *)
      all_goals
        clear q1 e0 e1 e2 e3 e4 e5
        try clear q2 f0 f1 f2 f3 f4 f5
        try clear y0 y1 y2 y3 y4 z0 z1 z2 z3 z4
        clear d0 d1 d2 d3 d4 cs1
        obtain ⟨d0, d1, d2, d3, d4, d5⟩ := HPD.out wz HBZ.out
        have HBW := Lib.hid (HB1.out.trans (HBZ.out.mono HB1.out.size))
        have HI := Lib.hid (show insR KL os (k1, k2, k3) c = 4 by rw [HINS.out, if_pos HF.out])
        go_wp2
        go_ret2
        exact PutIs.no 4 HI.out (by decide) HBW.out
  · have HINS := Lib.hid (show insR KL os (k1, k2, k3) c = mayR KL (k1, k2, k3) c by unfold insR; rw [if_pos hm])
    have hmb : (mayR KL (k1, k2, k3) c != 0) = true := by simpa using hm
    have HM := Lib.hid hm
    generalize mayR KL (k1, k2, k3) c = m at *
    clear hm
    go_enter Tryz.func36, Tryz.ntmps36
    go_wp2_with fail
    refine HFA.out.mono ?_
    rintro r w1 ⟨rfl, hb1⟩
    have HB1 := Lib.hid (HON.out.trans (hb1.mono (by simp)))
    clear hb1
    go_wp2
    go_ret2
    exact PutIs.no m HINS.out HM.out HB1.out
end
section
open Go.RowKit Go.Maps

/-- Why Update refuses. -/
def updR (KL : List Sc) (os : List Ob) (k : Ky) (v : Int) (c : List V) : Int := if mayR KL k c ≠ 0 then mayR KL k c else match findB os k with
  | none => 5
  | some x => if v = x.v then 0 else 15
theorem mayR_kind {KL : List Sc} {k : Ky} {c : List V} (h : mayR KL k c = 0) : (findS KL k.1).isSome = true := by
  cases hf : findS KL k.1 with
  | some x => rfl
  | none =>
    unfold mayR at h
    rw [hf] at h
    simp [fitsR] at h

set_option maxRecDepth 100000 in
set_option maxHeartbeats 4000000 in
theorem o_update (Q R : Nat → Prop) (s b : Nat) (os : List Ob) (last : Int) (KL : List Sc) (e : OE) (c : List V) (p : Nat) (w : World) (hS : StoB w Q s b os last KL) (hQ : ∀ k, w.heap.size ≤ k → Q k) (hr : IsRow w R e.u c) (hRs : ¬ R s) (hk : kOk e.key) (hp : ∀ x, findB os e.key = some x → p ≤ os.length ∧ ∃ y, os[p]? = some y ∧ y.key = e.key) (hl : os.length ≤ 1000) (hv1 : -1000000000 ≤ last) (hv2 : last ≤ 1000000000) :
    Calls Tryz.prog 38 #[.pointer (some ⟨s, 0, none⟩), oV e] w (PutIs w Q s b (os.take p ++ ⟨e.key, last + 1, c⟩ :: os.drop (p + 1)) last KL (updR KL os e.key e.v c)) := by
  obtain ⟨⟨k1, k2, k3⟩, v, u⟩ := e
  have HS := Lib.hid hS
  have HRW := Lib.hid hr
  obtain ⟨hcl, A, cu, rfl, hA, hrow⟩ := hr
  have HQ := Lib.hid hQ
  have HK := Lib.hid hk
  have HP := Lib.hid hp
  have hon := one_new w (.cells #[.string k1, .string k2, .string k3, .int .i64 v, .slice A c.length cu] 25)
  have hxa := World.alloc_heap_new w (.cells #[.string k1, .string k2, .string k3, .int .i64 v, .slice A c.length cu] 25)
  have HFA := Lib.hid (o_fault Q R s b os last KL ⟨(k1, k2, k3), v, .slice A c.length cu⟩ c _ (hS.below hon) (HRW.out.keep (Below.keepQ hon R)))
  have HON := Lib.hid hon
  have HXA := Lib.hid hxa
  obtain ⟨a0, a1, a2, a3, a4⟩ := five_cells hxa
  unfold oV at HFA ⊢
  simp only at HFA ⊢
  clear hS hQ hk hon hxa hrow hA hp
  by_cases hm : mayR KL (k1, k2, k3) c = 0
  · have HKI := Lib.hid (mayR_kind hm)
    have HUPD := Lib.hid (show updR KL os (k1, k2, k3) v c = match findB os (k1, k2, k3) with | none => 5 | some x => if v = x.v then 0 else 15 by unfold updR; rw [if_neg (by rw [hm]; simp)])
    rw [hm] at HFA
    clear hm
    go_enter Tryz.func38, Tryz.ntmps38
    go_wp2_with fail
    refine HFA.out.mono ?_
    rintro r w1 ⟨rfl, hb1⟩
    have HB1 := Lib.hid (HON.out.trans (hb1.mono (by simp)))
    have x1 := (hb1.block w.heap.size (by simp)).trans HXA.out
    have HX1 := Lib.hid x1
    have HPC := Lib.hid (o_place ⟨(k1, k2, k3), v, .slice A c.length cu⟩ w1)
    unfold oV kV at HPC
    simp only at HPC
    obtain ⟨d0, d1, d2, d3, d4⟩ := five_cells x1
    clear hb1 x1 a0 a1 a2 a3 a4 HON HXA HFA
    go_wp2_with fail
    refine HPC.out.mono ?_
    rintro r w2 ⟨rfl, hb2⟩
    have HB2 := Lib.hid (HB1.out.trans (hb2.mono HB1.out.size))
    have HX2 := Lib.hid ((hb2.block w.heap.size (Array.getElem?_eq_some_iff.1 HX1.out).1).trans HX1.out)
    have HFD := Lib.hid (o_find Q s b os last KL (k1, k2, k3) w2 (HS.out.below HB2.out) HK.out)
    have HKI2 : Hid ((findS KL ((k1, k2, k3) : Ky).1).isSome = true) := HKI
    unfold kV fndR at HFD
    rw [HKI2.out] at HFD
    simp only [if_true] at HFD
    clear hb2 d0 d1 d2 d3 d4 HX1 HPC
    cases hf : findB os (k1, k2, k3) with
    | none =>
      rw [hf] at HFD HUPD
      simp only [Option.isSome_none, Bool.false_eq_true, if_false] at HFD
      clear hf
      go_wp2_with fail
      refine HFD.out.mono ?_
      rintro r w3 ⟨e, rfl, hfe, hb3⟩
      have he : e = ⟨(⟨#[]⟩, ⟨#[]⟩, ⟨#[]⟩), 0, .slice none 0 0⟩ := hfe
      subst he
      have HB3 := Lib.hid (HB2.out.trans (hb3.mono HB2.out.size))
      have HBW := Lib.hid (HB3.out.trans ((one_new w3 (.cells #[.string ⟨#[]⟩, .string ⟨#[]⟩, .string ⟨#[]⟩, .int .i64 0, .slice none 0 0] 25)).mono HB3.out.size))
      clear hb3 hfe
      unfold oV
      simp only
      go_wp2
      go_ret2
      exact PutIs.no 5 HUPD.out (by decide) HBW.out
    | some x =>
      obtain ⟨hpl, y, hy, hyk⟩ := HP.out x hf
      have HGA : Hid (GoesAt os (k1, k2, k3) p (p + 1)) := Lib.hid ⟨hpl, .inr ⟨rfl, y, hy, hyk⟩⟩
      rw [hf] at HFD HUPD
      simp only [Option.isSome_some, if_true] at HFD
      clear hf hpl hy hyk
      go_wp2_with fail
      refine HFD.out.mono ?_
      rintro r w3 ⟨e, rfl, hfe, hb3⟩
      obtain ⟨⟨n1, n2, n3⟩, ev, eu⟩ := e
      obtain ⟨_, hev, _, A6, c6, hu6, _, _⟩ := hfe
      simp only at hev hu6
      subst hu6
      subst hev
      generalize x.c.length = n6 at *
      have HB3 := Lib.hid (HB2.out.trans (hb3.mono HB2.out.size))
      have HX3 := Lib.hid ((hb3.block w.heap.size (Array.getElem?_eq_some_iff.1 HX2.out).1).trans HX2.out)
      have hon3 := one_new w3 (.cells #[.string n1, .string n2, .string n3, .int .i64 x.v, .slice A6 n6 c6] 25)
      have HBW := Lib.hid (HB3.out.trans (hon3.mono HB3.out.size))
      obtain ⟨d0, d1, d2, d3, d4⟩ := five_cells ((hon3.block w.heap.size (Array.getElem?_eq_some_iff.1 HX3.out).1).trans HX3.out)
      obtain ⟨y0, y1, y2, y3, y4⟩ := five_cells (World.alloc_heap_new w3 (.cells #[.string n1, .string n2, .string n3, .int .i64 x.v, .slice A6 n6 c6] 25))
      clear hb3 hon3 HX2 HX3
      unfold oV
      simp only at HUPD ⊢
      by_cases hv : v = x.v
      · have hvb : (v != x.v) = false := by rw [hv]; simp
        have HI := Lib.hid (show updR KL os (k1, k2, k3) v c = 0 by rw [HUPD.out, if_pos hv])
        have HPT := Lib.hid (o_put Q R s b os last KL ⟨(k1, k2, k3), v, .slice A c.length cu⟩ c p (p + 1) _ (HS.out.below HBW.out) (fun k hk => HQ.out k (Nat.le_trans HBW.out.size hk)) (HRW.out.keep (Below.keepQ HBW.out R)) hRs HK.out HGA.out hl hv1 hv2)
        unfold oV at HPT
        simp only at HPT
        clear hv
        go_wp2_with fail
        refine HPT.out.mono ?_
        rintro r w9 ⟨rfl, hS9, ho9⟩
        have HS9 := Lib.hid hS9
        have HO9 := Lib.hid ((OnlyS.of (s := s) (b := b) HBW.out).trans ho9)
        clear hS9 ho9
        go_wp2
        go_ret2
        exact .inr ⟨HI.out, rfl, HS9.out, HO9.out⟩
      · have hvb : (v != x.v) = true := by simpa using hv
        have HI := Lib.hid (show updR KL os (k1, k2, k3) v c = 15 by rw [HUPD.out, if_neg hv])
        clear hv
        go_wp2
        go_ret2
        exact PutIs.no 15 HI.out (by decide) HBW.out
  · have HINS := Lib.hid (show updR KL os (k1, k2, k3) v c = mayR KL (k1, k2, k3) c by unfold updR; rw [if_pos hm])
    have hmb : (mayR KL (k1, k2, k3) c != 0) = true := by simpa using hm
    have HM := Lib.hid hm
    generalize mayR KL (k1, k2, k3) c = m at *
    clear hm
    go_enter Tryz.func38, Tryz.ntmps38
    go_wp2_with fail
    refine HFA.out.mono ?_
    rintro r w1 ⟨rfl, hb1⟩
    have HB1 := Lib.hid (HON.out.trans (hb1.mono (by simp)))
    clear hb1
    go_wp2
    go_ret2
    exact PutIs.no m HINS.out HM.out HB1.out

set_option maxHeartbeats 1000000 in
theorem o_new_nil (w : World) : Calls Tryz.prog 28 #[.pointer none] w fun r w' => r = .returned (.tuple #[.pointer none, .int .i64 1]) ∧ Below w.heap.size w w' := by
  go_enter Tryz.func28, Tryz.ntmps28
  go_wp2
  go_ret2
  exact ⟨rfl, Below.refl _ _⟩
set_option maxRecDepth 100000 in
set_option maxHeartbeats 1000000 in
theorem o_new (R : Nat → Prop) (g : Nat) (KL : List Sc) (w : World) (hs : SetIs w R g KL) :
    Calls Tryz.prog 28 #[.pointer (some ⟨g, 0, none⟩)] w fun r w' => r = .returned (.tuple #[.pointer (some ⟨w.heap.size + 1, 0, none⟩), .int .i64 0]) ∧ StoB w' (fun k => k ≠ w.heap.size ∧ k ≠ w.heap.size + 1) (w.heap.size + 1) w.heap.size [] 0 KL ∧ Below w.heap.size w w' := by
  obtain ⟨v, hc, _, hk⟩ := hs
  have HK := Lib.hid hk
  obtain ⟨_, A, c, rfl, _, _⟩ := hk
  have hmm := @run_makeMap Tryz.prog
  go_enter Tryz.func28, Tryz.ntmps28
  go_wp2
  go_ret2
  refine ⟨by simp, ⟨_, .map [], [], alloc2_new w _ _, (HK.out.imp (Q' := fun k => k ≠ w.heap.size ∧ k ≠ w.heap.size + 1) (fun k hk _ => ⟨by omega, by omega⟩)).below (two_new w _ _), (World.ownsMap_made w Tryz.prog 103 RpO).alloc _, RelO.empty, trivial, by omega, by simp; omega, by simp, by simp⟩, two_new w _ _⟩
end
end Go.Proofs.YtdhpoaecedpbdaaGreat
