/-
  put of the document's store: an object at a place, in the place of so many, with the next version.
  Condition: no more than a thousand objects; versions that fit.
  Insert, Update of the document's store.
  Condition: the objects are ones that can be; versions that fit.
  Get, Delete of the document's store.
  Condition: the objects are ones that can be.
  Delete of the document's store.
  Condition: the objects are ones that can be.
-/
import Derived.Outline
import Derived.BigQuiet
import Derived.Test.YtdhpoaecedpbdaaGreatZ26
namespace Go.Proofs.YtdhpoaecedpbdaaGreat
section
open Go.RowKit Go.Maps

set_option maxRecDepth 100000 in
set_option maxHeartbeats 4000000 in
theorem r_putO (Q R : Nat → Prop) (r : Nat) (A : Option Addr) (c : Nat) (os : List Ob) (last : Int) (KL : List Sc) (e : OE) (cs : List V) (p d : Nat) (w : World) (hR : RefO w Q r A c os last KL) (hQ : ∀ k, w.heap.size ≤ k → Q k) (hr : IsRow w R e.u cs) (hRr : ¬ R r) (hp : p + d ≤ os.length) (hl : os.length ≤ 1000) (hv1 : -1000000000 ≤ last) (hv2 : last ≤ 1000000000) :
    Calls Tryz.prog 79 #[.pointer (some ⟨r, 0, none⟩), .int .i64 (p : Int), oV e, .int .i64 (d : Int)] w fun x w' => x = .returned (.int .i64 (last + 1)) ∧ (∃ A' c', RefO w' Q r A' c' (os.take p ++ ⟨e.key, last + 1, cs⟩ :: os.drop (p + d)) (last + 1) KL) ∧ Only r w w' := by
  obtain ⟨⟨k1, k2, k3⟩, v, u⟩ := e
  have HR := Lib.hid hR
  have HRW := Lib.hid hr
  have HQ := Lib.hid hQ
  have HRR := Lib.hid hRr
  obtain ⟨kv, es, h1, h2, h3, h4, h5, h6, h7⟩ := hR
  obtain ⟨hcl, Au, cu, rfl, hAu, hrow⟩ := hr
  have hrl := (Array.getElem?_eq_some_iff.1 h1).1
  have H1 := Lib.hid h1
  have H2 := Lib.hid h2
  have H3 := Lib.hid h3
  have H4 := Lib.hid h4
  have H5 := Lib.hid h5
  have H6 := Lib.hid h6
  have H7 := Lib.hid h7
  have hon := one_new w (.cells #[.string k1, .string k2, .string k3, .int .i64 v, .slice Au cs.length cu] 25)
  have hxr := (hon.block r hrl).trans h1
  have hxo := World.alloc_heap_new w (.cells #[.string k1, .string k2, .string k3, .int .i64 v, .slice Au cs.length cu] 25)
  have p2 : w.cell? ⟨r, 2, none⟩ = some (Value.int .i64 last) := cell_of_row w r 2 _ _ _ h1
  have f2 : w.frozen? ⟨r, 2, none⟩ = false := frozen_of_row w r 2 _ _ h1
  obtain ⟨a0, a1, a2, a3, a4⟩ := five_cells hxo
  obtain ⟨g0, g1, g2, g3, g4⟩ := five_thaw hxo
  have HXR := Lib.hid hxr
  have HXO := Lib.hid hxo
  have HON := Lib.hid hon
  unfold oV
  simp only
  clear h1 h2 h3 h4 h5 h6 h7 hQ hRr hrow hAu hxr hxo hon
  go_enter Tryz.func79, Tryz.ntmps79
  go_upto_region 4 with (fail)
  have hr1 := heap_setCell_same w r 2 _ _ (.int .i64 (last + 1)) H1.out
  have hz1 : (w.setCell ⟨r, 2, none⟩ (.int .i64 (last + 1))).heap.size = w.heap.size := by simp [World.setCell]
  have hon2 := one_new (w.setCell ⟨r, 2, none⟩ (.int .i64 (last + 1))) (.cells #[.string k1, .string k2, .string k3, .int .i64 (last + 1), .slice Au cs.length cu] 25)
  have hx2 := World.alloc_heap_new (w.setCell ⟨r, 2, none⟩ (.int .i64 (last + 1))) (.cells #[.string k1, .string k2, .string k3, .int .i64 (last + 1), .slice Au cs.length cu] 25)
  have hz2 : ((w.setCell ⟨r, 2, none⟩ (.int .i64 (last + 1))).alloc (.cells #[.string k1, .string k2, .string k3, .int .i64 (last + 1), .slice Au cs.length cu] 25)).heap.size = w.heap.size + 1 := by rw [World.size_alloc, hz1]
  have hr2 := (hon2.block r (by rw [hz1]; exact hrl)).trans hr1
  have ho2 : Only r w ((w.setCell ⟨r, 2, none⟩ (.int .i64 (last + 1))).alloc (.cells #[.string k1, .string k2, .string k3, .int .i64 (last + 1), .slice Au cs.length cu] 25)) :=
    ⟨((Below.refl r w).setCell (p := ⟨r, 2, none⟩) (Nat.le_refl _) _).trans (hon2.mono (by rw [hz1]; exact Nat.le_of_lt hrl)), fun k hk hne => (hon2.block k (by rw [hz1]; exact hk)).trans (Below.heap_setCell _ ⟨r, 2, none⟩ _ k hne)⟩
  rw [hz1] at hx2
  have HR2 := Lib.hid hr2
  have HX2 := Lib.hid hx2
  have HO2 := Lib.hid ho2
  have HZ2 := Lib.hid hz2
  clear p2 f2 a0 a1 a2 a3 a4 g0 g1 g2 g3 g4 hr1 hz1 hon2 hr2 hx2 ho2 hz2 HXR HXO HON
  generalize (w.setCell ⟨r, 2, none⟩ (.int .i64 (last + 1))).alloc (.cells #[.string k1, .string k2, .string k3, .int .i64 (last + 1), .slice Au cs.length cu] 25) = w2 at *
  obtain ⟨a0, a1, a2, a3, a4⟩ := five_cells HX2.out
  obtain ⟨g0, g1, g2, g3, g4⟩ := five_thaw HX2.out
  have HRW2 := Lib.hid (HRW.out.keep (HO2.out.keepQ HRR.out))
  have hrow2 : RowAt w2 w2.heap.size Au cs := by
    obtain ⟨_, A', c', hv', _, hq⟩ := HRW2.out
    injection hv' with e1 _ _
    subst e1
    exact hq.at
  have HROW := Lib.hid hrow2
  clear hrow2
  have hsz2 : w.heap.size + 1 ≤ w2.heap.size := by rw [HZ2.out]; exact Nat.le_refl _
  go_upto_region 6 with (at_builtin; go_must (refine wp_append_V _ rfl (.tmp 24) (.tmp 26) rfl (w.heap.size + 1) _ [] cs rfl (Own.nil _ _) _ Au cs.length cu rfl rfl HROW.out (by simp; omega) hsz2 ?_; intro v5 w5 hown5 hb5 hg5; rw [List.nil_append] at hown5; obtain ⟨A5, c5, hv5, hA5, _⟩ := hown5.row; subst hv5; have HO5 := Lib.hid hown5; have HB5 := Lib.hid hb5; have hx5 := (hb5.block w.heap.size (Nat.lt_succ_self _)).trans HX2.out; have HX5 := Lib.hid hx5; obtain ⟨y0, y1, y2, y3, y4⟩ := five_cells hx5; obtain ⟨t0, t1, t2, t3, t4⟩ := five_thaw hx5; clear hown5 hb5 hg5 hx5))
  have hrl2 : r < w.heap.size + 1 := by omega
  have hr5 := (HB5.out.block r hrl2).trans HR2.out
  have hx6 := heap_setCell_same w5 w.heap.size 4 _ _ (.slice A5 cs.length c5) HX5.out
  have hr6 := (Below.heap_setCell w5 ⟨w.heap.size, 4, none⟩ (.slice A5 cs.length c5) r (by show r ≠ w.heap.size; omega)).trans hr5
  have ho6 : Only r w (w5.setCell ⟨w.heap.size, 4, none⟩ (.slice A5 cs.length c5)) := by
    have hb6 : Below w.heap.size w2 (w5.setCell ⟨w.heap.size, 4, none⟩ (.slice A5 cs.length c5)) := (HB5.out.mono (Nat.le_succ _)).setCell (p := ⟨w.heap.size, 4, none⟩) (Nat.le_refl _) _
    exact ⟨HO2.out.1.trans (hb6.mono (Nat.le_of_lt hrl)), fun k hk hne => (hb6.block k hk).trans (HO2.out.2 k hk hne)⟩
  have hz6 : w.heap.size + 1 ≤ (w5.setCell ⟨w.heap.size, 4, none⟩ (.slice A5 cs.length c5)).heap.size := by
    have : (w5.setCell ⟨w.heap.size, 4, none⟩ (.slice A5 cs.length c5)).heap.size = w5.heap.size := by simp [World.setCell]
    rw [this]
    exact Nat.le_trans hsz2 HB5.out.size
  have hrow6 : IsRow (w5.setCell ⟨w.heap.size, 4, none⟩ (.slice A5 cs.length c5)) (fun j => w.heap.size + 1 ≤ j) (.slice A5 cs.length c5) cs := by
    have h0 : IsRow w5 (fun j => w.heap.size + 1 ≤ j) (.slice A5 cs.length c5) cs := by
      obtain ⟨A', c', hv', hA', hq⟩ := HO5.out.row
      refine ⟨hcl, A5, c5, rfl, hA5, fun i x hi => ?_⟩
      · injection hv' with e1 _ _
        subst e1
        obtain ⟨a, ha, hb, hv⟩ := hq i x hi
        refine ⟨a, ha, ?_, hv⟩
        subst ha
        rcases HO5.out.2 with ⟨hn, _⟩ | ⟨g, cap, cur, hv', hg, _⟩
        · cases hn
        · injection hv' with h1
          injection h1 with h1
          subst h1
          rw [show ((⟨g, 0, none⟩ : Addr).add (i * 4)).block = g from by unfold Addr.add; split <;> rfl]
          exact hg
    exact h0.keep fun k hk _ => Below.heap_setCell w5 ⟨w.heap.size, 4, none⟩ _ k (by show k ≠ w.heap.size; omega)
  have HR6 := Lib.hid hr6
  have HX6 := Lib.hid hx6
  have HO6 := Lib.hid ho6
  have HZ6 := Lib.hid hz6
  have HRW6 := Lib.hid hrow6
  clear a0 a1 a2 a3 a4 g0 g1 g2 g3 g4 y0 y1 y2 y3 y4 t0 t1 t2 t3 t4 hr5 hx6 hr6 ho6 hz6 hrow6 HX5 HB5 HO5 HROW HRW2 HR2 HX2 HO2 HZ2 hsz2
  generalize w5.setCell ⟨w.heap.size, 4, none⟩ (.slice A5 cs.length c5) = w6 at *
  have h2 := H2.out
  have h3 := H3.out
  have h4 := H4.out
  have h5 := H5.out
  have h6 := H6.out
  have h7 := H7.out
  have hq6 : KeepQ (fun k => Q k ∧ k < w.heap.size) w w6 := HO6.out.keepQ (fun h => h3 h.1)
  have HC6 := Lib.hid ((h5.imp (Q' := fun k => Q k ∧ k < w.heap.size) fun k hk hq => ⟨hq, hk⟩).keep hq6)
  have HE6 := Lib.hid ((h4.imp (Q' := fun k => Q k ∧ k < w.heap.size) fun k hk hq => ⟨hq, hk⟩).keep hq6)
  have hlen := h4.len
  have hone := h4.one
  have HONE := Lib.hid hone
  have hpc : (p : Int) ≤ (c : Int) := by omega
  have hp0 : (0 : Int) ≤ (p : Int) := by omega
  have HTK := Lib.hid (show p = (es.take p).length by rw [List.length_take]; omega)
  have HDK := Lib.hid (show os.length - (p + d) = (es.drop (p + d)).length by rw [List.length_drop, hlen])
  have HLEN := Lib.hid hlen
  clear h2 h3 h4 h5 hq6 hone hlen
  have k61 : _ = some (Value.slice A os.length c) := cell_of_row w6 r 1 _ _ _ HR6.out
  have hz6 := HZ6.out
  go_upto_region 7 with (at_builtin; go_must (refine wp_append_O _ rfl (.tmp 29) (.tmp 35) rfl w6.heap.size _ [] (es.take p) rfl (OwnO.nil _ _) _ A p c rfl HTK.out (HC6.out.takeO p) (HONE.out.take p) (by rw [← HTK.out]; simp; omega) (Nat.le_refl _) ?_; intro v7 w7 hown7 hb7 _ _; rw [List.nil_append] at hown7; have HO7 := Lib.hid hown7; obtain ⟨A7, c7, hv7⟩ := hown7.form; rw [← HTK.out] at hv7; subst hv7; have HB7 := Lib.hid hb7; clear hown7 hb7))
  have hz7 := HB7.out.size
  have hx7 := (HB7.out.block w.heap.size hz6).trans HX6.out
  obtain ⟨a0, a1, a2, a3, a4⟩ := five_cells hx7
  have HX7 := Lib.hid hx7
  have HLIT := Lib.hid (lit_O w7 (⟨(k1, k2, k3), last + 1, .slice A5 cs.length c5⟩ : OE) 25)
  simp only at HLIT
  have hlen2 := HLEN.out
  go_upto_region 8 with (at_builtin; go_must (refine wp_append_O _ rfl (.tmp 37) (.tmp 39) rfl w6.heap.size _ (es.take p) [(⟨(k1, k2, k3), last + 1, .slice A5 cs.length c5⟩ : OE)] rfl (HO7.out.alloc _) _ (some ⟨w7.heap.size, 0, none⟩) 1 _ rfl rfl HLIT.out (by intro e he; rw [List.mem_singleton.1 he]; rfl) (by rw [← HTK.out]; simp; omega) (by simp; omega) ?_; intro v8 w8 hown8 hb8 _ _; have HO8 := Lib.hid hown8; obtain ⟨A8, c8, hv8⟩ := hown8.form; rw [List.length_append, ← HTK.out, List.length_singleton] at hv8; subst hv8; have HB8 := Lib.hid (HB7.out.trans (((one_new w7 _).mono (by omega)).trans hb8)); clear hown8 hb8))
  have hz8 := HB8.out.size
  have hx8 := (HB8.out.block w.heap.size hz6).trans HX6.out
  have hr8 := (HB8.out.block r (by omega)).trans HR6.out
  have k81 : _ = some (Value.slice A os.length c) := cell_of_row w8 r 1 _ _ _ hr8
  have HX8 := Lib.hid hx8
  have HR8 := Lib.hid hr8
  have HC8 := Lib.hid (HC6.out.keep (w' := w8) fun k hq hk => HB8.out.block k (by omega))
  have hdp : (0 : Int) ≤ (p : Int) + (d : Int) := by omega
  have hdl : (p : Int) + (d : Int) ≤ (os.length : Int) := by omega
  have hds : (p : Int) + (d : Int) ≤ 1000 := by omega
  have hdc : (p : Int) + (d : Int) ≤ (c : Int) := by omega
  clear a0 a1 a2 a3 a4 k61 hx7 hx8 hr8
  have fin : ∀ (A9 : Option Addr) (c9 : Nat) (w9 : World), OwnO w9 w6.heap.size (.slice A9 (p + 1 + (os.length - (p + d))) c9) (es.take p ++ [(⟨(k1, k2, k3), last + 1, .slice A5 cs.length c5⟩ : OE)] ++ es.drop (p + d)) → Below w6.heap.size w6 w9 →
      w9.cell? ⟨w.heap.size, 3, none⟩ = some (.int .i64 (last + 1)) ∧ w9.frozen? ⟨r, 1, none⟩ = false ∧ w9.cell? ⟨r, 1, none⟩ = some (.slice A os.length c) ∧
      ((∃ A' c', RefO (w9.setCell ⟨r, 1, none⟩ (.slice A9 (p + 1 + (os.length - (p + d))) c9)) Q r A' c' (os.take p ++ ⟨(k1, k2, k3), last + 1, cs⟩ :: os.drop (p + d)) (last + 1) KL) ∧ Only r w (w9.setCell ⟨r, 1, none⟩ (.slice A9 (p + 1 + (os.length - (p + d))) c9)) ∧
      (w9.setCell ⟨r, 1, none⟩ (.slice A9 (p + 1 + (os.length - (p + d))) c9)).cell? ⟨w.heap.size, 3, none⟩ = some (.int .i64 (last + 1))) := by
    intro A9 c9 w9 hown hb
    have hx9 := (hb.block w.heap.size hz6).trans HX6.out
    have hr9 := (hb.block r (by omega)).trans HR6.out
    have hxs := (Below.heap_setCell w9 ⟨r, 1, none⟩ (.slice A9 (p + 1 + (os.length - (p + d))) c9) w.heap.size (by show w.heap.size ≠ r; omega)).trans hx9
    have hrs := heap_setCell_same w9 r 1 _ _ (.slice A9 (p + 1 + (os.length - (p + d))) c9) hr9
    refine ⟨(five_cells hx9).2.2.2.1, frozen_of_row w9 r 1 _ _ hr9, cell_of_row w9 r 1 _ _ _ hr9, ?_, ?_, (five_cells hxs).2.2.2.1⟩
    · obtain ⟨A', c', hv', hA', hcl', hcq⟩ := hown.cells
      have hl9 : (es.take p ++ [(⟨(k1, k2, k3), last + 1, .slice A5 cs.length c5⟩ : OE)] ++ es.drop (p + d)).length = (os.take p ++ ⟨(k1, k2, k3), last + 1, cs⟩ :: os.drop (p + d)).length := by
        have := HLEN.out
        simp
        omega
      injection hv' with e1 e2 e3
      subst e1
      subst e3
      have hother : ∀ k, k ≠ r → (w9.setCell ⟨r, 1, none⟩ (.slice A9 (p + 1 + (os.length - (p + d))) c9)).heap[k]? = w9.heap[k]? := fun k hk => Below.heap_setCell w9 ⟨r, 1, none⟩ _ k hk
      have hk9 : KeepQ (fun k => Q k ∧ k < w.heap.size) w6 (w9.setCell ⟨r, 1, none⟩ (.slice A9 (p + 1 + (os.length - (p + d))) c9)) := fun k hq hk => (hother k (fun e => H3.out (e ▸ hq.1))).trans (hb.block k (by omega))
      have hobs := (HE6.out.keep hk9).imp (Q' := Q) fun k _ hq => hq.1
      refine ⟨A9, c9, kv, es.take p ++ [(⟨(k1, k2, k3), last + 1, .slice A5 cs.length c5⟩ : OE)] ++ es.drop (p + d), ?_, ?_, H3.out, ?_, ?_, hA', ?_⟩
      · rw [hrs, ← hl9, ← e2]
        rfl
      · have hq6 : KeepQ (fun k => Q k ∧ k < w.heap.size) w w6 := HO6.out.keepQ (fun h => H3.out h.1)
        exact ((((H2.out.imp (Q' := fun k => Q k ∧ k < w.heap.size) fun k hk hq => ⟨hq, hk⟩).keep hq6).keep hk9)).imp fun k _ hq => hq.1
      · rw [List.append_assoc, List.singleton_append]
        refine (hobs.take p).append ⟨⟨rfl, rfl, ?_⟩, hobs.drop (p + d)⟩
        exact (HRW6.out.keep (w' := w9.setCell ⟨r, 1, none⟩ (.slice A9 (p + 1 + (os.length - (p + d))) c9)) (fun k hq hk => (hother k (by omega)).trans (hb.block k hk))).imp fun k _ hq => HQ.out k (by omega)
      · exact (hcq.keep (w' := w9.setCell ⟨r, 1, none⟩ (.slice A9 (p + 1 + (os.length - (p + d))) c9)) fun k hq hk => hother k (by omega)).imp fun k _ hq => HQ.out k (by omega)
      · rw [← hl9]
        exact hcl'
    · have hb9 : Below r w6 w9 := hb.mono (by omega)
      exact ⟨(HO6.out.1.trans hb9).setCell (p := ⟨r, 1, none⟩) (Nat.le_refl _) _, fun k hk hne => (Below.heap_setCell w9 ⟨r, 1, none⟩ _ k hne).trans ((hb.block k (by have := HO6.out.1.size; omega)).trans (HO6.out.2 k hk hne))⟩
  have FIN := Lib.hid fin
  clear fin
  have hl50 : (es.take p ++ [(⟨(k1, k2, k3), last + 1, .slice A5 cs.length c5⟩ : OE)]).length + (es.drop (p + d)).length = p + 1 + (os.length - (p + d)) := by rw [List.length_append, ← HTK.out, ← HDK.out, List.length_singleton]
  have HL50 := Lib.hid hl50
  clear hl50
  by_cases hcc : c = p + d
  · have HT8 := Lib.hid (HC8.out.dropO c (p + d) (by omega) A (fun a' ha => by rw [if_pos hcc, ha]))
    go_wp2_with (at_builtin; go_must (refine wp_append_O _ rfl (.tmp 42) (.tmp 50) rfl w6.heap.size _ (es.take p ++ [(⟨(k1, k2, k3), last + 1, .slice A5 cs.length c5⟩ : OE)]) (es.drop (p + d)) rfl HO8.out _ _ _ _ rfl HDK.out HT8.out (HONE.out.drop _) (by rw [HL50.out]; omega) hz8 ?_; intro v9 w9 hown9 hb9 _ _; obtain ⟨A9, c9, hv9⟩ := hown9.form; rw [List.length_append, HL50.out] at hv9; subst hv9; obtain ⟨q0, q1, q2, q3, q4, q5⟩ := FIN.out A9 c9 w9 hown9 (HB8.out.trans hb9); have Q3 := Lib.hid q3; have Q4 := Lib.hid q4; clear hown9 hb9 q3 q4))
    go_ret
    exact ⟨rfl, Q3.out, Q4.out⟩
  · obtain ⟨a, hAa⟩ : ∃ a, A = some a := by
      cases A with
      | none => exact absurd (h6 rfl) (by omega)
      | some a => exact ⟨a, rfl⟩
    subst hAa
    have HT8 := Lib.hid (HC8.out.dropO c (p + d) (by omega) (some (a.add ((p + d) * 5))) (fun a' ha => by injection ha with ha; rw [if_neg hcc, ha]))
    go_wp2_with (at_builtin; go_must (refine wp_append_O _ rfl (.tmp 42) (.tmp 50) rfl w6.heap.size _ (es.take p ++ [(⟨(k1, k2, k3), last + 1, .slice A5 cs.length c5⟩ : OE)]) (es.drop (p + d)) rfl HO8.out _ _ _ _ rfl HDK.out HT8.out (HONE.out.drop _) (by rw [HL50.out]; omega) hz8 ?_; intro v9 w9 hown9 hb9 _ _; obtain ⟨A9, c9, hv9⟩ := hown9.form; rw [List.length_append, HL50.out] at hv9; subst hv9; obtain ⟨q0, q1, q2, q3, q4, q5⟩ := FIN.out A9 c9 w9 hown9 (HB8.out.trans hb9); have Q3 := Lib.hid q3; have Q4 := Lib.hid q4; clear hown9 hb9 q3 q4))
    go_ret
    exact ⟨rfl, Q3.out, Q4.out⟩
end
section
open Go.RowKit Go.Maps

/-- What Insert and Update of the document leave. -/
def RPutIs (w : World) (Q : Nat → Prop) (r : Nat) (os' : List Ob) (last : Int) (KL : List Sc) (err : Int) (x : Ending) (w' : World) : Prop :=
  (err ≠ 0 ∧ x = .returned (.tuple #[.int .i64 0, .int .i64 err]) ∧ Below w.heap.size w w') ∨ (err = 0 ∧ x = .returned (.tuple #[.int .i64 (last + 1), .int .i64 0]) ∧ (∃ A' c', RefO w' Q r A' c' os' (last + 1) KL) ∧ Only r w w')
theorem RPutIs.no {w w' : World} {Q : Nat → Prop} {r : Nat} {os' : List Ob} {last : Int} {KL : List Sc} {err : Int} (e : Int) (h : err = e) (h0 : e ≠ 0) (hb : Below w.heap.size w w') : RPutIs w Q r os' last KL err (.returned (.tuple #[.int .i64 0, .int .i64 e])) w' :=
  .inl ⟨by rw [h]; exact h0, by rw [h], hb⟩

set_option maxRecDepth 100000 in
set_option maxHeartbeats 4000000 in
theorem r_insertO (Q R : Nat → Prop) (r : Nat) (A : Option Addr) (c : Nat) (os : List Ob) (last : Int) (KL : List Sc) (e : OE) (cs : List V) (w : World) (hR : RefO w Q r A c os last KL) (hg : GoodO os) (hQ : ∀ k, w.heap.size ≤ k → Q k) (hr : IsRow w R e.u cs) (hRr : ¬ R r) (hv1 : -1000000000 ≤ last) (hv2 : last ≤ 1000000000) :
    Calls Tryz.prog 37 #[.pointer (some ⟨r, 0, none⟩), oV e] w (RPutIs w Q r (os.take (fndK os e.key) ++ ⟨e.key, last + 1, cs⟩ :: os.drop (fndK os e.key)) last KL (insR KL os e.key cs)) := by
  obtain ⟨⟨k1, k2, k3⟩, v, u⟩ := e
  have hfew := hg.few
  have hfk := fndK_le os (k1, k2, k3)
  have hrl := hR.lt
  have HR := Lib.hid hR
  have HRW := Lib.hid hr
  have HKF := Lib.hid (isK_find hg.srt (k1, k2, k3))
  obtain ⟨hcl, Au, cu, rfl, _, _⟩ := hr
  have hon := one_new w (.cells #[.string k1, .string k2, .string k3, .int .i64 v, .slice Au cs.length cu] 25)
  have hxo := World.alloc_heap_new w (.cells #[.string k1, .string k2, .string k3, .int .i64 v, .slice Au cs.length cu] 25)
  obtain ⟨a0, a1, a2, a3, a4⟩ := five_cells hxo
  have HMY := Lib.hid (r_mayO Q R r A c os last KL k1 k2 k3 v _ cs _ (hR.below hon) (HRW.out.keep (Below.keepQ hon R)))
  have HFD := Lib.hid (fun W (hW : Below w.heap.size w W) => r_findO Q r A c os last KL k1 k2 k3 v Au cs.length cu W (HR.out.below hW) (by omega) hg.keys)
  have HPT := Lib.hid (fun W (hW : Below w.heap.size w W) => r_putO Q R r A c os last KL ⟨(k1, k2, k3), v, .slice Au cs.length cu⟩ cs (fndK os (k1, k2, k3)) 0 W (HR.out.below hW) (fun k hk => hQ k (Nat.le_trans hW.size hk)) (HRW.out.keep (Below.keepQ hW R)) hRr (by omega) (by omega) hv1 hv2)
  have HON := Lib.hid hon
  have HXO := Lib.hid hxo
  unfold oV at HPT ⊢
  simp only [Nat.add_zero] at HMY HFD HPT ⊢
  have HINS := Lib.hid (show insR KL os (k1, k2, k3) cs = if mayR KL (k1, k2, k3) cs ≠ 0 then mayR KL (k1, k2, k3) cs else if isK os (k1, k2, k3) = true then 4 else if 120 ≤ os.length then 6 else 0 by unfold insR; rw [← isK_find hg.srt])
  generalize mayR KL (k1, k2, k3) cs = m at *
  generalize isK os (k1, k2, k3) = ik at *
  generalize fndK os (k1, k2, k3) = p at *
  have HRL : Hid (∀ W, Below w.heap.size w W → W.cell? ⟨r, 1, none⟩ = some (.slice A os.length c)) := Lib.hid (fun W hW => by
    obtain ⟨kv, es, h1, _⟩ := HR.out.below hW
    exact cell_of_row W r 1 _ _ _ h1)
  clear hR hg hQ hRr hon hxo
  by_cases hm0 : m = 0
  · subst hm0
    go_enter Tryz.func37, Tryz.ntmps37
    go_wp2_with fail
    refine HMY.out.mono ?_
    rintro x w1 ⟨rfl, hb1⟩
    have HB1 := Lib.hid (HON.out.trans (hb1.mono (by simp)))
    have HX1 := Lib.hid ((hb1.block w.heap.size (by simp)).trans HXO.out)
    clear hb1 a0 a1 a2 a3 a4
    obtain ⟨a0, a1, a2, a3, a4⟩ := five_cells HX1.out
    go_wp2_with fail
    refine (HFD.out _ HB1.out).mono ?_
    rintro x w2 ⟨rfl, hb2⟩
    have HB2 := Lib.hid (HB1.out.trans (hb2.mono HB1.out.size))
    have HX2 := Lib.hid ((hb2.block w.heap.size (Array.getElem?_eq_some_iff.1 HX1.out).1).trans HX1.out)
    clear hb2 a0 a1 a2 a3 a4
    obtain ⟨a0, a1, a2, a3, a4⟩ := five_cells HX2.out
    cases ik with
    | true =>
      go_wp2
      go_ret2
      exact RPutIs.no 4 HINS.out (by decide) HB2.out
    | false =>
      have q1 := HRL.out w2 HB2.out
      by_cases h6 : 120 ≤ os.length
      · have hg6 : decide ((120 : Int) ≤ (os.length : Int)) = true := by simp; omega
        have HI6 := Lib.hid (HINS.out.trans (show _ = (6 : Int) by simp [h6]))
        go_wp2
        go_ret2
        exact RPutIs.no 6 HI6.out (by decide) HB2.out
      · have hg6 : decide ((120 : Int) ≤ (os.length : Int)) = false := by simp; omega
        have HI0 := Lib.hid (HINS.out.trans (show _ = (0 : Int) by simp [h6]))
        go_wp2_with fail
        refine (HPT.out _ HB2.out).mono ?_
        rintro x w3 ⟨rfl, hrf, ho3⟩
        have HRF := Lib.hid hrf
        have HO3 := Lib.hid ((Only.of_below (g := r) HB2.out (Nat.le_of_lt hrl)).trans ho3)
        clear hrf ho3
        go_wp2
        go_ret2
        exact .inr ⟨HI0.out, rfl, HRF.out, HO3.out⟩
  · have hg0 : (m != 0) = true := by simpa using hm0
    have HI := Lib.hid (HINS.out.trans (if_pos hm0))
    have HM0 := Lib.hid hm0
    clear hm0
    go_enter Tryz.func37, Tryz.ntmps37
    go_wp2_with fail
    refine HMY.out.mono ?_
    rintro x w1 ⟨rfl, hb1⟩
    have HB1 := Lib.hid (HON.out.trans (hb1.mono (by simp)))
    clear hb1
    go_wp2
    go_ret2
    exact RPutIs.no m HI.out HM0.out HB1.out

set_option maxRecDepth 100000 in
set_option maxHeartbeats 4000000 in
theorem r_updateO (Q R : Nat → Prop) (r : Nat) (A : Option Addr) (c : Nat) (os : List Ob) (last : Int) (KL : List Sc) (e : OE) (cs : List V) (w : World) (hR : RefO w Q r A c os last KL) (hg : GoodO os) (hQ : ∀ k, w.heap.size ≤ k → Q k) (hr : IsRow w R e.u cs) (hRr : ¬ R r) (hv1 : -1000000000 ≤ last) (hv2 : last ≤ 1000000000) :
    Calls Tryz.prog 39 #[.pointer (some ⟨r, 0, none⟩), oV e] w (RPutIs w Q r (os.take (fndK os e.key) ++ ⟨e.key, last + 1, cs⟩ :: os.drop (fndK os e.key + 1)) last KL (updR KL os e.key e.v cs)) := by
  obtain ⟨⟨k1, k2, k3⟩, v, u⟩ := e
  have hfew := hg.few
  have hrl := hR.lt
  have HR := Lib.hid hR
  have HRW := Lib.hid hr
  obtain ⟨hcl, Au, cu, rfl, _, _⟩ := hr
  have hon := one_new w (.cells #[.string k1, .string k2, .string k3, .int .i64 v, .slice Au cs.length cu] 25)
  have hxo := World.alloc_heap_new w (.cells #[.string k1, .string k2, .string k3, .int .i64 v, .slice Au cs.length cu] 25)
  obtain ⟨a0, a1, a2, a3, a4⟩ := five_cells hxo
  have HMY := Lib.hid (r_mayO Q R r A c os last KL k1 k2 k3 v _ cs _ (hR.below hon) (HRW.out.keep (Below.keepQ hon R)))
  have HFD := Lib.hid (fun W (hW : Below w.heap.size w W) => r_findO Q r A c os last KL k1 k2 k3 v Au cs.length cu W (HR.out.below hW) (by omega) hg.keys)
  have HON := Lib.hid hon
  have HXO := Lib.hid hxo
  have HG := Lib.hid hg
  have HQ := Lib.hid hQ
  have HRR := Lib.hid hRr
  unfold oV
  simp only at HMY HFD ⊢
  have HKF := Lib.hid (isK_find hg.srt (k1, k2, k3))
  have HUP : Hid (updR KL os (k1, k2, k3) v cs = if mayR KL (k1, k2, k3) cs ≠ 0 then mayR KL (k1, k2, k3) cs else match findB os (k1, k2, k3) with
    | none => 5
    | some x => if v = x.v then 0 else 15) := Lib.hid rfl
  generalize mayR KL (k1, k2, k3) cs = m at *
  clear hR hg hQ hRr hon hxo
  by_cases hm0 : m = 0
  · subst hm0
    cases hf : findB os (k1, k2, k3) with
    | none =>
      have hik : isK os (k1, k2, k3) = false := by rw [HKF.out, hf]; rfl
      have HI := Lib.hid (HUP.out.trans (show _ = (5 : Int) by simp [hf]))
      rw [hik] at HFD
      clear hik hf HKF HUP
      generalize fndK os (k1, k2, k3) = p at *
      go_enter Tryz.func39, Tryz.ntmps39
      go_wp2_with fail
      refine HMY.out.mono ?_
      rintro x w1 ⟨rfl, hb1⟩
      have HB1 := Lib.hid (HON.out.trans (hb1.mono (by simp)))
      have HX1 := Lib.hid ((hb1.block w.heap.size (by simp)).trans HXO.out)
      clear hb1 a0 a1 a2 a3 a4
      obtain ⟨a0, a1, a2, a3, a4⟩ := five_cells HX1.out
      go_wp2_with fail
      refine (HFD.out _ HB1.out).mono ?_
      rintro x w2 ⟨rfl, hb2⟩
      have HB2 := Lib.hid (HB1.out.trans (hb2.mono HB1.out.size))
      clear hb2 a0 a1 a2 a3 a4
      go_wp2
      go_ret2
      exact RPutIs.no 5 HI.out (by decide) HB2.out
    | some y =>
      have hik : isK os (k1, k2, k3) = true := by rw [HKF.out, hf]; rfl
      obtain ⟨g1, g2, g3, _⟩ := (fndK_goes HG.out.srt (k1, k2, k3)).2 y hf
      have hlt := (List.getElem?_eq_some_iff.1 g1).1
      have HPT := Lib.hid (fun W (hW : Below w.heap.size w W) => r_putO Q R r A c os last KL ⟨(k1, k2, k3), v, .slice Au cs.length cu⟩ cs (fndK os (k1, k2, k3)) 1 W (HR.out.below hW) (fun k hk => HQ.out k (Nat.le_trans hW.size hk)) (HRW.out.keep (Below.keepQ hW R)) HRR.out (by omega) (by omega) hv1 hv2)
      unfold oV at HPT
      simp only at HPT
      have HI := Lib.hid (HUP.out.trans (show _ = (if v = y.v then 0 else 15 : Int) by simp [hf]))
      have HY := Lib.hid g1
      rw [hik] at HFD
      clear hik hf HKF HUP g1 g2 g3
      generalize fndK os (k1, k2, k3) = p at *
      go_enter Tryz.func39, Tryz.ntmps39
      go_wp2_with fail
      refine HMY.out.mono ?_
      rintro x w1 ⟨rfl, hb1⟩
      have HB1 := Lib.hid (HON.out.trans (hb1.mono (by simp)))
      have HX1 := Lib.hid ((hb1.block w.heap.size (by simp)).trans HXO.out)
      clear hb1 a0 a1 a2 a3 a4
      obtain ⟨a0, a1, a2, a3, a4⟩ := five_cells HX1.out
      go_wp2_with fail
      refine (HFD.out _ HB1.out).mono ?_
      rintro x w2 ⟨rfl, hb2⟩
      have HB2 := Lib.hid (HB1.out.trans (hb2.mono HB1.out.size))
      have HX2 := Lib.hid ((hb2.block w.heap.size (Array.getElem?_eq_some_iff.1 HX1.out).1).trans HX1.out)
      clear hb2 a0 a1 a2 a3 a4
      obtain ⟨a0, a1, a2, a3, a4⟩ := five_cells HX2.out
      have HR2 := Lib.hid (HR.out.below HB2.out)
      obtain ⟨a, u', rfl, hu, d0, d1, d2, d3, d4⟩ := HR2.out.at p y HY.out
      have q1 : w2.cell? ⟨r, 1, none⟩ = some (.slice (some a) os.length c) := by
        obtain ⟨kv, es, h1, _⟩ := HR2.out
        exact cell_of_row w2 r 1 _ _ _ h1
      have hp1 : (p : Int) < (os.length : Int) := by omega
      have hp0 : (0 : Int) ≤ (p : Int) := by omega
      clear hu d0 d1 d2 d4
      by_cases hv : v = y.v
      · have hg1 : (y.v != v) = false := by simp [hv]
        have HI0 := Lib.hid (HI.out.trans (if_pos hv))
        clear hv
        generalize y.v = yv at *
        go_wp2_with fail
        go_quiet (fail)
        have b := fun n => five_cells (W := w2.drewN n) (T := 25) HX2.out
        have HB3 := Lib.hid (fun n => below_drewN' HB2.out n)
        have b0 := fun n => (b n).1
        have b1 := fun n => (b n).2.1
        have b2 := fun n => (b n).2.2.1
        have b3 := fun n => (b n).2.2.2.1
        have b4 := fun n => (b n).2.2.2.2
        clear b q1 d3
        go_wp2_with fail
        refine (HPT.out _ (HB3.out _)).mono ?_
        rintro x w3 ⟨rfl, hrf, ho3⟩
        have HRF := Lib.hid hrf
        have HO3 := Lib.hid ((Only.of_below (g := r) (HB3.out _) (Nat.le_of_lt hrl)).trans ho3)
        clear hrf ho3
        go_wp2
        go_ret2
        exact .inr ⟨HI0.out, rfl, HRF.out, HO3.out⟩
      · have hg1 : (y.v != v) = true := by simp; exact fun e => hv e.symm
        have HI15 := Lib.hid (HI.out.trans (if_neg hv))
        clear hv
        generalize y.v = yv at *
        go_wp2_with fail
        go_quiet (fail)
        go_wp2
        go_ret2
        exact RPutIs.no 15 HI15.out (by decide) (below_drewN' HB2.out _)
  · have hg0 : (m != 0) = true := by simpa using hm0
    have HI := Lib.hid (HUP.out.trans (if_pos hm0))
    have HM0 := Lib.hid hm0
    clear hm0
    go_enter Tryz.func39, Tryz.ntmps39
    go_wp2_with fail
    refine HMY.out.mono ?_
    rintro x w1 ⟨rfl, hb1⟩
    have HB1 := Lib.hid (HON.out.trans (hb1.mono (by simp)))
    clear hb1
    go_wp2
    go_ret2
    exact RPutIs.no m HI.out HM0.out HB1.out
end
section
open Go.RowKit Go.Maps

theorem fndR_some {KL : List Sc} {os : List Ob} {k : Ky} (h : (findS KL k.1).isSome = true) : fndR KL os k = if (findB os k).isSome = true then 0 else 5 := by
  unfold fndR
  rw [if_pos h]
theorem nil_row (w : World) (Q : Nat → Prop) : IsRow w Q (.slice none 0 0) [] := ⟨by decide, none, 0, rfl, fun _ => rfl, fun i x hi => by simp at hi⟩

set_option maxRecDepth 100000 in
set_option maxHeartbeats 4000000 in
theorem r_getO (Q : Nat → Prop) (r : Nat) (A : Option Addr) (c : Nat) (os : List Ob) (last : Int) (KL : List Sc) (k : Ky) (w : World) (hR : RefO w Q r A c os last KL) (hg : GoodO os) :
    Calls Tryz.prog 81 #[.pointer (some ⟨r, 0, none⟩), .string k.1, .string k.2.1, .string k.2.2] w fun x w' => ∃ u, x = .returned (.tuple #[oV ⟨(gotO (if (findS KL k.1).isSome = true then findB os k else none)).key, (gotO (if (findS KL k.1).isSome = true then findB os k else none)).v, u⟩, .int .i64 (fndR KL os k)]) ∧ IsRow w' Q u (gotO (if (findS KL k.1).isSome = true then findB os k else none)).c ∧ Below w.heap.size w w' := by
  obtain ⟨k1, k2, k3⟩ := k
  simp only
  have hfew := hg.few
  have hrl := hR.lt
  have HR := Lib.hid hR
  have hon := one_new w (.cells #[.string ⟨#[]⟩, .string ⟨#[]⟩, .string ⟨#[]⟩, .int .i64 0, .slice none 0 0] 25)
  have HON := Lib.hid hon
  have HX := Lib.hid (World.alloc_heap_new w (.cells #[.string ⟨#[]⟩, .string ⟨#[]⟩, .string ⟨#[]⟩, .int .i64 0, .slice none 0 0] 25))
  obtain ⟨kv, es, h1, h2, _⟩ := hR
  have HQ0 := Lib.hid (fun W (hW : Below w.heap.size w W) => show W.cell? ⟨r, 0, none⟩ = some kv from cell_of_row W r 0 _ _ _ ((hW.block r hrl).trans h1))
  have HQ1 := Lib.hid (fun W (hW : Below w.heap.size w W) => show W.cell? ⟨r, 1, none⟩ = some (.slice A os.length c) from cell_of_row W r 1 _ _ _ ((hW.block r hrl).trans h1))
  have HFK := Lib.hid (fun W (hW : Below w.heap.size w W) => r_findK Q kv KL k1 W (h2.below hW))
  have HFD := Lib.hid (fun W (hW : Below w.heap.size w W) => r_findO Q r A c os last KL k1 k2 k3 0 none 0 0 W (HR.out.below hW) (by omega) hg.keys)
  have HG := Lib.hid hg
  have q0 := HQ0.out _ hon
  clear hon h1 h2 hg
  rcases Bool.eq_false_or_eq_true (findS KL k1).isSome with hq | hq
  · have hc : codeS (findS KL k1) = 0 := by unfold codeS; rw [if_pos hq]
    rw [hc] at HFK
    have hgl : (if (findS KL k1).isSome = true then findB os (k1, k2, k3) else none) = findB os (k1, k2, k3) := if_pos hq
    have HFR := Lib.hid (fndR_some (os := os) (k := (k1, k2, k3)) hq)
    rw [hgl]
    clear hq hc hgl
    cases hf : findB os (k1, k2, k3) with
    | none =>
      have hik : isK os (k1, k2, k3) = false := by rw [isK_find HG.out.srt, hf]; rfl
      have HE := Lib.hid (show fndR KL os (k1, k2, k3) = 5 by rw [HFR.out, hf]; rfl)
      rw [hik] at HFD
      clear hik hf HFR
      generalize fndR KL os (k1, k2, k3) = er at *
      generalize fndK os (k1, k2, k3) = p at *
      go_enter Tryz.func81, Tryz.ntmps81
      go_wp2_with fail
      refine (HFK.out _ HON.out).mono ?_
      rintro x w1 ⟨nm, A1, n1, c1, rfl, hb1⟩
      have HB1 := Lib.hid ((HON.out.trans (hb1.mono (by simp))).trans ((one_new w1 (.cells #[.string nm, .slice A1 n1 c1] 126)).mono (HON.out.trans (hb1.mono (by simp))).size))
      have hx1 := (hb1.block w.heap.size (by simp)).trans HX.out
      have HX1 := Lib.hid (((one_new w1 (.cells #[.string nm, .slice A1 n1 c1] 126)).block w.heap.size (Array.getElem?_eq_some_iff.1 hx1).1).trans hx1)
      clear hb1 hx1 q0
      go_wp2_with fail
      refine (HFD.out _ HB1.out).mono ?_
      rintro x w2 ⟨rfl, hb2⟩
      have HB2 := Lib.hid (HB1.out.trans (hb2.mono HB1.out.size))
      have hx2 := (hb2.block w.heap.size (Array.getElem?_eq_some_iff.1 HX1.out).1).trans HX1.out
      have HX2 := Lib.hid hx2
      obtain ⟨b0, b1, b2, b3, b4⟩ := five_cells hx2
      obtain ⟨g0, g1, g2, g3, g4⟩ := five_thaw hx2
      clear hb2 hx2
      go_wp2
      have hfb := set5_below HB2.out (Nat.le_refl w.heap.size) (.string ⟨#[]⟩) (.string ⟨#[]⟩) (.string ⟨#[]⟩) (.int .i64 0) (.slice none 0 0)
      obtain ⟨r0, r1, r2, r3, r4⟩ := five_cells (set5_heap HX2.out (.string ⟨#[]⟩) (.string ⟨#[]⟩) (.string ⟨#[]⟩) (.int .i64 0) (.slice none 0 0))
      unfold set5 at r0 r1 r2 r3 r4 hfb
      refine bodyPost_ret (v := .tuple #[.agg #[.string ⟨#[]⟩, .string ⟨#[]⟩, .string ⟨#[]⟩, .int .i64 0, .slice none 0 0], .int .i64 5]) (by simp [results, Tryz.results81, r0, r1, r2, r3, r4, go_sem]) rfl ⟨.slice none 0 0, ?_, nil_row _ _, hfb⟩
      rw [HE.out]
      rfl
    | some y =>
      have hik : isK os (k1, k2, k3) = true := by rw [isK_find HG.out.srt, hf]; rfl
      have HE := Lib.hid (show fndR KL os (k1, k2, k3) = 0 by rw [HFR.out, hf]; rfl)
      obtain ⟨g1, g2, g3, _⟩ := (fndK_goes HG.out.srt (k1, k2, k3)).2 y hf
      have hlt := (List.getElem?_eq_some_iff.1 g1).1
      have HY := Lib.hid g1
      rw [hik] at HFD
      clear hik hf HFR g1 g2 g3
      generalize fndR KL os (k1, k2, k3) = er at *
      generalize fndK os (k1, k2, k3) = p at *
      go_enter Tryz.func81, Tryz.ntmps81
      go_wp2_with fail
      refine (HFK.out _ HON.out).mono ?_
      rintro x w1 ⟨nm, A1, n1, c1, rfl, hb1⟩
      have HB1 := Lib.hid ((HON.out.trans (hb1.mono (by simp))).trans ((one_new w1 (.cells #[.string nm, .slice A1 n1 c1] 126)).mono (HON.out.trans (hb1.mono (by simp))).size))
      have hx1 := (hb1.block w.heap.size (by simp)).trans HX.out
      have HX1 := Lib.hid (((one_new w1 (.cells #[.string nm, .slice A1 n1 c1] 126)).block w.heap.size (Array.getElem?_eq_some_iff.1 hx1).1).trans hx1)
      clear hb1 hx1 q0
      go_wp2_with fail
      refine (HFD.out _ HB1.out).mono ?_
      rintro x w2 ⟨rfl, hb2⟩
      have HB2 := Lib.hid (HB1.out.trans (hb2.mono HB1.out.size))
      have hx2 := (hb2.block w.heap.size (Array.getElem?_eq_some_iff.1 HX1.out).1).trans HX1.out
      have HX2 := Lib.hid hx2
      obtain ⟨b0, b1, b2, b3, b4⟩ := five_cells hx2
      obtain ⟨g0, g1, g2, g3, g4⟩ := five_thaw hx2
      have q1 := HQ1.out w2 HB2.out
      obtain ⟨a, u, rfl, hu, d0', d1', d2', d3', d4'⟩ := HR.out.at p y HY.out
      have d0 := cell_up d0' HB2.out
      have d1 := cell_up d1' HB2.out
      have d2 := cell_up d2' HB2.out
      have d3 := cell_up d3' HB2.out
      have d4 := cell_up d4' HB2.out
      clear d0' d1' d2' d3' d4'
      have hul := hu
      obtain ⟨_, Au, cu, rfl, _, _⟩ := hul
      have HU := Lib.hid hu
      have hp1 : (p : Int) < (os.length : Int) := by omega
      have hp0 : (0 : Int) ≤ (p : Int) := by omega
      obtain ⟨⟨y1, y2, y3⟩, yv, yc⟩ := y
      simp only at d0 d1 d2 d3 d4 HU
      have HUF := Lib.hid (show IsRow (set5 w2 w.heap.size (.string y1) (.string y2) (.string y3) (.int .i64 yv) (.slice Au yc.length cu)) Q (.slice Au yc.length cu) yc from
        ((hu.imp (Q' := fun k => Q k ∧ k < w.heap.size) fun k hk hq => ⟨hq, hk⟩).keep fun k hq _ => (set5_far (by omega) _ _ _ _ _).trans (HB2.out.block k hq.2)).imp fun k _ hq => hq.1)
      clear hb2 hx2 hu
      generalize yc.length = nc at *
      go_wp2
      have hfb := set5_below HB2.out (Nat.le_refl w.heap.size) (.string y1) (.string y2) (.string y3) (.int .i64 yv) (.slice Au nc cu)
      obtain ⟨r0, r1, r2, r3, r4⟩ := five_cells (set5_heap HX2.out (.string y1) (.string y2) (.string y3) (.int .i64 yv) (.slice Au nc cu))
      have huf := HUF.out
      unfold set5 at r0 r1 r2 r3 r4 hfb huf
      refine bodyPost_ret (v := .tuple #[.agg #[.string y1, .string y2, .string y3, .int .i64 yv, .slice Au nc cu], .int .i64 0]) (by simp [results, Tryz.results81, r0, r1, r2, r3, r4, go_sem]) rfl ⟨.slice Au nc cu, ?_, huf, hfb⟩
      rw [HE.out]
      rfl
  · have hc : codeS (findS KL k1) = 20 := by unfold codeS; rw [hq]; rfl
    rw [hc] at HFK
    have hgl : (if (findS KL k1).isSome = true then findB os (k1, k2, k3) else none) = none := by rw [hq]; rfl
    have HE := Lib.hid (show fndR KL os (k1, k2, k3) = 20 by unfold fndR; rw [hq]; rfl)
    rw [hgl]
    clear hq hc hgl
    generalize fndR KL os (k1, k2, k3) = er at *
    go_enter Tryz.func81, Tryz.ntmps81
    go_wp2_with fail
    refine (HFK.out _ HON.out).mono ?_
    rintro x w1 ⟨nm, A1, n1, c1, rfl, hb1⟩
    have HB1 := Lib.hid ((HON.out.trans (hb1.mono (by simp))).trans ((one_new w1 (.cells #[.string nm, .slice A1 n1 c1] 126)).mono (HON.out.trans (hb1.mono (by simp))).size))
    have hx1 := (hb1.block w.heap.size (by simp)).trans HX.out
    have HX1 := Lib.hid (((one_new w1 (.cells #[.string nm, .slice A1 n1 c1] 126)).block w.heap.size (Array.getElem?_eq_some_iff.1 hx1).1).trans hx1)
    obtain ⟨b0, b1, b2, b3, b4⟩ := five_cells HX1.out
    obtain ⟨g0, g1, g2, g3, g4⟩ := five_thaw HX1.out
    clear hb1 hx1 q0
    go_upto_region 3 with (fail)
    generalize (w1.alloc (.cells #[.string nm, .slice A1 n1 c1] 126)) = wq at *
    go_wp2
    have hfb := set5_below HB1.out (Nat.le_refl w.heap.size) (.string ⟨#[]⟩) (.string ⟨#[]⟩) (.string ⟨#[]⟩) (.int .i64 0) (.slice none 0 0)
    obtain ⟨r0, r1, r2, r3, r4⟩ := five_cells (set5_heap HX1.out (.string ⟨#[]⟩) (.string ⟨#[]⟩) (.string ⟨#[]⟩) (.int .i64 0) (.slice none 0 0))
    unfold set5 at r0 r1 r2 r3 r4 hfb
    refine bodyPost_ret (v := .tuple #[.agg #[.string ⟨#[]⟩, .string ⟨#[]⟩, .string ⟨#[]⟩, .int .i64 0, .slice none 0 0], .int .i64 20]) (by simp [results, Tryz.results81, r0, r1, r2, r3, r4, go_sem]) rfl ⟨.slice none 0 0, ?_, nil_row _ _, hfb⟩
    rw [HE.out]
    rfl
end
section
open Go.RowKit Go.Maps

/-- What Delete of the document leaves. -/
def RDelIs (w : World) (Q : Nat → Prop) (r : Nat) (os' : List Ob) (last : Int) (KL : List Sc) (err : Int) (x : Ending) (w' : World) : Prop :=
  x = .returned (.int .i64 err) ∧ ((err ≠ 0 ∧ Below w.heap.size w w') ∨ (err = 0 ∧ (∃ A' c', RefO w' Q r A' c' os' last KL) ∧ Only r w w'))
/-- Another list of one's own in the store. -/
theorem RefO.relist {w9 : World} {Q : Nat → Prop} {r n c base : Nat} {A : Option Addr} {kv v9 : Value} {last : Int} {KL : List Sc} {es' : List OE} {os' : List Ob} (hr9 : w9.heap[r]? = some (.cells #[kv, .slice A n c, .int .i64 last] 77 (0, 0))) (hk : IsKinds w9 Q kv KL) (hq : ¬ Q r) (hes : ObR w9 Q es' os') (hown : OwnO w9 base v9 es') (hbase : ∀ k, base ≤ k → Q k) :
    ∃ A' c', RefO (w9.setCell ⟨r, 1, none⟩ v9) Q r A' c' os' last KL := by
  obtain ⟨A', c', rfl, hA', hcl', hcq⟩ := hown.cells
  have hl := hes.len
  have hother : ∀ k, k ≠ r → (w9.setCell ⟨r, 1, none⟩ (.slice A' es'.length c')).heap[k]? = w9.heap[k]? := fun k hk => Below.heap_setCell w9 ⟨r, 1, none⟩ _ k hk
  have hkq : KeepQ Q w9 (w9.setCell ⟨r, 1, none⟩ (.slice A' es'.length c')) := fun k hq' _ => hother k (fun e => hq (e ▸ hq'))
  have hrs := heap_setCell_same w9 r 1 _ _ (.slice A' es'.length c') hr9
  refine ⟨A', c', kv, es', ?_, hk.keep hkq, hq, hes.keep hkq, (hcq.imp (Q' := Q) fun k _ h => hbase k h.1).keep hkq, hA', by omega⟩
  rw [hrs, hl]
  rfl

set_option maxRecDepth 100000 in
set_option maxHeartbeats 4000000 in
theorem r_deleteO (Q : Nat → Prop) (r : Nat) (A : Option Addr) (c : Nat) (os : List Ob) (last : Int) (KL : List Sc) (k : Ky) (v : Int) (w : World) (hR : RefO w Q r A c os last KL) (hg : GoodO os) (hQ : ∀ j, w.heap.size ≤ j → Q j) :
    Calls Tryz.prog 41 #[.pointer (some ⟨r, 0, none⟩), .string k.1, .string k.2.1, .string k.2.2, .int .i64 v] w (RDelIs w Q r (os.take (fndK os k) ++ os.drop (fndK os k + 1)) last KL (delR KL os k v)) := by
  obtain ⟨k1, k2, k3⟩ := k
  have hfew := hg.few
  have hrl := hR.lt
  have HR := Lib.hid hR
  have HG := Lib.hid hg
  have HQ := Lib.hid hQ
  have HGT := Lib.hid (r_getO Q r A c os last KL (k1, k2, k3) w hR hg)
  simp only at HGT ⊢
  clear hR hg hQ
  by_cases hz : fndR KL os (k1, k2, k3) = 0
  · obtain ⟨y, hy, hy2⟩ := fndR_zero hz
    have hD : delR KL os (k1, k2, k3) v = if v ≠ 0 ∧ v ≠ y.v then 15 else 0 := by unfold delR; rw [if_neg (by rw [hz]; simp), hy]
    simp only at hy2
    rw [hy2, hz] at HGT
    obtain ⟨g1, g2, g3, _⟩ := (fndK_goes HG.out.srt (k1, k2, k3)).2 y hy
    have hlt := (List.getElem?_eq_some_iff.1 g1).1
    have hik : isK os (k1, k2, k3) = true := by rw [isK_find HG.out.srt, hy]; rfl
    obtain ⟨⟨y1, y2, y3⟩, yv, yc⟩ := y
    simp only [Prod.mk.injEq] at g2
    obtain ⟨rfl, rfl, rfl⟩ := g2
    have HFD := Lib.hid (fun W (A2 : Option Addr) (n2 c2 : Nat) (hW : Below w.heap.size w W) => r_findO Q r A c os last KL y1 y2 y3 yv A2 n2 c2 W (HR.out.below hW) (by omega) HG.out.keys)
    rw [hik] at HFD
    have HD := Lib.hid hD
    unfold gotO oV at HGT
    simp only at HGT
    obtain ⟨kv, es, h1, h2, h3, h4, h5, h6, h7⟩ := HR.out
    have H1 := Lib.hid h1
    have H2 := Lib.hid h2
    have H3 := Lib.hid h3
    have H4 := Lib.hid h4
    have H5 := Lib.hid h5
    have hlen := h4.len
    have HONE := Lib.hid h4.one
    generalize delR KL os (y1, y2, y3) v = er at *
    generalize fndK os (y1, y2, y3) = p at *
    have HLEN := Lib.hid hlen
    have HTK := Lib.hid (show p = (es.take p).length by rw [List.length_take]; omega)
    have HDK := Lib.hid (show os.length - (p + 1) = (es.drop (p + 1)).length by rw [List.length_drop, hlen])
    have HL50 := Lib.hid (show (es.take p).length + (es.drop (p + 1)).length = p + (os.length - (p + 1)) by rw [← HTK.out, ← HDK.out])
    have FIN : Hid (∀ (A9 : Option Addr) (c9 base : Nat) (w9 : World), w.heap.size ≤ base → OwnO w9 base (.slice A9 (p + (os.length - (p + 1))) c9) (es.take p ++ es.drop (p + 1)) → Below w.heap.size w w9 →
      w9.frozen? ⟨r, 1, none⟩ = false ∧ w9.cell? ⟨r, 1, none⟩ = some (.slice A os.length c) ∧
      ((∃ A' c', RefO (w9.setCell ⟨r, 1, none⟩ (.slice A9 (p + (os.length - (p + 1))) c9)) Q r A' c' (os.take p ++ os.drop (p + 1)) last KL) ∧ Only r w (w9.setCell ⟨r, 1, none⟩ (.slice A9 (p + (os.length - (p + 1))) c9)))) := Lib.hid (by
      intro A9 c9 base w9 hbs hown hb
      have hr9 := (hb.block r hrl).trans H1.out
      have hkq := Below.keepQ hb Q
      refine ⟨frozen_of_row w9 r 1 _ _ hr9, cell_of_row w9 r 1 _ _ _ hr9, ?_, ?_⟩
      · exact RefO.relist hr9 (H2.out.keep hkq) H3.out (((H4.out.keep hkq).take p).append ((H4.out.keep hkq).drop (p + 1))) hown (fun k hk => HQ.out k (Nat.le_trans hbs hk))
      · exact ⟨(hb.mono (Nat.le_of_lt hrl)).setCell (p := ⟨r, 1, none⟩) (Nat.le_refl _) _, fun k hk hne => (Below.heap_setCell w9 ⟨r, 1, none⟩ _ k hne).trans (hb.block k hk)⟩)
    clear hz hy hy2 hD hik h1 h2 h3 h4 h5 hlen g1 g3
    go_enter Tryz.func41, Tryz.ntmps41
    go_wp2_with fail
    refine HGT.out.mono ?_
    rintro x w1 ⟨u, rfl, hu, hb1⟩
    obtain ⟨_, Au, cu, rfl, _, _⟩ := hu
    have hon := one_new w1 (.cells #[.string y1, .string y2, .string y3, .int .i64 yv, .slice Au yc.length cu] 25)
    have HB1 := Lib.hid (hb1.trans (hon.mono hb1.size))
    have HX1 := Lib.hid (World.alloc_heap_new w1 (.cells #[.string y1, .string y2, .string y3, .int .i64 yv, .slice Au yc.length cu] 25))
    have hw1 := hb1.size
    generalize yc.length = nc at *
    clear hb1 hon
    go_upto_region 2 with (fail)
    generalize w1.heap.size = H at *
    generalize (w1.alloc (.cells #[.string y1, .string y2, .string y3, .int .i64 yv, .slice Au nc cu] 25)) = w2 at *
    obtain ⟨a0, a1, a2, a3, a4⟩ := five_cells HX1.out
    have hp1 : (p : Int) + 1 ≤ (os.length : Int) := by omega
    have hp0 : (0 : Int) ≤ (p : Int) := by omega
    have hpc : (p : Int) ≤ (c : Int) := by omega
    have hpc1 : (p : Int) + 1 ≤ (c : Int) := by omega
    have hp9 : (p : Int) + 1 ≤ 1000 := by omega
    have main : ∀ Z : Int, Hid (er = 0) → True := fun _ _ => trivial
    clear main
    by_cases hv : v ≠ 0 ∧ v ≠ yv
    · have hg0 : (v != 0) = true := by simpa using hv.1
      have hg1 : (v != yv) = true := by simpa using hv.2
      have HI := Lib.hid (HD.out.trans (if_pos hv))
      clear hv
      go_wp2
      go_ret
      exact ⟨by rw [HI.out]; rfl, .inl ⟨by rw [HI.out]; decide, HB1.out⟩⟩
    · have HI := Lib.hid (HD.out.trans (if_neg hv))
      have hvv : v = 0 ∨ (v ≠ 0 ∧ v = yv) := by
        by_cases h0 : v = 0
        · exact .inl h0
        · refine .inr ⟨h0, ?_⟩
          by_cases h1 : v = yv
          · exact h1
          · exact absurd ⟨h0, h1⟩ hv
      clear hv
      rcases hvv with hv0 | ⟨hv0, hv1⟩
      · have hg0 : (v != 0) = false := by simp [hv0]
        clear hv0
        go_wp2_with fail
        refine (HFD.out _ Au nc cu HB1.out).mono ?_
        rintro x w3 ⟨rfl, hb3⟩
        have HB3 := Lib.hid (HB1.out.trans (hb3.mono HB1.out.size))
        clear hb3 a0 a1 a2 a3 a4
        have k31 : w3.cell? ⟨r, 1, none⟩ = some (.slice A os.length c) := cell_of_row w3 r 1 _ _ _ ((HB3.out.block r hrl).trans H1.out)
        have HC3 := Lib.hid (H5.out.keep (Below.keepQ HB3.out Q))
        go_upto_region 9 with (at_builtin; go_must (refine wp_append_O _ rfl (.tmp 41) (.tmp 47) rfl w3.heap.size _ [] (es.take p) rfl (OwnO.nil _ _) _ A p c rfl HTK.out (HC3.out.takeO p) (HONE.out.take p) (by rw [← HTK.out]; simp; omega) (Nat.le_refl _) ?_; intro v7 w7 hown7 hb7 _ _; rw [List.nil_append] at hown7; have HO7 := Lib.hid hown7; obtain ⟨A7, c7, hv7⟩ := hown7.form; rw [← HTK.out] at hv7; subst hv7; have HB7 := Lib.hid (HB3.out.trans (hb7.mono HB3.out.size)); have HZ7 := Lib.hid hb7.size; clear hown7 hb7))
        clear k31
        have k71 : w7.cell? ⟨r, 1, none⟩ = some (.slice A os.length c) := cell_of_row w7 r 1 _ _ _ ((HB7.out.block r hrl).trans H1.out)
        have HC7 := Lib.hid (H5.out.keep (Below.keepQ HB7.out Q))
        by_cases hcc : c = p + 1
        · have HT8 := Lib.hid (HC7.out.dropO c (p + 1) (by rw [HLEN.out]; exact h7) A (fun a' ha => by rw [if_pos hcc, ha]))
          go_wp2_with (at_builtin; go_must (refine wp_append_O _ rfl (.tmp 50) (.tmp 57) rfl w3.heap.size _ (es.take p) (es.drop (p + 1)) rfl HO7.out _ _ _ _ rfl HDK.out HT8.out (HONE.out.drop _) (by rw [HL50.out]; omega) HZ7.out ?_; intro v9 w9 hown9 hb9 _ _; obtain ⟨A9, c9, hv9⟩ := hown9.form; rw [List.length_append, HL50.out] at hv9; subst hv9; obtain ⟨q1, q2, q3, q4⟩ := FIN.out A9 c9 w3.heap.size w9 HB3.out.size hown9 (HB7.out.trans (hb9.mono HB3.out.size)); have Q3 := Lib.hid q3; have Q4 := Lib.hid q4; clear hown9 hb9 q3 q4))
          go_ret
          exact ⟨by rw [HI.out]; rfl, .inr ⟨HI.out, Q3.out, Q4.out⟩⟩
        · obtain ⟨a, hAa⟩ : ∃ a, A = some a := by
            cases A with
            | none => exact absurd (h6 rfl) (by omega)
            | some a => exact ⟨a, rfl⟩
          subst hAa
          have HT8 := Lib.hid (HC7.out.dropO c (p + 1) (by rw [HLEN.out]; exact h7) (some (a.add ((p + 1) * 5))) (fun a' ha => by injection ha with ha; rw [if_neg hcc, ha]))
          go_wp2_with (at_builtin; go_must (refine wp_append_O _ rfl (.tmp 50) (.tmp 57) rfl w3.heap.size _ (es.take p) (es.drop (p + 1)) rfl HO7.out _ _ _ _ rfl HDK.out HT8.out (HONE.out.drop _) (by rw [HL50.out]; omega) HZ7.out ?_; intro v9 w9 hown9 hb9 _ _; obtain ⟨A9, c9, hv9⟩ := hown9.form; rw [List.length_append, HL50.out] at hv9; subst hv9; obtain ⟨q1, q2, q3, q4⟩ := FIN.out A9 c9 w3.heap.size w9 HB3.out.size hown9 (HB7.out.trans (hb9.mono HB3.out.size)); have Q3 := Lib.hid q3; have Q4 := Lib.hid q4; clear hown9 hb9 q3 q4))
          go_ret
          exact ⟨by rw [HI.out]; rfl, .inr ⟨HI.out, Q3.out, Q4.out⟩⟩
      · have hg0 : (v != 0) = true := by simpa using hv0
        have hg1 : (v != yv) = false := by simp [hv1]
        clear hv0 hv1
        go_wp2_with fail
        refine (HFD.out _ Au nc cu HB1.out).mono ?_
        rintro x w3 ⟨rfl, hb3⟩
        have HB3 := Lib.hid (HB1.out.trans (hb3.mono HB1.out.size))
        clear hb3 a0 a1 a2 a3 a4
        have k31 : w3.cell? ⟨r, 1, none⟩ = some (.slice A os.length c) := cell_of_row w3 r 1 _ _ _ ((HB3.out.block r hrl).trans H1.out)
        have HC3 := Lib.hid (H5.out.keep (Below.keepQ HB3.out Q))
        go_upto_region 9 with (at_builtin; go_must (refine wp_append_O _ rfl (.tmp 41) (.tmp 47) rfl w3.heap.size _ [] (es.take p) rfl (OwnO.nil _ _) _ A p c rfl HTK.out (HC3.out.takeO p) (HONE.out.take p) (by rw [← HTK.out]; simp; omega) (Nat.le_refl _) ?_; intro v7 w7 hown7 hb7 _ _; rw [List.nil_append] at hown7; have HO7 := Lib.hid hown7; obtain ⟨A7, c7, hv7⟩ := hown7.form; rw [← HTK.out] at hv7; subst hv7; have HB7 := Lib.hid (HB3.out.trans (hb7.mono HB3.out.size)); have HZ7 := Lib.hid hb7.size; clear hown7 hb7))
        clear k31
        have k71 : w7.cell? ⟨r, 1, none⟩ = some (.slice A os.length c) := cell_of_row w7 r 1 _ _ _ ((HB7.out.block r hrl).trans H1.out)
        have HC7 := Lib.hid (H5.out.keep (Below.keepQ HB7.out Q))
        by_cases hcc : c = p + 1
        · have HT8 := Lib.hid (HC7.out.dropO c (p + 1) (by rw [HLEN.out]; exact h7) A (fun a' ha => by rw [if_pos hcc, ha]))
          go_wp2_with (at_builtin; go_must (refine wp_append_O _ rfl (.tmp 50) (.tmp 57) rfl w3.heap.size _ (es.take p) (es.drop (p + 1)) rfl HO7.out _ _ _ _ rfl HDK.out HT8.out (HONE.out.drop _) (by rw [HL50.out]; omega) HZ7.out ?_; intro v9 w9 hown9 hb9 _ _; obtain ⟨A9, c9, hv9⟩ := hown9.form; rw [List.length_append, HL50.out] at hv9; subst hv9; obtain ⟨q1, q2, q3, q4⟩ := FIN.out A9 c9 w3.heap.size w9 HB3.out.size hown9 (HB7.out.trans (hb9.mono HB3.out.size)); have Q3 := Lib.hid q3; have Q4 := Lib.hid q4; clear hown9 hb9 q3 q4))
          go_ret
          exact ⟨by rw [HI.out]; rfl, .inr ⟨HI.out, Q3.out, Q4.out⟩⟩
        · obtain ⟨a, hAa⟩ : ∃ a, A = some a := by
            cases A with
            | none => exact absurd (h6 rfl) (by omega)
            | some a => exact ⟨a, rfl⟩
          subst hAa
          have HT8 := Lib.hid (HC7.out.dropO c (p + 1) (by rw [HLEN.out]; exact h7) (some (a.add ((p + 1) * 5))) (fun a' ha => by injection ha with ha; rw [if_neg hcc, ha]))
          go_wp2_with (at_builtin; go_must (refine wp_append_O _ rfl (.tmp 50) (.tmp 57) rfl w3.heap.size _ (es.take p) (es.drop (p + 1)) rfl HO7.out _ _ _ _ rfl HDK.out HT8.out (HONE.out.drop _) (by rw [HL50.out]; omega) HZ7.out ?_; intro v9 w9 hown9 hb9 _ _; obtain ⟨A9, c9, hv9⟩ := hown9.form; rw [List.length_append, HL50.out] at hv9; subst hv9; obtain ⟨q1, q2, q3, q4⟩ := FIN.out A9 c9 w3.heap.size w9 HB3.out.size hown9 (HB7.out.trans (hb9.mono HB3.out.size)); have Q3 := Lib.hid q3; have Q4 := Lib.hid q4; clear hown9 hb9 q3 q4))
          go_ret
          exact ⟨by rw [HI.out]; rfl, .inr ⟨HI.out, Q3.out, Q4.out⟩⟩
  · have hD : delR KL os (k1, k2, k3) v = fndR KL os (k1, k2, k3) := by unfold delR; rw [if_pos hz]
    rw [hD]
    have hgl := fndR_else hz
    simp only at hgl
    rw [hgl] at HGT
    generalize fndR KL os (k1, k2, k3) = er at *
    unfold gotO oV at HGT
    simp only at HGT
    have HZ := Lib.hid hz
    have hg0 : (er != 0) = true := by simpa using hz
    clear hz hD hgl
    go_enter Tryz.func41, Tryz.ntmps41
    go_wp2_with fail
    refine HGT.out.mono ?_
    rintro x w1 ⟨u, rfl, hu, hb1⟩
    obtain ⟨_, Au, cu, rfl, _, _⟩ := hu
    have HB1 := Lib.hid (hb1.trans ((one_new w1 (.cells #[.string ⟨#[]⟩, .string ⟨#[]⟩, .string ⟨#[]⟩, .int .i64 0, .slice Au ([] : List V).length cu] 25)).mono hb1.size))
    clear hb1
    go_wp2
    go_ret
    exact ⟨rfl, .inl ⟨HZ.out, HB1.out⟩⟩
end
end Go.Proofs.YtdhpoaecedpbdaaGreat
