/-
  All of package store; Copy of package store and of the document's store.
  Condition: the objects are ones that can be.
  Both stores side by side: what each call does to them.
  Condition: the objects are ones that can be; versions that fit.
  do of verdererlaw08: an act to both stores.
  Condition: the objects are ones that can be; versions that fit.
  alike of verdererlaw08: both stores have the same objects.
  Condition: the objects are ones that can be.
-/
import Derived.Shelf.SlMaps.Clone
import Derived.Deep.RegionHeld3
import Derived.Outline
import Derived.Test.YtdhpoaecedpbdaaGreatZ26
import Derived.Test.YtdhpoaecedpbdaaGreatZ29
import Derived.Test.YtdhpoaecedpbdaaGreatZ32
import Derived.Test.YtdhpoaecedpbdaaGreatZ33
namespace Go.Proofs.YtdhpoaecedpbdaaGreat
section
open Go.RowKit Go.Maps Go.Shelf

theorem o_all (Q : Nat → Prop) (s b : Nat) (os : List Ob) (last : Int) (KL : List Sc) (kd : ByteArray) (w : World) (hS : StoB w Q s b os last KL) (hg : GoodO os) :
    Calls Tryz.prog 45 #[.pointer (some ⟨s, 0, none⟩), .string kd] w fun e w' => (∃ v zs, e = .returned v ∧ OwnO w' w.heap.size v zs ∧ ObR w' (fun j => w.heap.size ≤ j ∧ v.ownBlock ≠ some j) zs (ofKind os kd)) ∧ Below w.heap.size w w' :=
  o_all0 o_sort Q s b os last KL kd w hS hg

set_option maxRecDepth 100000 in
set_option maxHeartbeats 2000000 in
theorem o_copy (Q : Nat → Prop) (s b : Nat) (os : List Ob) (last : Int) (KL : List Sc) (w : World) (hS : StoB w Q s b os last KL) :
    Calls Tryz.prog 17 #[.pointer (some ⟨s, 0, none⟩)] w fun e w' => ∃ s2, e = .returned (.pointer (some ⟨s2, 0, none⟩)) ∧ StoB w' (fun k => Q k ∧ k < w.heap.size) s2 w.heap.size os last KL ∧ w.heap.size < s2 ∧ Below w.heap.size w w' := by
  have HS := Lib.hid hS
  obtain ⟨kv, D, es, h1, h2, h3, h4, h5, h6, h7, h8, h9⟩ := hS
  have hsl : s < w.heap.size := (Array.getElem?_eq_some_iff.1 h1).1
  have c0 : w.cell? ⟨s, 0, none⟩ = some kv := cell_of_row w s 0 _ _ _ h1
  have c1 : w.cell? ⟨s, 1, none⟩ = some (.map (some b)) := cell_of_row w s 1 _ _ _ h1
  have c2 : w.cell? ⟨s, 2, none⟩ = some (.int .i64 last) := cell_of_row w s 2 _ _ _ h1
  have HC := Lib.hid (AnyW.maps_Clone_owns Tryz.clOb 103 RpO b es.length D w.drew (ownsMapO_block h3 rfl))
  have HKN := Lib.hid (show IsKinds w (fun k => Q k ∧ k < w.heap.size) kv KL from h2.imp fun k hk hq => ⟨hq, hk⟩)
  have HOB := Lib.hid (show ObR w (fun k => Q k ∧ k < w.heap.size) es os from h5.imp fun k hk hq => ⟨hq, hk⟩)
  have HR := Lib.hid h4
  obtain ⟨hkl, Ak, ck, rfl, _⟩ := h2
  have h9 : ∀ W' : World, Below w.heap.size w W' → W'.cell? ⟨s, 0, none⟩ = some (.slice Ak KL.length ck) ∧ W'.cell? ⟨s, 2, none⟩ = some (.int .i64 last) ∧ W'.cell? ⟨s, 1, none⟩ = some (.map (some b)) := fun W' hW => ⟨(hW.cell (p := ⟨s, 0, none⟩) hsl).trans c0, (hW.cell (p := ⟨s, 2, none⟩) hsl).trans c2, (hW.cell (p := ⟨s, 1, none⟩) hsl).trans c1⟩
  have H9 := Lib.hid h9
  clear h1 h3 h4 h5 h9
  generalize KL.length = nk at *
  go_enter Tryz.func17, Tryz.ntmps17
  go_wp2_with fail
  go_region_held3 (fun W : World => W.cell? ⟨s, 0, none⟩ = some (.slice Ak nk ck) ∧ W.cell? ⟨s, 2, none⟩ = some (.int .i64 last) ∧ W.cell? ⟨s, 1, none⟩ = some (.map (some b))) (go_keep)
    (first | (go_at_call 51; refine HC.out.mono ?_; rintro e w1 ⟨rfl, ho, _, hb1⟩; have hb2 := (show Below w.heap.size w w.drew from Below.drew (Below.refl _ _)).trans hb1; have HO := Lib.hid ho; have HB := Lib.hid hb2; obtain ⟨d0, d2, d1⟩ := H9.out w1 hb2; clear ho hb1 hb2))
  go_wp2
  go_ret
  have hl := HO.out.lt
  have hon := one_new w1 (.cells #[.slice Ak nk ck, .map (some w.heap.size), .int .i64 last] 100)
  have hkq : KeepQ (fun k => Q k ∧ k < w.heap.size) w (w1.alloc (.cells #[.slice Ak nk ck, .map (some w.heap.size), .int .i64 last] 100)) := fun k hq hk => (hon.block k (Nat.lt_of_lt_of_le hk HB.out.size)).trans (HB.out.block k hk)
  have hl2 : w.heap.size < w1.heap.size := hl
  refine ⟨w1.heap.size, by simp, ⟨_, D, es, World.alloc_heap_new w1 _, HKN.out.keep hkq, ownsMapO_block HO.out (hon.block _ hl), HR.out, HOB.out.keep hkq, by omega, by simp; omega, fun h => by have := h.2; omega, fun h => by have := h.2; omega⟩, hl2, HB.out.trans (hon.mono HB.out.size)⟩

set_option maxRecDepth 100000 in
set_option maxHeartbeats 2000000 in
theorem r_copyO (Q : Nat → Prop) (r : Nat) (A : Option Addr) (c : Nat) (os : List Ob) (last : Int) (KL : List Sc) (w : World) (hR : RefO w Q r A c os last KL) (hl : os.length ≤ 1000) :
    Calls Tryz.prog 19 #[.pointer (some ⟨r, 0, none⟩)] w fun e w' => ∃ r2 A' c', e = .returned (.pointer (some ⟨r2, 0, none⟩)) ∧ RefO w' (fun k => (Q k ∧ k < w.heap.size) ∨ (w.heap.size ≤ k ∧ k ≠ r2)) r2 A' c' os last KL ∧ w.heap.size ≤ r2 ∧ Below w.heap.size w w' := by
  have hrl := hR.lt
  obtain ⟨kv, es, h1, h2, h3, h4, h5, h6, h7⟩ := hR
  have c0 : w.cell? ⟨r, 0, none⟩ = some kv := cell_of_row w r 0 _ _ _ h1
  have c1 : w.cell? ⟨r, 1, none⟩ = some (.slice A os.length c) := cell_of_row w r 1 _ _ _ h1
  have c2 : w.cell? ⟨r, 2, none⟩ = some (.int .i64 last) := cell_of_row w r 2 _ _ _ h1
  have H1 := Lib.hid h1
  have H2 := Lib.hid h2
  have H4 := Lib.hid h4
  have H5 := Lib.hid h5
  have HLEN := Lib.hid h4.len
  obtain ⟨hkl, Ak, ck, rfl, _⟩ := h2
  generalize KL.length = nk at *
  clear h1 h4 h5
  go_enter Tryz.func19, Tryz.ntmps19
  go_wp2_with fail
  go_region
  all_goals
    go_wp2_with fail
    have hon := one_new w (.cells #[.slice Ak nk ck, .slice none 0 0, .int .i64 last] 77)
    have hx : (w.alloc (.cells #[.slice Ak nk ck, .slice none 0 0, .int .i64 last] 77)).drew.heap[w.heap.size]? = some (.cells #[.slice Ak nk ck, .slice none 0 0, .int .i64 last] 77 (0, 0)) := World.alloc_heap_new w _
    have hb : Below w.heap.size w (w.alloc (.cells #[.slice Ak nk ck, .slice none 0 0, .int .i64 last] 77)).drew := hon.drew
    have hz : (w.alloc (.cells #[.slice Ak nk ck, .slice none 0 0, .int .i64 last] 77)).drew.heap.size = w.heap.size + 1 := by simp
    have HX := Lib.hid hx
    have HB := Lib.hid hb
    have HZ := Lib.hid hz
    clear hon hx hb hz c0 c1 c2
    generalize (w.alloc (.cells #[.slice Ak nk ck, .slice none 0 0, .int .i64 last] 77)).drew = w2 at *
    have hsz : w.heap.size + 1 ≤ w2.heap.size := by rw [HZ.out]; exact Nat.le_refl _
    have d1 : w2.cell? ⟨r, 1, none⟩ = some (.slice A os.length c) := cell_of_row w2 r 1 _ _ _ ((HB.out.block r hrl).trans H1.out)
    have e1 : w2.cell? ⟨w.heap.size, 1, none⟩ = some (.slice none 0 0) := cell_of_row w2 w.heap.size 1 _ _ _ HX.out
    have f1 : w2.frozen? ⟨w.heap.size, 1, none⟩ = false := frozen_of_row w2 w.heap.size 1 _ _ HX.out
    have HC := Lib.hid (H5.out.keep (w' := w2.drew) (Below.keepQ HB.out.drew Q))
    go_region_law
      ((refine step_append_O _ (by rfl) _ _ (by rfl) (w.heap.size + 1) _ [] es (by rfl) (OwnO.nil _ _) Q A os.length c (by rfl) (by rw [HLEN.out]) (by exact HC.out) H4.out.one (by simp; rw [HLEN.out]; omega) (by exact hsz) ?_; intro v' w5 hown' hb5 _ _; rw [List.nil_append] at hown'; obtain ⟨A5, c5, hv5⟩ := hown'.form; subst hv5; have hx5 := (hb5.block w.heap.size (Nat.lt_succ_self _)).trans HX.out; have e5 : w5.cell? ⟨w.heap.size, 1, none⟩ = some (.slice none 0 0) := cell_of_row w5 w.heap.size 1 _ _ _ hx5; have f5 := frozen_of_row w5 w.heap.size 1 _ _ hx5; have HO5 := Lib.hid hown'; have HB5 := Lib.hid hb5; have HX5 := Lib.hid hx5; clear hown' hb5 hx5))
    all_goals
      go_wp2
      go_ret
      have hb5 : Below w.heap.size w w5 := HB.out.drew.trans (HB5.out.mono (Nat.le_succ _))
      have hkq : KeepQ (fun k => Q k ∧ k < w.heap.size) w w5 := Below.keepQ hb5 _
      obtain ⟨A', c', hf⟩ := RefO.relist (Q := fun k => (Q k ∧ k < w.heap.size) ∨ (w.heap.size ≤ k ∧ k ≠ w.heap.size)) HX5.out (((H2.out.imp (Q' := fun k => Q k ∧ k < w.heap.size) fun k hk hq => ⟨hq, hk⟩).keep hkq).imp fun k _ hq => .inl hq) (fun h => by rcases h with h | h <;> omega)
        (((H4.out.imp (Q' := fun k => Q k ∧ k < w.heap.size) fun k hk hq => ⟨hq, hk⟩).keep hkq).imp fun k _ hq => .inl hq) HO5.out (fun k hk => .inr ⟨by omega, by omega⟩)
      exact ⟨w.heap.size, A', c', by simp, hf, Nat.le_refl _, hb5.setCell (p := ⟨w.heap.size, 1, none⟩) (Nat.le_refl _) _⟩
end
section
open Go.RowKit Go.Maps

def numR (last er : Int) : Int := if er = 0 then last + 1 else 0
def lastR (last er : Int) : Int := if er = 0 then last + 1 else last
/-- Of what was there, blocks s, b and r alone may have changed. -/
def O3 (s b r : Nat) (w w' : World) : Prop := Below 0 w w' ∧ ∀ k, k < w.heap.size → k ≠ s → k ≠ b → k ≠ r → w'.heap[k]? = w.heap[k]?
theorem O3.trans {s b r : Nat} {w w1 w2 : World} (h1 : O3 s b r w w1) (h2 : O3 s b r w1 w2) : O3 s b r w w2 :=
  ⟨h1.1.trans h2.1, fun k hk hs hb hr => (h2.2 k (Nat.lt_of_lt_of_le hk h1.1.size) hs hb hr).trans (h1.2 k hk hs hb hr)⟩
theorem O3.of {s b r : Nat} {w w' : World} (hb : Below w.heap.size w w') : O3 s b r w w' := ⟨hb.mono (Nat.zero_le _), fun k hk _ _ _ => hb.block k hk⟩
theorem O3.ofS {s b r : Nat} {w w' : World} (h : OnlyS s b w w') : O3 s b r w w' := ⟨h.1, fun k hk hs hb _ => h.2 k hk hs hb⟩
theorem O3.ofR {s b r : Nat} {w w' : World} (h : Only r w w') : O3 s b r w w' := ⟨h.1.mono (Nat.zero_le _), fun k hk _ _ hr => h.2 k hk hr⟩
theorem O3.below {s b r h : Nat} {w w' : World} (ho : O3 s b r w w') (hs : h ≤ s) (hb : h ≤ b) (hr : h ≤ r) (hw : h ≤ w.heap.size) : Below h w w' := by
  obtain ⟨h1, h2⟩ := ho
  exact ⟨h1.os, h1.tape, h1.output, h1.size, fun k hk => h2 k (by omega) (by omega) (by omega) (by omega)⟩
theorem O3.keepQ {s b r : Nat} {w w' : World} {Q : Nat → Prop} (h : O3 s b r w w') (hs : ¬ Q s) (hb : ¬ Q b) (hr : ¬ Q r) : KeepQ Q w w' := fun k hq hk => h.2 k hk (fun e => hs (e ▸ hq)) (fun e => hb (e ▸ hq)) (fun e => hr (e ▸ hq))

/-! ### one call, whatever it answers -/
theorem o_insertD (Q R : Nat → Prop) (s b : Nat) (os : List Ob) (last : Int) (KL : List Sc) (e : OE) (c : List V) (w : World) (hS : StoB w Q s b os last KL) (hg : GoodO os) (hQ : ∀ k, w.heap.size ≤ k → Q k) (hr : IsRow w R e.u c) (hRs : ¬ R s) (hk : kOk e.key) (hv1 : -1000000000 ≤ last) (hv2 : last ≤ 1000000000) :
    Calls Tryz.prog 36 #[.pointer (some ⟨s, 0, none⟩), oV e] w fun x w' => x = .returned (.tuple #[.int .i64 (numR last (insR KL os e.key c)), .int .i64 (insR KL os e.key c)]) ∧ StoB w' Q s b (insO KL os e.key c last) (lastR last (insR KL os e.key c)) KL ∧ OnlyS s b w w' := by
  have hfew := hg.few
  refine (o_insert Q R s b os last KL e c (fndK os e.key) w hS hQ hr hRs hk (fndK_le _ _) (by omega) hv1 hv2).mono ?_
  rintro x w' (⟨h0, rfl, hb⟩ | ⟨h0, rfl, h1, h2⟩)
  · unfold numR lastR insO
    rw [if_neg h0, if_neg h0, if_neg h0]
    exact ⟨rfl, hS.below hb, OnlyS.of hb⟩
  · unfold numR lastR insO
    rw [if_pos h0, if_pos h0, if_pos h0, h0]
    exact ⟨rfl, h1, h2⟩
theorem r_insertD (Q R : Nat → Prop) (r : Nat) (os : List Ob) (last : Int) (KL : List Sc) (e : OE) (c : List V) (w : World) (hR : ∃ A c, RefO w Q r A c os last KL) (hg : GoodO os) (hQ : ∀ k, w.heap.size ≤ k → Q k) (hr : IsRow w R e.u c) (hRr : ¬ R r) (hv1 : -1000000000 ≤ last) (hv2 : last ≤ 1000000000) :
    Calls Tryz.prog 37 #[.pointer (some ⟨r, 0, none⟩), oV e] w fun x w' => x = .returned (.tuple #[.int .i64 (numR last (insR KL os e.key c)), .int .i64 (insR KL os e.key c)]) ∧ (∃ A c', RefO w' Q r A c' (insO KL os e.key c last) (lastR last (insR KL os e.key c)) KL) ∧ Only r w w' := by
  obtain ⟨A, ca, hR⟩ := hR
  refine (r_insertO Q R r A ca os last KL e c w hR hg hQ hr hRr hv1 hv2).mono ?_
  rintro x w' (⟨h0, rfl, hb⟩ | ⟨h0, rfl, h1, h2⟩)
  · unfold numR lastR insO
    rw [if_neg h0, if_neg h0, if_neg h0]
    exact ⟨rfl, ⟨_, _, hR.below hb⟩, Only.of_below hb (Nat.le_of_lt hR.lt)⟩
  · unfold numR lastR insO
    rw [if_pos h0, if_pos h0, if_pos h0, h0]
    exact ⟨rfl, h1, h2⟩
theorem o_updateD (Q R : Nat → Prop) (s b : Nat) (os : List Ob) (last : Int) (KL : List Sc) (e : OE) (c : List V) (w : World) (hS : StoB w Q s b os last KL) (hg : GoodO os) (hQ : ∀ k, w.heap.size ≤ k → Q k) (hr : IsRow w R e.u c) (hRs : ¬ R s) (hk : kOk e.key) (hv1 : -1000000000 ≤ last) (hv2 : last ≤ 1000000000) :
    Calls Tryz.prog 38 #[.pointer (some ⟨s, 0, none⟩), oV e] w fun x w' => x = .returned (.tuple #[.int .i64 (numR last (updR KL os e.key e.v c)), .int .i64 (updR KL os e.key e.v c)]) ∧ StoB w' Q s b (updO KL os e.key e.v c last) (lastR last (updR KL os e.key e.v c)) KL ∧ OnlyS s b w w' := by
  have hfew := hg.few
  refine (o_update Q R s b os last KL e c (fndK os e.key) w hS hQ hr hRs hk (fun x hx => ⟨fndK_le _ _, x, ((fndK_goes hg.srt e.key).2 x hx).1, ((fndK_goes hg.srt e.key).2 x hx).2.1⟩) (by omega) hv1 hv2).mono ?_
  rintro x w' (⟨h0, rfl, hb⟩ | ⟨h0, rfl, h1, h2⟩)
  · unfold numR lastR updO
    rw [if_neg h0, if_neg h0, if_neg h0]
    exact ⟨rfl, hS.below hb, OnlyS.of hb⟩
  · unfold numR lastR updO
    rw [if_pos h0, if_pos h0, if_pos h0, h0]
    exact ⟨rfl, h1, h2⟩
theorem r_updateD (Q R : Nat → Prop) (r : Nat) (os : List Ob) (last : Int) (KL : List Sc) (e : OE) (c : List V) (w : World) (hR : ∃ A c, RefO w Q r A c os last KL) (hg : GoodO os) (hQ : ∀ k, w.heap.size ≤ k → Q k) (hr : IsRow w R e.u c) (hRr : ¬ R r) (hv1 : -1000000000 ≤ last) (hv2 : last ≤ 1000000000) :
    Calls Tryz.prog 39 #[.pointer (some ⟨r, 0, none⟩), oV e] w fun x w' => x = .returned (.tuple #[.int .i64 (numR last (updR KL os e.key e.v c)), .int .i64 (updR KL os e.key e.v c)]) ∧ (∃ A c', RefO w' Q r A c' (updO KL os e.key e.v c last) (lastR last (updR KL os e.key e.v c)) KL) ∧ Only r w w' := by
  obtain ⟨A, ca, hR⟩ := hR
  refine (r_updateO Q R r A ca os last KL e c w hR hg hQ hr hRr hv1 hv2).mono ?_
  rintro x w' (⟨h0, rfl, hb⟩ | ⟨h0, rfl, h1, h2⟩)
  · unfold numR lastR updO
    rw [if_neg h0, if_neg h0, if_neg h0]
    exact ⟨rfl, ⟨_, _, hR.below hb⟩, Only.of_below hb (Nat.le_of_lt hR.lt)⟩
  · unfold numR lastR updO
    rw [if_pos h0, if_pos h0, if_pos h0, h0]
    exact ⟨rfl, h1, h2⟩
theorem o_deleteD (Q : Nat → Prop) (s b : Nat) (os : List Ob) (last : Int) (KL : List Sc) (k : Ky) (v : Int) (w : World) (hS : StoB w Q s b os last KL) (hg : GoodO os) (hk : kOk k) :
    Calls Tryz.prog 40 #[.pointer (some ⟨s, 0, none⟩), .string k.1, .string k.2.1, .string k.2.2, .int .i64 v] w fun x w' => x = .returned (.int .i64 (delR KL os k v)) ∧ StoB w' Q s b (delO KL os k v) last KL ∧ OnlyS s b w w' := by
  refine (o_delete Q s b os last KL k v (fndK os k) w hS hk (fun x hx => ⟨x, ((fndK_goes hg.srt k).2 x hx).1, ((fndK_goes hg.srt k).2 x hx).2.1⟩)).mono ?_
  rintro x w' ⟨rfl, ⟨h0, hb⟩ | ⟨h0, h1, h2⟩⟩
  · unfold delO
    rw [if_neg h0]
    exact ⟨rfl, hS.below hb, OnlyS.of hb⟩
  · unfold delO
    rw [if_pos h0]
    exact ⟨rfl, h1, h2⟩
theorem r_deleteD (Q : Nat → Prop) (r : Nat) (os : List Ob) (last : Int) (KL : List Sc) (k : Ky) (v : Int) (w : World) (hR : ∃ A c, RefO w Q r A c os last KL) (hg : GoodO os) (hQ : ∀ j, w.heap.size ≤ j → Q j) :
    Calls Tryz.prog 41 #[.pointer (some ⟨r, 0, none⟩), .string k.1, .string k.2.1, .string k.2.2, .int .i64 v] w fun x w' => x = .returned (.int .i64 (delR KL os k v)) ∧ (∃ A c, RefO w' Q r A c (delO KL os k v) last KL) ∧ Only r w w' := by
  obtain ⟨A, ca, hR⟩ := hR
  refine (r_deleteO Q r A ca os last KL k v w hR hg hQ).mono ?_
  rintro x w' ⟨rfl, ⟨h0, hb⟩ | ⟨h0, h1, h2⟩⟩
  · unfold delO
    rw [if_neg h0]
    exact ⟨rfl, ⟨_, _, hR.below hb⟩, Only.of_below hb (Nat.le_of_lt hR.lt)⟩
  · unfold delO
    rw [if_pos h0]
    exact ⟨rfl, h1, h2⟩

/-- Both stores, with the same objects. -/
structure Bo (w : World) (Q : Nat → Prop) (s b r : Nat) (os : List Ob) (last : Int) : Prop where
  good : GoodO os
  sto : StoB w Q s b os last KL8
  ref : ∃ A c, RefO w Q r A c os last KL8
  rs : r ≠ s
  rb : r ≠ b
theorem Bo.rlt {w : World} {Q : Nat → Prop} {s b r : Nat} {os : List Ob} {last : Int} (h : Bo w Q s b r os last) : r < w.heap.size := by
  obtain ⟨A, c, h⟩ := h.ref
  exact h.lt
theorem Bo.notr {w : World} {Q : Nat → Prop} {s b r : Nat} {os : List Ob} {last : Int} (h : Bo w Q s b r os last) : ¬ Q s ∧ ¬ Q b ∧ ¬ Q r := by
  obtain ⟨A, c, _, _, _, _, h3, _⟩ := h.ref
  obtain ⟨_, _, _, _, _, _, _, _, _, _, h8, h9⟩ := h.sto
  exact ⟨h8, h9, h3⟩
theorem Bo.below {w w' : World} {Q : Nat → Prop} {s b r : Nat} {os : List Ob} {last : Int} (h : Bo w Q s b r os last) (hb : Below w.heap.size w w') : Bo w' Q s b r os last :=
  ⟨h.good, h.sto.below hb, by obtain ⟨A, c, h⟩ := h.ref; exact ⟨A, c, h.below hb⟩, h.rs, h.rb⟩
/-- What is done to one pair does nothing to another one. -/
theorem Bo.other {w w' : World} {Q : Nat → Prop} {s b r s2 b2 r2 : Nat} {os : List Ob} {last : Int} (h : Bo w Q s b r os last) (ho : O3 s2 b2 r2 w w') (h1 : ¬ Q s2) (h2 : ¬ Q b2) (h3 : ¬ Q r2) (hs : s ≠ s2 ∧ s ≠ b2 ∧ s ≠ r2) (hb : b ≠ s2 ∧ b ≠ b2 ∧ b ≠ r2) (hr : r ≠ s2 ∧ r ≠ b2 ∧ r ≠ r2) : Bo w' Q s b r os last := by
  have hk := ho.keepQ h1 h2 h3
  have hl := h.sto.lt
  refine ⟨h.good, h.sto.keep hk (ho.2 s hl.1 hs.1 hs.2.1 hs.2.2) (ho.2 b hl.2 hb.1 hb.2.1 hb.2.2) ho.1.size, ?_, h.rs, h.rb⟩
  have hrl := h.rlt
  obtain ⟨A, c, hR⟩ := h.ref
  exact ⟨A, c, hR.keep hk (ho.2 r hrl hr.1 hr.2.1 hr.2.2)⟩
/-- Behind the program's call and the document's. -/
theorem Bo.both {w w1 w2 : World} {Q : Nat → Prop} {s b r : Nat} {os os' : List Ob} {last last' : Int} (h : Bo w Q s b r os last) (hS : StoB w1 Q s b os' last' KL8) (_ho : OnlyS s b w w1) (hR : ∃ A c, RefO w2 Q r A c os' last' KL8) (hr : Only r w1 w2) (hg : GoodO os') : Bo w2 Q s b r os' last' := by
  obtain ⟨h1, h2, h3⟩ := h.notr
  have hl := hS.lt
  exact ⟨hg, hS.keep (hr.keepQ h3) (hr.2 s hl.1 (Ne.symm h.rs)) (hr.2 b hl.2 (Ne.symm h.rb)) hr.1.size, hR, h.rs, h.rb⟩
end
section
open Go.RowKit Go.Maps

theorem six_cells {W : World} {p : Nat} {T : TypeId} {z0 z1 z2 z3 z4 z5 : Value} (h : W.heap[p]? = some (.cells #[z0, z1, z2, z3, z4, z5] T (0, 0))) :
    W.cell? ⟨p, 0, none⟩ = some z0 ∧ W.cell? ⟨p, 1, none⟩ = some z1 ∧ W.cell? ⟨p, 2, none⟩ = some z2 ∧ W.cell? ⟨p, 3, none⟩ = some z3 ∧ W.cell? ⟨p, 4, none⟩ = some z4 ∧ W.cell? ⟨p, 5, none⟩ = some z5 :=
  ⟨cell_of_row W p 0 _ _ _ h, cell_of_row W p 1 _ _ _ h, cell_of_row W p 2 _ _ _ h, cell_of_row W p 3 _ _ _ h, cell_of_row W p 4 _ _ _ h, cell_of_row W p 5 _ _ _ h⟩
theorem beq_selfI (n : Int) : (n == n) = true := by simp
/-- What comes of an act. -/
def DoIs (w : World) (Q : Nat → Prop) (s b r : Nat) (last : Int) (w' : World) : Prop := (∃ os' last', Bo w' Q s b r os' last' ∧ last ≤ last' ∧ last' ≤ last + 1) ∧ O3 s b r w w'
theorem lastR_le (last er : Int) : last ≤ lastR last er ∧ lastR last er ≤ last + 1 := by
  unfold lastR
  split <;> omega

end
section
open Go.RowKit Go.Maps

theorem OwnO.slice {w : World} {base n : Nat} {v : Value} {zs : List OE} (h : OwnO w base v zs) (hn : zs.length = n) : ∃ A c, v = .slice A n c ∧ CellsQ w (fun k => base ≤ k ∧ v.ownBlock = some k) A (flatO zs) := by
  obtain ⟨A, c, hv, _, _, hc⟩ := h.cells
  exact ⟨A, c, by rw [hv, hn], hc⟩

end
end Go.Proofs.YtdhpoaecedpbdaaGreat
