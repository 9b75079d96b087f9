/-
  All of package store; Copy of package store and of the document's store.
  Condition: the objects are ones that can be.
  Both stores side by side: what each call does to them.
  Condition: the objects are ones that can be; versions that fit.
  do of verdererlaw08: an act to both stores.
  Condition: the objects are ones that can be; versions that fit.
  alike of verdererlaw08: both stores have the same objects.
  Condition: the objects are ones that can be.
-/
import Derived.Test.YtmiagdmfgebfdaaSuz
import Derived.Test.YtmiagdmfgebfdaaSuf
import Derived.Test.YtmiagdmfgebfdaaTclone
import Derived.Shelf.SlMaps.Clone
import Derived.Deep.RegionHeld3
import Derived.Outline
import Derived.Test.YtmiagdmfgebfdaaStl
namespace Go.Proofs.Ytmiagdmfgebfdaa
section
open Go.RowKit Go.Maps Go.Shelf

theorem o_all (Q : Nat → Prop) (s b : Nat) (os : List Ob) (last : Int) (KL : List Sc) (kd : ByteArray) (w : World) (hS : StoB w Q s b os last KL) (hg : GoodO os) :
    Calls Try.prog 19 #[.pointer (some ⟨s, 0, none⟩), .string kd] w fun e w' => (∃ v zs, e = .returned v ∧ OwnO w' w.heap.size v zs ∧ ObR w' (fun j => w.heap.size ≤ j ∧ v.ownBlock ≠ some j) zs (ofKind os kd)) ∧ Below w.heap.size w w' :=
  o_all0 o_sort Q s b os last KL kd w hS hg

set_option maxRecDepth 100000 in
set_option maxHeartbeats 2000000 in
theorem o_copy (Q : Nat → Prop) (s b : Nat) (os : List Ob) (last : Int) (KL : List Sc) (w : World) (hS : StoB w Q s b os last KL) :
    Calls Try.prog 21 #[.pointer (some ⟨s, 0, none⟩)] w fun e w' => ∃ s2, e = .returned (.pointer (some ⟨s2, 0, none⟩)) ∧ StoB w' (fun k => Q k ∧ k < w.heap.size) s2 w.heap.size os last KL ∧ w.heap.size < s2 ∧ Below w.heap.size w w' := by
  have HS := Lib.hid hS
  obtain ⟨kv, D, es, h1, h2, h3, h4, h5, h6, h7, h8, h9⟩ := hS
  have hsl : s < w.heap.size := (Array.getElem?_eq_some_iff.1 h1).1
  have c0 : w.cell? ⟨s, 0, none⟩ = some kv := cell_of_row w s 0 _ _ _ h1
  have c1 : w.cell? ⟨s, 1, none⟩ = some (.map (some b)) := cell_of_row w s 1 _ _ _ h1
  have c2 : w.cell? ⟨s, 2, none⟩ = some (.int .i64 last) := cell_of_row w s 2 _ _ _ h1
  have HC := Lib.hid (AnyW.maps_Clone_owns Try.clOb 86 RpO b es.length D w.drew (ownsMapO_block h3 rfl))
  have HKN := Lib.hid (show IsKinds w (fun k => Q k ∧ k < w.heap.size) kv KL from h2.imp fun k hk hq => ⟨hq, hk⟩)
  have HOB := Lib.hid (show ObR w (fun k => Q k ∧ k < w.heap.size) es os from h5.imp fun k hk hq => ⟨hq, hk⟩)
  have HR := Lib.hid h4
  obtain ⟨hkl, Ak, ck, rfl, _⟩ := h2
  have h9 : ∀ W' : World, Below w.heap.size w W' → W'.cell? ⟨s, 0, none⟩ = some (.slice Ak KL.length ck) ∧ W'.cell? ⟨s, 2, none⟩ = some (.int .i64 last) ∧ W'.cell? ⟨s, 1, none⟩ = some (.map (some b)) := fun W' hW => ⟨(hW.cell (p := ⟨s, 0, none⟩) hsl).trans c0, (hW.cell (p := ⟨s, 2, none⟩) hsl).trans c2, (hW.cell (p := ⟨s, 1, none⟩) hsl).trans c1⟩
  have H9 := Lib.hid h9
  clear h1 h3 h4 h5 h9
  generalize KL.length = nk at *
  go_enter Try.func21, Try.ntmps21
  go_wp2_with fail
  go_region_held3 (fun W : World => W.cell? ⟨s, 0, none⟩ = some (.slice Ak nk ck) ∧ W.cell? ⟨s, 2, none⟩ = some (.int .i64 last) ∧ W.cell? ⟨s, 1, none⟩ = some (.map (some b))) (go_keep)
    (first | (go_at_call 55; refine HC.out.mono ?_; rintro e w1 ⟨rfl, ho, _, hb1⟩; have hb2 := (show Below w.heap.size w w.drew from Below.drew (Below.refl _ _)).trans hb1; have HO := Lib.hid ho; have HB := Lib.hid hb2; obtain ⟨d0, d2, d1⟩ := H9.out w1 hb2; clear ho hb1 hb2))
  go_wp2
  go_ret
  have hl := HO.out.lt
  have hon := one_new w1 (.cells #[.slice Ak nk ck, .map (some w.heap.size), .int .i64 last] 84)
  have hkq : KeepQ (fun k => Q k ∧ k < w.heap.size) w (w1.alloc (.cells #[.slice Ak nk ck, .map (some w.heap.size), .int .i64 last] 84)) := fun k hq hk => (hon.block k (Nat.lt_of_lt_of_le hk HB.out.size)).trans (HB.out.block k hk)
  have hl2 : w.heap.size < w1.heap.size := hl
  refine ⟨w1.heap.size, by simp, ⟨_, D, es, World.alloc_heap_new w1 _, HKN.out.keep hkq, ownsMapO_block HO.out (hon.block _ hl), HR.out, HOB.out.keep hkq, by omega, by simp; omega, fun h => by have := h.2; omega, fun h => by have := h.2; omega⟩, hl2, HB.out.trans (hon.mono HB.out.size)⟩

set_option maxRecDepth 100000 in
set_option maxHeartbeats 2000000 in
theorem r_copyO (Q : Nat → Prop) (r : Nat) (A : Option Addr) (c : Nat) (os : List Ob) (last : Int) (KL : List Sc) (w : World) (hR : RefO w Q r A c os last KL) (hl : os.length ≤ 1000) :
    Calls Try.prog 22 #[.pointer (some ⟨r, 0, none⟩)] w fun e w' => ∃ r2 A' c', e = .returned (.pointer (some ⟨r2, 0, none⟩)) ∧ RefO w' (fun k => (Q k ∧ k < w.heap.size) ∨ (w.heap.size ≤ k ∧ k ≠ r2)) r2 A' c' os last KL ∧ w.heap.size ≤ r2 ∧ Below w.heap.size w w' := by
  have hrl := hR.lt
  obtain ⟨kv, es, h1, h2, h3, h4, h5, h6, h7⟩ := hR
  have c0 : w.cell? ⟨r, 0, none⟩ = some kv := cell_of_row w r 0 _ _ _ h1
  have c1 : w.cell? ⟨r, 1, none⟩ = some (.slice A os.length c) := cell_of_row w r 1 _ _ _ h1
  have c2 : w.cell? ⟨r, 2, none⟩ = some (.int .i64 last) := cell_of_row w r 2 _ _ _ h1
  have H1 := Lib.hid h1
  have H2 := Lib.hid h2
  have H4 := Lib.hid h4
  have H5 := Lib.hid h5
  have HLEN := Lib.hid h4.len
  obtain ⟨hkl, Ak, ck, rfl, _⟩ := h2
  generalize KL.length = nk at *
  clear h1 h4 h5
  go_enter Try.func22, Try.ntmps22
  go_wp2_with fail
  go_region
  all_goals
    go_wp2_with fail
    have hon := one_new w (.cells #[.slice Ak nk ck, .slice none 0 0, .int .i64 last] 72)
    have hx : (w.alloc (.cells #[.slice Ak nk ck, .slice none 0 0, .int .i64 last] 72)).drew.heap[w.heap.size]? = some (.cells #[.slice Ak nk ck, .slice none 0 0, .int .i64 last] 72 (0, 0)) := World.alloc_heap_new w _
    have hb : Below w.heap.size w (w.alloc (.cells #[.slice Ak nk ck, .slice none 0 0, .int .i64 last] 72)).drew := hon.drew
    have hz : (w.alloc (.cells #[.slice Ak nk ck, .slice none 0 0, .int .i64 last] 72)).drew.heap.size = w.heap.size + 1 := by simp
    have HX := Lib.hid hx
    have HB := Lib.hid hb
    have HZ := Lib.hid hz
    clear hon hx hb hz c0 c1 c2
    generalize (w.alloc (.cells #[.slice Ak nk ck, .slice none 0 0, .int .i64 last] 72)).drew = w2 at *
    have hsz : w.heap.size + 1 ≤ w2.heap.size := by rw [HZ.out]; exact Nat.le_refl _
    have d1 : w2.cell? ⟨r, 1, none⟩ = some (.slice A os.length c) := cell_of_row w2 r 1 _ _ _ ((HB.out.block r hrl).trans H1.out)
    have e1 : w2.cell? ⟨w.heap.size, 1, none⟩ = some (.slice none 0 0) := cell_of_row w2 w.heap.size 1 _ _ _ HX.out
    have f1 : w2.frozen? ⟨w.heap.size, 1, none⟩ = false := frozen_of_row w2 w.heap.size 1 _ _ HX.out
    have HC := Lib.hid (H5.out.keep (w' := w2.drew) (Below.keepQ HB.out.drew Q))
    go_region_law
      ((refine step_append_O _ (by rfl) _ _ (by rfl) (w.heap.size + 1) _ [] es (by rfl) (OwnO.nil _ _) Q A os.length c (by rfl) (by rw [HLEN.out]) (by exact HC.out) H4.out.one (by simp; rw [HLEN.out]; omega) (by exact hsz) ?_; intro v' w5 hown' hb5 _ _; rw [List.nil_append] at hown'; obtain ⟨A5, c5, hv5⟩ := hown'.form; subst hv5; have hx5 := (hb5.block w.heap.size (Nat.lt_succ_self _)).trans HX.out; have e5 : w5.cell? ⟨w.heap.size, 1, none⟩ = some (.slice none 0 0) := cell_of_row w5 w.heap.size 1 _ _ _ hx5; have f5 := frozen_of_row w5 w.heap.size 1 _ _ hx5; have HO5 := Lib.hid hown'; have HB5 := Lib.hid hb5; have HX5 := Lib.hid hx5; clear hown' hb5 hx5))
    all_goals
      go_wp2
      go_ret
      have hb5 : Below w.heap.size w w5 := HB.out.drew.trans (HB5.out.mono (Nat.le_succ _))
      have hkq : KeepQ (fun k => Q k ∧ k < w.heap.size) w w5 := Below.keepQ hb5 _
      obtain ⟨A', c', hf⟩ := RefO.relist (Q := fun k => (Q k ∧ k < w.heap.size) ∨ (w.heap.size ≤ k ∧ k ≠ w.heap.size)) HX5.out (((H2.out.imp (Q' := fun k => Q k ∧ k < w.heap.size) fun k hk hq => ⟨hq, hk⟩).keep hkq).imp fun k _ hq => .inl hq) (fun h => by rcases h with h | h <;> omega)
        (((H4.out.imp (Q' := fun k => Q k ∧ k < w.heap.size) fun k hk hq => ⟨hq, hk⟩).keep hkq).imp fun k _ hq => .inl hq) HO5.out (fun k hk => .inr ⟨by omega, by omega⟩)
      exact ⟨w.heap.size, A', c', by simp, hf, Nat.le_refl _, hb5.setCell (p := ⟨w.heap.size, 1, none⟩) (Nat.le_refl _) _⟩
end
section
open Go.RowKit Go.Maps

def numR (last er : Int) : Int := if er = 0 then last + 1 else 0
def lastR (last er : Int) : Int := if er = 0 then last + 1 else last
/-- Of what was there, blocks s, b and r alone may have changed. -/
def O3 (s b r : Nat) (w w' : World) : Prop := Below 0 w w' ∧ ∀ k, k < w.heap.size → k ≠ s → k ≠ b → k ≠ r → w'.heap[k]? = w.heap[k]?
theorem O3.trans {s b r : Nat} {w w1 w2 : World} (h1 : O3 s b r w w1) (h2 : O3 s b r w1 w2) : O3 s b r w w2 :=
  ⟨h1.1.trans h2.1, fun k hk hs hb hr => (h2.2 k (Nat.lt_of_lt_of_le hk h1.1.size) hs hb hr).trans (h1.2 k hk hs hb hr)⟩
theorem O3.of {s b r : Nat} {w w' : World} (hb : Below w.heap.size w w') : O3 s b r w w' := ⟨hb.mono (Nat.zero_le _), fun k hk _ _ _ => hb.block k hk⟩
theorem O3.ofS {s b r : Nat} {w w' : World} (h : OnlyS s b w w') : O3 s b r w w' := ⟨h.1, fun k hk hs hb _ => h.2 k hk hs hb⟩
theorem O3.ofR {s b r : Nat} {w w' : World} (h : Only r w w') : O3 s b r w w' := ⟨h.1.mono (Nat.zero_le _), fun k hk _ _ hr => h.2 k hk hr⟩
theorem O3.below {s b r h : Nat} {w w' : World} (ho : O3 s b r w w') (hs : h ≤ s) (hb : h ≤ b) (hr : h ≤ r) (hw : h ≤ w.heap.size) : Below h w w' := by
  obtain ⟨h1, h2⟩ := ho
  exact ⟨h1.os, h1.tape, h1.output, h1.size, fun k hk => h2 k (by omega) (by omega) (by omega) (by omega)⟩
theorem O3.keepQ {s b r : Nat} {w w' : World} {Q : Nat → Prop} (h : O3 s b r w w') (hs : ¬ Q s) (hb : ¬ Q b) (hr : ¬ Q r) : KeepQ Q w w' := fun k hq hk => h.2 k hk (fun e => hs (e ▸ hq)) (fun e => hb (e ▸ hq)) (fun e => hr (e ▸ hq))

/-! ### one call, whatever it answers -/
theorem o_insertD (Q R : Nat → Prop) (s b : Nat) (os : List Ob) (last : Int) (KL : List Sc) (e : OE) (c : List V) (w : World) (hS : StoB w Q s b os last KL) (hg : GoodO os) (hQ : ∀ k, w.heap.size ≤ k → Q k) (hr : IsRow w R e.u c) (hRs : ¬ R s) (hk : kOk e.key) (hv1 : -1000000000 ≤ last) (hv2 : last ≤ 1000000000) :
    Calls Try.prog 39 #[.pointer (some ⟨s, 0, none⟩), oV e] w fun x w' => x = .returned (.tuple #[.int .i64 (numR last (insR KL os e.key c)), .int .i64 (insR KL os e.key c)]) ∧ StoB w' Q s b (insO KL os e.key c last) (lastR last (insR KL os e.key c)) KL ∧ OnlyS s b w w' := by
  have hfew := hg.few
  refine (o_insert Q R s b os last KL e c (fndK os e.key) w hS hQ hr hRs hk (fndK_le _ _) (by omega) hv1 hv2).mono ?_
  rintro x w' (⟨h0, rfl, hb⟩ | ⟨h0, rfl, h1, h2⟩)
  · unfold numR lastR insO
    rw [if_neg h0, if_neg h0, if_neg h0]
    exact ⟨rfl, hS.below hb, OnlyS.of hb⟩
  · unfold numR lastR insO
    rw [if_pos h0, if_pos h0, if_pos h0, h0]
    exact ⟨rfl, h1, h2⟩
theorem r_insertD (Q R : Nat → Prop) (r : Nat) (os : List Ob) (last : Int) (KL : List Sc) (e : OE) (c : List V) (w : World) (hR : ∃ A c, RefO w Q r A c os last KL) (hg : GoodO os) (hQ : ∀ k, w.heap.size ≤ k → Q k) (hr : IsRow w R e.u c) (hRr : ¬ R r) (hv1 : -1000000000 ≤ last) (hv2 : last ≤ 1000000000) :
    Calls Try.prog 42 #[.pointer (some ⟨r, 0, none⟩), oV e] w fun x w' => x = .returned (.tuple #[.int .i64 (numR last (insR KL os e.key c)), .int .i64 (insR KL os e.key c)]) ∧ (∃ A c', RefO w' Q r A c' (insO KL os e.key c last) (lastR last (insR KL os e.key c)) KL) ∧ Only r w w' := by
  obtain ⟨A, ca, hR⟩ := hR
  refine (r_insertO Q R r A ca os last KL e c w hR hg hQ hr hRr hv1 hv2).mono ?_
  rintro x w' (⟨h0, rfl, hb⟩ | ⟨h0, rfl, h1, h2⟩)
  · unfold numR lastR insO
    rw [if_neg h0, if_neg h0, if_neg h0]
    exact ⟨rfl, ⟨_, _, hR.below hb⟩, Only.of_below hb (Nat.le_of_lt hR.lt)⟩
  · unfold numR lastR insO
    rw [if_pos h0, if_pos h0, if_pos h0, h0]
    exact ⟨rfl, h1, h2⟩
theorem o_updateD (Q R : Nat → Prop) (s b : Nat) (os : List Ob) (last : Int) (KL : List Sc) (e : OE) (c : List V) (w : World) (hS : StoB w Q s b os last KL) (hg : GoodO os) (hQ : ∀ k, w.heap.size ≤ k → Q k) (hr : IsRow w R e.u c) (hRs : ¬ R s) (hk : kOk e.key) (hv1 : -1000000000 ≤ last) (hv2 : last ≤ 1000000000) :
    Calls Try.prog 40 #[.pointer (some ⟨s, 0, none⟩), oV e] w fun x w' => x = .returned (.tuple #[.int .i64 (numR last (updR KL os e.key e.v c)), .int .i64 (updR KL os e.key e.v c)]) ∧ StoB w' Q s b (updO KL os e.key e.v c last) (lastR last (updR KL os e.key e.v c)) KL ∧ OnlyS s b w w' := by
  have hfew := hg.few
  refine (o_update Q R s b os last KL e c (fndK os e.key) w hS hQ hr hRs hk (fun x hx => ⟨fndK_le _ _, x, ((fndK_goes hg.srt e.key).2 x hx).1, ((fndK_goes hg.srt e.key).2 x hx).2.1⟩) (by omega) hv1 hv2).mono ?_
  rintro x w' (⟨h0, rfl, hb⟩ | ⟨h0, rfl, h1, h2⟩)
  · unfold numR lastR updO
    rw [if_neg h0, if_neg h0, if_neg h0]
    exact ⟨rfl, hS.below hb, OnlyS.of hb⟩
  · unfold numR lastR updO
    rw [if_pos h0, if_pos h0, if_pos h0, h0]
    exact ⟨rfl, h1, h2⟩
theorem r_updateD (Q R : Nat → Prop) (r : Nat) (os : List Ob) (last : Int) (KL : List Sc) (e : OE) (c : List V) (w : World) (hR : ∃ A c, RefO w Q r A c os last KL) (hg : GoodO os) (hQ : ∀ k, w.heap.size ≤ k → Q k) (hr : IsRow w R e.u c) (hRr : ¬ R r) (hv1 : -1000000000 ≤ last) (hv2 : last ≤ 1000000000) :
    Calls Try.prog 43 #[.pointer (some ⟨r, 0, none⟩), oV e] w fun x w' => x = .returned (.tuple #[.int .i64 (numR last (updR KL os e.key e.v c)), .int .i64 (updR KL os e.key e.v c)]) ∧ (∃ A c', RefO w' Q r A c' (updO KL os e.key e.v c last) (lastR last (updR KL os e.key e.v c)) KL) ∧ Only r w w' := by
  obtain ⟨A, ca, hR⟩ := hR
  refine (r_updateO Q R r A ca os last KL e c w hR hg hQ hr hRr hv1 hv2).mono ?_
  rintro x w' (⟨h0, rfl, hb⟩ | ⟨h0, rfl, h1, h2⟩)
  · unfold numR lastR updO
    rw [if_neg h0, if_neg h0, if_neg h0]
    exact ⟨rfl, ⟨_, _, hR.below hb⟩, Only.of_below hb (Nat.le_of_lt hR.lt)⟩
  · unfold numR lastR updO
    rw [if_pos h0, if_pos h0, if_pos h0, h0]
    exact ⟨rfl, h1, h2⟩
theorem o_deleteD (Q : Nat → Prop) (s b : Nat) (os : List Ob) (last : Int) (KL : List Sc) (k : Ky) (v : Int) (w : World) (hS : StoB w Q s b os last KL) (hg : GoodO os) (hk : kOk k) :
    Calls Try.prog 44 #[.pointer (some ⟨s, 0, none⟩), .string k.1, .string k.2.1, .string k.2.2, .int .i64 v] w fun x w' => x = .returned (.int .i64 (delR KL os k v)) ∧ StoB w' Q s b (delO KL os k v) last KL ∧ OnlyS s b w w' := by
  refine (o_delete Q s b os last KL k v (fndK os k) w hS hk (fun x hx => ⟨x, ((fndK_goes hg.srt k).2 x hx).1, ((fndK_goes hg.srt k).2 x hx).2.1⟩)).mono ?_
  rintro x w' ⟨rfl, ⟨h0, hb⟩ | ⟨h0, h1, h2⟩⟩
  · unfold delO
    rw [if_neg h0]
    exact ⟨rfl, hS.below hb, OnlyS.of hb⟩
  · unfold delO
    rw [if_pos h0]
    exact ⟨rfl, h1, h2⟩
theorem r_deleteD (Q : Nat → Prop) (r : Nat) (os : List Ob) (last : Int) (KL : List Sc) (k : Ky) (v : Int) (w : World) (hR : ∃ A c, RefO w Q r A c os last KL) (hg : GoodO os) (hQ : ∀ j, w.heap.size ≤ j → Q j) :
    Calls Try.prog 45 #[.pointer (some ⟨r, 0, none⟩), .string k.1, .string k.2.1, .string k.2.2, .int .i64 v] w fun x w' => x = .returned (.int .i64 (delR KL os k v)) ∧ (∃ A c, RefO w' Q r A c (delO KL os k v) last KL) ∧ Only r w w' := by
  obtain ⟨A, ca, hR⟩ := hR
  refine (r_deleteO Q r A ca os last KL k v w hR hg hQ).mono ?_
  rintro x w' ⟨rfl, ⟨h0, hb⟩ | ⟨h0, h1, h2⟩⟩
  · unfold delO
    rw [if_neg h0]
    exact ⟨rfl, ⟨_, _, hR.below hb⟩, Only.of_below hb (Nat.le_of_lt hR.lt)⟩
  · unfold delO
    rw [if_pos h0]
    exact ⟨rfl, h1, h2⟩

/-- Both stores, with the same objects. -/
structure Bo (w : World) (Q : Nat → Prop) (s b r : Nat) (os : List Ob) (last : Int) : Prop where
  good : GoodO os
  sto : StoB w Q s b os last KL8
  ref : ∃ A c, RefO w Q r A c os last KL8
  rs : r ≠ s
  rb : r ≠ b
theorem Bo.rlt {w : World} {Q : Nat → Prop} {s b r : Nat} {os : List Ob} {last : Int} (h : Bo w Q s b r os last) : r < w.heap.size := by
  obtain ⟨A, c, h⟩ := h.ref
  exact h.lt
theorem Bo.notr {w : World} {Q : Nat → Prop} {s b r : Nat} {os : List Ob} {last : Int} (h : Bo w Q s b r os last) : ¬ Q s ∧ ¬ Q b ∧ ¬ Q r := by
  obtain ⟨A, c, _, _, _, _, h3, _⟩ := h.ref
  obtain ⟨_, _, _, _, _, _, _, _, _, _, h8, h9⟩ := h.sto
  exact ⟨h8, h9, h3⟩
theorem Bo.below {w w' : World} {Q : Nat → Prop} {s b r : Nat} {os : List Ob} {last : Int} (h : Bo w Q s b r os last) (hb : Below w.heap.size w w') : Bo w' Q s b r os last :=
  ⟨h.good, h.sto.below hb, by obtain ⟨A, c, h⟩ := h.ref; exact ⟨A, c, h.below hb⟩, h.rs, h.rb⟩
/-- What is done to one pair does nothing to another one. -/
theorem Bo.other {w w' : World} {Q : Nat → Prop} {s b r s2 b2 r2 : Nat} {os : List Ob} {last : Int} (h : Bo w Q s b r os last) (ho : O3 s2 b2 r2 w w') (h1 : ¬ Q s2) (h2 : ¬ Q b2) (h3 : ¬ Q r2) (hs : s ≠ s2 ∧ s ≠ b2 ∧ s ≠ r2) (hb : b ≠ s2 ∧ b ≠ b2 ∧ b ≠ r2) (hr : r ≠ s2 ∧ r ≠ b2 ∧ r ≠ r2) : Bo w' Q s b r os last := by
  have hk := ho.keepQ h1 h2 h3
  have hl := h.sto.lt
  refine ⟨h.good, h.sto.keep hk (ho.2 s hl.1 hs.1 hs.2.1 hs.2.2) (ho.2 b hl.2 hb.1 hb.2.1 hb.2.2) ho.1.size, ?_, h.rs, h.rb⟩
  have hrl := h.rlt
  obtain ⟨A, c, hR⟩ := h.ref
  exact ⟨A, c, hR.keep hk (ho.2 r hrl hr.1 hr.2.1 hr.2.2)⟩
/-- Behind the program's call and the document's. -/
theorem Bo.both {w w1 w2 : World} {Q : Nat → Prop} {s b r : Nat} {os os' : List Ob} {last last' : Int} (h : Bo w Q s b r os last) (hS : StoB w1 Q s b os' last' KL8) (_ho : OnlyS s b w w1) (hR : ∃ A c, RefO w2 Q r A c os' last' KL8) (hr : Only r w1 w2) (hg : GoodO os') : Bo w2 Q s b r os' last' := by
  obtain ⟨h1, h2, h3⟩ := h.notr
  have hl := hS.lt
  exact ⟨hg, hS.keep (hr.keepQ h3) (hr.2 s hl.1 (Ne.symm h.rs)) (hr.2 b hl.2 (Ne.symm h.rb)) hr.1.size, hR, h.rs, h.rb⟩
end
section
open Go.RowKit Go.Maps

theorem six_cells {W : World} {p : Nat} {T : TypeId} {z0 z1 z2 z3 z4 z5 : Value} (h : W.heap[p]? = some (.cells #[z0, z1, z2, z3, z4, z5] T (0, 0))) :
    W.cell? ⟨p, 0, none⟩ = some z0 ∧ W.cell? ⟨p, 1, none⟩ = some z1 ∧ W.cell? ⟨p, 2, none⟩ = some z2 ∧ W.cell? ⟨p, 3, none⟩ = some z3 ∧ W.cell? ⟨p, 4, none⟩ = some z4 ∧ W.cell? ⟨p, 5, none⟩ = some z5 :=
  ⟨cell_of_row W p 0 _ _ _ h, cell_of_row W p 1 _ _ _ h, cell_of_row W p 2 _ _ _ h, cell_of_row W p 3 _ _ _ h, cell_of_row W p 4 _ _ _ h, cell_of_row W p 5 _ _ _ h⟩
theorem beq_selfI (n : Int) : (n == n) = true := by simp
/-- What comes of an act. -/
def DoIs (w : World) (Q : Nat → Prop) (s b r : Nat) (last : Int) (w' : World) : Prop := (∃ os' last', Bo w' Q s b r os' last' ∧ last ≤ last' ∧ last' ≤ last + 1) ∧ O3 s b r w w'
theorem lastR_le (last er : Int) : last ≤ lastR last er ∧ lastR last er ≤ last + 1 := by
  unfold lastR
  split <;> omega

set_option maxRecDepth 100000 in
set_option maxHeartbeats 8000000 in
theorem l_do8 (Q R : Nat → Prop) (s b r : Nat) (os : List Ob) (last xk v : Int) (k1 k2 k3 : ByteArray) (A2 : Option Addr) (cap2 : Nat) (row : List V) (w : World) (hB : Bo w Q s b r os last) (hQ : ∀ k, w.heap.size ≤ k → Q k) (hr : IsRow w R (.slice A2 row.length cap2) row) (hRs : ¬ R s) (hRb : ¬ R b) (hRr : ¬ R r) (hk : kOk (k1, k2, k3)) (hv1 : -1000000000 ≤ last) (hv2 : last ≤ 1000000000) :
    Calls Try.prog 14 #[.pointer (some ⟨s, 0, none⟩), .pointer (some ⟨r, 0, none⟩), .agg #[.int .i64 xk, .string k1, .string k2, .string k3, .int .i64 v, .slice A2 row.length cap2]] w fun e w' => e = .returned (.bool true) ∧ DoIs w Q s b r last w' := by
  have hba := one_new w (.cells #[.int .i64 xk, .string k1, .string k2, .string k3, .int .i64 v, .slice A2 row.length cap2] 38)
  have hx := World.alloc_heap_new w (.cells #[.int .i64 xk, .string k1, .string k2, .string k3, .int .i64 v, .slice A2 row.length cap2] 38)
  have hlt := hB.sto.lt
  have hrl := hB.rlt
  have hz : (w.alloc (.cells #[.int .i64 xk, .string k1, .string k2, .string k3, .int .i64 v, .slice A2 row.length cap2] 38)).heap.size = w.heap.size + 1 := by simp
  obtain ⟨hns, hnb, hnr⟩ := hB.notr
  have HB1 := Lib.hid (hB.below hba)
  have HR1 := Lib.hid (hr.keep (Below.keepQ hba R))
  have HX := Lib.hid hx
  have HBA := Lib.hid hba
  have HQ := Lib.hid hQ
  have HK := Lib.hid hk
  have HZ := Lib.hid hz
  have HRS := Lib.hid hRs
  have HRB := Lib.hid hRb
  have HRR := Lib.hid hRr
  have HNS := Lib.hid hns
  have HNB := Lib.hid hnb
  have HGO := Lib.hid hB.good
  obtain ⟨c0, c1, c2, c3, c4, c5⟩ := six_cells hx
  clear hba hx hQ hk hB hr hRs hRb hRr hns hnb hnr hz
  -- what the second call needs, behind the first one
  have SEC : Hid (∀ W2, OnlyS s b (w.alloc (.cells #[.int .i64 xk, .string k1, .string k2, .string k3, .int .i64 v, .slice A2 row.length cap2] 38)) W2 → (∃ A c, RefO W2 Q r A c os last KL8) ∧ IsRow W2 R (.slice A2 row.length cap2) row ∧ (∀ k, W2.heap.size ≤ k → Q k) ∧ W2.heap[w.heap.size]? = some (.cells #[.int .i64 xk, .string k1, .string k2, .string k3, .int .i64 v, .slice A2 row.length cap2] 38 (0, 0)) ∧ w.heap.size < W2.heap.size) := Lib.hid (by
    intro W2 ho
    have hs := ho.1.size
    rw [HZ.out] at hs
    have hrl1 := HB1.out.rlt
    obtain ⟨A, c, hR⟩ := HB1.out.ref
    exact ⟨⟨A, c, hR.keep (ho.keepQ HNS.out HNB.out) (ho.2 r hrl1 HB1.out.rs HB1.out.rb)⟩, HR1.out.keep (ho.keepQ HRS.out HRB.out), fun k hk => HQ.out k (by omega), (ho.2 w.heap.size (by rw [HZ.out]; omega) (by omega) (by omega)).trans HX.out, by omega⟩)
  have HQ1 : Hid (∀ k, (w.alloc (.cells #[.int .i64 xk, .string k1, .string k2, .string k3, .int .i64 v, .slice A2 row.length cap2] 38)).heap.size ≤ k → Q k) := Lib.hid (fun k hk => HQ.out k (by rw [HZ.out] at hk; omega))
  by_cases h0 : xk.tmod 4 = 0
  · have hq0 : (xk.tmod 4 == 0) = true := by simpa using h0
    have HIN := Lib.hid (o_insertD Q R s b os last KL8 ⟨(k1, k2, k3), v, .slice A2 row.length cap2⟩ row _ HB1.out.sto HGO.out HQ1.out HR1.out HRS.out HK.out hv1 hv2)
    have HRN := Lib.hid (fun W hR hQ' hr' => r_insertD Q R r os last KL8 ⟨(k1, k2, k3), v, .slice A2 row.length cap2⟩ row W hR HGO.out hQ' hr' HRR.out hv1 hv2)
    have HGG := Lib.hid (insO_good (KL := KL8) HGO.out HK.out row last)
    unfold oV at HIN HRN
    simp only at HIN HRN
    have HLR := Lib.hid (lastR_le last (insR KL8 os (k1, k2, k3) row))
    generalize insO KL8 os (k1, k2, k3) row last = os' at *
    generalize insR KL8 os (k1, k2, k3) row = er at *
    generalize numR last er = nr at *
    generalize lastR last er = lr at *
    generalize row.length = nw at *
    clear h0
    go_enter Try.func14, Try.ntmps14
    go_wp2_with fail
    refine HIN.out.mono ?_
    rintro x w2 ⟨rfl, hS2, ho2⟩
    obtain ⟨hRf, hrw, hq2, hx2, hl2⟩ := SEC.out w2 ho2
    have HS2 := Lib.hid hS2
    have HO2 := Lib.hid ho2
    have HRC := Lib.hid (HRN.out w2 hRf hq2 hrw)
    clear c0 c1 c2 c3 c4 c5 hRf hrw hq2 hS2 ho2
    obtain ⟨c0, c1, c2, c3, c4, c5⟩ := six_cells hx2
    clear hx2
    go_wp2_with fail
    refine HRC.out.mono ?_
    rintro x w3 ⟨rfl, hR3, ho3⟩
    have HFI := Lib.hid (HB1.out.both HS2.out HO2.out hR3 ho3 HGG.out)
    have HO3 := Lib.hid (((O3.of (s := s) (b := b) (r := r) HBA.out).trans (O3.ofS HO2.out)).trans (O3.ofR ho3))
    have b1 := beq_selfI nr
    have b2 := beq_selfI er
    clear c0 c1 c2 c3 c4 c5 hR3 ho3
    go_wp2
    go_ret
    exact ⟨rfl, ⟨os', lr, HFI.out, HLR.out.1, HLR.out.2⟩, HO3.out⟩
  · have hq0 : (xk.tmod 4 == 0) = false := by simpa using h0
    by_cases h1 : xk.tmod 4 = 1
    · have hq1 : (xk.tmod 4 == 1) = true := by simpa using h1
      have HIN := Lib.hid (o_updateD Q R s b os last KL8 ⟨(k1, k2, k3), v, .slice A2 row.length cap2⟩ row _ HB1.out.sto HGO.out HQ1.out HR1.out HRS.out HK.out hv1 hv2)
      have HRN := Lib.hid (fun W hR hQ' hr' => r_updateD Q R r os last KL8 ⟨(k1, k2, k3), v, .slice A2 row.length cap2⟩ row W hR HGO.out hQ' hr' HRR.out hv1 hv2)
      have HGG := Lib.hid (updO_good (KL := KL8) HGO.out HK.out v row last)
      unfold oV at HIN HRN
      simp only at HIN HRN
      have HLR := Lib.hid (lastR_le last (updR KL8 os (k1, k2, k3) v row))
      generalize updO KL8 os (k1, k2, k3) v row last = os' at *
      generalize updR KL8 os (k1, k2, k3) v row = er at *
      generalize numR last er = nr at *
      generalize lastR last er = lr at *
      generalize row.length = nw at *
      clear h0 h1
      go_enter Try.func14, Try.ntmps14
      go_wp2_with fail
      refine HIN.out.mono ?_
      rintro x w2 ⟨rfl, hS2, ho2⟩
      obtain ⟨hRf, hrw, hq2, hx2, hl2⟩ := SEC.out w2 ho2
      have HS2 := Lib.hid hS2
      have HO2 := Lib.hid ho2
      have HRC := Lib.hid (HRN.out w2 hRf hq2 hrw)
      clear c0 c1 c2 c3 c4 c5 hRf hrw hq2 hS2 ho2
      obtain ⟨c0, c1, c2, c3, c4, c5⟩ := six_cells hx2
      clear hx2
      go_wp2_with fail
      refine HRC.out.mono ?_
      rintro x w3 ⟨rfl, hR3, ho3⟩
      have HFI := Lib.hid (HB1.out.both HS2.out HO2.out hR3 ho3 HGG.out)
      have HO3 := Lib.hid (((O3.of (s := s) (b := b) (r := r) HBA.out).trans (O3.ofS HO2.out)).trans (O3.ofR ho3))
      have b1 := beq_selfI nr
      have b2 := beq_selfI er
      clear c0 c1 c2 c3 c4 c5 hR3 ho3
      go_wp2
      go_ret
      exact ⟨rfl, ⟨os', lr, HFI.out, HLR.out.1, HLR.out.2⟩, HO3.out⟩
    · have hq1 : (xk.tmod 4 == 1) = false := by simpa using h1
      by_cases h2 : xk.tmod 4 = 2
      · have hq2 : (xk.tmod 4 == 2) = true := by simpa using h2
        have HIN := Lib.hid (fun W (hW : StoB W Q s b os last KL8) => o_deleteD Q s b os last KL8 (k1, k2, k3) v W hW HGO.out HK.out)
        have HRN := Lib.hid (fun W hR hQ' => r_deleteD Q r os last KL8 (k1, k2, k3) v W hR HGO.out hQ')
        have HGG := Lib.hid (delO_good (KL := KL8) HGO.out (k1, k2, k3) v)
        simp only at HIN HRN
        generalize delO KL8 os (k1, k2, k3) v = os' at *
        generalize delR KL8 os (k1, k2, k3) v = er at *
        generalize row.length = nw at *
        have b2 := beq_selfI er
        clear h0 h1 h2
        go_enter Try.func14, Try.ntmps14
        go_wp2_with fail
        have HSD := Lib.hid (show StoB (w.alloc (.cells #[.int .i64 xk, .string k1, .string k2, .string k3, .int .i64 v, .slice A2 nw cap2] 38)).drew Q s b os last KL8 from HB1.out.sto.below (below_drew _ _))
        go_region_held3 (fun W : World => W.cell? ⟨w.heap.size, 1, none⟩ = some (.string k1) ∧ W.cell? ⟨w.heap.size, 2, none⟩ = some (.string k2) ∧ W.cell? ⟨w.heap.size, 3, none⟩ = some (.string k3) ∧ W.cell? ⟨w.heap.size, 4, none⟩ = some (.int .i64 v)) (go_keep)
          (first
            | (go_at_call 44; refine (HIN.out _ (by exact HSD.out)).mono ?_; rintro x w2 ⟨rfl, hS2, ho2'⟩; have ho2 := (OnlyS.of (s := s) (b := b) (below_drew _ _)).trans ho2'; obtain ⟨hRf, hrw, hq2, hx2, hl2⟩ := SEC.out w2 ho2; have HS2 := Lib.hid hS2; have HO2 := Lib.hid ho2; have HRC := Lib.hid (HRN.out w2 hRf hq2); have HX2 := Lib.hid hx2; obtain ⟨d0, d1, d2, d3, d4, d5⟩ := six_cells hx2; clear hRf hrw hq2 hS2 ho2 ho2' hx2 d0 d5)
            | (go_at_call 45; refine HRC.out.mono ?_; rintro x w3 ⟨rfl, hR3, ho3⟩; have HFI := Lib.hid (HB1.out.both HS2.out HO2.out hR3 ho3 HGG.out); have HO3 := Lib.hid (((O3.of (s := s) (b := b) (r := r) HBA.out).trans (O3.ofS HO2.out)).trans (O3.ofR ho3)); obtain ⟨e0, e1, e2, e3, e4, e5⟩ := six_cells ((ho3.2 w.heap.size hl2 (by omega)).trans HX2.out); clear hR3 ho3 e0 e5))
        go_wp2
        go_ret
        exact ⟨rfl, ⟨os', last, HFI.out, by omega, by omega⟩, HO3.out⟩
      · have hq2 : (xk.tmod 4 == 2) = false := by simpa using h2
        have HIN := Lib.hid (o_get Q s b os last KL8 (k1, k2, k3) _ HB1.out.sto HK.out)
        have HRN := Lib.hid (fun W (hR : ∃ A c, RefO W Q r A c os last KL8) => (show Calls _ _ _ W _ from by obtain ⟨A, c, hR⟩ := hR; exact r_getO Q r A c os last KL8 (k1, k2, k3) W hR HGO.out))
        have HGL := Lib.hid HB1.out.sto.len
        simp only at HIN HRN
        generalize (gotO (if (findS KL8 k1).isSome = true then findB os (k1, k2, k3) else none)) = go at *
        generalize fndR KL8 os (k1, k2, k3) = er at *
        generalize row.length = nw at *
        have b2 := beq_selfI er
        clear h0 h1 h2
        go_enter Try.func14, Try.ntmps14
        go_wp2_with fail
        refine HIN.out.mono ?_
        rintro x w2 ⟨u, rfl, hu, hb2⟩
        obtain ⟨⟨g1, g2, g3⟩, gv, gc⟩ := go
        simp only at hu HRN
        have hx2 := (hb2.block w.heap.size (by rw [HZ.out]; omega)).trans HX.out
        have HB2 := Lib.hid (HBA.out.trans (hb2.mono (by rw [HZ.out]; omega)))
        have HBO2 := Lib.hid (HB1.out.below hb2)
        have HU := Lib.hid hu
        obtain ⟨_, Au, cu, rfl, _, _⟩ := hu
        unfold oV
        simp only
        have hon2 := one_new w2 (.cells #[.string g1, .string g2, .string g3, .int .i64 gv, .slice Au gc.length cu] 36)
        have hl2 := (Array.getElem?_eq_some_iff.1 hx2).1
        have HX2 := Lib.hid ((hon2.block w.heap.size hl2).trans hx2)
        have HN2 := Lib.hid (World.alloc_heap_new w2 (.cells #[.string g1, .string g2, .string g3, .int .i64 gv, .slice Au gc.length cu] 36))
        have HBO3 := Lib.hid (HBO2.out.below hon2)
        have HU2 := Lib.hid (HU.out.below hon2)
        have HB3 := Lib.hid (HB2.out.trans (hon2.mono HB2.out.size))
        have HRC := Lib.hid (HRN.out _ HBO3.out.ref)
        clear hb2 hon2 hx2
        go_upto_region 3 with (fail)
        have hsz2 : (w2.alloc (.cells #[.string g1, .string g2, .string g3, .int .i64 gv, .slice Au gc.length cu] 36)).heap.size = w2.heap.size + 1 := by simp
        generalize w2.alloc (.cells #[.string g1, .string g2, .string g3, .int .i64 gv, .slice Au gc.length cu] 36) = w3 at *
        generalize w2.heap.size = H2 at *
        clear c0 c1 c2 c3 c4 c5
        obtain ⟨c0, c1, c2, c3, c4, c5⟩ := six_cells HX2.out
        go_wp2_with fail
        refine HRC.out.mono ?_
        rintro x w4 ⟨u2, rfl, hu2, hb4⟩
        have HBO4 := Lib.hid (HBO3.out.below hb4)
        have HB4 := Lib.hid (HB3.out.trans (hb4.mono HB3.out.size))
        have HN4 := Lib.hid ((hb4.block H2 (by omega)).trans HN2.out)
        have HU4 := Lib.hid (HU2.out.below hb4)
        have HV4 := Lib.hid hu2
        obtain ⟨_, Au2, cu2, rfl, _, _⟩ := hu2
        unfold oV
        simp only
        have hon4 := one_new w4 (.cells #[.string g1, .string g2, .string g3, .int .i64 gv, .slice Au2 gc.length cu2] 36)
        have HEQ := Lib.hid (r_equalO _ _ (g1, g2, g3) gv _ _ gc _ (HU4.out.below hon4) (HV4.out.below hon4))
        have HBO5 := Lib.hid (HBO4.out.below hon4)
        have HB5 := Lib.hid (HB4.out.trans (hon4.mono HB4.out.size))
        obtain ⟨a0, a1, a2, a3, a4⟩ := five_cells ((hon4.block H2 (Array.getElem?_eq_some_iff.1 HN4.out).1).trans HN4.out)
        obtain ⟨e0, e1, e2, e3, e4⟩ := five_cells (World.alloc_heap_new w4 (.cells #[.string g1, .string g2, .string g3, .int .i64 gv, .slice Au2 gc.length cu2] 36))
        unfold oV at HEQ
        simp only at HEQ
        generalize gc.length = nc at *
        clear hon4 hb4 c0 c1 c2 c3 c4 c5
        go_wp2_with fail
        refine HEQ.out.mono ?_
        rintro x w5 ⟨rfl, hb5⟩
        have HBO6 := Lib.hid (HBO5.out.below hb5)
        have HB6 := Lib.hid (HB5.out.trans (hb5.mono HB5.out.size))
        clear hb5 a0 a1 a2 a3 a4 e0 e1 e2 e3 e4
        go_wp2
        go_ret
        exact ⟨rfl, ⟨os, last, HBO6.out, by omega, by omega⟩, O3.of HB6.out⟩
end
section
open Go.RowKit Go.Maps

theorem OwnO.slice {w : World} {base n : Nat} {v : Value} {zs : List OE} (h : OwnO w base v zs) (hn : zs.length = n) : ∃ A c, v = .slice A n c ∧ CellsQ w (fun k => base ≤ k ∧ v.ownBlock = some k) A (flatO zs) := by
  obtain ⟨A, c, hv, _, _, hc⟩ := h.cells
  exact ⟨A, c, by rw [hv, hn], hc⟩

set_option maxRecDepth 100000 in
set_option maxHeartbeats 8000000 in
theorem l_alike8 (Q : Nat → Prop) (s b r : Nat) (os : List Ob) (last : Int) (w : World) (hB : Bo w Q s b r os last) :
    Calls Try.prog 17 #[.pointer (some ⟨s, 0, none⟩), .pointer (some ⟨r, 0, none⟩)] w fun e w' => e = .returned (.bool true) ∧ Below w.heap.size w w' := by
  have hfew := hB.good.few
  have hrl := hB.rlt
  have HBO := Lib.hid hB
  obtain ⟨AR, cR, hR⟩ := hB.ref
  have HR := Lib.hid hR
  obtain ⟨kv, es, h1, h2, _⟩ := hR
  obtain ⟨_, Ak, ck, rfl, hk0, hkc, ls, hs1, hs2⟩ := h2
  have HS1 := Lib.hid hs1
  have HS2 := Lib.hid hs2
  have HCL := Lib.hid (fun W (hW : Below w.heap.size w W) => show W.cell? ⟨r, 0, none⟩ = some (.slice Ak 2 ck) ∧ W.cell? ⟨r, 1, none⟩ = some (.slice AR os.length cR) ∧ W.cell? ⟨r, 2, none⟩ = some (.int .i64 last) from
    ⟨cell_of_row W r 0 _ _ _ ((hW.block r hrl).trans h1), cell_of_row W r 1 _ _ _ ((hW.block r hrl).trans h1), cell_of_row W r 2 _ _ _ ((hW.block r hrl).trans h1)⟩)
  have HAL := Lib.hid (fun W kd (hW : Below w.heap.size w W) => o_all Q s b os last KL8 kd W (HBO.out.below hW).sto HBO.out.good)
  have HRL := Lib.hid (fun W kd (hW : Below w.heap.size w W) => r_allO Q r AR cR os last KL8 kd W (HR.out.below hW) (by omega))
  have HLN := Lib.hid (fun W (hW : Below w.heap.size w W) => o_len Q s b os last KL8 W (HBO.out.below hW).sto)
  have HLS := Lib.hid (fun W (hW : Below w.heap.size w W) => o_last Q s b os last KL8 W (HBO.out.below hW).sto)
  clear hB h1 hs1 hs2 hk0 hkc
  go_enter Try.func17, Try.ntmps17
  go_wp2
  go_loopw [5] (fun i wr => ∃ (k : Nat), k ≤ 2 ∧ i = .int .i64 k ∧ Below w.heap.size w wr) (fun i _ => 2 - (intOf i).toNat)
  case atStart => exact ⟨0, by omega, rfl, Below.refl _ _⟩
  case round =>
    obtain ⟨k, hk, rfl, hb⟩ := hrel
    have HB := Lib.hid hb
    obtain ⟨c0, c1, c2⟩ := HCL.out wr hb
    have hsz := hb.size
    by_cases hlt : k < 2
    · have hg : decide ((k : Int) < (2 : Int)) = true := by simp; omega
      obtain ⟨kd, hkd⟩ : ∃ x, KL8[k]? = some x := ⟨_, List.getElem?_eq_getElem (show k < KL8.length from hlt)⟩
      obtain ⟨a, vv, rfl, _, _, d0, _⟩ := kind_get (HS1.out.keep (Below.keepQ hb Q)) (HS2.out.keep (Below.keepQ hb Q)) k kd hkd
      obtain ⟨nm, cols⟩ := kd
      simp only at d0
      have hk0 : (0 : Int) ≤ (k : Int) := by omega
      have hk2 : (k : Int) < 2 := by omega
      have HSF := Lib.hid (fun W (hW : Below wr.heap.size wr W) => show W.cell? ⟨r, 0, none⟩ = some (.slice (some a) 2 ck) ∧ W.cell? (a.add (k * 2)) = some (.string nm) from ⟨(HCL.out W (HB.out.trans (hW.mono hsz))).1, cell_up d0 hW⟩)
      clear hkd hb c1 c2
      go_wp2_with fail
      go_region_held3 (fun W : World => W.cell? ⟨r, 0, none⟩ = some (.slice (some a) 2 ck) ∧ W.cell? (a.add (k * 2)) = some (.string nm)) (go_keep)
        (first
          | (go_at_call 19; refine (HAL.out _ _ (by exact HB.out.drew)).mono ?_; rintro x w2 ⟨⟨v1, zs1, rfl, ho1, hz1⟩, hb2⟩; have hwb := (below_drew wr.heap.size wr).trans hb2; have HW2 := Lib.hid hwb; have HO1 := Lib.hid ho1; have HZ1 := Lib.hid hz1; obtain ⟨A1, c1, hv1, hc1⟩ := ho1.slice hz1.len; subst hv1; have HC1 := Lib.hid hc1; have HRC := Lib.hid (HRL.out w2 nm (HB.out.trans (hwb.mono hsz))); obtain ⟨p0, p1⟩ := HSF.out w2 hwb; clear hb2 ho1 hz1 hc1 hwb)
          | (go_at_call 20; refine HRC.out.mono ?_; rintro x w3 ⟨⟨v2, zs2, rfl, ho2, hz2⟩, hb3⟩; have HZ2 := Lib.hid hz2; obtain ⟨A2, c2, hv2, hc2⟩ := ho2.slice hz2.len; subst hv2; have hwb := HW2.out.trans (hb3.mono HW2.out.size); have HW3 := Lib.hid hwb; have HSM := Lib.hid (r_sameO _ _ _ _ zs1 zs2 (ofKind os nm) A1 A2 c1 c2 w3 (HC1.out.keep (Below.keepQ hb3 _)) hc2 (HZ1.out.below hb3) hz2 (Nat.le_trans (ofKind_len os nm) (by omega))); obtain ⟨q0, q1⟩ := HSF.out w3 hwb; clear hb3 ho2 hz2 hc2 hwb)
          | (go_at_call 18; refine HSM.out.mono ?_; rintro x w4 ⟨rfl, hb4⟩; have hwb := HW3.out.trans (hb4.mono HW3.out.size); have HW4 := Lib.hid hwb; obtain ⟨r0, r1⟩ := HSF.out w4 hwb; clear hb4 hwb))
      go_wp2
      go_roundw
      case rel => exact ⟨k + 1, by omega, by go_num, HB.out.trans (HW4.out.mono hsz)⟩
      case measure => simp [intOf]; omega
    · have hk2 : k = 2 := by omega
      subst hk2
      have b1 := beq_selfI (os.length : Int)
      have b2 := beq_selfI last
      obtain ⟨XE, xf, hXN, hX1, hX0, hX2⟩ := ext_class wr.heap.size wr (Nat.le_refl _)
      have HX1 := Lib.hid hX1
      have HX2 := Lib.hid hX2
      have hin := hX0 wr.drew (Below.drew (Below.refl _ _))
      have HWX := Lib.hid (fun e => HB.out.trans ((HX1.out e).mono hsz))
      have e1 := fun e => (HCL.out (xf e) (HWX.out e)).2.1
      have e2 := fun e => (HCL.out (xf e) (HWX.out e)).2.2
      have HL1 := Lib.hid (fun e => HLN.out (xf e) (HWX.out e))
      have HL2 := Lib.hid (fun e => HLS.out (xf e) (HWX.out e))
      clear hb hX0 hX1 hX2 c1 c2
      go_wp2_with fail
      refine wp_region_quiet (C := fun W => ∃ e, W = xf e) (by kernel_rfl) (by kernel_rfl) hin ?_
      clear hin
      dsimp only
      repeat (go_big_quiet_step ((first | (go_at_call 41; refine (HL1.out _).mono ?_; rintro x w5 ⟨rfl, hb5⟩; exact ⟨rfl, HX2.out _ _ hb5⟩) | (go_at_call 49; refine (HL2.out _).mono ?_; rintro x w5 ⟨rfl, hb5⟩; exact ⟨rfl, HX2.out _ _ hb5⟩))))
      refine wpQuiet_nil ?_
      intro w5 hW5
      obtain ⟨ee, hW5⟩ := hW5
      have hb5 : Below w.heap.size w w5 := by rw [hW5]; exact HWX.out ee
      have HB5 := Lib.hid hb5
      clear hW5 hb5 e1 e2
      go_wp2
      go_ret
      exact ⟨rfl, HB5.out⟩
end
end Go.Proofs.Ytmiagdmfgebfdaa
