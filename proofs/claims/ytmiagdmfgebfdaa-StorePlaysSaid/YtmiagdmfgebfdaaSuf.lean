/-
  Equal, Same of the document's store: two objects that are one, two lists that are one.
  Condition: no more than a thousand objects.
  All, Copy of the document's store.
  Condition: no more than a thousand objects.
-/
import Derived.Test.YtmiagdmfgebfdaaSua
import Derived.BigQuiet
import Derived.Test.YtmiagdmfgebfdaaSue
import Derived.Test.YtmiagdmfgebfdaaSuy
namespace Go.Proofs.Ytmiagdmfgebfdaa
section
open Go.RowKit Go.Maps

set_option maxRecDepth 100000 in
set_option maxHeartbeats 2000000 in
theorem r_equalO (Q R : Nat → Prop) (k : Ky) (v : Int) (u1 u2 : Value) (c : List V) (w : World) (h1 : IsRow w Q u1 c) (h2 : IsRow w R u2 c) :
    Calls Try.prog 48 #[oV ⟨k, v, u1⟩, oV ⟨k, v, u2⟩] w fun e w' => e = .returned (.bool true) ∧ Below w.heap.size w w' := by
  obtain ⟨k1, k2, k3⟩ := k
  obtain ⟨hl1, A1, c1, rfl, _, hr1⟩ := h1
  obtain ⟨_, A2, c2, rfl, _, hr2⟩ := h2
  have hba := two_new w (.cells #[.string k1, .string k2, .string k3, .int .i64 v, .slice A1 c.length c1] 36) (.cells #[.string k1, .string k2, .string k3, .int .i64 v, .slice A2 c.length c2] 36)
  have hx := ((one_new (w.alloc (.cells #[.string k1, .string k2, .string k3, .int .i64 v, .slice A1 c.length c1] 36)) (.cells #[.string k1, .string k2, .string k3, .int .i64 v, .slice A2 c.length c2] 36)).block w.heap.size (by simp)).trans (World.alloc_heap_new w _)
  have hy := alloc2_new w (.cells #[.string k1, .string k2, .string k3, .int .i64 v, .slice A1 c.length c1] 36) (.cells #[.string k1, .string k2, .string k3, .int .i64 v, .slice A2 c.length c2] 36)
  obtain ⟨x0, x1, x2, x3, x4⟩ := five_cells hx
  obtain ⟨y0, y1, y2, y3, y4⟩ := five_cells hy
  have HBA := Lib.hid hba
  have HE := Lib.hid (ref_equal A1 A2 c c c.length c.length c1 c2 _ rfl rfl (by unfold maxLen; omega) (hr1.keep (Below.keepQ hba Q)).at (hr2.keep (Below.keepQ hba R)).at)
  rw [eqR_self] at HE
  have e1 : (k1.toList == k1.toList) = true := by simp
  have e2 : (k2.toList == k2.toList) = true := by simp
  have e3 : (k3.toList == k3.toList) = true := by simp
  have e4 : (v == v) = true := by simp
  generalize c.length = n at *
  clear hx hy hba hr1 hr2
  unfold oV
  simp only
  go_enter Try.func48, Try.ntmps48
  go_wp2_with fail
  refine HE.out.mono ?_
  rintro e w1 ⟨rfl, nd, rfl⟩
  go_wp2
  go_ret
  exact ⟨rfl, below_drewN' HBA.out nd⟩
/-- An object of a list, cell by cell. -/
theorem cells_atO {w : World} {Q Q' : Nat → Prop} {A : Option Addr} {es : List OE} {os : List Ob} (h4 : ObR w Q' es os) (h5 : CellsQ w Q A (flatO es)) (i : Nat) (o : Ob) (ho : os[i]? = some o) :
    ∃ (a : Addr) (u : Value), A = some a ∧ IsRow w Q' u o.c ∧ w.cell? (a.add (i * 5)) = some (.string o.key.1) ∧ w.cell? { block := (a.add (i * 5)).block, off := (a.add (i * 5)).off + 1 } = some (.string o.key.2.1) ∧ w.cell? { block := (a.add (i * 5)).block, off := (a.add (i * 5)).off + 2 } = some (.string o.key.2.2) ∧ w.cell? { block := (a.add (i * 5)).block, off := (a.add (i * 5)).off + 3 } = some (.int .i64 o.v) ∧ w.cell? { block := (a.add (i * 5)).block, off := (a.add (i * 5)).off + 4 } = some u := by
  obtain ⟨e, he, hk, hv, hr⟩ := h4.get i o ho
  have g : ∀ j u, j < 5 → [Value.string e.key.1, .string e.key.2.1, .string e.key.2.2, .int .i64 e.v, e.u][j]? = some u → ∃ a : Addr, A = some a ∧ w.cell? (a.add (i * 5 + j)) = some u := by
    intro j u hj hu
    obtain ⟨a, h1, _, h3⟩ := h5 (i * 5 + j) u ((flatO_get es i e j he hj).trans hu)
    exact ⟨a, h1, h3⟩
  obtain ⟨a, rfl, g0⟩ := g 0 _ (by omega) rfl
  have gg : ∀ j u, j < 4 → [Value.string e.key.2.1, .string e.key.2.2, .int .i64 e.v, e.u][j]? = some u → w.cell? { block := (a.add (i * 5)).block, off := (a.add (i * 5)).off + (j + 1) } = some u := by
    intro j u hj hu
    obtain ⟨a', h1, h3⟩ := g (j + 1) u (by omega) (by simpa using hu)
    injection h1 with h1
    subst h1
    have z : a.add (i * 5 + (j + 1)) = { block := (a.add (i * 5)).block, off := (a.add (i * 5)).off + (j + 1) } := by
      unfold Addr.add
      split
      · omega
      · split <;> simp_all <;> omega
    rw [← z]
    exact h3
  rw [hk, hv] at gg
  rw [hk] at g0
  exact ⟨a, e.u, rfl, hr, g0, gg 0 _ (by omega) rfl, gg 1 _ (by omega) rfl, gg 2 _ (by omega) rfl, gg 3 _ (by omega) rfl⟩
theorem ObR.below {w w' : World} {Q : Nat → Prop} {es : List OE} {os : List Ob} (h : ObR w Q es os) (hb : Below w.heap.size w w') : ObR w' Q es os := h.keep (Below.keepQ hb Q)

set_option maxRecDepth 100000 in
set_option maxHeartbeats 4000000 in
theorem r_sameO (Q Q' R R' : Nat → Prop) (es fs : List OE) (os : List Ob) (A B : Option Addr) (c d : Nat) (w : World) (hA : CellsQ w Q A (flatO es)) (hB : CellsQ w R B (flatO fs)) (h1 : ObR w Q' es os) (h2 : ObR w R' fs os) (hl : os.length ≤ 1000) :
    Calls Try.prog 18 #[.slice A os.length c, .slice B os.length d] w fun e w' => e = .returned (.bool true) ∧ Below w.heap.size w w' := by
  have HA := Lib.hid hA
  have HB := Lib.hid hB
  have H1 := Lib.hid h1
  have H2 := Lib.hid h2
  clear hA hB h1 h2
  go_enter Try.func18, Try.ntmps18
  go_wp2
  go_loopw [5] (fun i wr => ∃ (k : Nat), k ≤ os.length ∧ i = .int .i64 k ∧ Below w.heap.size w wr) (fun i _ => os.length - (intOf i).toNat)
  case atStart => exact ⟨0, Nat.zero_le _, rfl, Below.refl _ _⟩
  case round =>
    obtain ⟨k, hk, rfl, hb⟩ := hrel
    have HBW := Lib.hid hb
    have hsz := hb.size
    by_cases hlt : k < os.length
    · have hg : decide ((k : Int) < (os.length : Int)) = true := by simp; omega
      obtain ⟨o, ho⟩ : ∃ o, os[k]? = some o := ⟨_, List.getElem?_eq_getElem hlt⟩
      obtain ⟨XE, xf, hXN, hX1, hX0, hX2⟩ := ext_class wr.heap.size wr (Nat.le_refl _)
      have HX1 := Lib.hid hX1
      have HX2 := Lib.hid hX2
      have hin := hX0 wr.drew (Below.drew (Below.refl _ _))
      obtain ⟨a, u, rfl, hu, d0, d1, d2, d3, d4⟩ := cells_atO (H1.out.below hb) (HA.out.below hb) k o ho
      obtain ⟨a2, u2, rfl, hu2, b0, b1, b2, b3, b4⟩ := cells_atO (H2.out.below hb) (HB.out.below hb) k o ho
      have HEQ := Lib.hid (fun e => r_equalO Q' R' o.key o.v u u2 o.c (xf e) (hu.below (HX1.out e)) (hu2.below (HX1.out e)))
      obtain ⟨_, Au, cu, rfl, _, _⟩ := hu
      obtain ⟨_, Au2, cu2, rfl, _, _⟩ := hu2
      have e0 := fun e => cell_up d0 (HX1.out e)
      have e1 := fun e => cell_up d1 (HX1.out e)
      have e2 := fun e => cell_up d2 (HX1.out e)
      have e3 := fun e => cell_up d3 (HX1.out e)
      have e4 := fun e => cell_up d4 (HX1.out e)
      have f0 := fun e => cell_up b0 (HX1.out e)
      have f1 := fun e => cell_up b1 (HX1.out e)
      have f2 := fun e => cell_up b2 (HX1.out e)
      have f3 := fun e => cell_up b3 (HX1.out e)
      have f4 := fun e => cell_up b4 (HX1.out e)
      unfold oV at HEQ
      simp only at HEQ
      generalize o.c.length = nu at *
      clear hX0 hX1 hX2 d0 d1 d2 d3 d4 b0 b1 b2 b3 b4 hb ho
      go_wp2
      refine wp_region_quiet (C := fun W => ∃ e, W = xf e) (by kernel_rfl) (by kernel_rfl) hin ?_
      clear hin
      dsimp only
      repeat (go_big_quiet_step ((go_at_call 48; refine (HEQ.out _).mono ?_; rintro e w5 ⟨rfl, hb5⟩; exact ⟨rfl, HX2.out _ _ hb5⟩)))
      refine wpQuiet_nil ?_
      intro w5 hW5
      obtain ⟨ee, hW5⟩ := hW5
      have hb5 : Below wr.heap.size wr w5 := by rw [hW5]; exact HX1.out ee
      have HB5 := Lib.hid (HBW.out.trans (hb5.mono hsz))
      clear hW5 hb5 e0 e1 e2 e3 e4 f0 f1 f2 f3 f4 HX1 HX2
      go_wp2
      go_roundw
      case rel => exact ⟨k + 1, by omega, by go_num, HB5.out⟩
      case measure => simp [intOf]; omega
    · clear hb
      go_wp2
      go_ret
      exact ⟨rfl, HBW.out⟩
end
section
open Go.RowKit Go.Maps

def kOf (es : List OE) (kd : ByteArray) : List OE := es.filter fun x => x.key.1.toList == kd.toList
theorem ObR.kind {w : World} {Q : Nat → Prop} (kd : ByteArray) : ∀ {es : List OE} {os : List Ob}, ObR w Q es os → ObR w Q (kOf es kd) (ofKind os kd)
  | [], [], _ => trivial
  | e :: es, o :: os, h => by
    have ih := h.2.kind kd
    unfold kOf ofKind at ih ⊢
    rw [List.filter_cons, List.filter_cons, h.1.1]
    split
    · exact ⟨h.1, ih⟩
    · exact ih
theorem kOf_step (es : List OE) (kd : ByteArray) (k : Nat) (e : OE) (h : es[k]? = some e) : kOf (es.take (k + 1)) kd = kOf (es.take k) kd ++ (if (e.key.1.toList == kd.toList) = true then [e] else []) := by
  unfold kOf
  rw [List.take_add_one, h, List.filter_append]
  by_cases hc : (e.key.1.toList == kd.toList) = true <;> simp [hc]
theorem kOf_len (es : List OE) (kd : ByteArray) (k : Nat) : (kOf (es.take k) kd).length ≤ k := by
  unfold kOf
  refine Nat.le_trans (List.length_filter_le _ _) ?_
  rw [List.length_take]
  omega
theorem ObR.get3 {w : World} {Q : Nat → Prop} : ∀ {a : List OE} {b : List Ob} (i : Nat) (e : OE), ObR w Q a b → a[i]? = some e → ∃ o, b[i]? = some o ∧ e.key = o.key ∧ e.v = o.v ∧ IsRow w Q e.u o.c
  | [], [], i, o, _, h => by simp at h
  | e :: _, o' :: _, 0, o, h1, h => by
    have : e = o := by simpa using h
    subst this
    exact ⟨o', rfl, h1.1⟩
  | _ :: _, _ :: _, i + 1, o, h1, h => by
    obtain ⟨e, h2, h3⟩ := h1.2.get3 i o (by simpa using h)
    exact ⟨e, by simpa using h2, h3⟩
/-- An entry of a list, cell by cell. -/
theorem cells_atE {w : World} {Q : Nat → Prop} {A : Option Addr} {es : List OE} (h5 : CellsQ w Q A (flatO es)) (i : Nat) (e : OE) (he : es[i]? = some e) :
    ∃ a : Addr, A = some a ∧ w.cell? (a.add (i * 5)) = some (.string e.key.1) ∧ w.cell? { block := (a.add (i * 5)).block, off := (a.add (i * 5)).off + 1 } = some (.string e.key.2.1) ∧ w.cell? { block := (a.add (i * 5)).block, off := (a.add (i * 5)).off + 2 } = some (.string e.key.2.2) ∧ w.cell? { block := (a.add (i * 5)).block, off := (a.add (i * 5)).off + 3 } = some (.int .i64 e.v) ∧ w.cell? { block := (a.add (i * 5)).block, off := (a.add (i * 5)).off + 4 } = some e.u := by
  have g : ∀ j u, j < 5 → [Value.string e.key.1, .string e.key.2.1, .string e.key.2.2, .int .i64 e.v, e.u][j]? = some u → ∃ a : Addr, A = some a ∧ w.cell? (a.add (i * 5 + j)) = some u := by
    intro j u hj hu
    obtain ⟨a, h1, _, h3⟩ := h5 (i * 5 + j) u ((flatO_get es i e j he hj).trans hu)
    exact ⟨a, h1, h3⟩
  obtain ⟨a, rfl, g0⟩ := g 0 _ (by omega) rfl
  have gg : ∀ j u, j < 4 → [Value.string e.key.2.1, .string e.key.2.2, .int .i64 e.v, e.u][j]? = some u → w.cell? { block := (a.add (i * 5)).block, off := (a.add (i * 5)).off + (j + 1) } = some u := by
    intro j u hj hu
    obtain ⟨a', h1, h3⟩ := g (j + 1) u (by omega) (by simpa using hu)
    injection h1 with h1
    subst h1
    have z : a.add (i * 5 + (j + 1)) = { block := (a.add (i * 5)).block, off := (a.add (i * 5)).off + (j + 1) } := by
      unfold Addr.add
      split
      · omega
      · split <;> simp_all <;> omega
    rw [← z]
    exact h3
  exact ⟨a, rfl, g0, gg 0 _ (by omega) rfl, gg 1 _ (by omega) rfl, gg 2 _ (by omega) rfl, gg 3 _ (by omega) rfl⟩

set_option maxRecDepth 100000 in
set_option maxHeartbeats 4000000 in
theorem r_allO (Q : Nat → Prop) (r : Nat) (A : Option Addr) (c : Nat) (os : List Ob) (last : Int) (KL : List Sc) (kd : ByteArray) (w : World) (hR : RefO w Q r A c os last KL) (hl : os.length ≤ 1000) :
    Calls Try.prog 20 #[.pointer (some ⟨r, 0, none⟩), .string kd] w fun e w' => (∃ v zs, e = .returned v ∧ OwnO w' w.heap.size v zs ∧ ObR w' Q zs (ofKind os kd)) ∧ Below w.heap.size w w' := by
  have hrl := hR.lt
  obtain ⟨kv, es, h1, h2, h3, h4, h5, h6, h7⟩ := hR
  have hlen := h4.len
  have HLEN := Lib.hid hlen
  have HCL := Lib.hid (fun W (hW : Below w.heap.size w W) => show W.cell? ⟨r, 1, none⟩ = some (.slice A os.length c) from cell_of_row W r 1 _ _ _ ((hW.block r hrl).trans h1))
  have HAT := Lib.hid (fun W (hW : Below w.heap.size w W) (i : Nat) (e : OE) (he : es[i]? = some e) => cells_atE (h5.keep (Below.keepQ hW Q)) i e he)
  have H4 := Lib.hid h4
  have HONE := Lib.hid h4.one
  clear h1 h2 h3 h4 h5 h6 h7 hlen
  go_enter Try.func20, Try.ntmps20
  go_wp2
  go_loopw [5, 6] (fun v i wr => ∃ (k : Nat), k ≤ os.length ∧ i = .int .i64 k ∧ Hid (OwnO wr w.heap.size v (kOf (es.take k) kd)) ∧ Below w.heap.size w wr) (fun _ i _ => os.length - (intOf i).toNat)
  case atStart => exact ⟨0, Nat.zero_le _, rfl, Lib.hid (OwnO.nil _ _), Below.refl _ _⟩
  case round =>
    obtain ⟨k, hk, rfl, HOW, hb⟩ := hrel
    have HB := Lib.hid hb
    have c1 := HCL.out wr hb
    have hsz := hb.size
    clear hb
    by_cases hlt : k < os.length
    · obtain ⟨e, he⟩ : ∃ e, es[k]? = some e := ⟨_, List.getElem?_eq_getElem (by rw [HLEN.out]; exact hlt)⟩
      obtain ⟨a, rfl, d0, d1, d2, d3, d4⟩ := HAT.out wr HB.out k e he
      have HST := Lib.hid (kOf_step es kd k e he)
      have hkl := kOf_len es kd k
      have h1u := HONE.out e (List.mem_of_getElem? he)
      obtain ⟨Au, nu, cu, hu⟩ : ∃ A n c, e.u = .slice A n c := by
        obtain ⟨o, _, _, _, _, A', c', hu', _⟩ := H4.out.get3 k e he
        exact ⟨_, _, _, hu'⟩
      obtain ⟨⟨e1, e2, e3⟩, ev, eu⟩ := e
      simp only at hu d0 d1 d2 d3 d4 h1u
      subst hu
      clear he
      by_cases hc : (e1.toList == kd.toList) = true
      · have HLIT := Lib.hid (lit_O wr ⟨(e1, e2, e3), ev, .slice Au nu cu⟩ 36)
        have HST2 : Hid (kOf (es.take (k + 1)) kd = kOf (es.take k) kd ++ [⟨(e1, e2, e3), ev, .slice Au nu cu⟩]) := Lib.hid (by rw [HST.out, if_pos hc])
        simp only at HLIT
        clear HST
        generalize kOf (es.take k) kd = acc at *
        go_wp2_with (at_builtin; go_must (refine wp_append_O _ rfl (.tmp 26) (.tmp 34) rfl w.heap.size _ acc [(⟨(e1, e2, e3), ev, .slice Au nu cu⟩ : OE)] rfl (HOW.out.alloc _) _ (some ⟨wr.heap.size, 0, none⟩) 1 _ rfl rfl HLIT.out (by intro e he; rw [List.mem_singleton.1 he]; rfl) (by simp; omega) (by simp; omega) ?_; intro v8 w8 hown8 hb8 _ _; have HO8 := Lib.hid hown8; obtain ⟨A8, c8, hv8⟩ := hown8.form; rw [List.length_append, List.length_singleton] at hv8; subst hv8; have HB8 := Lib.hid (HB.out.trans (((one_new wr _).mono hsz).trans hb8)); clear hown8 hb8))
        go_roundw
        case rel => exact ⟨k + 1, by omega, by go_num, Lib.hid (by rw [HST2.out]; exact HO8.out), HB8.out⟩
        case measure => simp [intOf]; omega
      · have hc' : (e1.toList == kd.toList) = false := by simpa using hc
        have HST2 : Hid (kOf (es.take (k + 1)) kd = kOf (es.take k) kd) := Lib.hid (by rw [HST.out, if_neg hc, List.append_nil])
        clear hc HST
        go_wp2
        go_roundw
        case rel => exact ⟨k + 1, by omega, by go_num, Lib.hid (by rw [HST2.out]; exact HOW.out), HB.out⟩
        case measure => simp [intOf]; omega
    · have hke : k = os.length := by omega
      subst hke
      have HFI : Hid (kOf (es.take os.length) kd = kOf es kd) := Lib.hid (by rw [← HLEN.out, List.take_length])
      obtain ⟨A9, c9, hv9⟩ := HOW.out.form
      go_wp2
      go_ret
      exact ⟨⟨_, kOf es kd, rfl, by rw [← HFI.out]; exact HOW.out, (H4.out.keep (Below.keepQ HB.out Q)).kind kd⟩, HB.out⟩
end
end Go.Proofs.Ytmiagdmfgebfdaa
