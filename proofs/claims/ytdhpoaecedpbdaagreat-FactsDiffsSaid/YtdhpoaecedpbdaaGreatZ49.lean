/-
  The rows of a relation in a state, of package facts and of the document; known of verdererlaw10.
  No condition.
  FactsRows of verdererlaw10 answers true at every list of acts, every object, every tenant and every relation, in every world, and changes nothing that was there.
  No condition but that texts are no longer than they can be.
-/
import Derived.Outline
import Derived.Test.YtdhpoaecedpbdaaGreatZ35
import Derived.Test.YtdhpoaecedpbdaaGreatZ36
import Derived.Test.YtdhpoaecedpbdaaGreatZ37
import Derived.Test.YtdhpoaecedpbdaaGreatZ41
import Derived.Test.YtdhpoaecedpbdaaGreatZ48
import Derived.Test.YtdhpoaecedpbdaaGreatZ9
namespace Go.Proofs.YtdhpoaecedpbdaaGreat
section
open Go.RowKit Go.Maps

/-- The rows of a relation. -/
def rowsW (os : List Ob) (L : List Tn) (rel : ByteArray) : List (List V) := if rel = tenB then L.map rowT else (ofKind os rel).map rowO
theorem tenB_list : tenB.toList = [116, 101, 110, 97, 110, 116] := by decide +kernel
theorem not_tenB {rel : ByteArray} (h : ¬ rel = tenB) : (rel.toList == [116, 101, 110, 97, 110, 116]) = false := by
  rw [← tenB_list]
  have h2 : ¬ (rel.toList == tenB.toList) = true := fun e => h (toList_eqT.1 e)
  simpa using h2
theorem rowsW_len {os : List Ob} {L : List Tn} (hg : GoodO os) (hL : GoodT L) (rel : ByteArray) : (rowsW os L rel).length ≤ 120 := by
  unfold rowsW
  have := hg.few
  have := hL.few
  have := ofKind_len os rel
  split <;> rw [List.length_map] <;> omega
theorem rowsW_ne {os : List Ob} {L : List Tn} (hm : May os) (rel : ByteArray) : Ne (rowsW os L rel) := by
  intro x hx
  unfold rowsW at hx
  split at hx
  · obtain ⟨y, _, rfl⟩ := List.mem_map.1 hx
    exact ⟨by simp [rowT], by simp [rowT]⟩
  · obtain ⟨y, hy, rfl⟩ := List.mem_map.1 hx
    have := (hm.one (List.mem_filter.1 hy).1).1
    exact ⟨by simp [rowO]; omega, by simp [rowO]⟩
theorem f_rowsW (Q : Nat → Prop) (s b t bt : Nat) (D : DataW Value) (os : List Ob) (last : Int) (L : List Tn) (w : World) (hS : StoB w Q s b os last KL8) (hg : GoodO os) (hm : May os) (hT : TreeB w t bt D L) (hL : GoodT L) :
    RowsAre w (.pointer (some ⟨s, 0, none⟩)) (.pointer (some ⟨t, 0, none⟩)) (rowsW os L) := by
  intro W rel hW
  refine ⟨by have := rowsW_len hg hL rel; omega, rowsW_ne hm rel, ?_⟩
  by_cases h : rel = tenB
  · subst h
    unfold rowsW
    rw [if_pos rfl]
    exact f_relT _ t bt D L W (hT.below hW) hL.srt (by have := hL.few; omega)
  · unfold rowsW
    rw [if_neg h]
    exact f_relO Q s b _ os last KL8 rel W (hS.below hW) hg (fun o ho => by have := (hm.one ho).1; omega) (not_tenB h)
theorem f_rowsN (w : World) : RowsAre w (.pointer none) (.pointer none) (fun _ => []) := by
  intro W rel _
  refine ⟨Nat.zero_le _, fun x hx => (by cases hx), (f_relNil rel W).mono ?_⟩
  rintro e w' ⟨v, rfl, ho, hb⟩
  exact ⟨v, [], rfl, ho, trivial, hb⟩
theorem right_fits {xs : List V} (h : xs.all rightV = true) : Fit xs := by
  intro i v hi
  have h1 := List.all_eq_true.1 h v (List.mem_of_getElem? hi)
  unfold rightV at h1
  simp only [Bool.and_eq_true, decide_eq_true_eq] at h1
  have := h1.2
  unfold maxLen
  omega
theorem r_rowsW (Q : Nat → Prop) (r q rt : Nat) (v0 : Value) (os : List Ob) (last : Int) (L : List Tn) (rel : ByteArray) (W : World) (hR : ∃ A c, RefO W Q r A c os last KL8) (hg : GoodO os) (hm : May os) (hT : RefB W q rt v0 L) (hL : GoodT L) :
    Calls Tryz.prog 11 #[.pointer (some ⟨r, 0, none⟩), .pointer (some ⟨rt, 0, none⟩), .string rel] W (RowsPost W (rowsW os L rel)) := by
  by_cases h : rel = tenB
  · subst h
    unfold rowsW
    rw [if_pos rfl]
    exact r_relT _ q rt v0 L W hT hL.srt (by have := hL.few; omega) (fun x hx => ⟨by have := nameR_short (hL.nam x hx); unfold maxLen; omega, by have := hL.par x hx; unfold maxLen; omega⟩)
  · unfold rowsW
    rw [if_neg h]
    obtain ⟨A, c, hR⟩ := hR
    exact r_relO Q r _ A c os last KL8 rel W hR hg (fun o ho => by
      obtain ⟨h1, h2, h3, h4⟩ := hm.one ho
      have h5 := nameR_short h3
      have h6 := nameR_short h4
      exact ⟨by omega, right_fits h2, by unfold maxLen; omega, by unfold maxLen; omega⟩) (not_tenB h)

/-! ### known -/
def podB10 : ByteArray := ⟨#[112, 111, 100]⟩
def xB10 : ByteArray := ⟨#[120]⟩
theorem k10_1 : chgs (fun _ => []) (rowsW [] k9a) [tenB, podB10] = [(tenB, ([txV nmA9, txV ⟨#[]⟩], 1))] := by kernel_rfl
theorem k10_2 : GoodT k9a := by rw [← k9_1]; exact addTn2_good GoodT.empty _ _
theorem k10_s : ∀ s ∈ [tenB, podB10], s.size ≤ maxLen := by decide +kernel

set_option maxRecDepth 100000 in
set_option maxHeartbeats 4000000 in
theorem known10 (w : World) : Calls Tryz.prog 7 #[] w fun e w' => e = .returned (.bool true) ∧ Below w.heap.size w w' := by
  go_enter Tryz.func7, Tryz.ntmps7
  go_wp2_with fail
  refine (l_begin w).mono ?_
  rintro e w1 ⟨s, b, r, t, bt, rt, rfl, hW, hb1⟩
  unfold wdV
  have hon := one_new w1 (.cells #[.pointer (some ⟨s, 0, none⟩), .pointer (some ⟨t, 0, none⟩), .pointer (some ⟨r, 0, none⟩), .pointer (some ⟨rt, 0, none⟩)] 33)
  have HB2 := Lib.hid (hb1.trans (hon.mono hb1.size))
  have hW2 := hW.below hon
  have hX := World.alloc_heap_new w1 (.cells #[.pointer (some ⟨s, 0, none⟩), .pointer (some ⟨t, 0, none⟩), .pointer (some ⟨r, 0, none⟩), .pointer (some ⟨rt, 0, none⟩)] 33)
  obtain ⟨⟨D, hT⟩, _, hGT, n1, n2, n3, n4, n5⟩ := hW2.st
  have hS := hW2.bo.sto
  have hap := hW2.ap
  have hbtl := hT.2.2.2.2.2
  have HADD := Lib.hid (t_add2 t bt D [] _ nmA9 ⟨#[]⟩ hT GoodT.empty k9_s.1 k9_s.2.2)
  rw [k9_1, k9_3] at HADD
  have HS := Lib.hid hS
  have HNS := Lib.hid hW2.bo.notr
  have HX := Lib.hid hX
  have HAP := Lib.hid hap
  have hbw : bt < w1.heap.size := (hW.lts).2.2.2.2.1
  unfold nmA9 at HADD
  clear hW hb1 hon hW2 hX hT hS hap
  go_wp2_with fail
  refine HADD.out.mono ?_
  rintro e w3 ⟨rfl, ho3, D3, hT3⟩
  have HT3 := Lib.hid hT3
  have hz3 := ho3.1.size
  have hz9 : (w1.alloc (.cells #[.pointer (some ⟨s, 0, none⟩), .pointer (some ⟨t, 0, none⟩), .pointer (some ⟨r, 0, none⟩), .pointer (some ⟨rt, 0, none⟩)] 33)).heap.size = w1.heap.size + 1 := by simp
  have HS3 := Lib.hid (HS.out.keep (w' := w3) (fun k hk hkl => ho3.2 k hkl (fun e => hk.2.2.2.2.1 e)) (ho3.2 s HS.out.lt.1 HAP.out.s2) (ho3.2 b HS.out.lt.2 HAP.out.b2) hz3)
  have HX3 := Lib.hid ((ho3.2 w1.heap.size (by omega) (by omega)).trans HX.out)
  have HB3 := Lib.hid (Only.below HB2.out ho3 n4)
  rw [hz9] at hz3
  obtain ⟨c0, c1, c2, c3⟩ : _ ∧ _ ∧ _ ∧ _ := ⟨cell_of_row w3 w1.heap.size 0 _ _ _ HX3.out, cell_of_row w3 w1.heap.size 1 _ _ _ HX3.out, cell_of_row w3 w1.heap.size 2 _ _ _ HX3.out, cell_of_row w3 w1.heap.size 3 _ _ _ HX3.out⟩
  clear hT3 ho3
  go_wp2_with fail
  have hlit : ∀ (j : Nat) (x : ByteArray), [tenB, podB10][j]? = some x → ∃ a : Addr, some (⟨w3.heap.size, 0, none⟩ : Addr) = some a ∧ (w3.alloc (.cells #[.string tenB, .string podB10] 9)).cell? (a.add j) = some (.string x) := lit_texts w3 #[.string tenB, .string podB10] [tenB, podB10] w3.heap.size rfl rfl
  have hon3 := one_new w3 (.cells #[.string tenB, .string podB10] 9)
  have HDF := Lib.hid (f_diff (.pointer none) (.pointer none) (.pointer (some ⟨s, 0, none⟩)) (.pointer (some ⟨t, 0, none⟩)) (fun _ => []) (rowsW [] k9a) (some ⟨w3.heap.size, 0, none⟩) 2 2 [tenB, podB10] _ rfl (by omega) hlit k10_s (f_rowsN _) (f_rowsW _ s b t bt D3 [] 0 k9a _ (HS3.out.below hon3) GoodO.nil (fun o ho => by cases ho) (HT3.out.below hon3) k10_2))
  rw [k10_1] at HDF
  have HON := Lib.hid (HB3.out.trans (hon3.mono HB3.out.size))
  clear hlit hon3
  refine HDF.out.mono ?_
  rintro e w5 ⟨v5, hs5, rfl, hown5, hch5, hb5⟩
  obtain ⟨Ac, cc, rfl, _, _, hcl⟩ := hown5.cells
  have hl5 : hs5.length = 1 := hch5.len
  rw [hl5]
  obtain ⟨a, u, rfl, hrow, hal, q0, q1, q2⟩ := ChsQ.get (Q := fun _ => True) ⟨hs5, hch5.imp (fun _ _ _ => trivial), hcl.imp (fun _ _ _ => trivial)⟩ 0 _ rfl
  have z : a.add (0 * 3) = a := by simp [Addr.add]
  rw [z] at hal q0 q1 q2
  obtain ⟨_, Au, cu, hu, hrq⟩ := hrow
  have hu : u = .slice Au 2 cu := hu
  subst hu
  have HRQ := Lib.hid hrq.at
  have HB5 := Lib.hid (HON.out.trans (hb5.mono HON.out.size))
  have Q0 := Lib.hid q0
  have Q1 := Lib.hid q1
  have Q2 := Lib.hid q2
  have HAL := Lib.hid hal
  unfold tenB at q0
  clear hown5 hch5 hcl hrq hb5 HDF
  go_wp2_with fail
  have HE1 := Lib.hid (ref_equal Au (some ⟨w5.heap.size, 0, none⟩) [txV nmA9, txV ⟨#[]⟩] [txV nmA9, txV ⟨#[]⟩] 2 2 cu 2 _ rfl rfl (by unfold maxLen; omega) (HRQ.out.later (one_new w5 (.cells #[.int .i64 3, .bool false, .int .i64 0, .string nmA9, .int .i64 3, .bool false, .int .i64 0, .string ⟨#[]⟩] 83))) (row_lit' w5 #[.int .i64 3, .bool false, .int .i64 0, .string nmA9, .int .i64 3, .bool false, .int .i64 0, .string ⟨#[]⟩] [txV nmA9, txV ⟨#[]⟩] _ rfl rfl (by simp)))
  rw [eqR_self] at HE1
  have HB6 := Lib.hid (HB5.out.trans ((one_new w5 (.cells #[.int .i64 3, .bool false, .int .i64 0, .string nmA9, .int .i64 3, .bool false, .int .i64 0, .string ⟨#[]⟩] 83)).mono HB5.out.size))
  refine HE1.out.mono ?_
  rintro e w6 ⟨rfl, nd, hw6⟩
  have hb6 : Below (w5.alloc (.cells #[.int .i64 3, .bool false, .int .i64 0, .string nmA9, .int .i64 3, .bool false, .int .i64 0, .string ⟨#[]⟩] 83)).heap.size (w5.alloc (.cells #[.int .i64 3, .bool false, .int .i64 0, .string nmA9, .int .i64 3, .bool false, .int .i64 0, .string ⟨#[]⟩] 83)) w6 := by rw [hw6]; exact below_drewN' (Below.refl _ _) nd
  have HB7 := Lib.hid (HB6.out.trans (hb6.mono HB6.out.size))
  clear hb6 hw6 HE1
  go_wp2_with fail
  refine (f_tenant xB10 ⟨#[]⟩ _).mono ?_
  rintro e w7 ⟨v7, rfl, hown7, hb7⟩
  obtain ⟨A7, c7, rfl, _, hr7⟩ := hown7.rowN 2 rfl
  have HR7 := Lib.hid hr7
  have HB8 := Lib.hid (HB7.out.trans (hb7.mono HB7.out.size))
  clear hown7 hb7 hr7
  go_wp2_with fail
  have HE2 := Lib.hid (ref_equal A7 (some ⟨w7.heap.size, 0, none⟩) [txV xB10, txV ⟨#[]⟩] [txV xB10, txV ⟨#[]⟩] 2 2 c7 2 _ rfl rfl (by unfold maxLen; omega) (HR7.out.later (one_new w7 (.cells #[.int .i64 3, .bool false, .int .i64 0, .string xB10, .int .i64 3, .bool false, .int .i64 0, .string ⟨#[]⟩] 83))) (row_lit' w7 #[.int .i64 3, .bool false, .int .i64 0, .string xB10, .int .i64 3, .bool false, .int .i64 0, .string ⟨#[]⟩] [txV xB10, txV ⟨#[]⟩] _ rfl rfl (by simp)))
  rw [eqR_self] at HE2
  have HB9 := Lib.hid (HB8.out.trans ((one_new w7 (.cells #[.int .i64 3, .bool false, .int .i64 0, .string xB10, .int .i64 3, .bool false, .int .i64 0, .string ⟨#[]⟩] 83)).mono HB8.out.size))
  refine HE2.out.mono ?_
  rintro e w8 ⟨rfl, nd2, hw8⟩
  have HB10 : Hid (Below w.heap.size w w8) := Lib.hid (by rw [hw8]; exact below_drewN' HB9.out nd2)
  clear hw8 HE2
  go_wp2
  go_ret
  exact ⟨rfl, HB10.out⟩
end
end Go.Proofs.YtdhpoaecedpbdaaGreat
namespace Go.Proofs.YtdhpoaecedpbdaaGreat
section
open Go.RowKit Go.Maps

theorem row_oldP {w : World} {A : Option Addr} {xs : List V} {c : Nat} (h : RowAt w w.heap.size A xs) (hl : xs.length ≤ 50) (hc : A = none → c = 0) : IsRow w (fun k => k < w.heap.size) (.slice A xs.length c) xs :=
  ⟨by omega, A, c, rfl, hc, h⟩
/-- An act in memory. -/
theorem act_at {w : World} {A : Option Addr} {xs : List Oa} (hA : OasAt w A xs) (k : Nat) (xk v : Int) (k1 k2 k3 : ByteArray) (A2 : Option Addr) (cap2 : Nat) (row2 : List V) (hx : xs[k]? = some ⟨xk, ⟨k1, k2, k3, v, A2, cap2, row2⟩⟩) :
    ∃ a : Addr, A = some a ∧ (∀ W, Below w.heap.size w W → W.cell? (a.add (k * 6)) = some (.int .i64 xk) ∧ W.cell? { block := (a.add (k * 6)).block, off := (a.add (k * 6)).off + 1 } = some (.string k1) ∧ W.cell? { block := (a.add (k * 6)).block, off := (a.add (k * 6)).off + 2 } = some (.string k2) ∧ W.cell? { block := (a.add (k * 6)).block, off := (a.add (k * 6)).off + 3 } = some (.string k3) ∧ W.cell? { block := (a.add (k * 6)).block, off := (a.add (k * 6)).off + 4 } = some (.int .i64 v) ∧ W.cell? { block := (a.add (k * 6)).block, off := (a.add (k * 6)).off + 5 } = some (.slice A2 row2.length cap2)) ∧
      kOk (k1, k2, k3) ∧ (row2.length ≤ 50 → IsRow w (fun k => k < w.heap.size) (.slice A2 row2.length cap2) row2) := by
  obtain ⟨a, rfl, hal, ⟨q0, hq⟩, z1, z2, z3, z4, z5, z6, z7⟩ := hA k _ hx
  refine ⟨a, rfl, fun W hW => ⟨(hW.cell (p := a.add (k * 6)) hal).trans q0, (hW.cell (p := { block := (a.add (k * 6)).block, off := (a.add (k * 6)).off + 1 }) hal).trans (hq 0 _ rfl), (hW.cell (p := { block := (a.add (k * 6)).block, off := (a.add (k * 6)).off + 2 }) hal).trans (hq 1 _ rfl), (hW.cell (p := { block := (a.add (k * 6)).block, off := (a.add (k * 6)).off + 3 }) hal).trans (hq 2 _ rfl), (hW.cell (p := { block := (a.add (k * 6)).block, off := (a.add (k * 6)).off + 4 }) hal).trans (hq 3 _ rfl), (hW.cell (p := { block := (a.add (k * 6)).block, off := (a.add (k * 6)).off + 5 }) hal).trans (hq 4 _ rfl)⟩, ⟨z1, z2, z3⟩, fun hrl => row_oldP z6 hrl z5⟩
theorem shO_row {k1 k2 k3 : ByteArray} {n : Nat} (h : shO k1 k2 k3 n = true) : n ≤ 50 := by
  unfold shO at h
  simp at h
  omega
def hostB10 : ByteArray := ⟨#[104, 111, 115, 116]⟩
/-- What holds of a state between the acts; block X is none of its own. -/
def StW (s b r q t bt rt X : Nat) (k : Nat) (wr : World) : Prop := ∃ os last v L, Wd wr s b r q t bt rt os last v L ∧ 0 ≤ last ∧ last ≤ k ∧ Q10 s b r t bt rt v X
def boxW (s t r rt : Nat) : Obj := .cells #[.pointer (some ⟨s, 0, none⟩), .pointer (some ⟨t, 0, none⟩), .pointer (some ⟨r, 0, none⟩), .pointer (some ⟨rt, 0, none⟩)] 33 (0, 0)
theorem StW.below {s b r q t bt rt X k : Nat} {w w' : World} (h : StW s b r q t bt rt X k w) (hb : Below w.heap.size w w') : StW s b r q t bt rt X k w' := by
  obtain ⟨os, last, v, L, h1, h2⟩ := h
  exact ⟨os, last, v, L, h1.below hb, h2⟩

set_option maxRecDepth 100000 in
set_option maxHeartbeats 8000000 in
theorem factsRows_all (A Ao : Option Addr) (c co : Nat) (xs : List Oa) (n : Nat) (ok os' on : ByteArray) (ov : Int) (orow : List V) (om : Nat) (ta tb rel : ByteArray) (w : World) (hn : xs.length = n) (hA : OasAt w A xs) (hom : om = orow.length) (horow : RowAt w w.heap.size Ao orow) (hoc : Ao = none → co = 0) :
    Calls Tryz.prog 3 #[.slice A n c, .agg #[.string ok, .string os', .string on, .int .i64 ov, .slice Ao om co], .agg #[.string ta, .string tb], .string rel] w fun e w' => e = .returned (.bool true) ∧ Below w.heap.size w w' := by
  have HA := Lib.hid hA
  have HOM := Lib.hid hom
  have HOR := Lib.hid horow
  have HOC := Lib.hid hoc
  clear hA hom horow hoc
  go_enter Tryz.func3, Tryz.ntmps3
  go_wp2_with fail
  obtain ⟨W0, hW0⟩ : ∃ W0, W0 = (w.alloc (.cells #[.string ok, .string os', .string on, .int .i64 ov, .slice Ao om co] 25)).alloc (.cells #[.string ta, .string tb] 27) := ⟨_, rfl⟩
  have hB0 : Below w.heap.size w W0 := by rw [hW0]; exact two_new w _ _
  have hX0 : W0.heap[w.heap.size]? = some (.cells #[.string ok, .string os', .string on, .int .i64 ov, .slice Ao om co] 25 (0, 0)) := by
    rw [hW0]
    exact ((one_new (w.alloc (.cells #[.string ok, .string os', .string on, .int .i64 ov, .slice Ao om co] 25)) _).block w.heap.size (by simp)).trans (World.alloc_heap_new w _)
  have hY0 : W0.heap[w.heap.size + 1]? = some (.cells #[.string ta, .string tb] 27 (0, 0)) := by
    rw [hW0]
    exact alloc2_new w _ _
  have hz0 : W0.heap.size = w.heap.size + 2 := by rw [hW0]; simp
  rw [← hW0]
  have HB0 := Lib.hid hB0
  have HX0 := Lib.hid hX0
  have HY0 := Lib.hid hY0
  have HZ0 := Lib.hid hz0
  clear hW0 hB0 hX0 hY0 hz0
  refine (l_begin W0).mono ?_
  rintro e w1 ⟨s, b, r, t, bt, rt, rfl, hW, hb1⟩
  unfold wdV
  have hon := one_new w1 (.cells #[.pointer (some ⟨s, 0, none⟩), .pointer (some ⟨t, 0, none⟩), .pointer (some ⟨r, 0, none⟩), .pointer (some ⟨rt, 0, none⟩)] 33)
  have HB1 := Lib.hid (HB0.out.trans (hb1.mono HB0.out.size))
  have HB2 := Lib.hid (HB1.out.trans (hon.mono HB1.out.size))
  have HBq := Lib.hid (hb1.trans (hon.mono hb1.size))
  have hW2 := hW.below hon
  have hqw : Q10 s b r t bt rt (.slice none 0 0) w1.heap.size := hW.new _ (Nat.le_refl _)
  have HST2 : Hid (StW s b r W0.heap.size t bt rt w1.heap.size 0 (w1.alloc (.cells #[.pointer (some ⟨s, 0, none⟩), .pointer (some ⟨t, 0, none⟩), .pointer (some ⟨r, 0, none⟩), .pointer (some ⟨rt, 0, none⟩)] 33))) := Lib.hid ⟨[], 0, _, [], hW2, by omega, by omega, hqw⟩
  have hXW := World.alloc_heap_new w1 (.cells #[.pointer (some ⟨s, 0, none⟩), .pointer (some ⟨t, 0, none⟩), .pointer (some ⟨r, 0, none⟩), .pointer (some ⟨rt, 0, none⟩)] 33)
  have HXW := Lib.hid hXW
  have hz1 := hb1.size
  clear hW hb1 hon hW2 hXW hqw
  go_wp2
  go_loopw [10] (fun i wr => ∃ (k : Nat), k ≤ n ∧ k ≤ 60 ∧ i = .int .i64 k ∧ Hid (StW s b r W0.heap.size t bt rt w1.heap.size k wr) ∧ wr.heap[w1.heap.size]? = some (boxW s t r rt) ∧ Below W0.heap.size W0 wr) (fun i _ => n - (intOf i).toNat)
  case atStart => exact ⟨0, Nat.zero_le _, by omega, rfl, HST2, HXW.out, HBq.out⟩
  case round =>
    obtain ⟨k, hk, hk1, rfl, HST, hbx, hb⟩ := hrel
    have HBX := Lib.hid hbx
    have HB := Lib.hid hb
    have HBW := Lib.hid (HB0.out.trans (hb.mono HB0.out.size))
    have hxl := (Array.getElem?_eq_some_iff.1 hbx).1
    by_cases hlt : k < n ∧ k < 60
    · obtain ⟨hlt1, hlt2⟩ := hlt
      obtain ⟨⟨xk, ⟨k1, k2, k3, v, A2, cap2, row2⟩⟩, hx⟩ : ∃ x, xs[k]? = some x := ⟨_, List.getElem?_eq_getElem (by omega)⟩
      obtain ⟨a, rfl, hce, hkok, hrow2⟩ := act_at HA.out k xk v k1 k2 k3 A2 cap2 row2 hx
      have HCE := Lib.hid hce
      have HKK := Lib.hid hkok
      have HRW2 := Lib.hid hrow2
      obtain ⟨c0, c1, c2, c3, c4, c5⟩ := hce wr HBW.out
      clear hx hb hbx hce hkok hrow2
      go_wp2_with fail
      refine (l_short xk v k1 k2 k3 A2 row2.length cap2 wr).mono ?_
      rintro e w2 ⟨rfl, hb2⟩
      have HB2 := Lib.hid (HB.out.trans (hb2.mono HB.out.size))
      have HBW2 := Lib.hid (HBW.out.trans (hb2.mono HBW.out.size))
      have hz2 := hb2.size
      have HST2' := Lib.hid (HST.out.below hb2)
      have HBX2 := Lib.hid ((hb2.block _ hxl).trans HBX.out)
      clear hb2 c0 c1 c2 c3 c4 c5
      cases hsh : shO k1 k2 k3 row2.length with
      | false =>
        go_wp2_with fail
        refine (known10 _).mono ?_
        rintro e w3 ⟨rfl, hb3⟩
        have HB3 := Lib.hid (HBW2.out.trans (hb3.mono HBW2.out.size))
        clear hb3
        go_wp2
        go_ret
        exact ⟨rfl, HB3.out⟩
      | true =>
        have hrl : row2.length ≤ 50 := shO_row hsh
        obtain ⟨c0, c1, c2, c3, c4, c5⟩ := HCE.out w2 HBW2.out
        obtain ⟨os, last, vv, L, hWd, ho1, ho2, hQX⟩ := HST2'.out
        have HQX := Lib.hid hQX
        have hrw := (HRW2.out hrl).keep (Below.keepQ HBW2.out _)
        obtain ⟨nw, hnw⟩ : ∃ nw, row2.length = nw := ⟨_, rfl⟩
        rw [hnw] at hrw c5
        have hge := hWd.ge
        have hsw := HBW2.out.size
        have hz00 := HZ0.out
        have hDO := l_do10 (fun k => k < w.heap.size) s b r W0.heap.size t bt rt os last xk v vv L k1 k2 k3 A2 cap2 nw row2 w2.drew (hWd.below (below_drew _ _)) hnw (hrw.keep (Below.keepQ (below_drew _ _) _)) (by omega) (by omega) (by omega) HKK.out (by omega) (by omega)
        unfold wdV at hDO
        have HDO := Lib.hid hDO
        have hxl2 : w1.heap.size < w2.heap.size := Nat.lt_of_lt_of_le hxl hz2
        obtain ⟨d0, d1, d2, d3⟩ := four_cells HBX2.out
        clear hsh hDO hWd hQX hrw hge
        go_wp2_with fail
        go_region_held3 (fun W : World => W.cell? ⟨w1.heap.size, 0, none⟩ = some (.pointer (some ⟨s, 0, none⟩)) ∧ W.cell? ⟨w1.heap.size, 1, none⟩ = some (.pointer (some ⟨t, 0, none⟩)) ∧ W.cell? ⟨w1.heap.size, 2, none⟩ = some (.pointer (some ⟨r, 0, none⟩)) ∧ W.cell? ⟨w1.heap.size, 3, none⟩ = some (.pointer (some ⟨rt, 0, none⟩)) ∧ W.cell? (a.add (k * 6)) = some (.int .i64 xk) ∧ W.cell? { block := (a.add (k * 6)).block, off := (a.add (k * 6)).off + 1 } = some (.string k1) ∧ W.cell? { block := (a.add (k * 6)).block, off := (a.add (k * 6)).off + 2 } = some (.string k2) ∧ W.cell? { block := (a.add (k * 6)).block, off := (a.add (k * 6)).off + 3 } = some (.string k3) ∧ W.cell? { block := (a.add (k * 6)).block, off := (a.add (k * 6)).off + 4 } = some (.int .i64 v) ∧ W.cell? { block := (a.add (k * 6)).block, off := (a.add (k * 6)).off + 5 } = some (.slice A2 nw cap2)) (go_keep)
          (first
            | (go_at_call 8; refine HDO.out.mono ?_; rintro x w4 ⟨rfl, os4, last4, v4, L4, hW4, hla, hlb, hb4, hkp4, hq4⟩; have hbq4 := HB2.out.trans ((Below.drew (Below.refl _ w2)).mono HB2.out.size |>.trans hb4); have HB4 := Lib.hid hbq4; have HBW4 := Lib.hid (HB0.out.trans (hbq4.mono HB0.out.size)); have hbx4 := (hkp4 w1.heap.size HQX.out (by exact hxl2)).trans HBX2.out; have HBX4 := Lib.hid hbx4; have HST4 : Hid (StW s b r W0.heap.size t bt rt w1.heap.size (k + 1) w4) := Lib.hid ⟨os4, last4, v4, L4, hW4, by omega, by omega, hq4 _ (by exact hxl2) HQX.out⟩; obtain ⟨e0, e1, e2, e3, e4, e5⟩ := HCE.out w4 HBW4.out; obtain ⟨f0, f1, f2, f3⟩ := four_cells hbx4; rw [hnw] at e5; clear hW4 hb4 hkp4 hq4 hbq4 hbx4))
        go_wp2
        go_roundw
        case rel => exact ⟨k + 1, by omega, by omega, by go_num, HST4, HBX4.out, HB4.out⟩
        case measure => simp [intOf]; omega
    · obtain ⟨os, last, vv, L, hWd, -, -, hQX⟩ := HST.out
      have HWD := Lib.hid hWd
      have hx5 := five_cells ((hb.block w.heap.size (by rw [HZ0.out]; omega)).trans HX0.out)
      obtain ⟨p0, p1, p2, p3, p4⟩ := hx5
      clear hWd hQX
      rcases (show n ≤ k ∨ (k < n ∧ 60 ≤ k) by omega) with h1 | ⟨h1, h2⟩
      all_goals
        by_cases h100 : 100 < om
        · go_wp2_with fail
          refine (known10 _).mono ?_
          rintro e w3 ⟨rfl, hb3⟩
          have HB3 := Lib.hid (HBW.out.trans (hb3.mono HBW.out.size))
          clear hb3
          go_wp2
          go_ret
          exact ⟨rfl, HB3.out⟩
        · obtain ⟨wl, hwl⟩ : ∃ wl, wl = wr.alloc (.cells #[.string tenB, .string podB10, .string hostB10, .string rel] 9) := ⟨_, rfl⟩
          have honl : Below wr.heap.size wr wl := by rw [hwl]; exact one_new wr _
          have hlit : TxsAt wl (some ⟨wr.heap.size, 0, none⟩) [tenB, podB10, hostB10, rel] := by rw [hwl]; exact lit_texts wr #[.string tenB, .string podB10, .string hostB10, .string rel] [tenB, podB10, hostB10, rel] wr.heap.size rfl rfl
          have HLIT := Lib.hid hlit
          have hzl := honl.size
          have HBL := Lib.hid (HBW.out.trans (honl.mono HBW.out.size))
          have HWL := Lib.hid (HWD.out.below honl)
          have HXL := Lib.hid ((honl.block _ hxl).trans HBX.out)
          have hxo := (hb.block w.heap.size (by rw [HZ0.out]; omega)).trans HX0.out
          have hxt := (hb.block (w.heap.size + 1) (by rw [HZ0.out]; omega)).trans HY0.out
          have HOL := Lib.hid ((honl.block _ (Array.getElem?_eq_some_iff.1 hxo).1).trans hxo)
          have HTL := Lib.hid ((honl.block _ (Array.getElem?_eq_some_iff.1 hxt).1).trans hxt)
          have HGL : Hid (wr.heap.size < wl.heap.size) := Lib.hid (by rw [hwl]; simp)
          obtain ⟨G, hG⟩ : ∃ G, G = wr.heap.size := ⟨_, rfl⟩
          have HG := Lib.hid hG
          rw [← hG] at HLIT HGL
          have hxll : w1.heap.size < wl.heap.size := Nat.lt_of_lt_of_le hxl hzl
          have HWLE := Lib.hid hwl
          have HFW := Lib.hid (show RowsAre wl (.pointer (some ⟨s, 0, none⟩)) (.pointer (some ⟨t, 0, none⟩)) (rowsW os L) by
            obtain ⟨⟨D, hT⟩, _, hL, _⟩ := HWL.out.st
            exact f_rowsW _ s b t bt D os last L wl HWL.out.bo.sto HWL.out.bo.good HWL.out.may hT hL)
          have HRW := Lib.hid (fun W rel (hW : Below wl.heap.size wl W) => (show Calls Tryz.prog 11 #[.pointer (some ⟨r, 0, none⟩), .pointer (some ⟨rt, 0, none⟩), .string rel] W (RowsPost W (rowsW os L rel)) by
            have h2 := HWL.out.below hW
            exact r_rowsW _ r _ rt vv os last L rel W h2.bo.ref h2.bo.good h2.may h2.st.2.1 h2.st.2.2.1))
          have HSL := Lib.hid (fun rel => rowsW_len HWL.out.bo.good HWL.out.st.2.2.1 rel)
          unfold tenB podB10 hostB10 at hwl
          clear honl hlit hxo hxt p0 p1 p2 p3 hb hbx hG
          go_wp2
          rw [← hwl]
          rw [← HG.out]
          clear hwl
          go_loopw [12] (fun i w5 => ∃ (j : Nat), j ≤ 4 ∧ i = .int .i64 j ∧ Below wl.heap.size wl w5) (fun i _ => 4 - (intOf i).toNat)
          case atStart => exact ⟨0, Nat.zero_le _, rfl, Below.refl _ _⟩
          case round =>
            obtain ⟨j, hj, rfl, hb5⟩ := hrel
            have HB5 := Lib.hid hb5
            by_cases hjt : j < 4
            · obtain ⟨x, hx⟩ : ∃ x, [tenB, podB10, hostB10, rel][j]? = some x := ⟨_, List.getElem?_eq_getElem (by simpa using hjt)⟩
              have hcl := HLIT.out.at j x hx
              have hce : ∀ W, Below wl.heap.size wl W → W.cell? ⟨G, j, none⟩ = some (.string x) ∧ W.cell? ⟨w1.heap.size, 0, none⟩ = some (.pointer (some ⟨s, 0, none⟩)) ∧ W.cell? ⟨w1.heap.size, 1, none⟩ = some (.pointer (some ⟨t, 0, none⟩)) ∧ W.cell? ⟨w1.heap.size, 2, none⟩ = some (.pointer (some ⟨r, 0, none⟩)) ∧ W.cell? ⟨w1.heap.size, 3, none⟩ = some (.pointer (some ⟨rt, 0, none⟩)) := fun W hW =>
                ⟨(hW.cell (p := ⟨G, j, none⟩) HGL.out).trans hcl, four_cells ((hW.block _ hxll).trans HXL.out)⟩
              have HCE := Lib.hid hce
              obtain ⟨c0, c1, c2, c3, c4⟩ := hce wr hb5
              have hin := HSL.out x
              obtain ⟨X, hX⟩ : ∃ X, rowsW os L x = X := ⟨_, rfl⟩
              have HF1 := Lib.hid ((HFW.out wr.drew x hb5.drew).2.2)
              have HR1 := Lib.hid (fun W hW => HRW.out W x hW)
              rw [hX] at HF1 HR1 hin
              clear hx hce hcl hX hb5
              go_wp2_with fail
              go_region_held3 (fun W : World => W.cell? ⟨G, j, none⟩ = some (.string x) ∧ W.cell? ⟨w1.heap.size, 0, none⟩ = some (.pointer (some ⟨s, 0, none⟩)) ∧ W.cell? ⟨w1.heap.size, 1, none⟩ = some (.pointer (some ⟨t, 0, none⟩)) ∧ W.cell? ⟨w1.heap.size, 2, none⟩ = some (.pointer (some ⟨r, 0, none⟩)) ∧ W.cell? ⟨w1.heap.size, 3, none⟩ = some (.pointer (some ⟨rt, 0, none⟩))) (go_keep)
                (first
                  | (go_at_call 10; refine HF1.out.mono ?_; rintro e w2 ⟨v2, us2, rfl, ho2, hr2, hb2⟩; obtain ⟨A2, c2, rfl, _, hc2⟩ := ho2.cells; have hb2' := HB5.out.drew.trans (hb2.mono HB5.out.drew.size); have HB2 := Lib.hid hb2'; have HA2 := Lib.hid (hc2.imp (Q' := fun k => k < w2.heap.size) (fun k _ h => h.2)); have HR2 := Lib.hid hr2; obtain ⟨m2, hm2⟩ : ∃ m2, us2.length = m2 := ⟨_, rfl⟩; rw [hm2]; have HM2 := Lib.hid hm2; obtain ⟨d0, d1, d2, d3, d4⟩ := HCE.out w2 hb2'; clear ho2 hr2 hb2 hb2' hc2 hm2)
                  | (go_at_call 11; refine (HR1.out _ HB2.out).mono ?_; rintro e w3 ⟨v3, us3, rfl, ho3, hr3, hb3⟩; obtain ⟨A3, c3, rfl, _, hc3⟩ := ho3.cells; have hb3' := HB2.out.trans (hb3.mono HB2.out.size); have HB3 := Lib.hid hb3'; have HA3 := Lib.hid (hc3.imp (Q' := fun k => k < w3.heap.size) (fun k _ h => h.2)); have HR3 := Lib.hid hr3; have HA23 := Lib.hid ((HA2.out.keep (Below.keepQ hb3 _)).imp (Q' := fun k => k < w3.heap.size) (fun k hk _ => hk)); have HR23 := Lib.hid (HR2.out.keep (Below.keepQ hb3 _)); have hm3 : us3.length = m2 := (hr3.len.trans HR2.out.len.symm).trans HM2.out; rw [hm3]; obtain ⟨e0, e1, e2, e3, e4⟩ := HCE.out w3 hb3'; clear ho3 hr3 hb3 hb3' hc3 hm3)
                  | (go_at_call 9; refine (l_alike02 _ _ A2 A3 m2 c2 c3 us2 us3 X w3 HM2.out (by have := HM2.out; have := HR2.out.len; omega) HA23.out HA3.out HR23.out HR3.out).mono ?_; rintro e w4 ⟨rfl, hb4⟩; have HB4 := Lib.hid (HB3.out.trans (hb4.mono HB3.out.size)); obtain ⟨f0, f1, f2, f3, f4⟩ := HCE.out w4 HB4.out; clear hb4))
              go_wp2
              go_roundw
              case rel => exact ⟨j + 1, by omega, by go_num, HB4.out⟩
              case measure => simp [intOf]; omega
            · obtain rfl : j = 4 := by omega
              have HCO : Hid (∀ W, Below wl.heap.size wl W → (W.cell? ⟨w.heap.size, 0, none⟩ = some (.string ok) ∧ W.cell? ⟨w.heap.size, 1, none⟩ = some (.string os') ∧ W.cell? ⟨w.heap.size, 2, none⟩ = some (.string on) ∧ W.cell? ⟨w.heap.size, 3, none⟩ = some (.int .i64 ov) ∧ W.cell? ⟨w.heap.size, 4, none⟩ = some (.slice Ao om co)) ∧ W.cell? ⟨w.heap.size + 1, 0, none⟩ = some (.string ta) ∧ W.cell? ⟨w.heap.size + 1, 1, none⟩ = some (.string tb)) := Lib.hid (fun W hW => by
                have h1 := (hW.block _ (Array.getElem?_eq_some_iff.1 HOL.out).1).trans HOL.out
                have h2 := (hW.block _ (Array.getElem?_eq_some_iff.1 HTL.out).1).trans HTL.out
                exact ⟨five_cells h1, cell_of_row W _ 0 _ _ _ h2, cell_of_row W _ 1 _ _ _ h2⟩)
              obtain ⟨⟨g0, g1, g2, g3, g4⟩, g5, g6⟩ := HCO.out wr hb5
              obtain ⟨m3, hm3⟩ : ∃ m3, m3 = (txV os' :: txV on :: orow).length := ⟨_, rfl⟩
              have hml : m3 ≤ 200 := by rw [hm3]; have := HOM.out; simp; omega
              have HM3 := Lib.hid hm3
              have HOO := Lib.hid (fun W (hW : Below wl.heap.size wl W) => f_object ok os' on ov Ao om co orow W HOM.out (by omega) HOC.out (HOR.out.later (HBL.out.trans (hW.mono HBL.out.size))))
              have HOR2 := Lib.hid (fun W (hW : Below wl.heap.size wl W) => r_objectF ok os' on ov Ao om co orow W HOM.out (by omega) (HOR.out.later (HBL.out.trans (hW.mono HBL.out.size))))
              have HEQ := Lib.hid (fun (ys : List V) m A3 A4 c3 c4 W (h1 : m = ys.length) (h2 : m ≤ 200) => ref_equal A3 A4 ys ys m m c3 c4 W h1 h1 (by unfold maxLen; omega))
              simp only [eqR_self] at HEQ
              clear hm3 hb5
              go_wp2_with fail
              go_region_held3 (fun W : World => W.cell? ⟨w.heap.size, 0, none⟩ = some (.string ok) ∧ W.cell? ⟨w.heap.size, 1, none⟩ = some (.string os') ∧ W.cell? ⟨w.heap.size, 2, none⟩ = some (.string on) ∧ W.cell? ⟨w.heap.size, 3, none⟩ = some (.int .i64 ov) ∧ W.cell? ⟨w.heap.size, 4, none⟩ = some (.slice Ao om co) ∧ W.cell? ⟨w.heap.size + 1, 0, none⟩ = some (.string ta) ∧ W.cell? ⟨w.heap.size + 1, 1, none⟩ = some (.string tb)) (go_keep)
                (first
                  | (go_at_call 13; refine (HOO.out _ (by first | exact HB5.out.drew | exact below_drewN' HB5.out _)).mono ?_; rintro e w2 ⟨v2, rfl, ho2, hb2⟩; obtain ⟨A2, c2, rfl, _, hr2⟩ := ho2.rowN m3 HM3.out; have hb2' : Below wl.heap.size wl w2 := (by first | exact HB5.out.drew.trans (hb2.mono HB5.out.drew.size) | exact (below_drewN' HB5.out _).trans (hb2.mono (below_drewN' HB5.out _).size)); have HB2 := Lib.hid hb2'; have HR2 := Lib.hid hr2; obtain ⟨⟨a0, a1, a2, a3, a4⟩, a5, a6⟩ := HCO.out w2 hb2'; clear ho2 hb2 hb2' hr2)
                  | (go_at_call 14; refine (HOR2.out _ HB2.out).mono ?_; rintro e w3 ⟨v3, rfl, ho3, hb3⟩; obtain ⟨A3, c3, rfl, _, hr3⟩ := ho3.rowN m3 HM3.out; have HB3 := Lib.hid (HB2.out.trans (hb3.mono HB2.out.size)); have HR3 := Lib.hid hr3; have HR23 := Lib.hid (HR2.out.later hb3); obtain ⟨⟨b0, b1, b2, b3, b4⟩, b5, b6⟩ := HCO.out w3 HB3.out; clear ho3 hb3 hr3)
                  | (go_at_call_of 12 (Value.slice A2 m3 c2); refine (HEQ.out _ m3 A2 A3 c2 c3 w3 HM3.out hml HR23.out HR3.out).mono ?_; rintro e w4 ⟨rfl, nd4, hw4⟩; have HB4 : Hid (Below wl.heap.size wl w4) := Lib.hid (by rw [hw4]; exact below_drewN' HB3.out nd4); obtain ⟨⟨c0, c1, c2, c3, c4⟩, c5, c6⟩ := HCO.out w4 HB4.out; clear hw4)
                  | (go_at_call 15; refine (f_tenant ta tb w4).mono ?_; rintro e w5 ⟨v5, rfl, ho5, hb5⟩; obtain ⟨A5, c5, rfl, _, hr5⟩ := ho5.rowN 2 rfl; have HB6 := Lib.hid (HB4.out.trans (hb5.mono HB4.out.size)); have HR5 := Lib.hid hr5; obtain ⟨⟨d0, d1, d2, d3, d4⟩, d5, d6⟩ := HCO.out w5 HB6.out; clear ho5 hb5 hr5)
                  | (go_at_call 16; refine (r_tenantF ta tb w5).mono ?_; rintro e w6 ⟨v6, rfl, ho6, hb6⟩; obtain ⟨A6, c6, rfl, _, hr6⟩ := ho6.rowN 2 rfl; have HB7 := Lib.hid (HB6.out.trans (hb6.mono HB6.out.size)); have HR6 := Lib.hid hr6; have HR56 := Lib.hid (HR5.out.later hb6); obtain ⟨⟨e0, e1, e2, e3, e4⟩, e5, e6⟩ := HCO.out w6 HB7.out; clear ho6 hb6 hr6)
                  | (go_at_call_of 12 (Value.slice A5 2 c5); refine (HEQ.out _ 2 A5 A6 c5 c6 w6 rfl (by omega) HR56.out HR6.out).mono ?_; rintro e w7 ⟨rfl, nd7, hw7⟩; have HB8 : Hid (Below wl.heap.size wl w7) := Lib.hid (by rw [hw7]; exact below_drewN' HB7.out nd7); obtain ⟨⟨f0, f1, f2, f3, f4⟩, f5, f6⟩ := HCO.out w7 HB8.out; clear hw7)
                  | (go_at_call 10; refine (f_relNil rel w7).mono ?_; rintro e w8 ⟨v8, rfl, ho8, hb8⟩; obtain ⟨A8, c8, hv8, _, _⟩ := ho8.cells; have hv8' : v8 = .slice A8 0 c8 := hv8; subst hv8'; have HB9 := Lib.hid (HB8.out.trans (hb8.mono HB8.out.size)); obtain ⟨⟨g0, g1, g2, g3, g4⟩, g5, g6⟩ := HCO.out w8 HB9.out; clear ho8 hb8 hv8)
                  | (go_at_call 7; refine (known10 w8).mono ?_; rintro e w9 ⟨rfl, hb9⟩; have HB10 := Lib.hid (HB9.out.trans (hb9.mono HB9.out.size)); obtain ⟨⟨h0, h1, h2, h3, h4⟩, h5, h6⟩ := HCO.out w9 HB10.out; clear hb9))
              go_wp2
              go_ret
              exact ⟨rfl, HBL.out.trans (HB10.out.mono HBL.out.size)⟩
end
end Go.Proofs.YtdhpoaecedpbdaaGreat
