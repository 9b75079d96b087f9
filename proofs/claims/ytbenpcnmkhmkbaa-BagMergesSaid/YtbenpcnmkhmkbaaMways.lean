/-
  BagMerges of verdererlaw05: the calls of its great region, one behind the other; and that it answers true wherever one of the lists is not few, or holds what is refused.
  No condition.
-/
import Derived.Test.YtbenpcnmkhmkbaaMsame
namespace Go.Proofs.Ytbenpcnmkhmkbaa
open Go.RowKit

/-- All blocks but two boxes. -/
def Qx (ga gx : Nat) : Nat → Prop := fun k => k ≠ ga ∧ k ≠ gx
/-- What the law has: the bag that is merged into, another one, a copy, and the document's two. -/
structure Five (W : World) (ga gb gc gx gy : Nat) (m la lb : List En) : Prop where
  a : BagL W (Qx ga gx) ga m
  b : BagL W (Qx ga gx) gb lb
  c : BagL W (Qx ga gx) gc la
  x : RefL W (Qx ga gx) gx m
  y : RefL W (Qx ga gx) gy lb
theorem Five.below {W W' : World} {ga gb gc gx gy : Nat} {m la lb : List En} (h : Five W ga gb gc gx gy m la lb) (hb : Below W.heap.size W W') : Five W' ga gb gc gx gy m la lb :=
  ⟨h.a.below hb, h.b.below hb, h.c.below hb, h.x.below hb, h.y.below hb⟩
structure Apart (ga gb gc gx gy s : Nat) : Prop where
  ab : ga < gb
  bx : gb < gx
  xy : gx < gy
  yc : gy < gc
  low : s ≤ ga

theorem merge_calls {W : World} {ga gb gc gx gy s : Nat} {la lb : List En} (h : Five W ga gb gc gx gy la la lb) (hp : Apart ga gb gc gx gy s) (hs : gc < W.heap.size) (hlen : la.length + lb.length ≤ 600000) (t : Int) (m : List En) (k : Int) (hm : mergeL t la lb = (m, k)) (Lx Ly : Option Addr) (cx cy : Nat) (hx : EntsQ W (Qx ga gx) Lx la) (hy : EntsQ W (Qx ga gx) Ly lb) :
    Calls Try.prog 32 #[.pointer (some ⟨ga, 0, none⟩), .pointer (some ⟨gb, 0, none⟩)] W (fun e W1 => e = .returned (.bool (alikeL la lb)) ∧ Below W.heap.size W W1 ∧
      Calls Try.prog 33 #[.slice Lx la.length cx, .slice Ly lb.length cy] W1 (fun e W2 => e = .returned (.bool (alikeL la lb)) ∧ Below W.heap.size W W2 ∧
        Calls Try.prog 32 #[.pointer (some ⟨ga, 0, none⟩), .pointer (some ⟨gc, 0, none⟩)] W2 (fun e W3 => e = .returned (.bool true) ∧ Below W.heap.size W W3 ∧
          Calls Try.prog 34 #[.pointer (some ⟨ga, 0, none⟩), .pointer (some ⟨gb, 0, none⟩), .int .i64 t] W3 (fun e W4 => e = .returned (.int .i64 k) ∧ Below s W W4 ∧
            Calls Try.prog 35 #[.pointer (some ⟨gx, 0, none⟩), .pointer (some ⟨gy, 0, none⟩), .int .i64 t] W4 (fun e W5 => e = .returned (.int .i64 k) ∧ Below s W W5 ∧ Five W5 ga gb gc gx gy m la lb))))) := by
  obtain ⟨hab, hbx, hxy, hyc, hlow⟩ := hp
  have hga : ¬ Qx ga gx ga := fun h => h.1 rfl
  have hgx : ¬ Qx ga gx gx := fun h => h.2 rfl
  refine (b_same (Qx ga gx) (some ⟨ga, 0, none⟩) (some ⟨gb, 0, none⟩) la lb W (Or.inr ⟨ga, rfl, h.a⟩) (Or.inr ⟨gb, rfl, h.b⟩)).mono ?_
  rintro e W1 ⟨rfl, hb1⟩
  refine ⟨by rw [same_alike la lb h.a.1 h.b.1], hb1, (r_alike _ _ _ _ la lb _ _ cx cy W1 rfl rfl (by omega) (hx.below hb1) (hy.below hb1)).mono ?_⟩
  rintro e W2 ⟨rfl, nd, rfl⟩
  have hb2 : Below W.heap.size W (W1.drewN nd) := below_drewN' hb1 nd
  have h2 := h.below hb2
  refine ⟨rfl, hb2, (b_same (Qx ga gx) (some ⟨ga, 0, none⟩) (some ⟨gc, 0, none⟩) la la _ (Or.inr ⟨ga, rfl, h2.a⟩) (Or.inr ⟨gc, rfl, h2.c⟩)).mono ?_⟩
  rintro e W3 ⟨rfl, hb3⟩
  have hb3' := hb2.trans (hb3.mono hb2.size)
  have h3 := h.below hb3'
  have hs3 := hb3'.size
  refine ⟨by rw [same_bags la la h.a.1 h.a.1 fun _ => rfl], hb3', (b_merge (Qx ga gx) ga la lb t W3 (fun j hj => ⟨by omega, by omega⟩) hga h3.a gb h3.b (by omega)).mono ?_⟩
  rintro e W4 ⟨rfl, hA, ho⟩
  rw [hm] at hA ⊢
  have hs4 := ho.1.size
  have k4 := ho.keepQ hga
  have hb4 : Below s W W4 := (hb3'.mono (by omega)).trans (ho.1.mono hlow)
  have hx4 : RefL W4 (Qx ga gx) gx la := h3.x.keep k4 (ho.2 gx (by omega) (by omega))
  have hy4 : RefL W4 (Qx ga gx) gy lb := h3.y.keep k4 (ho.2 gy (by omega) (by omega))
  have hB4 : BagL W4 (Qx ga gx) gb lb := h3.b.keep k4 (ho.2 gb (by omega) (by omega))
  have hC4 : BagL W4 (Qx ga gx) gc la := h3.c.keep k4 (ho.2 gc (by omega) (by omega))
  refine ⟨rfl, hb4, (r_merge (Qx ga gx) gx gy la lb t W4 (fun j hj => ⟨by omega, by omega⟩) hgx hx4 hy4 hlen).mono ?_⟩
  rintro e W5 ⟨rfl, hX, ho5⟩
  rw [hm] at hX ⊢
  have k5 := ho5.keepQ hgx
  exact ⟨rfl, hb4.trans (ho5.1.mono (by omega)), hA.keep k5 (ho5.2 ga (by omega) (by omega)), hB4.keep k5 (ho5.2 gb (by omega) (by omega)), hC4.keep k5 (ho5.2 gc (by omega) (by omega)), hX, hy4.keep k5 (ho5.2 gy (by omega) (by omega))⟩

set_option maxRecDepth 100000 in
set_option maxHeartbeats 2000000 in
theorem bagMerges_err (w : World) (A B : Option Addr) (c d : Nat) (es fs : List WE) (n m : Nat) (t : Int) (hn : es.length = n) (hm : fs.length = m) (hl : n ≤ 120) (hl2 : m ≤ 120) (hrows : ∀ e ∈ es, e.row.length ≤ 50) (hrows2 : ∀ e ∈ fs, e.row.length ≤ 50) (hW : WeakE w A es) (hW2 : WeakE w B fs) (hbad : ¬ (ofL (ents es)).2 = 0 ∨ ¬ (ofL (ents fs)).2 = 0) :
    Calls Try.prog 5 #[.slice A n c, .slice B m d, .int .i64 t] w fun e w' => e = .returned (.bool true) ∧ Below w.heap.size w w' := by
  have HF := Lib.hid (l_few A es n c w hn (by omega) hW)
  have HF2 := Lib.hid (l_few B fs m d w hm (by omega) hW2)
  have HFW : Hid (fewW es = true) := Lib.hid ((fewW_iff es).2 ⟨by omega, hrows⟩)
  have HFW2 : Hid (fewW fs = true) := Lib.hid ((fewW_iff fs).2 ⟨by omega, hrows2⟩)
  have HE := Lib.hid (hW.ents hrows)
  have HE2 := Lib.hid (hW2.ents hrows2)
  have HM := Lib.hid (fun i e he => ents_many hW i e he)
  have HM2 := Lib.hid (fun i e he => ents_many hW2 i e he)
  have HN : Hid ((ents es).length = n) := Lib.hid (by rw [ents_len]; exact hn)
  have HN2 : Hid ((ents fs).length = m) := Lib.hid (by rw [ents_len]; exact hm)
  have HBAD := Lib.hid hbad
  clear hW hW2 hn hm hrows hrows2 hbad
  generalize ents es = ks at *
  generalize ents fs = ms at *
  have hlk := ofL_len ks
  have hlm := ofL_len ms
  rw [HN.out] at hlk
  rw [HN2.out] at hlm
  go_enter Try.func5, Try.ntmps5
  go_wp2_with fail
  refine HF.out.mono ?_
  rintro e w' ⟨rfl, rfl⟩
  rw [HFW.out]
  go_wp2_with fail
  refine HF2.out.mono ?_
  rintro e w' ⟨rfl, rfl⟩
  rw [HFW2.out]
  go_wp2_with fail
  refine (b_of _ A _ c ks w HN.out (by omega) HE.out HM.out).mono ?_
  rintro e w1 ⟨hb1, hcase⟩
  have HB1 := Lib.hid hb1
  have hs1 := hb1.size
  clear hb1
  rcases hcase with ⟨r1, rfl, hA⟩ | ⟨r1, rfl⟩
  · have hgal := hA.lt
    have HA := Lib.hid (hA.imp (Q' := fun k => w.heap.size < k ∧ k < w1.heap.size) fun k hk h => ⟨h, hk⟩)
    clear hA
    go_wp2_with fail
    refine (b_of _ B _ d ms w1 HN2.out (by omega) (HE2.out.below HB1.out) HM2.out).mono ?_
    rintro e w2 ⟨hb, hcase⟩
    have HB2 := Lib.hid (HB1.out.trans (hb.mono HB1.out.size))
    have hw2s := hb.size
    have HA2 := Lib.hid (HA.out.below hb)
    clear hb
    rcases hcase with ⟨r2, _⟩ | ⟨r2, rfl⟩
    · rcases HBAD.out with h | h
      · exact absurd r1 h
      · exact absurd r2 h
    · have hne : ((ofL ms).2 != 0) = true := by simpa using r2
      have hee : ((ofL ms).2 != (ofL ms).2) = false := by simp
      go_wp2_with fail
      refine (r_of _ A _ c ks w2 HN.out (by omega) (HE.out.below HB2.out) HM.out).mono ?_
      rintro e w3 ⟨hb, hcase⟩
      have HB3 := Lib.hid (HB2.out.trans (hb.mono HB2.out.size))
      have hw3s := hb.size
      clear hb
      rcases hcase with ⟨_, rfl, hX⟩ | ⟨r3, _⟩
      rotate_left
      · exact absurd r1 r3
      clear hX
      go_wp2_with fail
      refine (r_of _ B _ d ms w3 HN2.out (by omega) (HE2.out.below HB3.out) HM2.out).mono ?_
      rintro e w4 ⟨hb, hcase⟩
      have HB4 := Lib.hid (HB3.out.trans (hb.mono HB3.out.size))
      have hw4s := hb.size
      clear hb
      rcases hcase with ⟨r3, _⟩ | ⟨_, rfl⟩
      · exact absurd r3 r2
      go_wp2_with fail
      refine (known5 _).mono ?_
      rintro e w8 ⟨rfl, hb8⟩
      go_wp2
      go_ret
      exact ⟨rfl, HB4.out.trans (hb8.mono HB4.out.size)⟩
  · have hne : ((ofL ks).2 != 0) = true := by simpa using r1
    have hee : ((ofL ks).2 != (ofL ks).2) = false := by simp
    go_wp2_with fail
    refine (b_of _ B _ d ms w1 HN2.out (by omega) (HE2.out.below HB1.out) HM2.out).mono ?_
    rintro e w2 ⟨hb, hcase⟩
    have HB2 := Lib.hid (HB1.out.trans (hb.mono HB1.out.size))
    have hw2s := hb.size
    clear hb
    rcases hcase with ⟨r2, rfl, hB⟩ | ⟨r2, rfl⟩
    · clear hB
      go_wp2_with fail
      refine (r_of _ A _ c ks w2 HN.out (by omega) (HE.out.below HB2.out) HM.out).mono ?_
      rintro e w3 ⟨hb, hcase⟩
      have HB3 := Lib.hid (HB2.out.trans (hb.mono HB2.out.size))
      have hw3s := hb.size
      clear hb
      rcases hcase with ⟨r3, _⟩ | ⟨_, rfl⟩
      · exact absurd r3 r1
      go_wp2_with fail
      refine (r_of _ B _ d ms w3 HN2.out (by omega) (HE2.out.below HB3.out) HM2.out).mono ?_
      rintro e w4 ⟨hb, hcase⟩
      have HB4 := Lib.hid (HB3.out.trans (hb.mono HB3.out.size))
      have hw4s := hb.size
      clear hb
      rcases hcase with ⟨_, rfl, hY⟩ | ⟨r3, _⟩
      rotate_left
      · exact absurd r2 r3
      clear hY
      go_wp2_with fail
      refine (known5 _).mono ?_
      rintro e w8 ⟨rfl, hb8⟩
      go_wp2
      go_ret
      exact ⟨rfl, HB4.out.trans (hb8.mono HB4.out.size)⟩
    · have hee2 : ((ofL ms).2 != (ofL ms).2) = false := by simp
      go_wp2_with fail
      refine (r_of _ A _ c ks w2 HN.out (by omega) (HE.out.below HB2.out) HM.out).mono ?_
      rintro e w3 ⟨hb, hcase⟩
      have HB3 := Lib.hid (HB2.out.trans (hb.mono HB2.out.size))
      have hw3s := hb.size
      clear hb
      rcases hcase with ⟨r3, _⟩ | ⟨_, rfl⟩
      · exact absurd r3 r1
      go_wp2_with fail
      refine (r_of _ B _ d ms w3 HN2.out (by omega) (HE2.out.below HB3.out) HM2.out).mono ?_
      rintro e w4 ⟨hb, hcase⟩
      have HB4 := Lib.hid (HB3.out.trans (hb.mono HB3.out.size))
      have hw4s := hb.size
      clear hb
      rcases hcase with ⟨r3, _⟩ | ⟨_, rfl⟩
      · exact absurd r3 r2
      go_wp2_with fail
      refine (known5 _).mono ?_
      rintro e w8 ⟨rfl, hb8⟩
      go_wp2
      go_ret
      exact ⟨rfl, HB4.out.trans (hb8.mono HB4.out.size)⟩

set_option maxRecDepth 100000 in
set_option maxHeartbeats 1000000 in
theorem bagMerges_not (w : World) (A B : Option Addr) (c d : Nat) (es fs : List WE) (n m : Nat) (t : Int) (hn : es.length = n) (hm : fs.length = m) (hl : n ≤ 9223372036854775807) (hl2 : m ≤ 9223372036854775807) (hW : WeakE w A es) (hW2 : WeakE w B fs) (hno : fewW es = false ∨ fewW fs = false) :
    Calls Try.prog 5 #[.slice A n c, .slice B m d, .int .i64 t] w fun e w' => e = .returned (.bool true) ∧ Below w.heap.size w w' := by
  have HF := Lib.hid (l_few A es n c w hn hl hW)
  have HF2 := Lib.hid (l_few B fs m d w hm hl2 hW2)
  clear hW hW2 hn hm
  rcases Bool.eq_false_or_eq_true (fewW es) with hf | hf
  · have hf2 : fewW fs = false := by
      rcases hno with h | h
      · rw [h] at hf
        cases hf
      · exact h
    have HFW := Lib.hid hf
    have HFW2 := Lib.hid hf2
    clear hf hf2 hno
    go_enter Try.func5, Try.ntmps5
    go_wp2_with fail
    refine HF.out.mono ?_
    rintro e w' ⟨rfl, rfl⟩
    rw [HFW.out]
    go_wp2_with fail
    refine HF2.out.mono ?_
    rintro e w' ⟨rfl, rfl⟩
    rw [HFW2.out]
    go_wp2_with fail
    refine (known5 _).mono ?_
    rintro e w1 ⟨rfl, hb1⟩
    go_wp2
    go_ret
    exact ⟨rfl, hb1⟩
  · have HFW := Lib.hid hf
    clear hf hno
    go_enter Try.func5, Try.ntmps5
    go_wp2_with fail
    refine HF.out.mono ?_
    rintro e w' ⟨rfl, rfl⟩
    rw [HFW.out]
    go_wp2_with fail
    refine (known5 _).mono ?_
    rintro e w1 ⟨rfl, hb1⟩
    go_wp2
    go_ret
    exact ⟨rfl, hb1⟩
end Go.Proofs.Ytbenpcnmkhmkbaa
