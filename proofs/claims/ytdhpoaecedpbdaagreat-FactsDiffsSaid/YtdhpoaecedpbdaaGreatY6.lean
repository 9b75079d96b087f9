/-
  FactsDiffs of verdererlaw10 answers true at every two lists of acts and every list of relations, in every world, and changes nothing that was there.
  No condition but that texts are no longer than they can be.
-/
import Derived.Deep.Cut
import Derived.Test.YtdhpoaecedpbdaaGreatY2
import Derived.Test.YtdhpoaecedpbdaaGreatY4
import Derived.Test.YtdhpoaecedpbdaaGreatY5
import Derived.Test.YtdhpoaecedpbdaaGreatZ49
namespace Go.Proofs.YtdhpoaecedpbdaaGreat
open Go.RowKit Go.Maps

/-! ### the box of a slice holds no row -/
def NoIntF (w : World) (s : Nat) : Prop := ∀ (p : Addr), p.block = s → ∀ n : Int, w.cell? p ≠ some (.int .i64 n)
theorem noInt_boxF {w : World} {s : Nat} {t : TypeId} {A : Option Addr} {n c : Nat} (h : Boxed w s t (.slice A n c)) : NoIntF w s := by
  intro p hp m he
  have h' : w.heap[s]? = some (.cells #[.slice A n c] t (0, 0)) := h
  unfold World.cell? at he
  rw [hp, h'] at he
  simp only at he
  split at he
  · cases he
  · obtain ⟨b, o, sp⟩ := p
    match o, he with
    | 0, he => simp at he
    | o + 1, he => simp at he
theorem IsRw.noF {w : World} {Q : Nat → Prop} {v : Value} {xs : List V} {s : Nat} (h : IsRw w Q v xs) (hs : NoIntF w s) : IsRw w (fun k => Q k ∧ k ≠ s) v xs := by
  obtain ⟨h0, A, c, h1, h3⟩ := h
  refine ⟨h0, A, c, h1, fun i v hi => ?_⟩
  obtain ⟨a, ha, hq, hv⟩ := h3 i v hi
  exact ⟨a, ha, ⟨hq, fun e => hs _ e _ hv.1⟩, hv⟩
theorem RwsQ.noF {w : World} {Q : Nat → Prop} {s : Nat} (hs : NoIntF w s) : ∀ {vs : List Value} {xs : List (List V)}, RwsQ w Q vs xs → RwsQ w (fun k => Q k ∧ k ≠ s) vs xs
  | [], [], _ => trivial
  | _ :: _, _ :: _, h => ⟨h.1.noF hs, RwsQ.noF hs h.2⟩
/-- The document's bag of nothing. -/
theorem refL_new (w : World) (Q : Nat → Prop) : RefL (w.alloc (.cells #[.slice none 0 0] 61)) Q w.heap.size [] :=
  ⟨Good.nil, by simp, none, 0, fun _ => rfl, Nat.le_refl _, Boxed.new w _ _, [], trivial, fun j u hj => by simp [flatE] at hj⟩

theorem RowsAreD.below {w w' : World} {a1 a2 : Value} {R : ByteArray → List (List V)} (h : RowsAreD w a1 a2 R) (hb : Below w.heap.size w w') : RowsAreD w' a1 a2 R := fun W rel hW => h W rel (hb.trans (hW.mono hb.size))
theorem chgs_len (R1 R2 : ByteArray → List (List V)) (rels : List ByteArray) (h : ∀ r, (R1 r).length ≤ 1000 ∧ (R2 r).length ≤ 1000) : (chgs R1 R2 rels).length ≤ 2000 * rels.length := by
  have hone : ∀ r, (chgOf R1 R2 r).length ≤ 2000 := by
    intro r
    unfold chgOf
    rw [List.length_map]
    have := netL_len (R1 r) (R2 r)
    have := h r
    omega
  have hall : ∀ l : List ByteArray, (l.flatMap (chgOf R1 R2)).length ≤ 2000 * l.length := by
    intro l
    induction l with
    | nil => simp
    | cons x xs ih =>
      rw [List.flatMap_cons, List.length_append, List.length_cons]
      have := hone x
      omega
  have h1 := hall (ddL rels)
  have h2 := ddL_len rels rels.length
  rw [List.take_length] at h2
  unfold chgs
  omega
theorem chgs_rows (R1 R2 : ByteArray → List (List V)) (rels : List ByteArray) (h : ∀ r, RowsOk (R1 r) ∧ RowsOk (R2 r)) : ∀ c ∈ chgs R1 R2 rels, c.2.1.length ≤ 1000000 ∧ c.2.1 ≠ [] := by
  intro c hc
  unfold chgs at hc
  obtain ⟨r, _, hc⟩ := List.mem_flatMap.1 hc
  obtain ⟨h1, h2⟩ := h r
  rw [chgOf_dL h1 h2] at hc
  obtain ⟨e, he, rfl⟩ := List.mem_map.1 hc
  unfold dL at he
  obtain ⟨x, hx, rfl⟩ := List.mem_map.1 he
  rcases List.mem_append.1 ((sortL_facts (R1 r ++ R2 r)).2.1 x (List.mem_filter.1 hx).1) with h | h
  · exact h1.2.1 x h
  · exact h2.2.1 x h
/-- What holds behind a loop over acts. -/
def LoopR (s b r q t bt rt X N : Nat) (base w2 : World) : Prop := ∃ k, k ≤ N ∧ StW s b r q t bt rt X k w2 ∧ w2.heap[X]? = some (boxW s t r rt) ∧ Below base.heap.size base w2
/-- What holds behind the copies. -/
def CopyR (Wb : World) (u : Value) (w2 : World) : Prop := ∃ s2 b2 r2 t2 bt2 rt2 X2, u = .pointer (some ⟨X2, 0, none⟩) ∧ StW s2 b2 r2 Wb.heap.size t2 bt2 rt2 X2 (50 + 0) w2 ∧ w2.heap[X2]? = some (boxW s2 t2 r2 rt2) ∧ Below Wb.heap.size Wb w2

theorem CopyR.of {W W' w2 w2' w3 w3' w4 w4' w5 w5' w6 : World} {X2 s b r q t bt rt s2 t2 r2 rt2 : Nat} {os : List Ob} {last : Int} {v v' : Value} {L : List Tn} {D : DataW Value} (h : Wd W s b r q t bt rt os last v L) (hl : 0 ≤ last ∧ last ≤ 50)
    (hS : StoB w2 (fun k => (Q10 s b r t bt rt v k ∧ k < W.heap.size) ∧ k < W'.heap.size) s2 W'.heap.size os last KL8) (e1 : W'.heap.size < s2) (b1 : Below W'.heap.size W' w2)
    (hT : TreeB w3 t2 w2'.heap.size D L) (e2 : w2'.heap.size < t2) (bb2 : Below w2'.heap.size w2' w3)
    (hR : ∃ A c, RefO w4 (fun k => ((Q10 s b r t bt rt v k ∧ k < W.heap.size) ∧ k < w3'.heap.size) ∨ (w3'.heap.size ≤ k ∧ k ≠ r2)) r2 A c os last KL8) (e3 : w3'.heap.size ≤ r2) (b3 : Below w3'.heap.size w3' w4)
    (hU : RefB w5 w4'.heap.size w4'.heap.size v' L) (b4 : Below w4'.heap.size w4' w5) (ho : Only X2 w5' w6)
    (g1 : Below W.heap.size W W') (g2 : Below w2.heap.size w2 w2') (g3 : Below w3.heap.size w3 w3') (g4 : Below w4.heap.size w4 w4') (g5 : Below w5.heap.size w5 w5')
    (hx : (X2 < W'.heap.size ∧ W.heap.size ≤ X2) ∨ (X2 < w2'.heap.size ∧ w2.heap.size ≤ X2) ∨ (X2 < w3'.heap.size ∧ w3.heap.size ≤ X2) ∨ (X2 < w4'.heap.size ∧ w4.heap.size ≤ X2) ∨ w5.heap.size ≤ X2)
    (hrt : rt2 = w4'.heap.size) (hbox : w6.heap[X2]? = some (boxW s2 t2 r2 rt2)) (hbw : Below W.heap.size W w6) : CopyR W (.pointer (some ⟨X2, 0, none⟩)) w6 := by
  have y1 := g1.size
  have y2 := g2.size
  have y3 := g3.size
  have y4 := g4.size
  have z1 := b1.size
  have z2 := bb2.size
  have z3 := b3.size
  have z4 := b4.size
  obtain ⟨h1, h2⟩ := copiedG h hS e1 b1 hT e2 bb2 hR e3 b3 hU b4 ho g1 g2 g3 g4 g5 (by omega) (by omega) (by omega) (by omega) (by omega)
  subst hrt
  exact ⟨s2, _, r2, t2, _, _, X2, rfl, ⟨os, last, v', L, h1, hl.1, by omega, h2⟩, hbox, hbw⟩

set_option maxRecDepth 100000 in
set_option maxHeartbeats 16000000 in
theorem factsDiffs_all (A B C : Option Addr) (c d e9 : Nat) (xs ys : List Oa) (n m l : Nat) (rels : List ByteArray) (w : World) (hn : xs.length = n) (hm : ys.length = m) (hl : rels.length = l) (hA : OasAt w A xs) (hB : OasAt w B ys) (hC : TxsAt w C rels) (hsz : ∀ s ∈ rels, s.size ≤ maxLen) :
    Calls Tryz.prog 4 #[.slice A n c, .slice B m d, .slice C l e9] w fun e w' => e = .returned (.bool true) ∧ Below w.heap.size w w' := by
  have HA := Lib.hid hA
  have HAB := Lib.hid hB
  have HAC := Lib.hid hC
  have HSZ := Lib.hid hsz
  have HLR := Lib.hid hl
  clear hA hB hC hsz hl
  go_enter Tryz.func4, Tryz.ntmps4
  go_wp2_with fail
  refine (l_begin w).mono ?_
  rintro e w1 ⟨s, b, r, t, bt, rt, rfl, hW, hb1⟩
  unfold wdV
  have hon := one_new w1 (.cells #[.pointer (some ⟨s, 0, none⟩), .pointer (some ⟨t, 0, none⟩), .pointer (some ⟨r, 0, none⟩), .pointer (some ⟨rt, 0, none⟩)] 33)
  have HB2 := Lib.hid (hb1.trans (hon.mono hb1.size))
  have hW2 := hW.below hon
  have hqw : Q10 s b r t bt rt (.slice none 0 0) w1.heap.size := hW.new _ (Nat.le_refl _)
  have HST2 : Hid (StW s b r w.heap.size t bt rt w1.heap.size 0 (w1.alloc (.cells #[.pointer (some ⟨s, 0, none⟩), .pointer (some ⟨t, 0, none⟩), .pointer (some ⟨r, 0, none⟩), .pointer (some ⟨rt, 0, none⟩)] 33))) := Lib.hid ⟨[], 0, _, [], hW2, by omega, by omega, hqw⟩
  have hXW := World.alloc_heap_new w1 (.cells #[.pointer (some ⟨s, 0, none⟩), .pointer (some ⟨t, 0, none⟩), .pointer (some ⟨r, 0, none⟩), .pointer (some ⟨rt, 0, none⟩)] 33)
  have HXW := Lib.hid hXW
  have hz1 := hb1.size
  obtain ⟨X1, hX1⟩ : ∃ X1, X1 = w1.heap.size := ⟨_, rfl⟩
  have HX1 := Lib.hid hX1
  rw [← hX1] at HST2 HXW
  clear hW hb1 hon hW2 hXW hqw hX1
  go_upto_region 2 with (fail)
  rw [← HX1.out]
  go_step
  first | go_step | go_upon | go_back | go_values | go_simp
  first | go_step | go_upon | go_back | go_values | go_simp
  first | go_step | go_upon | go_back | go_values | go_simp
  first | go_step | go_upon | go_back | go_values | go_simp
  first | go_step | go_upon | go_back | go_values | go_simp
  first | go_step | go_upon | go_back | go_values | go_simp
  go_cut [8] from 20 (fun _ w2 => LoopR s b r w.heap.size t bt rt X1 50 w w2)
  case first => as_aux_lemma =>
    go_wp2
    go_loopw [8] (fun i wr => ∃ (k : Nat), k ≤ n ∧ k ≤ 50 ∧ i = .int .i64 k ∧ Hid (StW s b r w.heap.size t bt rt X1 k wr) ∧ wr.heap[X1]? = some (boxW s t r rt) ∧ Below w.heap.size w wr) (fun i _ => n - (intOf i).toNat)
    case atStart => exact ⟨0, Nat.zero_le _, by omega, rfl, HST2, HXW.out, HB2.out⟩
    case round => as_aux_lemma =>
      obtain ⟨k, hk, hk1, rfl, HST, hbx, hb⟩ := hrel
      have HBX := Lib.hid hbx
      have HB := Lib.hid hb
      have HBW := Lib.hid hb
      have hxl := (Array.getElem?_eq_some_iff.1 hbx).1
      by_cases hlt : k < n ∧ k < 50
      · obtain ⟨hlt1, hlt2⟩ := hlt
        obtain ⟨⟨xk, ⟨k1, k2, k3, v, A2, cap2, row2⟩⟩, hx⟩ : ∃ x, xs[k]? = some x := ⟨_, List.getElem?_eq_getElem (by omega)⟩
        obtain ⟨a, rfl, hce, hkok, hrow2⟩ := act_at HA.out k xk v k1 k2 k3 A2 cap2 row2 hx
        have HCE := Lib.hid hce
        have HKK := Lib.hid hkok
        have HRW2 := Lib.hid hrow2
        obtain ⟨c0, c1, c2, c3, c4, c5⟩ := hce wr HBW.out
        clear hx hb hbx hce hkok hrow2
        go_wp2_with fail
        refine (l_short xk v k1 k2 k3 A2 row2.length cap2 wr).mono ?_
        rintro e w2 ⟨rfl, hb2⟩
        have HB2 := Lib.hid (HB.out.trans (hb2.mono HB.out.size))
        have HBW2 := Lib.hid (HBW.out.trans (hb2.mono HBW.out.size))
        have hz2 := hb2.size
        have HST2' := Lib.hid (HST.out.below hb2)
        have HBX2 := Lib.hid ((hb2.block _ hxl).trans HBX.out)
        clear hb2 c0 c1 c2 c3 c4 c5
        cases hsh : shO k1 k2 k3 row2.length with
        | false =>
          go_wp2_with fail
          refine (known10 _).mono ?_
          rintro e w3 ⟨rfl, hb3⟩
          have HB3 := Lib.hid (HBW2.out.trans (hb3.mono HBW2.out.size))
          clear hb3
          go_wp2
          go_ret
          exact ⟨rfl, HB3.out⟩
        | true =>
          have hrl : row2.length ≤ 50 := shO_row hsh
          obtain ⟨c0, c1, c2, c3, c4, c5⟩ := HCE.out w2 HBW2.out
          obtain ⟨os, last, vv, L, hWd, ho1, ho2, hQX⟩ := HST2'.out
          have HQX := Lib.hid hQX
          have hrw := (HRW2.out hrl).keep (Below.keepQ HBW2.out _)
          obtain ⟨nw, hnw⟩ : ∃ nw, row2.length = nw := ⟨_, rfl⟩
          rw [hnw] at hrw c5
          have hge := hWd.ge
          have hsw := HBW2.out.size
          have hDO := l_do10 (fun k => k < w.heap.size) s b r w.heap.size t bt rt os last xk v vv L k1 k2 k3 A2 cap2 nw row2 w2.drew (hWd.below (below_drew _ _)) hnw (hrw.keep (Below.keepQ (below_drew _ _) _)) (by omega) (by omega) (by omega) HKK.out (by omega) (by omega)
          unfold wdV at hDO
          have HDO := Lib.hid hDO
          have hxl2 : X1 < w2.heap.size := Nat.lt_of_lt_of_le hxl hz2
          obtain ⟨d0, d1, d2, d3⟩ := four_cells HBX2.out
          clear hsh hDO hWd hQX hrw hge
          go_wp2_with fail
          go_region_held3 (fun W : World => W.cell? ⟨X1, 0, none⟩ = some (.pointer (some ⟨s, 0, none⟩)) ∧ W.cell? ⟨X1, 1, none⟩ = some (.pointer (some ⟨t, 0, none⟩)) ∧ W.cell? ⟨X1, 2, none⟩ = some (.pointer (some ⟨r, 0, none⟩)) ∧ W.cell? ⟨X1, 3, none⟩ = some (.pointer (some ⟨rt, 0, none⟩)) ∧ W.cell? (a.add (k * 6)) = some (.int .i64 xk) ∧ W.cell? { block := (a.add (k * 6)).block, off := (a.add (k * 6)).off + 1 } = some (.string k1) ∧ W.cell? { block := (a.add (k * 6)).block, off := (a.add (k * 6)).off + 2 } = some (.string k2) ∧ W.cell? { block := (a.add (k * 6)).block, off := (a.add (k * 6)).off + 3 } = some (.string k3) ∧ W.cell? { block := (a.add (k * 6)).block, off := (a.add (k * 6)).off + 4 } = some (.int .i64 v) ∧ W.cell? { block := (a.add (k * 6)).block, off := (a.add (k * 6)).off + 5 } = some (.slice A2 nw cap2)) (go_keep)
            (first
              | (go_at_call 8; refine HDO.out.mono ?_; rintro x w4 ⟨rfl, os4, last4, v4, L4, hW4, hla, hlb, hb4, hkp4, hq4⟩; have hbq4 := HB2.out.trans ((Below.drew (Below.refl _ w2)).mono HB2.out.size |>.trans hb4); have HB4 := Lib.hid hbq4; have HBW4 := Lib.hid hbq4; have hbx4 := (hkp4 X1 HQX.out (by exact hxl2)).trans HBX2.out; have HBX4 := Lib.hid hbx4; have HST4 : Hid (StW s b r w.heap.size t bt rt X1 (k + 1) w4) := Lib.hid ⟨os4, last4, v4, L4, hW4, by omega, by omega, hq4 _ (by exact hxl2) HQX.out⟩; obtain ⟨e0, e1, e2, e3, e4, e5⟩ := HCE.out w4 HBW4.out; obtain ⟨f0, f1, f2, f3⟩ := four_cells hbx4; rw [hnw] at e5; clear hW4 hb4 hkp4 hq4 hbq4 hbx4))
          go_wp2
          go_roundw
          case rel => exact ⟨k + 1, by omega, by omega, by go_num, HST4, HBX4.out, HB4.out⟩
          case measure => simp [intOf]; omega
      · have HR : Hid (LoopR s b r w.heap.size t bt rt X1 50 w wr) := Lib.hid ⟨k, hk1, HST.out, hbx, hb⟩
        clear hb hbx HST HBX HB HBW
        rcases (show n ≤ k ∨ (k < n ∧ 50 ≤ k) by omega) with h1 | ⟨h1, h2⟩
        all_goals
          go_wp2_with fail
          go_meet
          case rel => exact HR.out
  case rest => as_aux_lemma =>
    obtain ⟨k, hk1, HST0, hbx, hb⟩ := hcut
    obtain ⟨Wb, hWb⟩ : ∃ Wb, Wb = wc := ⟨_, rfl⟩
    subst hWb
    have hxl := (Array.getElem?_eq_some_iff.1 hbx).1
    have HBX := Lib.hid hbx
    have HBB := Lib.hid hb
    obtain ⟨os, last, vv, L, hWd, ho1, ho2, hQX⟩ := HST0
    have hlast : last ≤ 50 := by omega
    have HWD := Lib.hid hWd
    have hD : ∃ D, TreeB Wb t bt D L := hWd.st.1
    obtain ⟨D, hT⟩ := hD
    have HT := Lib.hid hT
    have HRT := Lib.hid hWd.st.2.1
    have hfew := hWd.st.2.2.1.few
    have hfewO := hWd.bo.good.few
    have HSO := Lib.hid hWd.stoOld
    have HRO := Lib.hid hWd.refOld
    obtain ⟨d0, d1, d2, d3⟩ := four_cells hbx
    have HXC : Hid (∀ W, Below Wb.heap.size Wb W → W.cell? ⟨X1, 0, none⟩ = some (.pointer (some ⟨s, 0, none⟩)) ∧ W.cell? ⟨X1, 1, none⟩ = some (.pointer (some ⟨t, 0, none⟩)) ∧ W.cell? ⟨X1, 2, none⟩ = some (.pointer (some ⟨r, 0, none⟩)) ∧ W.cell? ⟨X1, 3, none⟩ = some (.pointer (some ⟨rt, 0, none⟩))) := Lib.hid (fun W hW => four_cells ((hW.block _ hxl).trans HBX.out))
    have hxt : ∀ z, Wb.heap.size ≤ z → X1 ≠ z := fun z hz => by omega
    clear hWd hQX hT hb hbx
    go_upto_region 8 with (fail)
    go_cut [9] from 20 (fun u w2 => CopyR Wb u w2)
    case first => as_aux_lemma =>
      have HXN := Lib.hid (hxt _ (Nat.le_refl _))
      have hxn1 : X1 ≠ Wb.heap.size := HXN.out
      have hxm1 : Wb.heap.size ≠ X1 := fun e => hxn1 e.symm
      go_region_held3 (fun W : World => W.cell? ⟨X1, 0, none⟩ = some (.pointer (some ⟨s, 0, none⟩)) ∧ W.cell? ⟨X1, 1, none⟩ = some (.pointer (some ⟨t, 0, none⟩)) ∧ W.cell? ⟨X1, 2, none⟩ = some (.pointer (some ⟨r, 0, none⟩)) ∧ W.cell? ⟨X1, 3, none⟩ = some (.pointer (some ⟨rt, 0, none⟩))) (go_keep)
        (first
          | (go_at_call 17; refine (o_copy (fun k => Q10 s b r t bt rt vv k ∧ k < Wb.heap.size) s b os last KL8 (Wb.drew) (HSO.out.below (below_drew _ Wb))).mono ?_; rintro e w2 ⟨s2, rfl, hS2, hs2, hb2⟩; have HS2 := Lib.hid hS2; have HL2 := Lib.hid hs2; have HB12 := Lib.hid hb2; have hg1 : Below Wb.heap.size Wb (Wb.drew) := (below_drew _ Wb); have HG1 := Lib.hid hg1; have HB2 := Lib.hid (hg1.trans (hb2.mono hg1.size)); obtain ⟨g0, g1, g2, g3⟩ := HXC.out w2 HB2.out; have hxn2 : X1 ≠ w2.heap.size := hxt _ HB2.out.size; have hxm2 : w2.heap.size ≠ X1 := (fun e => hxn2 e.symm); clear hS2 hs2 hb2 hg1)
          | (go_at_call 17; refine (o_copy (fun k => Q10 s b r t bt rt vv k ∧ k < Wb.heap.size) s b os last KL8 ((Wb.alloc (.cells #[.pointer none, .pointer none, .pointer none, .pointer none] 33)).drew) (HSO.out.below (one_new Wb (.cells #[.pointer none, .pointer none, .pointer none, .pointer none] 33)).drew)).mono ?_; rintro e w2 ⟨s2, rfl, hS2, hs2, hb2⟩; have HS2 := Lib.hid hS2; have HL2 := Lib.hid hs2; have HB12 := Lib.hid hb2; have hg1 : Below Wb.heap.size Wb ((Wb.alloc (.cells #[.pointer none, .pointer none, .pointer none, .pointer none] 33)).drew) := (one_new Wb (.cells #[.pointer none, .pointer none, .pointer none, .pointer none] 33)).drew; have HG1 := Lib.hid hg1; have HB2 := Lib.hid (hg1.trans (hb2.mono hg1.size)); have hq0 : ((Wb.alloc (.cells #[.pointer none, .pointer none, .pointer none, .pointer none] 33)).drew).heap[Wb.heap.size]? = some (.cells #[.pointer none, .pointer none, .pointer none, .pointer none] 33 (0, 0)) := World.alloc_heap_new Wb (.cells #[.pointer none, .pointer none, .pointer none, .pointer none] 33); have HZ := Lib.hid ((hb2.block Wb.heap.size (by simp)).trans hq0); clear hq0; obtain ⟨g0, g1, g2, g3⟩ := HXC.out w2 HB2.out; have hxn2 : X1 ≠ w2.heap.size := hxt _ HB2.out.size; have hxm2 : w2.heap.size ≠ X1 := (fun e => hxn2 e.symm); clear hS2 hs2 hb2 hg1)
          | (go_at_call 18; have hg3 : Below w2.heap.size w2 w2 := (Below.refl w2.heap.size w2); have HG3 := Lib.hid hg3; have HP3 : Hid (Below Wb.heap.size Wb w2) := Lib.hid (HB2.out.trans (hg3.mono HB2.out.size)); refine (t_copy t bt D L w2 (HT.out.below HP3.out)).mono ?_; rintro e w3 ⟨t2, rfl, hT3, ht2, hb3⟩; have HC3 := Lib.hid hb3; have HB3 := Lib.hid (HP3.out.trans (hb3.mono HP3.out.size)); have HT3 := Lib.hid hT3; have HL3 := Lib.hid ht2; clear hT3 ht2; (try (have hzr := (hb3.block _ (Array.getElem?_eq_some_iff.1 HZ.out).1).trans HZ.out; clear HZ; have HZ := Lib.hid hzr; clear hzr)); obtain ⟨q3a, q3b, q3c, q3d⟩ := HXC.out w3 HB3.out; have hxn3 : X1 ≠ w3.heap.size := hxt _ HB3.out.size; have hxm3 : w3.heap.size ≠ X1 := (fun e => hxn3 e.symm); clear hb3 hg3)
          | (go_at_call 18; have hg3 : Below w2.heap.size w2 (w2.alloc (.cells #[.pointer none, .pointer none, .pointer none, .pointer none] 33)) := (one_new w2 (.cells #[.pointer none, .pointer none, .pointer none, .pointer none] 33)); have HG3 := Lib.hid hg3; have HP3 : Hid (Below Wb.heap.size Wb (w2.alloc (.cells #[.pointer none, .pointer none, .pointer none, .pointer none] 33))) := Lib.hid (HB2.out.trans (hg3.mono HB2.out.size)); have HZ := Lib.hid (World.alloc_heap_new w2 (.cells #[.pointer none, .pointer none, .pointer none, .pointer none] 33)); refine (t_copy t bt D L (w2.alloc (.cells #[.pointer none, .pointer none, .pointer none, .pointer none] 33)) (HT.out.below HP3.out)).mono ?_; rintro e w3 ⟨t2, rfl, hT3, ht2, hb3⟩; have HC3 := Lib.hid hb3; have HB3 := Lib.hid (HP3.out.trans (hb3.mono HP3.out.size)); have HT3 := Lib.hid hT3; have HL3 := Lib.hid ht2; clear hT3 ht2; (try (have hzr := (hb3.block _ (Array.getElem?_eq_some_iff.1 HZ.out).1).trans HZ.out; clear HZ; have HZ := Lib.hid hzr; clear hzr)); obtain ⟨q3a, q3b, q3c, q3d⟩ := HXC.out w3 HB3.out; have hxn3 : X1 ≠ w3.heap.size := hxt _ HB3.out.size; have hxm3 : w3.heap.size ≠ X1 := (fun e => hxn3 e.symm); clear hb3 hg3)
          | (go_at_call 19; have hg4 : Below w3.heap.size w3 w3 := (Below.refl w3.heap.size w3); have HG4 := Lib.hid hg4; have HP4 : Hid (Below Wb.heap.size Wb w3) := Lib.hid (HB3.out.trans (hg4.mono HB3.out.size)); refine ((show Calls Tryz.prog 19 #[.pointer (some ⟨r, 0, none⟩)] w3 (fun e w' => ∃ r2, e = .returned (.pointer (some ⟨r2, 0, none⟩)) ∧ (∃ A c, RefO w' (fun k => ((Q10 s b r t bt rt vv k ∧ k < Wb.heap.size) ∧ k < (w3).heap.size) ∨ ((w3).heap.size ≤ k ∧ k ≠ r2)) r2 A c os last KL8) ∧ (w3).heap.size ≤ r2 ∧ Below (w3).heap.size w3 w') from by obtain ⟨Ar, cr, hRr⟩ := HRO.out; exact (r_copyO _ r Ar cr os last KL8 w3 (hRr.below HP4.out) (by omega)).mono (fun e w' ⟨r2, A', c', h1, h2, h3, h4⟩ => ⟨r2, h1, ⟨A', c', h2⟩, h3, h4⟩))).mono ?_; rintro e w4 ⟨r2, rfl, hR4, hr2, hb4⟩; have HC4 := Lib.hid hb4; have HB4 := Lib.hid (HP4.out.trans (hb4.mono HP4.out.size)); have HR4 := Lib.hid hR4; have HL4 := Lib.hid hr2; clear hR4 hr2; (try (have hzr := (hb4.block _ (Array.getElem?_eq_some_iff.1 HZ.out).1).trans HZ.out; clear HZ; have HZ := Lib.hid hzr; clear hzr)); obtain ⟨q4a, q4b, q4c, q4d⟩ := HXC.out w4 HB4.out; have hxn4 : X1 ≠ w4.heap.size := hxt _ HB4.out.size; have hxm4 : w4.heap.size ≠ X1 := (fun e => hxn4 e.symm); clear hb4 hg4)
          | (go_at_call 19; have hg4 : Below w3.heap.size w3 (w3.alloc (.cells #[.pointer none, .pointer none, .pointer none, .pointer none] 33)) := (one_new w3 (.cells #[.pointer none, .pointer none, .pointer none, .pointer none] 33)); have HG4 := Lib.hid hg4; have HP4 : Hid (Below Wb.heap.size Wb (w3.alloc (.cells #[.pointer none, .pointer none, .pointer none, .pointer none] 33))) := Lib.hid (HB3.out.trans (hg4.mono HB3.out.size)); have HZ := Lib.hid (World.alloc_heap_new w3 (.cells #[.pointer none, .pointer none, .pointer none, .pointer none] 33)); refine ((show Calls Tryz.prog 19 #[.pointer (some ⟨r, 0, none⟩)] (w3.alloc (.cells #[.pointer none, .pointer none, .pointer none, .pointer none] 33)) (fun e w' => ∃ r2, e = .returned (.pointer (some ⟨r2, 0, none⟩)) ∧ (∃ A c, RefO w' (fun k => ((Q10 s b r t bt rt vv k ∧ k < Wb.heap.size) ∧ k < ((w3.alloc (.cells #[.pointer none, .pointer none, .pointer none, .pointer none] 33))).heap.size) ∨ (((w3.alloc (.cells #[.pointer none, .pointer none, .pointer none, .pointer none] 33))).heap.size ≤ k ∧ k ≠ r2)) r2 A c os last KL8) ∧ ((w3.alloc (.cells #[.pointer none, .pointer none, .pointer none, .pointer none] 33))).heap.size ≤ r2 ∧ Below ((w3.alloc (.cells #[.pointer none, .pointer none, .pointer none, .pointer none] 33))).heap.size (w3.alloc (.cells #[.pointer none, .pointer none, .pointer none, .pointer none] 33)) w') from by obtain ⟨Ar, cr, hRr⟩ := HRO.out; exact (r_copyO _ r Ar cr os last KL8 (w3.alloc (.cells #[.pointer none, .pointer none, .pointer none, .pointer none] 33)) (hRr.below HP4.out) (by omega)).mono (fun e w' ⟨r2, A', c', h1, h2, h3, h4⟩ => ⟨r2, h1, ⟨A', c', h2⟩, h3, h4⟩))).mono ?_; rintro e w4 ⟨r2, rfl, hR4, hr2, hb4⟩; have HC4 := Lib.hid hb4; have HB4 := Lib.hid (HP4.out.trans (hb4.mono HP4.out.size)); have HR4 := Lib.hid hR4; have HL4 := Lib.hid hr2; clear hR4 hr2; (try (have hzr := (hb4.block _ (Array.getElem?_eq_some_iff.1 HZ.out).1).trans HZ.out; clear HZ; have HZ := Lib.hid hzr; clear hzr)); obtain ⟨q4a, q4b, q4c, q4d⟩ := HXC.out w4 HB4.out; have hxn4 : X1 ≠ w4.heap.size := hxt _ HB4.out.size; have hxm4 : w4.heap.size ≠ X1 := (fun e => hxn4 e.symm); clear hb4 hg4)
          | (go_at_call 20; have hg5 : Below w4.heap.size w4 w4 := (Below.refl w4.heap.size w4); have HG5 := Lib.hid hg5; have HP5 : Hid (Below Wb.heap.size Wb w4) := Lib.hid (HB4.out.trans (hg5.mono HB4.out.size)); refine (r_copyT w.heap.size rt vv L w4 (HRT.out.below HP5.out) (by omega)).mono ?_; rintro e w5 ⟨v2, rfl, hU5, hb5⟩; have HC5 := Lib.hid hb5; have HB5 := Lib.hid (HP5.out.trans (hb5.mono HP5.out.size)); have HU5 := Lib.hid hU5; clear hU5; (try (have hzr := (hb5.block _ (Array.getElem?_eq_some_iff.1 HZ.out).1).trans HZ.out; clear HZ; have HZ := Lib.hid hzr; clear hzr)); obtain ⟨q5a, q5b, q5c, q5d⟩ := HXC.out w5 HB5.out; have hxn5 : X1 ≠ w5.heap.size := hxt _ HB5.out.size; have hxm5 : w5.heap.size ≠ X1 := (fun e => hxn5 e.symm); clear hb5 hg5; (try (have x0 := cell_of_row w5 _ 0 _ _ _ HZ.out; have x1 := cell_of_row w5 _ 1 _ _ _ HZ.out; have x2 := cell_of_row w5 _ 2 _ _ _ HZ.out; have x3 := cell_of_row w5 _ 3 _ _ _ HZ.out; have y0 := frozen_of_row w5 _ 0 _ _ HZ.out; have y1 := frozen_of_row w5 _ 1 _ _ HZ.out; have y2 := frozen_of_row w5 _ 2 _ _ HZ.out; have y3 := frozen_of_row w5 _ 3 _ _ HZ.out)))
          | (go_at_call 20; have hg5 : Below w4.heap.size w4 (w4.alloc (.cells #[.pointer none, .pointer none, .pointer none, .pointer none] 33)) := (one_new w4 (.cells #[.pointer none, .pointer none, .pointer none, .pointer none] 33)); have HG5 := Lib.hid hg5; have HP5 : Hid (Below Wb.heap.size Wb (w4.alloc (.cells #[.pointer none, .pointer none, .pointer none, .pointer none] 33))) := Lib.hid (HB4.out.trans (hg5.mono HB4.out.size)); have HZ := Lib.hid (World.alloc_heap_new w4 (.cells #[.pointer none, .pointer none, .pointer none, .pointer none] 33)); refine (r_copyT w.heap.size rt vv L (w4.alloc (.cells #[.pointer none, .pointer none, .pointer none, .pointer none] 33)) (HRT.out.below HP5.out) (by omega)).mono ?_; rintro e w5 ⟨v2, rfl, hU5, hb5⟩; have HC5 := Lib.hid hb5; have HB5 := Lib.hid (HP5.out.trans (hb5.mono HP5.out.size)); have HU5 := Lib.hid hU5; clear hU5; (try (have hzr := (hb5.block _ (Array.getElem?_eq_some_iff.1 HZ.out).1).trans HZ.out; clear HZ; have HZ := Lib.hid hzr; clear hzr)); obtain ⟨q5a, q5b, q5c, q5d⟩ := HXC.out w5 HB5.out; have hxn5 : X1 ≠ w5.heap.size := hxt _ HB5.out.size; have hxm5 : w5.heap.size ≠ X1 := (fun e => hxn5 e.symm); clear hb5 hg5; (try (have x0 := cell_of_row w5 _ 0 _ _ _ HZ.out; have x1 := cell_of_row w5 _ 1 _ _ _ HZ.out; have x2 := cell_of_row w5 _ 2 _ _ _ HZ.out; have x3 := cell_of_row w5 _ 3 _ _ _ HZ.out; have y0 := frozen_of_row w5 _ 0 _ _ HZ.out; have y1 := frozen_of_row w5 _ 1 _ _ HZ.out; have y2 := frozen_of_row w5 _ 2 _ _ HZ.out; have y3 := frozen_of_row w5 _ 3 _ _ HZ.out))))
      all_goals go_wp2_with fail
      all_goals go_meet
      · exact CopyR.of (W := Wb) (W' := Wb.drew) (w2 := w2) (w2' := w2) (w3 := w3) (w3' := w3) (w4 := w4) (w4' := w4) (w5 := w5) (w5' := (w5.alloc (.cells #[.pointer (some ⟨s2, 0, none⟩), .pointer (some ⟨t2, 0, none⟩), .pointer (some ⟨r2, 0, none⟩), .pointer (some ⟨w4.heap.size, 0, none⟩)] 33))) (w6 := (w5.alloc (.cells #[.pointer (some ⟨s2, 0, none⟩), .pointer (some ⟨t2, 0, none⟩), .pointer (some ⟨r2, 0, none⟩), .pointer (some ⟨w4.heap.size, 0, none⟩)] 33))) (X2 := w5.heap.size) (s := s) (b := b) (r := r) (q := w.heap.size) (t := t) (bt := bt) (rt := rt) (s2 := s2) (t2 := t2) (r2 := r2) (rt2 := w4.heap.size) (os := os) (last := last) (v := vv) (v' := v2) (L := L) (D := D)  HWD.out ⟨ho1, hlast⟩ HS2.out HL2.out HB12.out HT3.out HL3.out HC3.out HR4.out HL4.out HC4.out HU5.out HC5.out (Only.refl _ _) HG1.out HG3.out HG4.out HG5.out (one_new w5 _) (.inr (.inr (.inr (.inr (Nat.le_refl _))))) rfl (World.alloc_heap_new w5 _) (HB5.out.trans ((one_new w5 _).mono HB5.out.size))
      · exact CopyR.of (W := Wb) (W' := Wb.drew) (w2 := w2) (w2' := w2) (w3 := w3) (w3' := w3) (w4 := w4) (w4' := ((w4).alloc (.cells #[.pointer none, .pointer none, .pointer none, .pointer none] 33))) (w5 := w5) (w5' := w5) (w6 := ((((w5.setCell ⟨w4.heap.size, 0, none⟩ (.pointer (some ⟨s2, 0, none⟩))).setCell ⟨w4.heap.size, 1, none⟩ (.pointer (some ⟨t2, 0, none⟩))).setCell ⟨w4.heap.size, 2, none⟩ (.pointer (some ⟨r2, 0, none⟩))).setCell ⟨w4.heap.size, 3, none⟩ (.pointer (some ⟨w4.heap.size + 1, 0, none⟩)))) (X2 := w4.heap.size) (s := s) (b := b) (r := r) (q := w.heap.size) (t := t) (bt := bt) (rt := rt) (s2 := s2) (t2 := t2) (r2 := r2) (rt2 := w4.heap.size + 1) (os := os) (last := last) (v := vv) (v' := v2) (L := L) (D := D)  HWD.out ⟨ho1, hlast⟩ HS2.out HL2.out HB12.out HT3.out HL3.out HC3.out HR4.out HL4.out HC4.out HU5.out HC5.out (four_only w5 w4.heap.size (.pointer (some ⟨s2, 0, none⟩)) (.pointer (some ⟨t2, 0, none⟩)) (.pointer (some ⟨r2, 0, none⟩)) (.pointer (some ⟨w4.heap.size + 1, 0, none⟩))) HG1.out HG3.out HG4.out HG5.out (Below.refl _ _) (.inr (.inr (.inr (.inl ⟨by simp, Nat.le_refl _⟩)))) (by simp) (four_set HZ.out _ _ _ _) (HB5.out.trans ((four_only w5 w4.heap.size (.pointer (some ⟨s2, 0, none⟩)) (.pointer (some ⟨t2, 0, none⟩)) (.pointer (some ⟨r2, 0, none⟩)) (.pointer (some ⟨w4.heap.size + 1, 0, none⟩))).1.mono HB4.out.size))
      · exact CopyR.of (W := Wb) (W' := Wb.drew) (w2 := w2) (w2' := w2) (w3 := w3) (w3' := ((w3).alloc (.cells #[.pointer none, .pointer none, .pointer none, .pointer none] 33))) (w4 := w4) (w4' := w4) (w5 := w5) (w5' := w5) (w6 := ((((w5.setCell ⟨w3.heap.size, 0, none⟩ (.pointer (some ⟨s2, 0, none⟩))).setCell ⟨w3.heap.size, 1, none⟩ (.pointer (some ⟨t2, 0, none⟩))).setCell ⟨w3.heap.size, 2, none⟩ (.pointer (some ⟨r2, 0, none⟩))).setCell ⟨w3.heap.size, 3, none⟩ (.pointer (some ⟨w4.heap.size, 0, none⟩)))) (X2 := w3.heap.size) (s := s) (b := b) (r := r) (q := w.heap.size) (t := t) (bt := bt) (rt := rt) (s2 := s2) (t2 := t2) (r2 := r2) (rt2 := w4.heap.size) (os := os) (last := last) (v := vv) (v' := v2) (L := L) (D := D)  HWD.out ⟨ho1, hlast⟩ HS2.out HL2.out HB12.out HT3.out HL3.out HC3.out HR4.out HL4.out HC4.out HU5.out HC5.out (four_only w5 w3.heap.size (.pointer (some ⟨s2, 0, none⟩)) (.pointer (some ⟨t2, 0, none⟩)) (.pointer (some ⟨r2, 0, none⟩)) (.pointer (some ⟨w4.heap.size, 0, none⟩))) HG1.out HG3.out HG4.out HG5.out (Below.refl _ _) (.inr (.inr (.inl ⟨by simp, Nat.le_refl _⟩))) (by simp) (four_set HZ.out _ _ _ _) (HB5.out.trans ((four_only w5 w3.heap.size (.pointer (some ⟨s2, 0, none⟩)) (.pointer (some ⟨t2, 0, none⟩)) (.pointer (some ⟨r2, 0, none⟩)) (.pointer (some ⟨w4.heap.size, 0, none⟩))).1.mono HB3.out.size))
      · exact CopyR.of (W := Wb) (W' := Wb.drew) (w2 := w2) (w2' := ((w2).alloc (.cells #[.pointer none, .pointer none, .pointer none, .pointer none] 33))) (w3 := w3) (w3' := w3) (w4 := w4) (w4' := w4) (w5 := w5) (w5' := w5) (w6 := ((((w5.setCell ⟨w2.heap.size, 0, none⟩ (.pointer (some ⟨s2, 0, none⟩))).setCell ⟨w2.heap.size, 1, none⟩ (.pointer (some ⟨t2, 0, none⟩))).setCell ⟨w2.heap.size, 2, none⟩ (.pointer (some ⟨r2, 0, none⟩))).setCell ⟨w2.heap.size, 3, none⟩ (.pointer (some ⟨w4.heap.size, 0, none⟩)))) (X2 := w2.heap.size) (s := s) (b := b) (r := r) (q := w.heap.size) (t := t) (bt := bt) (rt := rt) (s2 := s2) (t2 := t2) (r2 := r2) (rt2 := w4.heap.size) (os := os) (last := last) (v := vv) (v' := v2) (L := L) (D := D)  HWD.out ⟨ho1, hlast⟩ HS2.out HL2.out HB12.out HT3.out HL3.out HC3.out HR4.out HL4.out HC4.out HU5.out HC5.out (four_only w5 w2.heap.size (.pointer (some ⟨s2, 0, none⟩)) (.pointer (some ⟨t2, 0, none⟩)) (.pointer (some ⟨r2, 0, none⟩)) (.pointer (some ⟨w4.heap.size, 0, none⟩))) HG1.out HG3.out HG4.out HG5.out (Below.refl _ _) (.inr (.inl ⟨by simp, Nat.le_refl _⟩)) (by simp) (four_set HZ.out _ _ _ _) (HB5.out.trans ((four_only w5 w2.heap.size (.pointer (some ⟨s2, 0, none⟩)) (.pointer (some ⟨t2, 0, none⟩)) (.pointer (some ⟨r2, 0, none⟩)) (.pointer (some ⟨w4.heap.size, 0, none⟩))).1.mono HB2.out.size))
      · exact CopyR.of (W := Wb) (W' := (Wb.alloc (.cells #[.pointer none, .pointer none, .pointer none, .pointer none] 33)).drew) (w2 := w2) (w2' := w2) (w3 := w3) (w3' := w3) (w4 := w4) (w4' := w4) (w5 := w5) (w5' := w5) (w6 := ((((w5.setCell ⟨Wb.heap.size, 0, none⟩ (.pointer (some ⟨s2, 0, none⟩))).setCell ⟨Wb.heap.size, 1, none⟩ (.pointer (some ⟨t2, 0, none⟩))).setCell ⟨Wb.heap.size, 2, none⟩ (.pointer (some ⟨r2, 0, none⟩))).setCell ⟨Wb.heap.size, 3, none⟩ (.pointer (some ⟨w4.heap.size, 0, none⟩)))) (X2 := Wb.heap.size) (s := s) (b := b) (r := r) (q := w.heap.size) (t := t) (bt := bt) (rt := rt) (s2 := s2) (t2 := t2) (r2 := r2) (rt2 := w4.heap.size) (os := os) (last := last) (v := vv) (v' := v2) (L := L) (D := D)  HWD.out ⟨ho1, hlast⟩ HS2.out HL2.out HB12.out HT3.out HL3.out HC3.out HR4.out HL4.out HC4.out HU5.out HC5.out (four_only w5 Wb.heap.size (.pointer (some ⟨s2, 0, none⟩)) (.pointer (some ⟨t2, 0, none⟩)) (.pointer (some ⟨r2, 0, none⟩)) (.pointer (some ⟨w4.heap.size, 0, none⟩))) HG1.out HG3.out HG4.out HG5.out (Below.refl _ _) (.inl ⟨by simp, Nat.le_refl _⟩) (by simp) (four_set HZ.out _ _ _ _) (HB5.out.trans ((four_only w5 Wb.heap.size (.pointer (some ⟨s2, 0, none⟩)) (.pointer (some ⟨t2, 0, none⟩)) (.pointer (some ⟨r2, 0, none⟩)) (.pointer (some ⟨w4.heap.size, 0, none⟩))).1.mono (Nat.le_refl _)))
    case rest => as_aux_lemma =>
      obtain ⟨s2, b2, r2, t2, bt2, rt2, X2, hu9, HST6, hbx2, hb6⟩ := hcut
      subst hu9
      have HST6' := Lib.hid HST6
      have HBX6 := Lib.hid hbx2
      have HB6' := Lib.hid hb6
      have hqwb : w.heap.size ≤ Wb.heap.size := HBB.out.size
      clear HST6 hbx2 hb6 d0 d1 d2 d3
      go_upto_region 9 with (fail)
      go_step
      first | go_step | go_upon | go_back | go_values | go_simp
      first | go_step | go_upon | go_back | go_values | go_simp
      first | go_step | go_upon | go_back | go_values | go_simp
      first | go_step | go_upon | go_back | go_values | go_simp
      first | go_step | go_upon | go_back | go_values | go_simp
      first | go_step | go_upon | go_back | go_values | go_simp

      go_cut [10] from 56 (fun _ w2 => LoopR s2 b2 r2 Wb.heap.size t2 bt2 rt2 X2 70 Wb w2)
      case first => as_aux_lemma =>
        go_wp2
        go_loopw [10] (fun i wr => ∃ (k : Nat), k ≤ m ∧ k ≤ 20 ∧ i = .int .i64 k ∧ Hid (StW s2 b2 r2 Wb.heap.size t2 bt2 rt2 X2 (50 + k) wr) ∧ wr.heap[X2]? = some (boxW s2 t2 r2 rt2) ∧ Below Wb.heap.size Wb wr) (fun i _ => m - (intOf i).toNat)
        case atStart => exact ⟨0, Nat.zero_le _, by omega, rfl, HST6', HBX6.out, HB6'.out⟩
        case round => as_aux_lemma =>
          obtain ⟨k, hk, hk1, rfl, HST, hbx, hb⟩ := hrel
          have HBX := Lib.hid hbx
          have HB := Lib.hid hb
          have HBW := Lib.hid (HBB.out.trans (hb.mono HBB.out.size))
          have hxl := (Array.getElem?_eq_some_iff.1 hbx).1
          by_cases hlt : k < m ∧ k < 20
          · obtain ⟨hlt1, hlt2⟩ := hlt
            obtain ⟨⟨xk, ⟨k1, k2, k3, v, A2, cap2, row2⟩⟩, hx⟩ : ∃ x, ys[k]? = some x := ⟨_, List.getElem?_eq_getElem (by omega)⟩
            obtain ⟨a, rfl, hce, hkok, hrow2⟩ := act_at HAB.out k xk v k1 k2 k3 A2 cap2 row2 hx
            have HCE := Lib.hid hce
            have HKK := Lib.hid hkok
            have HRW2 := Lib.hid hrow2
            obtain ⟨c0, c1, c2, c3, c4, c5⟩ := hce wr HBW.out
            clear hx hb hbx hce hkok hrow2
            go_wp2_with fail
            refine (l_short xk v k1 k2 k3 A2 row2.length cap2 wr).mono ?_
            rintro e w2 ⟨rfl, hb2⟩
            have HB2 := Lib.hid (HB.out.trans (hb2.mono HB.out.size))
            have HBW2 := Lib.hid (HBW.out.trans (hb2.mono HBW.out.size))
            have hz2 := hb2.size
            have HST2' := Lib.hid (HST.out.below hb2)
            have HBX2 := Lib.hid ((hb2.block _ hxl).trans HBX.out)
            clear hb2 c0 c1 c2 c3 c4 c5
            cases hsh : shO k1 k2 k3 row2.length with
            | false =>
              go_wp2_with fail
              refine (known10 _).mono ?_
              rintro e w3 ⟨rfl, hb3⟩
              have HB3 := Lib.hid (HBW2.out.trans (hb3.mono HBW2.out.size))
              clear hb3
              go_wp2
              go_ret
              exact ⟨rfl, HB3.out⟩
            | true =>
              have hrl : row2.length ≤ 50 := shO_row hsh
              obtain ⟨c0, c1, c2, c3, c4, c5⟩ := HCE.out w2 HBW2.out
              obtain ⟨os, last, vv, L, hWd, ho1, ho2, hQX⟩ := HST2'.out
              have HQX := Lib.hid hQX
              have hrw := (HRW2.out hrl).keep (Below.keepQ HBW2.out _)
              obtain ⟨nw, hnw⟩ : ∃ nw, row2.length = nw := ⟨_, rfl⟩
              rw [hnw] at hrw c5
              have hge := hWd.ge
              have hsw := HBW2.out.size
              have hsq : w.heap.size ≤ Wb.heap.size := HBB.out.size
              have hDO := l_do10 (fun k => k < w.heap.size) s2 b2 r2 Wb.heap.size t2 bt2 rt2 os last xk v vv L k1 k2 k3 A2 cap2 nw row2 w2.drew (hWd.below (below_drew _ _)) hnw (hrw.keep (Below.keepQ (below_drew _ _) _)) (by omega) (by omega) (by omega) HKK.out (by omega) (by omega)
              unfold wdV at hDO
              have HDO := Lib.hid hDO
              have hxl2 : X2 < w2.heap.size := Nat.lt_of_lt_of_le hxl hz2
              obtain ⟨d0, d1, d2, d3⟩ := four_cells HBX2.out
              clear hsh hDO hWd hQX hrw hge
              go_wp2_with fail
              go_region_held3 (fun W : World => W.cell? ⟨X2, 0, none⟩ = some (.pointer (some ⟨s2, 0, none⟩)) ∧ W.cell? ⟨X2, 1, none⟩ = some (.pointer (some ⟨t2, 0, none⟩)) ∧ W.cell? ⟨X2, 2, none⟩ = some (.pointer (some ⟨r2, 0, none⟩)) ∧ W.cell? ⟨X2, 3, none⟩ = some (.pointer (some ⟨rt2, 0, none⟩)) ∧ W.cell? (a.add (k * 6)) = some (.int .i64 xk) ∧ W.cell? { block := (a.add (k * 6)).block, off := (a.add (k * 6)).off + 1 } = some (.string k1) ∧ W.cell? { block := (a.add (k * 6)).block, off := (a.add (k * 6)).off + 2 } = some (.string k2) ∧ W.cell? { block := (a.add (k * 6)).block, off := (a.add (k * 6)).off + 3 } = some (.string k3) ∧ W.cell? { block := (a.add (k * 6)).block, off := (a.add (k * 6)).off + 4 } = some (.int .i64 v) ∧ W.cell? { block := (a.add (k * 6)).block, off := (a.add (k * 6)).off + 5 } = some (.slice A2 nw cap2)) (go_keep)
                (first
                  | (go_at_call 8; refine HDO.out.mono ?_; rintro x w4 ⟨rfl, os4, last4, v4, L4, hW4, hla, hlb, hb4, hkp4, hq4⟩; have hbq4 := HB2.out.trans ((Below.drew (Below.refl _ w2)).mono HB2.out.size |>.trans hb4); have HB4 := Lib.hid hbq4; have HBW4 := Lib.hid (HBB.out.trans (hbq4.mono HBB.out.size)); have hbx4 := (hkp4 X2 HQX.out (by exact hxl2)).trans HBX2.out; have HBX4 := Lib.hid hbx4; have HST4 : Hid (StW s2 b2 r2 Wb.heap.size t2 bt2 rt2 X2 (50 + (k + 1)) w4) := Lib.hid ⟨os4, last4, v4, L4, hW4, by omega, by omega, hq4 _ (by exact hxl2) HQX.out⟩; obtain ⟨e0, e1, e2, e3, e4, e5⟩ := HCE.out w4 HBW4.out; obtain ⟨f0, f1, f2, f3⟩ := four_cells hbx4; rw [hnw] at e5; clear hW4 hb4 hkp4 hq4 hbq4 hbx4))
              go_wp2
              go_roundw
              case rel => exact ⟨k + 1, by omega, by omega, by go_num, HST4, HBX4.out, HB4.out⟩
              case measure => simp [intOf]; omega
          · have HR : Hid (LoopR s2 b2 r2 Wb.heap.size t2 bt2 rt2 X2 70 Wb wr) := Lib.hid ⟨50 + k, by omega, HST.out, hbx, hb⟩
            clear hb hbx HST HBX HB HBW
            rcases (show m ≤ k ∨ (k < m ∧ 20 ≤ k) by omega) with h1 | ⟨h1, h2⟩
            all_goals
              go_wp2_with fail
              go_meet
              case rel => exact HR.out
      case rest => as_aux_lemma =>
        obtain ⟨k2, hk2, HST7, hbx7, hb7⟩ := hcut
        obtain ⟨We, hWe⟩ : ∃ We, We = wc := ⟨_, rfl⟩
        subst hWe
        have hxl7 := (Array.getElem?_eq_some_iff.1 hbx7).1
        obtain ⟨os2, last2, v2, L2, hWd2, -, -, -⟩ := HST7
        have hWd1 := HWD.out.below hb7
        have hbw7 := HBB.out.trans (hb7.mono HBB.out.size)
        have HBWe := Lib.hid hbw7
        have HX1e := Lib.hid ((hb7.block X1 hxl).trans HBX.out)
        have HX2e := Lib.hid hbx7
        have HF1 : Hid (RowsAre We (.pointer (some ⟨s, 0, none⟩)) (.pointer (some ⟨t, 0, none⟩)) (rowsW os L)) := Lib.hid (by
          obtain ⟨⟨D1, hT1⟩, _, hL1, _⟩ := hWd1.st
          exact f_rowsW _ s b t bt D1 os last L We hWd1.bo.sto hWd1.bo.good hWd1.may hT1 hL1)
        have HF2 : Hid (RowsAre We (.pointer (some ⟨s2, 0, none⟩)) (.pointer (some ⟨t2, 0, none⟩)) (rowsW os2 L2)) := Lib.hid (by
          obtain ⟨⟨D1, hT1⟩, _, hL1, _⟩ := hWd2.st
          exact f_rowsW _ s2 b2 t2 bt2 D1 os2 last2 L2 We hWd2.bo.sto hWd2.bo.good hWd2.may hT1 hL1)
        have HD1 : Hid (RowsAreD We (.pointer (some ⟨r, 0, none⟩)) (.pointer (some ⟨rt, 0, none⟩)) (rowsW os L)) := Lib.hid (r_rowsD _ r _ rt vv os last L We hWd1.bo.ref hWd1.bo.good hWd1.may hWd1.st.2.1 hWd1.st.2.2.1)
        have HD2 : Hid (RowsAreD We (.pointer (some ⟨r2, 0, none⟩)) (.pointer (some ⟨rt2, 0, none⟩)) (rowsW os2 L2)) := Lib.hid (r_rowsD _ r2 _ rt2 v2 os2 last2 L2 We hWd2.bo.ref hWd2.bo.good hWd2.may hWd2.st.2.1 hWd2.st.2.2.1)
        have HR1o := Lib.hid (fun rel => rowsW_ok hWd1.bo.good hWd1.may hWd1.st.2.2.1 rel)
        have HR2o := Lib.hid (fun rel => rowsW_ok hWd2.bo.good hWd2.may hWd2.st.2.2.1 rel)
        have hxl1e : X1 < We.heap.size := Nat.lt_of_lt_of_le hxl hb7.size
        have HRC : Hid (∀ W, Below We.heap.size We W → ∀ (j : Nat) (s : ByteArray), rels[j]? = some s → ∃ a : Addr, C = some a ∧ W.cell? (a.add j) = some (.string s)) := Lib.hid (fun W hW => HAC.out.below (hbw7.trans (hW.mono hbw7.size)))
        have HXC1 : Hid (∀ W, Below We.heap.size We W → W.cell? ⟨X1, 0, none⟩ = some (.pointer (some ⟨s, 0, none⟩)) ∧ W.cell? ⟨X1, 1, none⟩ = some (.pointer (some ⟨t, 0, none⟩)) ∧ W.cell? ⟨X1, 2, none⟩ = some (.pointer (some ⟨r, 0, none⟩)) ∧ W.cell? ⟨X1, 3, none⟩ = some (.pointer (some ⟨rt, 0, none⟩))) := Lib.hid (fun W hW => four_cells ((hW.block _ hxl1e).trans HX1e.out))
        have HXC2 : Hid (∀ W, Below We.heap.size We W → W.cell? ⟨X2, 0, none⟩ = some (.pointer (some ⟨s2, 0, none⟩)) ∧ W.cell? ⟨X2, 1, none⟩ = some (.pointer (some ⟨t2, 0, none⟩)) ∧ W.cell? ⟨X2, 2, none⟩ = some (.pointer (some ⟨r2, 0, none⟩)) ∧ W.cell? ⟨X2, 3, none⟩ = some (.pointer (some ⟨rt2, 0, none⟩))) := Lib.hid (fun W hW => four_cells ((hW.block _ hxl7).trans HX2e.out))
        generalize rowsW os L = R1 at *
        generalize rowsW os2 L2 = R2 at *
        clear hbx7 hb7 hWd2 hWd1 hbw7 HWD HT HRT HSO HRO HX1e HX2e HXC
        by_cases hl20 : 20 < l
        · go_wp2_with fail
          refine (known10 _).mono ?_
          rintro e w3 ⟨rfl, hb3⟩
          have HB3 := Lib.hid (HBWe.out.trans (hb3.mono HBWe.out.size))
          clear hb3
          go_wp2
          go_ret
          exact ⟨rfl, HB3.out⟩
        · obtain ⟨c0, c1, c2, c3⟩ := HXC1.out We (Below.refl _ _)
          obtain ⟨d0, d1, d2, d3⟩ := HXC2.out We (Below.refl _ _)
          have HDF := Lib.hid (f_diff _ _ _ _ R1 R2 C l e9 rels We HLR.out (by omega) (HRC.out We (Below.refl _ _)) HSZ.out HF1.out HF2.out)
          have hcsl := chgs_len R1 R2 rels (fun r => ⟨(HR1o.out r).1, (HR2o.out r).1⟩)
          rw [HLR.out] at hcsl
          have HCA := Lib.hid (fun z hz E => chgs_all R1 R2 rels z hz E)
          have HCM := Lib.hid (chgs_rows R1 R2 rels (fun r => ⟨HR1o.out r, HR2o.out r⟩))
          have HDR := Lib.hid (fun W (hW : Below We.heap.size We W) => r_diffD _ _ _ _ R1 R2 C l e9 rels W HLR.out (by omega) (HRC.out W hW) (HD1.out.below hW) (HD2.out.below hW))
          obtain ⟨cs, hcs⟩ : ∃ cs, chgs R1 R2 rels = cs := ⟨_, rfl⟩
          rw [hcs] at HDF hcsl HDR
          simp only [hcs] at HCA HCM
          obtain ⟨nc, hnc⟩ : ∃ nc, cs.length = nc := ⟨_, rfl⟩
          rw [hnc] at hcsl
          have HNC := Lib.hid hnc
          clear hcs hnc
          go_wp2_with fail
          refine HDF.out.mono ?_
          rintro e w8 ⟨v8, hs8, rfl, ho8, hc8, hb8⟩
          obtain ⟨A8, c8, rfl, _, _, hcl8⟩ := ho8.cells
          have hl8 : hs8.length = nc := hc8.len.trans HNC.out
          rw [hl8]
          have HCS8 : Hid (ChsQ w8 (fun k => k < w8.heap.size) A8 cs) := Lib.hid ⟨hs8, hc8.imp (fun k hk _ => hk), hcl8.imp (fun k hk _ => hk)⟩
          have HB8 := Lib.hid hb8
          clear c0 c1 c2 c3 d0 d1 d2 d3 ho8 hc8 hb8 hcl8 hl8 HDF
          obtain ⟨c0, c1, c2, c3⟩ := HXC1.out w8 HB8.out
          obtain ⟨d0, d1, d2, d3⟩ := HXC2.out w8 HB8.out
          go_wp2_with fail
          refine (HDR.out w8 HB8.out).mono ?_
          rintro e w9 ⟨v9, hs9, rfl, ho9, hc9, hb9⟩
          obtain ⟨A9, c9, rfl, _, _, hcl9⟩ := ho9.cells
          have hl9 : hs9.length = nc := hc9.len.trans HNC.out
          rw [hl9]
          have HCS9 : Hid (ChsQ w9 (fun k => k < w9.heap.size) A9 cs) := Lib.hid ⟨hs9, hc9.imp (fun k hk _ => hk), hcl9.imp (fun k hk _ => hk)⟩
          have HB9 := Lib.hid (HB8.out.trans (hb9.mono HB8.out.size))
          have HCS89 := Lib.hid (HCS8.out.below hb9)
          clear c0 c1 c2 c3 d0 d1 d2 d3 ho9 hc9 hb9 hcl9 hl9 HDR
          go_wp2_with fail
          refine (l_same10 _ _ A8 A9 nc c8 c9 cs w9 HNC.out (by omega) HCS89.out HCS9.out).mono ?_
          rintro e wx ⟨rfl, hbx10⟩
          have HBX10 := Lib.hid (HB9.out.trans (hbx10.mono HB9.out.size))
          have HCSX := Lib.hid ((HCS89.out.below hbx10).imp (Q' := fun k => k < wx.heap.size) (fun k hk _ => hk))
          clear hbx10 HCS8 HCS89 HCS9
          have hzwx := HBX10.out.size
          go_wp2
          go_loopw [12] (fun i w' => ∃ (k : Nat), k ≤ l ∧ i = .int .i64 k ∧ Below wx.heap.size wx w') (fun i _ => l - (intOf i).toNat)
          case atStart => exact ⟨0, Nat.zero_le _, rfl, Below.refl _ _⟩
          case round => as_aux_lemma =>
            obtain ⟨k, hk, rfl, hb⟩ := hrel
            have HB := Lib.hid hb
            have HBE := Lib.hid (HBX10.out.trans (hb.mono hzwx))
            have hzr := hb.size
            by_cases hlt : k < l
            · obtain ⟨z, hz⟩ : ∃ z, rels[k]? = some z := ⟨_, List.getElem?_eq_getElem (by rw [HLR.out]; exact hlt)⟩
              have HZI := Lib.hid (List.mem_of_getElem? hz)
              have hrk : ∃ a : Addr, C = some a ∧ ∀ W, Below We.heap.size We W → W.cell? (a.add k) = some (.string z) := by
                obtain ⟨a, ha, _⟩ := HRC.out We (Below.refl _ _) k z hz
                refine ⟨a, ha, fun W hW => ?_⟩
                obtain ⟨a2, ha2, h2⟩ := HRC.out W hW k z hz
                rw [ha] at ha2
                have e2 := Option.some.inj ha2
                rw [e2]
                exact h2
              obtain ⟨ra, rfl, hrk⟩ := hrk
              have HRK := Lib.hid hrk
              have HO1z := Lib.hid (HR1o.out z)
              have HO2z := Lib.hid (HR2o.out z)
              have hR1 := (HR1o.out z).1
              have hR2 := (HR2o.out z).1
              obtain ⟨B0, hB0⟩ : ∃ B0, B0 = wr.heap.size := ⟨_, rfl⟩
              have HB0 := Lib.hid hB0
              have hon := one_new wr (.cells #[.slice none 0 0] 61)
              have HON := Lib.hid (HBE.out.trans (hon.mono HBE.out.size))
              have HONX := Lib.hid (HB.out.trans (hon.mono hzr))
              have HNEW := Lib.hid (refL_new wr (fun k => wr.heap.size < k))
              obtain ⟨c0, c1, c2, c3⟩ := HXC1.out _ HON.out
              have c4 := hrk _ HON.out
              have HF1z := Lib.hid ((HF1.out _ z HON.out.drew).2.2)
              have hBwx : wx.heap.size ≤ B0 := by rw [hB0]; exact hzr
              clear hz hrk hb hon hB0
              go_wp2_with fail
              go_region_held3 (fun W : World => W.cell? ⟨X1, 0, none⟩ = some (.pointer (some ⟨s, 0, none⟩)) ∧ W.cell? ⟨X1, 1, none⟩ = some (.pointer (some ⟨t, 0, none⟩)) ∧ W.cell? (ra.add k) = some (.string z)) (go_keep)
                (first
                  | (go_at_call 10; refine HF1z.out.mono ?_; rintro e w2 ⟨u2, us2, rfl, ho2, hr2, hb2⟩; obtain ⟨A2, c2', rfl, _, hc2⟩ := ho2.cells; have hb2' := HON.out.drew.trans (hb2.mono HON.out.drew.size); have HB2 := Lib.hid hb2'; have HX2' := Lib.hid (HONX.out.drew.trans (hb2.mono HONX.out.drew.size)); have HRL2 := Lib.hid (HNEW.out.below ((Below.drew (Below.refl _ _)).trans hb2)); obtain ⟨m2, hm2⟩ : ∃ m2, us2.length = m2 := ⟨_, rfl⟩; rw [hm2]; have HM2 := Lib.hid hm2; have HC2 := Lib.hid hc2; have HR2 := Lib.hid hr2; have hz2 : wr.heap.size + 1 ≤ w2.heap.size := (by have := hb2.size; simpa using this); obtain ⟨g0, g1, g2, g3⟩ := HXC1.out w2 hb2'; have g4 := HRK.out w2 hb2'; clear ho2 hr2 hb2 hb2' hc2 hm2))
              rw [← HB0.out]
              have hz2b : B0 + 1 ≤ w2.heap.size := by rw [HB0.out]; exact hz2
              have HRB : Hid (RefL w2 (fun k => B0 < k) B0 []) := Lib.hid (by rw [HB0.out]; exact HRL2.out)
              have HC2b : Hid (CellsQ w2 (fun k => k < w2.heap.size ∧ k ≠ B0) A2 us2) := Lib.hid (HC2.out.imp (fun k hk h => ⟨hk, by have h1 := h.1; simp at h1; rw [HB0.out]; omega⟩))
              have HR2b : Hid (RwsQ w2 (fun k => k < w2.heap.size ∧ k ≠ B0) us2 (R1 z)) := Lib.hid (by
                obtain ⟨_, _, L0, cc0, _, _, hbox, _⟩ := HRB.out
                exact (RwsQ.noF (noInt_boxF hbox) HR2.out).imp (fun k hk h => ⟨hk, h.2⟩))
              have hml : (R1 z).length = m2 := HR2.out.len.symm.trans HM2.out
              have HML := Lib.hid hml
              rw [hml] at hR1
              clear HRL2 HC2 HR2 HNEW hml c0 c1 c2 c3 c4 g0 g1 g2 g3 g4 hz2
              go_wp2
              go_loopw [15] (fun i w3 => ∃ (j : Nat), j ≤ m2 ∧ i = .int .i64 j ∧ RefL w3 (fun k => B0 < k) B0 (addsL 1 ((R1 z).take j) []) ∧ Only B0 w2 w3) (fun i _ => m2 - (intOf i).toNat)
              case atStart => exact ⟨0, Nat.zero_le _, rfl, HRB.out, Only.refl _ _⟩
              case round => as_aux_lemma =>
                obtain ⟨j, hj, rfl, hrl, ho⟩ := hrel
                have HO := Lib.hid ho
                have HRL := Lib.hid hrl
                have hz3 := ho.1.size
                by_cases hjt : j < m2
                · obtain ⟨x, hx⟩ : ∃ x, (R1 z)[j]? = some x := ⟨_, List.getElem?_eq_getElem (by rw [HML.out]; exact hjt)⟩
                  obtain ⟨uv, huv, hur⟩ := HR2b.out.get j x hx
                  obtain ⟨q, rfl, hqb, hqc⟩ := HC2b.out j uv huv
                  have e1 : wr.cell? (q.add j) = some uv := (World.cell?_of_block (w := w2) (ho.2 _ hqb.1 hqb.2)).trans hqc
                  have hxo := HO1z.out.2.1 x (List.mem_of_getElem? hx)
                  have hrow := (hur.keep (ho.keepQ (fun h => h.2 rfl))).row hxo.1 hxo.2
                  have htk : addsL 1 ((R1 z).take (j + 1)) [] = (addL x 1 (addsL 1 ((R1 z).take j) [])).1 := by
                    rw [List.take_add_one, hx]
                    exact addsL_snoc _ _ _ _
                  have HTK := Lib.hid htk
                  have hlen := addsL_len 1 ((R1 z).take j) []
                  have hlen2 : ((R1 z).take j).length ≤ j := List.length_take_le _ _
                  rw [List.length_nil] at hlen
                  have HAD := Lib.hid (r_add _ uv x 1 (fun k => B0 < k) B0 _ wr (fun g hg => by omega) (Nat.lt_irrefl B0) hrow hrl (by omega))
                  obtain ⟨_, A7, c7, rfl, _, _⟩ := hrow
                  clear hx huv hur hqc htk hlen hlen2 hrl ho hxo
                  go_wp2_with fail
                  refine HAD.out.mono ?_
                  rintro e w4 ⟨rfl, hb4, ho4⟩
                  have HB4 := Lib.hid hb4
                  have HO4 := Lib.hid ho4
                  clear hb4 ho4
                  go_wp2
                  go_roundw
                  case rel => exact ⟨j + 1, by omega, by go_num, by rw [HTK.out]; exact HB4.out, HO.out.trans HO4.out⟩
                  case measure => simp [intOf]; omega
                · obtain rfl : j = m2 := by omega
                  have het : (R1 z).take j = R1 z := List.take_of_length_le (by rw [HML.out]; exact Nat.le_refl _)
                  rw [het] at hrl
                  obtain ⟨E1, hE1⟩ : ∃ E1, addsL 1 (R1 z) [] = E1 := ⟨_, rfl⟩
                  have hE1l := addsL_len 1 (R1 z) []
                  rw [hE1, List.length_nil, HML.out] at hE1l
                  rw [hE1] at hrl
                  have HE1 := Lib.hid hE1
                  have HRL5 := Lib.hid hrl
                  have HX5 : Hid (∀ W, Only B0 w2 W → ChsQ W (fun k => k < wx.heap.size) A8 cs) := Lib.hid (fun W hW => HCSX.out.keep (fun g hg hgl => (hW.2 g (Nat.lt_of_lt_of_le hgl HX2'.out.size) (by omega)).trans (HX2'.out.block g hgl)))
                  have HBR : Hid (∀ W, Only B0 w2 W → Below We.heap.size We W) := Lib.hid (fun W hW => Only.below HB2.out hW (Nat.le_trans hzwx hBwx))
                  have HBRX : Hid (∀ W, Only B0 w2 W → Below wx.heap.size wx W) := Lib.hid (fun W hW => Only.below HX2'.out hW hBwx)
                  clear hrl ho hE1 het
                  go_wp2
                  go_loopw [16] (fun i w3 => ∃ (y : Nat), y ≤ nc ∧ i = .int .i64 y ∧ RefL w3 (fun k => B0 < k) B0 (addC z (cs.take y) E1) ∧ Only B0 w2 w3) (fun i _ => nc - (intOf i).toNat)
                  case atStart => exact ⟨0, Nat.zero_le _, rfl, HRL5.out, HO.out⟩
                  case round => as_aux_lemma =>
                    obtain ⟨y, hy, rfl, hrl, ho⟩ := hrel
                    have HO6 := Lib.hid ho
                    have HRL6 := Lib.hid hrl
                    have hz6 := ho.1.size
                    have hzb : B0 < wr.heap.size := by omega
                    by_cases hyt : y < nc
                    · obtain ⟨⟨s9, x, mny⟩, hx⟩ : ∃ x, cs[y]? = some x := ⟨_, List.getElem?_eq_getElem (by rw [HNC.out]; exact hyt)⟩
                      obtain ⟨a9, u9', rfl, hrow9, hal9, q0, q1, q2⟩ := (HX5.out wr ho).get y _ hx
                      have hxo := HCM.out _ (List.mem_of_getElem? hx)
                      have hctk := addC_take z cs y _ hx E1
                      have HCT := Lib.hid hctk
                      have hq0 := HRK.out wr (HBR.out wr ho)
                      dsimp only at q0 q1 q2 hxo hrow9 hctk
                      have hrow := hrow9.row hxo.1 hxo.2
                      have HROW := Lib.hid hrow
                      obtain ⟨_, A7, c7, rfl, _, _⟩ := hrow
                      have hclen := addC_len z (cs.take y) E1
                      have hcl2 : (cs.take y).length ≤ y := List.length_take_le _ _
                      have hBn : (a9.add (y * 3)).block ≠ B0 := by
                        obtain ⟨ls9, h1, h2⟩ := HX5.out wr ho
                        obtain ⟨v9, h3, _⟩ := h1.get y _ hx
                        obtain ⟨a8, ha8, hb8', _⟩ := h2 _ _ (flatH_at ls9 y _ h3).1
                        have := Option.some.inj ha8
                        subst this
                        omega
                      have HADW : Hid (∀ W, Below wr.heap.size wr W → Calls Tryz.prog 24 #[.pointer (some ⟨B0, 0, none⟩), .slice A7 x.length c7, .int .i64 mny] W (RChanges W (fun k => B0 < k) B0 (addL x mny (addC z (cs.take y) E1)))) := Lib.hid (fun W hW => r_add _ _ x mny (fun k => B0 < k) B0 _ W (fun g hg => by have := hW.size; omega) (Nat.lt_irrefl B0) (HROW.out.keep (Below.keepQ hW _)) (HRL6.out.below hW) (by omega))
                      have HCE : Hid (∀ W, Only B0 wr W → W.cell? { block := (a9.add (y * 3)).block, off := (a9.add (y * 3)).off + 1 } = some (.slice A7 x.length c7) ∧ W.cell? { block := (a9.add (y * 3)).block, off := (a9.add (y * 3)).off + 2 } = some (.int .i64 mny)) := Lib.hid (fun W hW => ⟨(World.cell?_of_block (w := wr) (a := { block := (a9.add (y * 3)).block, off := (a9.add (y * 3)).off + 1 }) (hW.2 _ hal9 hBn)).trans q1, (World.cell?_of_block (w := wr) (a := { block := (a9.add (y * 3)).block, off := (a9.add (y * 3)).off + 2 }) (hW.2 _ hal9 hBn)).trans q2⟩)
                      clear hx hrow9 hxo hctk hrl ho hclen hcl2
                      cases hsq : (s9.toList == z.toList) with
                      | true =>
                        have hsz9 : s9 = z := toList_eqT.1 hsq
                        go_wp2_with fail
                        go_quiet (fail)
                        go_wp2_with fail
                        go_region_held3 (fun W : World => W.cell? { block := (a9.add (y * 3)).block, off := (a9.add (y * 3)).off + 1 } = some (.slice A7 x.length c7) ∧ W.cell? { block := (a9.add (y * 3)).block, off := (a9.add (y * 3)).off + 2 } = some (.int .i64 mny)) (go_keep)
                          (first
                            | (go_at_call 24; refine (HADW.out _ (by repeat (first | exact Below.refl _ _ | apply Below.drew | apply below_drewN'))).mono ?_; rintro e w7 ⟨rfl, hb7, ho7⟩; have ho7' : Only B0 wr w7 := (Only.of_below (w' := _) (by repeat (first | exact Below.refl _ _ | apply Below.drew | apply below_drewN')) (Nat.le_of_lt hzb)).trans ho7; have HB7 := Lib.hid hb7; have HO7 := Lib.hid ho7'; obtain ⟨e1, e2⟩ := HCE.out w7 ho7'; clear hb7 ho7 ho7'))
                        go_wp2
                        go_roundw
                        case rel => exact ⟨y + 1, by omega, by go_num, by rw [HCT.out, if_pos hsz9]; exact HB7.out, HO6.out.trans HO7.out⟩
                        case measure => simp [intOf]; omega
                      | false =>
                        have hsz9 : ¬ s9 = z := fun e => by rw [e] at hsq; simp at hsq
                        go_wp2_with fail
                        go_quiet (fail)
                        go_wp2
                        go_roundw
                        case rel => exact ⟨y + 1, by omega, by go_num, by rw [HCT.out, if_neg hsz9]; exact HRL6.out.below (by repeat (first | exact Below.refl _ _ | apply Below.drew | apply below_drewN')), HO6.out.trans (Only.of_below (by repeat (first | exact Below.refl _ _ | apply Below.drew | apply below_drewN')) (Nat.le_of_lt hzb))⟩
                        case measure => simp [intOf]; omega
                    · obtain rfl : y = nc := by omega
                      have hct : cs.take y = cs := List.take_of_length_le (by rw [HNC.out]; exact Nat.le_refl _)
                      have hall : addC z cs E1 = onesL (R2 z) := by
                        rw [HCA.out z HZI.out E1, ← HE1.out]
                        exact behind_all HO1z.out.2.2.2 HO2z.out.2.2.2 HO1z.out.2.2.1 HO2z.out.2.2.1 HO1z.out.1 HO2z.out.1
                      rw [hct, hall] at hrl
                      have HRL8 := Lib.hid hrl
                      have hbr := HBR.out wr ho
                      have HBR8 := Lib.hid hbr
                      have HBX8 := Lib.hid (HBRX.out wr ho)
                      obtain ⟨d0, d1, d2, d3⟩ := HXC2.out wr hbr
                      have d4 := HRK.out wr hbr
                      have HF2z := Lib.hid ((HF2.out _ z hbr.drew).2.2)
                      clear hrl ho hct hall hbr
                      go_wp2_with fail
                      go_region_held3 (fun W : World => W.cell? ⟨X2, 0, none⟩ = some (.pointer (some ⟨s2, 0, none⟩)) ∧ W.cell? ⟨X2, 1, none⟩ = some (.pointer (some ⟨t2, 0, none⟩)) ∧ W.cell? (ra.add k) = some (.string z)) (go_keep)
                        (first
                          | (go_at_call 10; refine HF2z.out.mono ?_; rintro e w5 ⟨u3, us3, rfl, ho3, hr3, hb3⟩; obtain ⟨A3, c3', rfl, _, hc3⟩ := ho3.cells; have hb3' := HBR8.out.drew.trans (hb3.mono HBR8.out.drew.size); have HB3 := Lib.hid hb3'; have HX3 := Lib.hid (HBX8.out.drew.trans (hb3.mono HBX8.out.drew.size)); have HRL9 := Lib.hid (HRL8.out.below ((Below.drew (Below.refl _ _)).trans hb3)); obtain ⟨m3, hm3⟩ : ∃ m3, us3.length = m3 := ⟨_, rfl⟩; rw [hm3]; have HM3 := Lib.hid hm3; have HC3 := Lib.hid hc3; have HR3 := Lib.hid hr3; obtain ⟨g0, g1, g2, g3⟩ := HXC2.out w5 hb3'; have g4 := HRK.out w5 hb3'; clear ho3 hr3 hb3 hb3' hc3 hm3))
                      have hml3 : (R2 z).length = m3 := HR3.out.len.symm.trans HM3.out
                      have HML3 := Lib.hid hml3
                      rw [hml3] at hR2
                      have hTl : (onesL (R2 z)).length = m3 := by unfold onesL; rw [List.length_map]; exact hml3
                      have hbx9 : ∃ Lb cb, w5.cell? ⟨B0, 0, none⟩ = some (.slice Lb m3 cb) := by
                        obtain ⟨_, _, Lb, cb, _, _, hbox, _⟩ := HRL9.out
                        rw [hTl] at hbox
                        exact ⟨Lb, cb, hbox.cell⟩
                      obtain ⟨Lb, cb, hbc⟩ := hbx9
                      have hmm3 : ((m3 : Int) != (m3 : Int)) = false := by simp
                      have HON2 := Lib.hid (fun x (hx : x ∈ R2 z) => onesL_many HO2z.out.2.2.2 HO2z.out.2.2.1 hx)
                      clear hml3 hTl d0 d1 d2 d3 d4 g0 g1 g2 g3 g4
                      go_wp2
                      go_loopw [18] (fun i w6 => ∃ (h : Nat), h ≤ m3 ∧ i = .int .i64 h ∧ Below w5.heap.size w5 w6) (fun i _ => m3 - (intOf i).toNat)
                      case atStart => exact ⟨0, Nat.zero_le _, rfl, Below.refl _ _⟩
                      case round => as_aux_lemma =>
                        obtain ⟨h, hh, rfl, hb6⟩ := hrel
                        have HB6 := Lib.hid hb6
                        by_cases hht : h < m3
                        · obtain ⟨x, hx⟩ : ∃ x, (R2 z)[h]? = some x := ⟨_, List.getElem?_eq_getElem (by rw [HML3.out]; exact hht)⟩
                          obtain ⟨uv, huv, hur⟩ := HR3.out.get h x hx
                          obtain ⟨q, rfl, hqb, hqc⟩ := HC3.out h uv huv
                          have e1 : wr.cell? (q.add h) = some uv := (hb6.cell (p := q.add h) hqb.2).trans hqc
                          have hxo := HO2z.out.2.1 x (List.mem_of_getElem? hx)
                          have hrow := (hur.below hb6).row hxo.1 hxo.2
                          have HMN := Lib.hid (r_many _ uv x (fun k => B0 < k) B0 _ wr hrow (HRL9.out.below hb6))
                          rw [HON2.out x (List.mem_of_getElem? hx)] at HMN
                          obtain ⟨_, A7, c7, rfl, _, _⟩ := hrow
                          clear hx huv hur hqc hxo hb6
                          go_wp2_with fail
                          refine HMN.out.mono ?_
                          rintro e w7 ⟨rfl, hb7⟩
                          have HB7 := Lib.hid (HB6.out.trans (hb7.mono HB6.out.size))
                          clear hb7
                          go_wp2
                          go_roundw
                          case rel => exact ⟨h + 1, by omega, by go_num, HB7.out⟩
                          case measure => simp [intOf]; omega
                        · obtain rfl : h = m3 := by omega
                          clear hb6
                          go_wp2
                          go_roundw
                          case rel => exact ⟨k + 1, by omega, by go_num, HX3.out.trans (HB6.out.mono HX3.out.size)⟩
                          case measure => simp [intOf]; omega
            · obtain rfl : k = l := by omega
              clear hb
              go_wp2_with fail
              refine (known10 _).mono ?_
              rintro e w3 ⟨rfl, hb3⟩
              have HB3 := Lib.hid (HBWe.out.trans ((HBE.out.trans (hb3.mono HBE.out.size)).mono HBWe.out.size))
              clear hb3
              go_wp2
              go_ret
              exact ⟨rfl, HB3.out⟩
end Go.Proofs.YtdhpoaecedpbdaaGreat
