/-
  Apply of a Once: what changes of how often rows came make of what is told, in memory.
  No condition but that a Once has no more rows than it may have, and the changes are few.
-/
import Derived.Test.YtpliofhphijdkaaPkb
namespace Go.Proofs.Ytpliofhphijdkaa
open Go.RowKit

theorem OwnE.byBlock {w w' : World} {base : Nat} {v : Value} {ls : List RE} (h : OwnE w base v ls) (hb : ∀ k, v.ownBlock = some k → w'.heap[k]? = w.heap[k]?) : OwnE w' base v ls := by
  refine ⟨h.1, ?_⟩
  rcases h.2 with hn | ⟨g, cap, cur, hv, hg, hh, r⟩
  · exact Or.inl hn
  · exact Or.inr ⟨g, cap, cur, hv, hg, (hb g (by rw [hv]; rfl)).trans hh, r⟩

/-- How far Apply has come: s is what the rows ahead have made; the copy lies in the box gn, the answer is v. -/
structure ApAt (w2 wr : World) (Q : Nat → Prop) (n0 gn : Nat) (v : Value) (s : List En × List En × Int) (k : Nat) : Prop where
  ok : s.2.2 = 0
  len : s.1.length ≤ 1500 + k
  only : Only gn w2 wr
  bag : BagL wr (fun j => (Q j ∧ j ≠ gn) ∧ some j ≠ v.ownBlock) gn s.1
  own : ∃ ls, OwnE wr w2.heap.size v ls ∧ EnR wr (fun j => n0 ≤ j ∧ j < gn) ls s.2.1
  olen : s.2.1.length ≤ k

theorem ApAt.below {w2 wr W : World} {Q : Nat → Prop} {n0 gn : Nat} {v : Value} {s : List En × List En × Int} {k : Nat} (h : ApAt w2 wr Q n0 gn v s k) (hb : Below wr.heap.size wr W) (hgn : gn < w2.heap.size) : ApAt w2 W Q n0 gn v s k := by
  obtain ⟨h1, h2, h3, h4, ⟨ls, h5, h6⟩, h7⟩ := h
  have hsz := h3.1.size
  exact ⟨h1, h2, h3.trans (Only.of_below hb (by omega)), h4.below hb, ⟨ls, h5.below hb, h6.keep (Below.keepQ hb _)⟩, h7⟩

theorem ApAt.added {w2 wr W : World} {Q : Nat → Prop} {n0 gn : Nat} {v : Value} {s : List En × List En × Int} {k : Nat} (h : ApAt w2 wr Q n0 gn v s k) (hgn : gn < w2.heap.size) {l2 : List En} (hB : BagL W (fun j => (Q j ∧ j ≠ gn) ∧ some j ≠ v.ownBlock) gn l2) (ho : Only gn wr W) (hl : l2.length ≤ 1500 + (k + 1)) :
    ApAt w2 W Q n0 gn v (l2, s.2.1, 0) (k + 1) := by
  obtain ⟨h1, h2, h3, h4, ⟨ls, h5, h6⟩, h7⟩ := h
  refine ⟨rfl, hl, h3.trans ho, hB, ⟨ls, h5.byBlock fun j hj => ?_, h6.keep (ho.keepQ (by omega))⟩, Nat.le_succ_of_le h7⟩
  have := World.ownsRow.lt h5 j hj
  exact ho.2 j (by omega) (by omega)

theorem ApAt.told {w2 wr W : World} {Q : Nat → Prop} {n0 gn : Nat} {v v' : Value} {l : List En} {out : List En} {k : Nat} (h : ApAt w2 wr Q n0 gn v (l, out, 0) (k + 1)) (hgn : gn < w2.heap.size) {o : Obj} {ls : List RE} {u : Value} {x : List V} {m : Int}
    (hen : EnR wr (fun j => n0 ≤ j ∧ j < gn) ls out) (hu : IsRow wr (fun j => n0 ≤ j ∧ j < gn) u x) (hown : OwnE W w2.heap.size v' (ls ++ [(u, m)])) (hb : Below w2.heap.size wr W) (hg : (wr.alloc o).grownBy W v.ownBlock) (hor : v'.ownBlock = v.ownBlock ∨ v'.ownBlock = some (wr.alloc o).heap.size) (hol : out.length ≤ k) :
    ApAt w2 W Q n0 gn v' (l, out ++ [(x, m)], 0) (k + 1) := by
  obtain ⟨h1, h2, h3, h4, ⟨ls0, h5, _⟩, _⟩ := h
  have hv : ∀ j, v.ownBlock = some j → w2.heap.size ≤ j := fun j hj => (World.ownsRow.lt h5 j hj).1
  have hsame : ∀ j, j < wr.heap.size → some j ≠ v.ownBlock → W.heap[j]? = wr.heap[j]? := fun j hj hne => by
    rw [hg.block j (by simp; omega) hne, Below.heap_alloc _ _ _ hj]
  have hlow : KeepQ (fun j => n0 ≤ j ∧ j < gn) wr W := fun j hj hlt => hsame j hlt (fun e => by have := hv j e.symm; omega)
  have hsz := h3.1.size
  refine ⟨rfl, h2, ⟨h3.1.trans (hb.mono (by omega)), fun j hj hne => (hb.block j hj).trans (h3.2 j hj hne)⟩, ?_, ⟨_, hown, EnR.append (hen.keep hlow) ⟨rfl, hu.keep hlow, trivial⟩⟩, by rw [List.length_append]; simp; omega⟩
  have key : ∀ j, j < wr.heap.size → some j ≠ v.ownBlock → some j ≠ v'.ownBlock := by
    intro j hj hjv
    rcases hor with h | h
    · rw [h]
      exact hjv
    · rw [h, World.size_alloc]
      intro e
      injection e with e
      omega
  have hbag2 : BagL wr (fun j => ((Q j ∧ j ≠ gn) ∧ some j ≠ v.ownBlock) ∧ some j ≠ v'.ownBlock) gn l := bag_imp h4 (fun j hj h => ⟨h, key j hj h.2⟩)
  have hgl := hbag2.lt
  refine bag_imp (hbag2.keep (fun j hj hlt => hsame j hlt hj.1.2) (hsame gn hgl (fun e => by have := hv gn e.symm; omega))) (fun j _ h => ⟨h.1.1, h.2⟩)

theorem onceL_stop {l N x y : List En} {k : Nat} {err : Int} (hs : onceF l (N.take (k + 1)) = (x, y, err)) (herr : ¬ err = 0) : (onceF l N).2.2 = err := by
  rw [onceF_stop l N (k + 1) (by rw [hs]; exact herr), hs]

/-- What a call of Apply answers, and leaves. -/
def Applied (w : World) (Q : Nat → Prop) (g : Nat) (r : List En × List En × Int) (e : Ending) (w' : World) : Prop :=
  ∃ L c, e = .returned (.tuple #[.slice L r.2.1.length c, .int .i64 r.2.2]) ∧ (L = none → c = 0) ∧ EntsQ w' (fun k => w.heap.size ≤ k) L r.2.1 ∧ BagL w' Q g r.1 ∧ Only g w w'

set_option maxRecDepth 100000 in
set_option maxHeartbeats 4000000 in
theorem o_apply (R : Nat → Prop) (Q : Nat → Prop) (g : Nat) (l : List En) (A : Option Addr) (n c : Nat) (es : List En) (w : World) (hQ : ∀ k, w.heap.size ≤ k → Q k) (hg : ¬ Q g) (hb : BagL w Q g l) (hll : l.length ≤ 1500) (hn : es.length = n) (hl : n ≤ 1000) (hE : EntsQ w R A es) (hm : ∀ (i : Nat) (e : En), es[i]? = some e → -9223372036854775808 ≤ e.2 ∧ e.2 ≤ 9223372036854775807) :
    Calls Try.prog 16 #[.pointer (some ⟨g, 0, none⟩), .slice A n c] w (Applied w Q g (onceL l es)) := by
  have HNET := Lib.hid (p_net R A n c es w hn (by omega) hE hm)
  have HLEN := Lib.hid (show (ofL es).1.length ≤ n from by rw [← hn]; exact of_len es)
  have HGOOD := Lib.hid (ofL_good es)
  have HQ := Lib.hid hQ
  have HG := Lib.hid hg
  have HB := Lib.hid hb
  have hglt := hb.lt
  clear hQ hg hb hn hE hm
  go_enter Try.func16, Try.ntmps16
  go_wp2_with fail
  refine HNET.out.mono ?_
  rintro e w1 ⟨L, cn, rfl, hL, hEN, hb1⟩
  by_cases hz : (ofL es).2 = 0
  · have HP := Lib.hid (show netP es = (ofL es).1 from if_pos hz)
    rw [hz]
    rw [HP.out] at hEN ⊢
    have HONC := Lib.hid (show onceL l es = if (onceF l (ofL es).1).2.2 = 0 then if 1500 < (onceF l (ofL es).1).1.length then (l, [], 6) else onceF l (ofL es).1 else (l, [], (onceF l (ofL es).1).2.2) from if_pos hz)
    obtain ⟨N, hN⟩ : ∃ N, N = (ofL es).1 := ⟨_, rfl⟩
    rw [← hN] at hEN HLEN HGOOD HONC ⊢
    have HEN := Lib.hid hEN
    have HB1 := Lib.hid hb1
    have hs1 := hb1.size
    have HCOPY := Lib.hid (b_copy (fun j => Q j ∧ j ≠ w1.heap.size) g l w1 (bag_imp (HB.out.below hb1) (fun k hk h => ⟨h, by omega⟩)))
    clear hz hN hEN hb1 hL HNET HP
    have hnl := HLEN.out
    go_wp2_with fail
    refine HCOPY.out.mono ?_
    rintro e w2 ⟨rfl, hbag2, hb2⟩
    have hs2 : w1.heap.size < w2.heap.size := hbag2.lt
    have H0 : Hid (ApAt w2 w2 Q w.heap.size w1.heap.size (.slice none 0 0) (onceF l (N.take 0)) 0) := Lib.hid ⟨rfl, Nat.le_trans hll (Nat.le_refl _), Only.refl _ _, bag_imp hbag2 (fun k _ h => ⟨h, by simp [Value.ownBlock]⟩), ⟨[], OwnE.nil _ _, trivial⟩, Nat.le_refl _⟩
    have HB2 := Lib.hid hb2
    clear hbag2 hb2 HCOPY
    go_wp2
    go_loopw [31, 9] (fun i v wr => ∃ k : Nat, k ≤ N.length ∧ i = .int .i64 k ∧ ApAt w2 wr Q w.heap.size w1.heap.size v (onceF l (N.take k)) k) (fun i _ _ => N.length - (intOf i).toNat)
    case atStart => exact ⟨0, Nat.zero_le _, rfl, H0.out⟩
    case round =>
      obtain ⟨k, hk, rfl, hap⟩ := hrel
      have hb12 : Below w1.heap.size w1 wr := HB2.out.trans hap.only.1
      have HB12 := Lib.hid hb12
      have hszr := hap.only.1.size
      by_cases hkn : k < N.length
      · obtain ⟨e, he⟩ : ∃ e, N[k]? = some e := ⟨_, List.getElem?_eq_getElem hkn⟩
        obtain ⟨a, rv, rfl, hrow, hblt, c0, c1⟩ := (HEN.out).get k e he
        have cw0 := (hb12.cell (p := a.add (k * 2)) hblt).trans c0
        have cw1 := (hb12.cell (p := { block := (a.add (k * 2)).block, off := (a.add (k * 2)).off + 1 }) hblt).trans c1
        have hs0 := hap.ok
        have hfew := (HGOOD.out.2 e (List.mem_of_getElem? he)).2.1
        have hfew2 := (fewN_iff _).1 hfew
        have hwf := HB.out.1.many e.1
        have hslen := hap.len
        have HNX := Lib.hid (onceF_next l N k e he)
        have hnew := one_new wr (.cells #[rv, .int .i64 e.2] 46)
        have hw0 : Below w.heap.size w (wr.alloc (.cells #[rv, .int .i64 e.2] 46)) := HB1.out.trans ((hb12.trans (hnew.mono (by omega))).mono hs1)
        have HW0 := Lib.hid hw0
        have HAP := Lib.hid (hap.below hnew hs2)
        have HROW := Lib.hid (show IsRow (wr.alloc (.cells #[rv, .int .i64 e.2] 46)) (fun j => w.heap.size ≤ j ∧ j < w1.heap.size) rv e.1 from ((hrow.imp (fun j hj h => ⟨h, hj⟩)).below hb12).below hnew)
        have HMANY := Lib.hid (b_many _ rv e.1 Q (some ⟨g, 0, none⟩) l (wr.alloc (.cells #[rv, .int .i64 e.2] 46)).drew (HROW.out.below (below_drew _ _)) (Or.inr ⟨g, rfl, (HB.out.below hw0).below (below_drew _ _)⟩))
        obtain ⟨_, A', c', rfl, _, _⟩ := hrow
        obtain ⟨W0, hW0⟩ : ∃ W, W = wr.alloc (.cells #[.slice A' e.1.length c', .int .i64 e.2] 46) := ⟨_, rfl⟩
        have hW0s : W0.heap.size = wr.heap.size + 1 := by rw [hW0]; simp
        have d0 : W0.cell? ⟨wr.heap.size, 0, none⟩ = some (.slice A' e.1.length c') := by rw [hW0]; exact alloc_new_cells _ _ _ _
        have d1 : W0.cell? ⟨wr.heap.size, 1, none⟩ = some (.int .i64 e.2) := by rw [hW0]; exact alloc_new_cells _ _ _ _
        rw [← hW0] at HAP HROW HMANY HW0
        have HWE := Lib.hid hW0
        clear hw0 hnew he hap hW0 hfew c0 c1 hb12
        go_wp2
        rw [← HWE.out]
        go_region_held3 (fun w' => w'.cell? ⟨wr.heap.size, 0, none⟩ = some (.slice A' e.1.length c')) (go_keep)
          (first
          | (go_at_call 30; refine HMANY.out.mono ?_; rintro x w3 ⟨rfl, hb3⟩; have hk0 := (hb3.cell (p := ⟨wr.heap.size, 0, none⟩) (by rw [World.size_drew, hW0s]; exact Nat.lt_succ_self _)).trans d0))
        have hb0 := (below_drew W0.heap.size W0).trans hb3
        have HAP3 := Lib.hid (HAP.out.below hb0 hs2)
        have HROW3 := Lib.hid (HROW.out.below hb0)
        have HW3 := Lib.hid (HW0.out.trans (hb0.mono HW0.out.size))
        have hs3 := hb0.size
        have e0 := (hb0.cell (p := ⟨wr.heap.size, 0, none⟩) (by rw [hW0s]; exact Nat.lt_succ_self _)).trans d0
        have e1 := (hb0.cell (p := ⟨wr.heap.size, 1, none⟩) (by rw [hW0s]; exact Nat.lt_succ_self _)).trans d1
        have HS0 := Lib.hid hs0
        clear hb0 hb3 hk0 HMANY d0 d1 cw0 cw1 HWE hs0
        obtain ⟨was, hwas⟩ : ∃ was, was = manyL e.1 l := ⟨_, rfl⟩
        have HWAS := Lib.hid hwas
        rw [← hwas] at hwf ⊢
        clear hwas
        by_cases hlt : was + e.2 < 0
        · have hst : onceF l (N.take (k + 1)) = ((onceF l (N.take k)).1, (onceF l (N.take k)).2.1, 10) := by
            rw [HNX.out]
            unfold onceStep
            rw [if_pos HS0.out, if_pos (by rw [← HWAS.out]; exact hlt)]
          have hres := onceL_stop hst (by decide)
          have HRES := Lib.hid hres
          have hdl : decide (was + e.2 < 0) = true := decide_eq_true hlt
          clear hst hres
          go_wp2
          go_ret2
          rw [HONC.out, if_neg (by rw [HRES.out]; decide), HRES.out]
          exact ⟨none, 0, rfl, fun _ => rfl, ents_none _ _, HB.out.below HW3.out, Only.of_below HW3.out (by omega)⟩
        · have hdl : decide (was + e.2 < 0) = false := decide_eq_false hlt
          have hown := HAP3.out.own
          obtain ⟨ls, hown, hen⟩ := hown
          have hob : ∀ j, u9.ownBlock = some j → j < w3.heap.size := fun j hj => (World.ownsRow.lt hown j hj).2
          have HOB := Lib.hid hob
          have HOWN := Lib.hid hown
          have HEN3 := Lib.hid hen
          clear hown hen hob
          have HADD := Lib.hid (b_add _ _ e.1 e.2 (fun j => (Q j ∧ j ≠ w1.heap.size) ∧ some j ≠ u9.ownBlock) w1.heap.size (onceF l (N.take k)).1 w3 (by omega) (fun j hj => ⟨⟨HQ.out j (by omega), by omega⟩, fun e => by have := HOB.out j e.symm; omega⟩) (fun h => h.1.2 rfl) HROW3.out HAP3.out.bag (by omega))
          go_wp2_with fail
          refine HADD.out.mono ?_
          rintro x w4 ⟨rfl, hB4, ho4⟩
          have hstep : onceF l (N.take (k + 1)) = if (addL e.1 e.2 (onceF l (N.take k)).1).2 = 0 then ((addL e.1 e.2 (onceF l (N.take k)).1).1, (onceF l (N.take k)).2.1 ++ tellP l e, 0) else ((onceF l (N.take k)).1, (onceF l (N.take k)).2.1, (addL e.1 e.2 (onceF l (N.take k)).1).2) := by
            rw [HNX.out]
            unfold onceStep
            rw [if_pos HS0.out, if_neg (by rw [← HWAS.out]; omega)]
          have hal := addL_len e.1 e.2 (onceF l (N.take k)).1
          have hw4 : Below w.heap.size w w4 := HW3.out.trans (ho4.1.mono hs1)
          have HW4 := Lib.hid hw4
          obtain ⟨r, hr⟩ : ∃ r, r = addL e.1 e.2 (onceF l (N.take k)).1 := ⟨_, rfl⟩
          rw [← hr] at hstep hB4 hal ⊢
          have HSTEP := Lib.hid hstep
          have HB4 := Lib.hid hB4
          have HO4 := Lib.hid ho4
          have hs4 := ho4.1.size
          have e04 : w4.cell? ⟨wr.heap.size, 0, none⟩ = some (.slice A' e.1.length c') := (World.cell?_of_block (w := w3) (a := ⟨wr.heap.size, 0, none⟩) (ho4.2 wr.heap.size (by omega) (by omega))).trans e0
          have own4 : OwnE w4 w2.heap.size u9 ls := HOWN.out.byBlock fun j hj => ho4.2 j (HOB.out j hj) (by have := HOWN.out.base_le j hj; omega)
          have HOWN4 := Lib.hid own4
          have HEN4 := Lib.hid (HEN3.out.keep (ho4.keepQ (by omega)))
          have HROW4 := Lib.hid (HROW3.out.keep (ho4.keepQ (by omega)))
          have hlsl : ls.length ≤ k := by rw [HEN3.out.len]; exact HAP3.out.olen
          clear own4
          clear hr hstep hB4 ho4 hw4 HADD
          by_cases hr0 : r.2 = 0
          · rw [hr0]
            have HR0 := Lib.hid hr0
            clear hr0
            have HAP4 := Lib.hid (HAP3.out.added hs2 HB4.out HO4.out (by omega))
            by_cases h0 : was = 0
            · have HT := Lib.hid (show onceF l (N.take (k + 1)) = (r.1, (onceF l (N.take k)).2.1 ++ [(e.1, 1)], 0) from by rw [HSTEP.out, if_pos HR0.out]; unfold tellP; rw [if_pos (by rw [← HWAS.out]; exact h0)])
              have hd0 : (was == 0) = true := by simp [h0]
              have HLIT := Lib.hid (ent_lit1 w4 (.slice A' e.1.length c') 1 (fun _ => True) (fun _ _ => trivial))
              go_wp2_with (at_builtin; go_must (refine wp_append_E _ rfl (.tmp 59) (.tmp 63) rfl w2.heap.size u9 ls [(.slice A' e.1.length c', 1)] rfl (HOWN4.out.alloc _) _ _ _ rfl rfl (fun _ => True) HLIT.out (by simp [flatE, Value.oneCell']) (by simp; omega) (by simp; omega) ?_; intro v' w5 hown' hb' hgrow hor; have HTL := Lib.hid (HAP4.out.told hs2 HEN4.out HROW4.out hown' (((Below.refl w2.heap.size w4).alloc (by omega) _).trans hb') hgrow hor (by have := HEN4.out.len; omega)); clear hown' hb' hgrow hor))
              go_roundw
              case rel => exact ⟨k + 1, by omega, by go_num, by rw [HT.out]; exact HTL.out⟩
              case measure => simp [intOf]; omega
            · have hd0 : (was == 0) = false := by simp [h0]
              by_cases h1 : was + e.2 = 0
              · have HT := Lib.hid (show onceF l (N.take (k + 1)) = (r.1, (onceF l (N.take k)).2.1 ++ [(e.1, -1)], 0) from by rw [HSTEP.out, if_pos HR0.out]; unfold tellP; rw [if_neg (by rw [← HWAS.out]; exact h0), if_pos (by rw [← HWAS.out]; exact h1)])
                have hd1 : (was + e.2 == 0) = true := by simp [h1]
                have HLIT := Lib.hid (ent_lit1 w4 (.slice A' e.1.length c') (-1) (fun _ => True) (fun _ _ => trivial))
                go_wp2_with (at_builtin; go_must (refine wp_append_E _ rfl (.tmp 68) (.tmp 72) rfl w2.heap.size u9 ls [(.slice A' e.1.length c', -1)] rfl (HOWN4.out.alloc _) _ _ _ rfl rfl (fun _ => True) HLIT.out (by simp [flatE, Value.oneCell']) (by simp; omega) (by simp; omega) ?_; intro v' w5 hown' hb' hgrow hor; have HTL := Lib.hid (HAP4.out.told hs2 HEN4.out HROW4.out hown' (((Below.refl w2.heap.size w4).alloc (by omega) _).trans hb') hgrow hor (by have := HEN4.out.len; omega)); clear hown' hb' hgrow hor))
                go_roundw
                case rel => exact ⟨k + 1, by omega, by go_num, by rw [HT.out]; exact HTL.out⟩
                case measure => simp [intOf]; omega
              · have HT := Lib.hid (show onceF l (N.take (k + 1)) = (r.1, (onceF l (N.take k)).2.1, 0) from by rw [HSTEP.out, if_pos HR0.out]; unfold tellP; rw [if_neg (by rw [← HWAS.out]; exact h0), if_neg (by rw [← HWAS.out]; exact h1), List.append_nil])
                have hd1 : (was + e.2 == 0) = false := by simp [h1]
                go_wp2
                go_roundw
                case rel => exact ⟨k + 1, by omega, by go_num, by rw [HT.out]; exact HAP4.out⟩
                case measure => simp [intOf]; omega
          · have hres := onceL_stop (HSTEP.out.trans (if_neg hr0)) hr0
            have HRES := Lib.hid hres
            have HR0 := Lib.hid hr0
            have hne : (r.2 != 0) = true := by simp [hr0]
            clear hres hr0
            go_wp2
            go_ret2
            rw [HONC.out, if_neg (by rw [HRES.out]; exact HR0.out), HRES.out]
            exact ⟨none, 0, rfl, fun _ => rfl, ents_none _ _, HB.out.below HW4.out, Only.of_below HW4.out (by omega)⟩
      · obtain rfl : k = N.length := by omega
        have htk : N.take N.length = N := List.take_of_length_le (Nat.le_refl _)
        rw [htk] at hap
        have HR0 := Lib.hid hap.ok
        have HLE := Lib.hid (b_len _ (some ⟨w1.heap.size, 0, none⟩) _ wr (Or.inr ⟨_, rfl, hap.bag⟩))
        obtain ⟨ls, hown, hen⟩ := hap.own
        obtain ⟨Av, cv, hv, hAv, _, hcv⟩ := hown.slice (fun j => w2.heap.size ≤ j) (fun j hj => hj)
        have hlen9 := hen.len
        have hw3 : Below w.heap.size w wr := HB1.out.trans (hb12.mono hs1)
        obtain ⟨hgo, p9, t9, ht9, hbx9, htr9⟩ := hap.bag
        have c9 := hbx9.cell
        have hbg := (HB.out.below HB1.out).below (show Below w1.heap.size w1 wr from hb12)
        obtain ⟨hgo1, pg, tg, htg, hbxg, htrg⟩ := hbg
        have cg := hbxg.cell
        have fg := hbxg.frozen
        have HBXG := Lib.hid hbxg
        have HGO := Lib.hid hgo
        have HT9 := Lib.hid ht9
        have HTR9 := Lib.hid htr9
        have HW3 := Lib.hid hw3
        have HEN9 := Lib.hid hen
        have HCV := Lib.hid hcv
        have HAV := Lib.hid hAv
        have HL9 := Lib.hid hlen9
        have hl3 := hap.len
        have hol3 := hap.olen
        subst hv
        clear hap hb12 hown hen hAv hcv hlen9 hgo ht9 hbx9 htr9 hgo1 htg hbxg htrg hw3 htk
        obtain ⟨r, hr⟩ : ∃ r, r = onceF l N := ⟨_, rfl⟩
        rw [← hr] at HONC HR0 HLE HGO HT9 HEN9 HL9 hl3 hol3
        clear hr
        have HR0' := HR0.out
        go_wp2_with fail
        refine HLE.out.mono ?_
        rintro x w4 ⟨rfl, rfl⟩
        by_cases hfull : 1500 < r.1.length
        · have HON := Lib.hid (show onceL l es = (l, [], 6) from by rw [HONC.out, if_pos HR0.out, if_pos hfull])
          go_wp2
          go_ret2
          rw [HON.out]
          exact ⟨none, 0, rfl, fun _ => rfl, ents_none _ _, HB.out.below HW3.out, Only.of_below HW3.out (by omega)⟩
        · have HON := Lib.hid (show onceL l es = r from by rw [HONC.out, if_pos HR0.out, if_neg hfull])
          go_wp2
          go_ret2
          rw [HON.out]
          refine ⟨Av, cv, ?_, HAV.out, ⟨ls, (HEN9.out.keep ((only_set wr g _).keepQ (by omega))).imp (fun k _ h => h.1), (HCV.out.keep ((only_set wr g _).keepQ (by omega))).imp (fun k _ h => by omega)⟩, ⟨HGO.out, p9, t9, HT9.out, HBXG.out.set _, (HTR9.out.keep ((only_set wr g _).keepQ (fun h => HG.out h.1.1))).imp (fun k _ h => h.1.1)⟩, (Only.of_below HW3.out (by omega)).trans (only_set wr g _)⟩
          rw [HR0.out, ← HL9.out]
          exact rfl
  · have HP := Lib.hid (show netP es = [] from if_neg hz)
    have HONC := Lib.hid (show onceL l es = (l, [], (ofL es).2) from if_neg hz)
    have hne : ((ofL es).2 != 0) = true := by simp [hz]
    have HB1 := Lib.hid hb1
    have hs1 := hb1.size
    clear hz hb1 hL hEN
    go_wp2
    go_ret2
    rw [HONC.out]
    exact ⟨none, 0, rfl, fun _ => rfl, ents_none _ _, HB.out.below HB1.out, Only.of_below HB1.out (by omega)⟩
end Go.Proofs.Ytpliofhphijdkaa
