/-
  Changes of which conditions hold, and some columns of changes: the program's Where and Take, and the document's, in every world; nothing that was there is changed.
  No condition but that lists are few, and texts no longer than they can be.
-/
import Derived.Test.YtpliofhphijdkaaPkg
import Derived.Test.YtpliofhphijdkaaPke
namespace Go.Proofs.Ytpliofhphijdkaa
open Go.RowKit

/-- Fresh entries in the blocks of a list of the call's own and of rows of its own. -/
def NewE (n0 : Nat) (w : World) (v : Value) (l : List En) : Prop := ∃ ls, OwnE w n0 v ls ∧ EnR w (fun j => n0 ≤ j ∧ some j ≠ v.ownBlock) ls l
theorem NewE.nil (n0 : Nat) (w : World) : NewE n0 w (.slice none 0 0) [] := ⟨[], OwnE.nil _ _, trivial⟩
theorem NewE.ents {n0 : Nat} {w : World} {v : Value} {l : List En} (h : NewE n0 w v l) : ∃ A c, v = .slice A l.length c ∧ (A = none → c = 0) ∧ EntsQ w (fun k => n0 ≤ k) A l := by
  obtain ⟨ls, h1, h2⟩ := h
  obtain ⟨A, c, hv, hA, _, hc⟩ := h1.slice (fun k => n0 ≤ k) (fun k hk => hk)
  exact ⟨A, c, by rw [hv, h2.len], hA, ⟨ls, h2.imp (fun k _ h => h.1), hc⟩⟩
theorem NewE.below {n0 : Nat} {w w' : World} {v : Value} {l : List En} (h : NewE n0 w v l) (hb : Below w.heap.size w w') : NewE n0 w' v l := by
  obtain ⟨ls, h1, h2⟩ := h
  exact ⟨ls, h1.below hb, h2.keep (Below.keepQ hb _)⟩
theorem en_more {n0 : Nat} {w w5 : World} {v v' : Value} {ls : List RE} {l : List En} {u : Value} {x : List V} {m : Int} {W : World} (hWs : w.heap.size ≤ W.heap.size) (hWb : ∀ k, k < w.heap.size → W.heap[k]? = w.heap[k]?) (hen : EnR w (fun j => n0 ≤ j ∧ some j ≠ v.ownBlock) ls l)
    (hu : IsRow w (fun j => n0 ≤ j ∧ some j ≠ v.ownBlock) u x) (hown' : OwnE w5 n0 v' (ls ++ [(u, m)])) (hg : W.grownBy w5 v.ownBlock) (hor : v'.ownBlock = v.ownBlock ∨ v'.ownBlock = some W.heap.size) : NewE n0 w5 v' (l ++ [(x, m)]) := by
  have key : ∀ j, j < w.heap.size → some j ≠ v.ownBlock → some j ≠ v'.ownBlock := by
    intro j hj hjv
    rcases hor with h | h
    · rw [h]
      exact hjv
    · rw [h]
      intro e
      injection e with e
      omega
  have h1 : EnR w (fun j => (n0 ≤ j ∧ some j ≠ v.ownBlock) ∧ some j ≠ v'.ownBlock) (ls ++ [(u, m)]) (l ++ [(x, m)]) :=
    EnR.imp (fun k hk h => ⟨h, key k hk h.2⟩) (EnR.append hen ⟨rfl, hu, trivial⟩)
  refine ⟨_, hown', EnR.imp (fun k _ h => ⟨h.1.1, h.2⟩) (EnR.keep ?_ h1)⟩
  intro k hk hlt
  rw [hg.block k (by omega) hk.1.2, hWb k hlt]

theorem filter_next (p : En → Bool) (es : List En) (k : Nat) (e : En) (he : es[k]? = some e) : (es.take (k + 1)).filter p = (es.take k).filter p ++ (if p e = true then [e] else []) := by
  rw [List.take_add_one, he, List.filter_append]
  congr 1
  show List.filter p [e] = _
  rw [List.filter_cons]
  simp
theorem EntsQ.lt {w : World} {Q : Nat → Prop} {A : Option Addr} {l : List En} (h : EntsQ w Q A l) : EntsQ w (fun j => j < w.heap.size) A l := h.imp fun _ hk _ => hk
/-- A list of entries in memory. -/
def TellsE (w : World) (l : List En) (e : Ending) (w' : World) : Prop := ∃ L c, e = .returned (.slice L l.length c) ∧ (L = none → c = 0) ∧ EntsQ w' (fun _ => True) L l ∧ Below w.heap.size w w'

set_option maxRecDepth 100000 in
set_option maxHeartbeats 4000000 in
theorem p_Where (R : Nat → Prop) (A C : Option Addr) (n c m c' : Nat) (es : List En) (cs : List Cn) (w : World) (hn : es.length = n) (hl : n ≤ 100000) (hE : EntsQ w R A es) (hm : m = cs.length) (hl2 : m ≤ 1000000) (hC : CnsAt w C cs) :
    Calls Try.prog 13 #[.slice A n c, .slice C m c'] w (TellsE w (es.filter fun e => holdsL e.1 cs)) := by
  have HE := Lib.hid hE
  have HC := Lib.hid hC
  have HN := Lib.hid hn
  have HM := Lib.hid hm
  have H0 : Hid (NewE w.heap.size w (.slice none 0 0) ((es.take 0).filter fun e => holdsL e.1 cs)) := Lib.hid (NewE.nil _ _)
  clear hE hC hn hm
  go_enter Try.func13, Try.ntmps13
  go_wp2
  go_loopw [10, 5] (fun i v wr => ∃ k : Nat, k ≤ n ∧ i = .int .i64 k ∧ NewE w.heap.size wr v ((es.take k).filter fun e => holdsL e.1 cs) ∧ Below w.heap.size w wr) (fun i _ _ => n - (intOf i).toNat)
  case atStart => exact ⟨0, Nat.zero_le _, rfl, H0.out, Below.refl _ _⟩
  case round =>
    obtain ⟨k, hk, rfl, hnew, hb⟩ := hrel
    have hsz := hb.size
    by_cases hkn : k < n
    · obtain ⟨e, he⟩ : ∃ e, es[k]? = some e := ⟨_, List.getElem?_eq_getElem (by rw [HN.out]; exact hkn)⟩
      obtain ⟨a, rv, rfl, hrow, hblt, cw0, cw1⟩ := (HE.out.below hb).get k e he
      have HFN := Lib.hid (filter_next (fun e => holdsL e.1 cs) es k e he)
      have HB := Lib.hid hb
      have HNEW := Lib.hid hnew
      have HROW := Lib.hid hrow
      have hlk : ((es.take k).filter fun e => holdsL e.1 cs).length ≤ k := by
        refine Nat.le_trans (List.length_filter_le _ _) ?_
        rw [List.length_take]
        omega
      obtain ⟨_, A', cr, rfl, _, hq⟩ := hrow
      have hon := one_new wr (.cells #[.slice A' e.1.length cr, .int .i64 e.2] 46)
      have HH := Lib.hid (e_Holds A' C e.1.length cr m c' e.1 cs (wr.alloc (.cells #[.slice A' e.1.length cr, .int .i64 e.2] 46)) rfl HM.out hl2 ((hq.keep (Below.keepQ hon _)).at) ((HC.out.below hb).below hon))
      obtain ⟨W0, hW0⟩ : ∃ W, W = wr.alloc (.cells #[.slice A' e.1.length cr, .int .i64 e.2] 46) := ⟨_, rfl⟩
      have d0 : W0.cell? ⟨wr.heap.size, 0, none⟩ = some (.slice A' e.1.length cr) := by rw [hW0]; exact alloc_new_cells _ _ _ _
      have d1 : W0.cell? ⟨wr.heap.size, 1, none⟩ = some (.int .i64 e.2) := by rw [hW0]; exact alloc_new_cells _ _ _ _
      have hW0s : W0.heap.size = wr.heap.size + 1 := by rw [hW0]; simp
      have hb0 : Below wr.heap.size wr W0 := by rw [hW0]; exact one_new _ _
      rw [← hW0] at HH
      have HWE := Lib.hid hW0
      have HB0 := Lib.hid hb0
      generalize hPe : holdsL e.1 cs = pe at *
      clear hnew hb hon he hW0 hb0 hq hPe
      go_wp2_with fail
      rw [← HWE.out]
      refine HH.out.mono ?_
      rintro x w1 ⟨rfl, hb1⟩
      have hs1 := hb1.size
      have hs1' : wr.heap.size ≤ w1.heap.size := by omega
      have f0 := (hb1.cell (p := ⟨wr.heap.size, 0, none⟩) (by rw [hW0s]; exact Nat.lt_succ_self _)).trans d0
      have f1 := (hb1.cell (p := ⟨wr.heap.size, 1, none⟩) (by rw [hW0s]; exact Nat.lt_succ_self _)).trans d1
      have HB1 := Lib.hid (HB0.out.trans (hb1.mono (by omega)))
      have hlt1 : wr.heap.size < w1.heap.size := by omega
      clear hb1 d0 d1 HH cw0 cw1
      cases pe with
      | false =>
        go_wp2
        go_roundw
        case rel => exact ⟨k + 1, by omega, by go_num, by rw [HFN.out]; simp only [Bool.false_eq_true, if_false, List.append_nil]; exact HNEW.out.below HB1.out, HB.out.trans (HB1.out.mono hsz)⟩
        case measure => simp [intOf]; omega
      | true =>
        obtain ⟨ls, hown, hen⟩ := HNEW.out
        have hob : ∀ j, u5.ownBlock = some j → j < wr.heap.size := fun j hj => (World.ownsRow.lt hown j hj).2
        have HOWN := Lib.hid hown
        have HEN := Lib.hid hen
        have HOB := Lib.hid hob
        have hlsl : ls.length ≤ k := by rw [hen.len]; exact hlk
        have HROW1 := Lib.hid (HROW.out.below HB1.out)
        have HOFR := Lib.hid (fun (X : World) (h : Below w1.heap.size w1 X) => of_rows R (fun j => X.heap.size ≤ j) _ e.1 X (fun j hj => hj) (HROW1.out.below h))
        clear hown hen hob
        go_wp2
        go_region_law (first
          | (go_simp; go_at_call 27; refine (HOFR.out _ (below_drew _ _)).mono ?_; rintro x w3 ⟨u, rfl, hu, hb3⟩; have HU := Lib.hid hu; have HB3 := Lib.hid ((below_drew w1.heap.size w1).trans hb3); obtain ⟨_, A2, c2, rfl, _, _⟩ := hu; have h0 := (HB3.out.cell (p := ⟨wr.heap.size, 0, none⟩) hlt1).trans f0; have h1 := (HB3.out.cell (p := ⟨wr.heap.size, 1, none⟩) hlt1).trans f1; clear hb3)
          | (refine step_append_E _ (by rfl) _ _ (by rfl) w.heap.size _ ls [(.slice A2 e.1.length c2, e.2)] (by rfl) (by exact ((HOWN.out.below HB1.out).below HB3.out).alloc _) _ _ _ (by rfl) (by rfl) (fun _ => True) (by exact ent_lit1 w3 (.slice A2 e.1.length c2) e.2 (fun _ => True) (fun _ _ => trivial)) (by simp [flatE, Value.oneCell']) (by simp; omega) (by have := HB3.out.size; simp; omega) ?_; intro v' w5 hown' hb5 hgr hor))
        all_goals
          have hs3 := HB3.out.size
          have HM5 : Hid (NewE w.heap.size w5 v' (((es.take k).filter fun e => holdsL e.1 cs) ++ [(e.1, e.2)])) := Lib.hid (en_more (w := w3) (by simp) (fun k hk => Below.heap_alloc _ _ _ hk) ((HEN.out.keep (Below.keepQ HB1.out _)).keep (Below.keepQ HB3.out _)) (HU.out.imp (fun j hj h => ⟨by rw [World.size_drew] at h; omega, fun e => by have := HOB.out j e.symm; rw [World.size_drew] at h; omega⟩)) hown' hgr hor)
          have HB5 := Lib.hid ((HB.out.trans ((HB1.out.trans (HB3.out.mono hs1')).mono hsz)).trans (((one_new w3 (.cells #[.slice A2 e.1.length c2, .int .i64 e.2] 46)).mono (by omega)).trans hb5))
          clear hown' hb5 hgr hor h0 h1 f0 f1
          go_wp2
          go_roundw
          case rel => exact ⟨k + 1, by omega, by go_num, by rw [HFN.out]; exact HM5.out, HB5.out⟩
          case measure => simp [intOf]; omega
    · obtain rfl : k = n := by omega
      have htk : es.take k = es := List.take_of_length_le (by rw [HN.out]; exact Nat.le_refl _)
      rw [htk] at hnew
      obtain ⟨A5, c5, hv5, hA5, hE5⟩ := hnew.ents
      subst hv5
      have HE5 := Lib.hid hE5
      have HA5 := Lib.hid hA5
      have HB := Lib.hid hb
      clear hnew hE5 hA5 hb htk
      go_wp2
      go_ret
      exact ⟨A5, c5, rfl, HA5.out, HE5.out.imp (fun _ _ _ => trivial), HB.out⟩

set_option maxRecDepth 100000 in
set_option maxHeartbeats 4000000 in
theorem r_Where (R : Nat → Prop) (A C : Option Addr) (n c m c' : Nat) (es : List En) (cs : List Cn) (w : World) (hn : es.length = n) (hl : n ≤ 100000) (hE : EntsQ w R A es) (hfit : ∀ e ∈ es, Fit e.1) (hm : m = cs.length) (hl2 : m ≤ 1000000) (hC : CnsAt w C cs) :
    Calls Try.prog 14 #[.slice A n c, .slice C m c'] w (TellsE w (es.filter fun e => holdsL e.1 cs)) := by
  have HE : Hid (EntsQ w (fun j => j < w.heap.size) A es) := Lib.hid (EntsQ.lt hE)
  have HC := Lib.hid hC
  have HN := Lib.hid hn
  have HM := Lib.hid hm
  have HF := Lib.hid hfit
  have H0 : Hid (∃ ls, OwnE w w.heap.size (.slice none 0 0) ls ∧ EnR w (fun j => j < w.heap.size) ls ((es.take 0).filter fun e => holdsL e.1 cs)) := Lib.hid ⟨[], OwnE.nil _ _, trivial⟩
  clear hE hC hn hm hfit
  go_enter Try.func14, Try.ntmps14
  go_wp2
  go_loopw [5, 6] (fun v i wr => ∃ k : Nat, k ≤ n ∧ i = .int .i64 k ∧ (∃ ls, OwnE wr w.heap.size v ls ∧ EnR wr (fun j => j < w.heap.size) ls ((es.take k).filter fun e => holdsL e.1 cs)) ∧ Below w.heap.size w wr) (fun _ i _ => n - (intOf i).toNat)
  case atStart => exact ⟨0, Nat.zero_le _, rfl, H0.out, Below.refl _ _⟩
  case round =>
    obtain ⟨k, hk, rfl, ⟨ls, hown, hen⟩, hb⟩ := hrel
    have hsz := hb.size
    by_cases hkn : k < n
    · obtain ⟨e, he⟩ : ∃ e, es[k]? = some e := ⟨_, List.getElem?_eq_getElem (by rw [HN.out]; exact hkn)⟩
      obtain ⟨a, rv, rfl, hrow, hblt, cw0, cw1⟩ := (HE.out.below hb).get k e he
      have HFN := Lib.hid (filter_next (fun e => holdsL e.1 cs) es k e he)
      have HB := Lib.hid hb
      have HROW := Lib.hid hrow
      have hlsl : ls.length ≤ k := by
        rw [hen.len]
        refine Nat.le_trans (List.length_filter_le _ _) ?_
        rw [List.length_take]
        omega
      have HOWN := Lib.hid hown
      have HEN := Lib.hid hen
      obtain ⟨_, A', cr, rfl, _, hq⟩ := hrow
      have HH := Lib.hid (r_Holds A' C e.1.length cr m c' e.1 cs wr rfl HM.out hl2 hq.at (HF.out e (List.mem_of_getElem? he)) (HC.out.below hb))
      generalize hPe : holdsL e.1 cs = pe at *
      clear hown hen hb he hq hPe
      go_wp2_with fail
      refine HH.out.mono ?_
      rintro x w1 ⟨rfl, hb1⟩
      have hs1 := hb1.size
      have f0 := (hb1.cell (p := a.add (k * 2)) hblt).trans cw0
      have f1 := (hb1.cell (p := { block := (a.add (k * 2)).block, off := (a.add (k * 2)).off + 1 }) hblt).trans cw1
      have HB1 := Lib.hid hb1
      clear hb1 cw0 cw1 HH
      cases pe with
      | false =>
        go_wp2
        go_roundw
        case rel => exact ⟨k + 1, by omega, by go_num, ⟨ls, HOWN.out.below HB1.out, by rw [HFN.out]; simp only [Bool.false_eq_true, if_false, List.append_nil]; exact HEN.out.keep (Below.keepQ HB1.out _)⟩, HB.out.trans (HB1.out.mono hsz)⟩
        case measure => simp [intOf]; omega
      | true =>
        have own1 := HOWN.out.below HB1.out
        have HO1 := Lib.hid own1
        clear own1
        go_wp2_with (at_builtin; go_must (refine wp_append_E _ rfl (.tmp 20) (.tmp 25) rfl w.heap.size u5 ls [(.slice A' e.1.length cr, e.2)] rfl (HO1.out.alloc _) _ _ _ rfl rfl (fun _ => True) (ent_lit1 w1 (.slice A' e.1.length cr) e.2 (fun _ => True) (fun _ _ => trivial)) (by simp [flatE, Value.oneCell']) (by simp; omega) (by simp; omega) ?_; intro v' w5 hown' hb5 hgr hor))
        have hb15 : Below w.heap.size wr w5 := (HB1.out.mono hsz).trans (((one_new w1 (.cells #[.slice A' e.1.length cr, .int .i64 e.2] 46)).mono (by omega)).trans hb5)
        have hkq : KeepQ (fun j => j < w.heap.size) wr w5 := fun j hj _ => hb15.block j hj
        have hone : EnR w5 (fun j => j < w.heap.size) [(.slice A' e.1.length cr, e.2)] [e] := ⟨rfl, HROW.out.keep hkq, trivial⟩
        have HEN5 := Lib.hid (EnR.append (HEN.out.keep hkq) hone)
        have HOWN5 := Lib.hid hown'
        have HB5 := Lib.hid (HB.out.trans hb15)
        clear hown' hb5 hgr hor hb15 hkq hone
        go_wp2
        go_roundw
        case rel => exact ⟨k + 1, by omega, by go_num, ⟨_, HOWN5.out, by rw [HFN.out]; exact HEN5.out⟩, HB5.out⟩
        case measure => simp [intOf]; omega
    · obtain rfl : k = n := by omega
      have htk : es.take k = es := List.take_of_length_le (by rw [HN.out]; exact Nat.le_refl _)
      rw [htk] at hen
      obtain ⟨A5, c5, hv5, hA5, _, hc5⟩ := hown.slice (fun _ => True) (fun _ _ => trivial)
      rw [hen.len] at hv5
      subst hv5
      have HE5 : Hid (EntsQ wr (fun _ => True) A5 (es.filter fun e => holdsL e.1 cs)) := Lib.hid ⟨ls, hen.imp (fun _ _ _ => trivial), hc5⟩
      have HA5 := Lib.hid hA5
      have HB := Lib.hid hb
      clear hown hen hA5 hb htk hc5
      go_wp2
      go_ret
      exact ⟨A5, c5, rfl, HA5.out, HE5.out, HB.out⟩

/-! ### some columns -/
def takeE (zs : List Int) (e : En) : En := (zs.map (getV e.1), e.2)
/-- The net of some columns of changes, and why there is none. -/
def takeP (es : List En) (zs : List Int) : List En × Int :=
  if es.all (fun e => zs.all (inR e.1.length)) = true then (netP (es.map (takeE zs)), (ofL (es.map (takeE zs))).2) else ([], 2)
theorem takeP_yes (es : List En) (zs : List Int) (h : es.all (fun e => zs.all (inR e.1.length)) = true) : takeP es zs = (netP (es.map (takeE zs)), (ofL (es.map (takeE zs))).2) := if_pos h
theorem takeP_no (es : List En) (zs : List Int) (k : Nat) (e : En) (he : es[k]? = some e) (h : zs.all (inR e.1.length) = false) : takeP es zs = ([], 2) := by
  unfold takeP
  rw [if_neg]
  intro ha
  have := List.all_eq_true.1 ha e (List.mem_of_getElem? he)
  rw [h] at this
  cases this
theorem netP_len (es : List En) : (netP es).length ≤ es.length := by
  unfold netP
  split
  · exact of_len es
  · exact Nat.zero_le _
theorem takeP_len (es : List En) (zs : List Int) : (takeP es zs).1.length ≤ es.length := by
  unfold takeP
  split
  · have h := netP_len (es.map (takeE zs))
    rw [List.length_map] at h
    exact h
  · exact Nat.zero_le _
theorem all_next (p : En → Bool) (es : List En) (k : Nat) (e : En) (he : es[k]? = some e) : (es.take (k + 1)).all p = ((es.take k).all p && p e) := by
  rw [List.take_add_one, he]
  simp
theorem mapE_next (zs : List Int) (es : List En) (k : Nat) (e : En) (he : es[k]? = some e) : (es.take (k + 1)).map (takeE zs) = (es.take k).map (takeE zs) ++ [(zs.map (getV e.1), e.2)] := by
  rw [List.take_add_one, he, List.map_append]
  rfl
theorem ints_later {w w' : World} {C : Option Addr} {zs : List Int} (h : IntsAt w w.heap.size C zs) (hb : Below w.heap.size w w') : IntsAt w' w'.heap.size C zs := fun i z hi => by
  obtain ⟨a, ha, hlt, hc⟩ := h i z hi
  exact ⟨a, ha, Nat.lt_of_lt_of_le hlt hb.size, (hb.cell hlt).trans hc⟩
/-- A list of entries of the call's own memory, and an error's number. -/
def NetOf (w : World) (r : List En × Int) (e : Ending) (w' : World) : Prop :=
  ∃ L c, e = .returned (.tuple #[.slice L r.1.length c, .int .i64 r.2]) ∧ (L = none → c = 0) ∧ EntsQ w' (fun k => w.heap.size ≤ k) L r.1 ∧ Below w.heap.size w w'

set_option maxRecDepth 100000 in
set_option maxHeartbeats 4000000 in
theorem p_Take (R : Nat → Prop) (A C : Option Addr) (n c m c' : Nat) (es : List En) (zs : List Int) (w : World) (hn : es.length = n) (hl : n ≤ 1000) (hE : EntsQ w R A es) (hmn : ∀ (i : Nat) (e : En), es[i]? = some e → -9223372036854775808 ≤ e.2 ∧ e.2 ≤ 9223372036854775807) (hm : m = zs.length) (hl2 : m ≤ 1000) (hZ : IntsAt w w.heap.size C zs) :
    Calls Try.prog 8 #[.slice A n c, .slice C m c'] w (NetOf w (takeP es zs)) := by
  have HE := Lib.hid hE
  have HZ := Lib.hid hZ
  have HN := Lib.hid hn
  have HM := Lib.hid hm
  have HMN := Lib.hid hmn
  have H0 : Hid (NewE w.heap.size w (.slice none 0 0) ((es.take 0).map (takeE zs))) := Lib.hid (NewE.nil _ _)
  clear hE hZ hn hm hmn
  go_enter Try.func8, Try.ntmps8
  go_wp2
  go_loopw [13, 6] (fun i v wr => ∃ k : Nat, k ≤ n ∧ i = .int .i64 k ∧ (es.take k).all (fun e => zs.all (inR e.1.length)) = true ∧ NewE w.heap.size wr v ((es.take k).map (takeE zs)) ∧ Below w.heap.size w wr) (fun i _ _ => n - (intOf i).toNat)
  case atStart => exact ⟨0, Nat.zero_le _, rfl, rfl, H0.out, Below.refl _ _⟩
  case round =>
    obtain ⟨k, hk, rfl, hall, hnew, hb⟩ := hrel
    have HALL := Lib.hid hall
    have hsz := hb.size
    clear hall
    by_cases hkn : k < n
    · obtain ⟨e, he⟩ : ∃ e, es[k]? = some e := ⟨_, List.getElem?_eq_getElem (by rw [HN.out]; exact hkn)⟩
      obtain ⟨a, rv, rfl, hrow, hblt, cw0, cw1⟩ := (HE.out.below hb).get k e he
      have HAN := Lib.hid (all_next (fun e : En => zs.all (inR e.1.length)) es k e he)
      have HMX := Lib.hid (mapE_next zs es k e he)
      have HTN := Lib.hid (takeP_no es zs k e he)
      have HB := Lib.hid hb
      have HNEW := Lib.hid hnew
      obtain ⟨_, A', cr, rfl, _, hq⟩ := hrow
      have hon := one_new wr (.cells #[.slice A' e.1.length cr, .int .i64 e.2] 46)
      have HH := Lib.hid (row_pick A' C e.1 zs e.1.length m cr c' (wr.alloc (.cells #[.slice A' e.1.length cr, .int .i64 e.2] 46)) rfl HM.out (by omega) ((hq.keep (Below.keepQ hon _)).at) ((ints_later HZ.out (hb.trans (hon.mono hsz)))))
      obtain ⟨W0, hW0⟩ : ∃ W, W = wr.alloc (.cells #[.slice A' e.1.length cr, .int .i64 e.2] 46) := ⟨_, rfl⟩
      have d1 : W0.cell? ⟨wr.heap.size, 1, none⟩ = some (.int .i64 e.2) := by rw [hW0]; exact alloc_new_cells _ _ _ _
      have hW0s : W0.heap.size = wr.heap.size + 1 := by rw [hW0]; simp
      have hb0 : Below wr.heap.size wr W0 := by rw [hW0]; exact one_new _ _
      rw [← hW0] at HH
      have HWE := Lib.hid hW0
      have HB0 := Lib.hid hb0
      clear hnew hb hon he hW0 hb0 hq
      go_wp2_with fail
      rw [← HWE.out]
      refine HH.out.mono ?_
      rintro x w1 ⟨u, rfl, hu, hb1⟩
      have hs1 := hb1.size
      have f1 := (hb1.cell (p := ⟨wr.heap.size, 1, none⟩) (by rw [hW0s]; exact Nat.lt_succ_self _)).trans d1
      have HB1 := Lib.hid (HB0.out.trans (hb1.mono (by omega)))
      have hs1' : wr.heap.size ≤ w1.heap.size := by omega
      clear d1
      clear hb1 cw0 cw1 HH
      rcases Bool.eq_false_or_eq_true (zs.all (inR e.1.length)) with hin | hin
      rotate_left
      · have hp : pickR e.1 zs = ([], 2) := by unfold pickR; rw [hin]; rfl
        rw [hp] at hu ⊢
        have htn := HTN.out hin
        have HTN2 := Lib.hid htn
        have HBF := Lib.hid (HB.out.trans (HB1.out.mono hsz))
        clear hp hu htn hin
        go_wp2
        go_ret2
        rw [HTN2.out]
        exact ⟨none, 0, rfl, fun _ => rfl, ents_none _ _, HBF.out⟩
      · have hp : pickR e.1 zs = (zs.map (getV e.1), 0) := by unfold pickR; rw [if_pos hin]
        rw [hp] at hu ⊢
        obtain ⟨xr, hxr⟩ : ∃ r, r = zs.map (getV e.1) := ⟨_, rfl⟩
        rw [← hxr] at HMX hu ⊢
        have hxl : xr.length ≤ 1000000 := by rw [hxr, List.length_map, ← HM.out]; omega
        obtain ⟨ls, hown, hen⟩ := HNEW.out
        have hob : ∀ j, u6.ownBlock = some j → j < wr.heap.size := fun j hj => (World.ownsRow.lt hown j hj).2
        have hlsl : ls.length ≤ k := by
          rw [hen.len, List.length_map, List.length_take]
          omega
        have hu2 : IsRow w1 (fun j => w.heap.size ≤ j ∧ some j ≠ u6.ownBlock) u xr := IsRow.imp (IsRow.own (Q := fun j => W0.heap.size ≤ j) hu hxl (fun j hj => hj)) (fun j hj h => ⟨by omega, fun e => by have := hob j e.symm; omega⟩)
        have HU := Lib.hid hu2
        have HOWN := Lib.hid (hown.below HB1.out)
        have HEN := Lib.hid (hen.keep (Below.keepQ HB1.out _))
        obtain ⟨_, A2, c2, rfl, _, _⟩ := hu2
        have HIN := Lib.hid hin
        clear hp hu hown hen hob hin hxr hxl
        go_wp2_with (at_builtin; go_must (refine wp_append_E _ rfl (.tmp 27) (.tmp 32) rfl w.heap.size u6 ls [(.slice A2 xr.length c2, e.2)] rfl (HOWN.out.alloc _) _ _ _ rfl rfl (fun _ => True) (ent_lit1 w1 (.slice A2 xr.length c2) e.2 (fun _ => True) (fun _ _ => trivial)) (by simp [flatE, Value.oneCell']) (by simp; omega) (by simp; omega) ?_; intro v' w5 hown' hb5 hgr hor))
        have HM5 := Lib.hid (en_more (w := w1) (by simp) (fun k hk => Below.heap_alloc _ _ _ hk) HEN.out HU.out hown' hgr hor)
        have HB5 := Lib.hid ((HB.out.trans (HB1.out.mono hsz)).trans (((one_new w1 (.cells #[.slice A2 xr.length c2, .int .i64 e.2] 46)).mono (by omega)).trans hb5))
        clear hown' hb5 hgr hor f1
        go_wp2
        go_roundw
        case rel => exact ⟨k + 1, by omega, by go_num, by rw [HAN.out, HALL.out, HIN.out]; rfl, by rw [HMX.out]; exact HM5.out, HB5.out⟩
        case measure => simp [intOf]; omega
    · obtain rfl : k = n := by omega
      have htk : es.take k = es := List.take_of_length_le (by rw [HN.out]; exact Nat.le_refl _)
      have hall := HALL.out
      rw [htk] at hnew hall
      obtain ⟨A5, c5, hv5, hA5, hE5⟩ := hnew.ents
      have hlen : (es.map (takeE zs)).length = k := by rw [List.length_map]; exact HN.out
      rw [hlen] at hv5
      subst hv5
      have HNT := Lib.hid (p_net _ A5 k c5 (es.map (takeE zs)) wr hlen (by omega) hE5 (fun i e he => by
        rw [List.getElem?_map] at he
        cases hx : es[i]? with
        | none => rw [hx] at he; cases he
        | some x =>
          rw [hx] at he
          have he2 : takeE zs x = e := by simpa using he
          subst he2
          exact HMN.out i x hx))
      have HTP := Lib.hid (takeP_yes es zs hall)
      have HB := Lib.hid hb
      clear hnew hE5 hA5 hb htk hall hlen
      go_wp2_with fail
      refine HNT.out.mono ?_
      rintro x w5 ⟨L, cL, rfl, hL, hEL, hbL⟩
      have HEL := Lib.hid (hEL.imp (fun k _ (h : wr.heap.size ≤ k) => Nat.le_trans hsz h))
      have HL := Lib.hid hL
      have HBL := Lib.hid (HB.out.trans (hbL.mono hsz))
      clear hEL hL hbL HNT
      go_wp2
      go_ret2
      rw [HTP.out]
      exact ⟨L, cL, rfl, HL.out, HEL.out, HBL.out⟩

set_option maxRecDepth 100000 in
set_option maxHeartbeats 4000000 in
theorem r_Take (R : Nat → Prop) (A C : Option Addr) (n c m c' : Nat) (es : List En) (zs : List Int) (w : World) (hn : es.length = n) (hl : n ≤ 1000) (hE : EntsQ w R A es) (hmn : ∀ (i : Nat) (e : En), es[i]? = some e → -9223372036854775808 ≤ e.2 ∧ e.2 ≤ 9223372036854775807) (hm : m = zs.length) (hl2 : m ≤ 1000) (hZ : IntsAt w w.heap.size C zs) :
    Calls Try.prog 9 #[.slice A n c, .slice C m c'] w (NetOf w (takeP es zs)) := by
  have HE := Lib.hid hE
  have HZ := Lib.hid hZ
  have HN := Lib.hid hn
  have HM := Lib.hid hm
  have HMN := Lib.hid hmn
  have H0 : Hid (NewE w.heap.size w (.slice none 0 0) ((es.take 0).map (takeE zs))) := Lib.hid (NewE.nil _ _)
  clear hE hZ hn hm hmn
  go_enter Try.func9, Try.ntmps9
  go_wp2
  go_loopw [6, 7] (fun v i wr => ∃ k : Nat, k ≤ n ∧ i = .int .i64 k ∧ (es.take k).all (fun e => zs.all (inR e.1.length)) = true ∧ NewE w.heap.size wr v ((es.take k).map (takeE zs)) ∧ Below w.heap.size w wr) (fun _ i _ => n - (intOf i).toNat)
  case atStart => exact ⟨0, Nat.zero_le _, rfl, rfl, H0.out, Below.refl _ _⟩
  case round =>
    obtain ⟨k, hk, rfl, hall, hnew, hb⟩ := hrel
    have HALL := Lib.hid hall
    have hsz := hb.size
    clear hall
    by_cases hkn : k < n
    · obtain ⟨e, he⟩ : ∃ e, es[k]? = some e := ⟨_, List.getElem?_eq_getElem (by rw [HN.out]; exact hkn)⟩
      obtain ⟨a, rv, rfl, hrow, hblt, cw0, cw1⟩ := (HE.out.below hb).get k e he
      have HAN := Lib.hid (all_next (fun e : En => zs.all (inR e.1.length)) es k e he)
      have HMX := Lib.hid (mapE_next zs es k e he)
      have HTN := Lib.hid (takeP_no es zs k e he)
      have HB := Lib.hid hb
      have HNEW := Lib.hid hnew
      obtain ⟨_, A', cr, rfl, _, hq⟩ := hrow
      have HH := Lib.hid (ref_pick A' C e.1 zs e.1.length m cr c' wr rfl HM.out (by omega) hq.at (ints_later HZ.out hb))
      clear hnew hb he hq
      go_wp2_with fail
      refine HH.out.mono ?_
      rintro x w1 ⟨u, rfl, hu, hb1⟩
      have hs1 := hb1.size
      have f1 := (hb1.cell (p := { block := (a.add (k * 2)).block, off := (a.add (k * 2)).off + 1 }) hblt).trans cw1
      have HB1 := Lib.hid hb1
      have hs1' : wr.heap.size ≤ w1.heap.size := hs1
      clear hb1 cw0 cw1 HH
      rcases Bool.eq_false_or_eq_true (zs.all (inR e.1.length)) with hin | hin
      rotate_left
      · have hp : pickR e.1 zs = ([], 2) := by unfold pickR; rw [hin]; rfl
        rw [hp] at hu ⊢
        have htn := HTN.out hin
        have HTN2 := Lib.hid htn
        have HBF := Lib.hid (HB.out.trans (HB1.out.mono hsz))
        clear hp hu htn hin
        go_wp2
        go_ret2
        rw [HTN2.out]
        exact ⟨none, 0, rfl, fun _ => rfl, ents_none _ _, HBF.out⟩
      · have hp : pickR e.1 zs = (zs.map (getV e.1), 0) := by unfold pickR; rw [if_pos hin]
        rw [hp] at hu ⊢
        obtain ⟨xr, hxr⟩ : ∃ r, r = zs.map (getV e.1) := ⟨_, rfl⟩
        rw [← hxr] at HMX hu ⊢
        have hxl : xr.length ≤ 1000000 := by rw [hxr, List.length_map, ← HM.out]; omega
        obtain ⟨ls, hown, hen⟩ := HNEW.out
        have hob : ∀ j, u6.ownBlock = some j → j < wr.heap.size := fun j hj => (World.ownsRow.lt hown j hj).2
        have hlsl : ls.length ≤ k := by
          rw [hen.len, List.length_map, List.length_take]
          omega
        have hu2 : IsRow w1 (fun j => w.heap.size ≤ j ∧ some j ≠ u6.ownBlock) u xr := IsRow.imp (IsRow.own (Q := fun j => wr.heap.size ≤ j) hu hxl (fun j hj => hj)) (fun j hj h => ⟨by omega, fun e => by have := hob j e.symm; omega⟩)
        have HU := Lib.hid hu2
        have HOWN := Lib.hid (hown.below HB1.out)
        have HEN := Lib.hid (hen.keep (Below.keepQ HB1.out _))
        obtain ⟨_, A2, c2, rfl, _, _⟩ := hu2
        have HIN := Lib.hid hin
        clear hp hu hown hen hob hin hxr hxl
        go_wp2_with (at_builtin; go_must (refine wp_append_E _ rfl (.tmp 29) (.tmp 37) rfl w.heap.size u6 ls [(.slice A2 xr.length c2, e.2)] rfl (HOWN.out.alloc _) _ _ _ rfl rfl (fun _ => True) (ent_lit1 w1 (.slice A2 xr.length c2) e.2 (fun _ => True) (fun _ _ => trivial)) (by simp [flatE, Value.oneCell']) (by simp; omega) (by simp; omega) ?_; intro v' w5 hown' hb5 hgr hor))
        have HM5 := Lib.hid (en_more (w := w1) (by simp) (fun k hk => Below.heap_alloc _ _ _ hk) HEN.out HU.out hown' hgr hor)
        have HB5 := Lib.hid ((HB.out.trans (HB1.out.mono hsz)).trans (((one_new w1 (.cells #[.slice A2 xr.length c2, .int .i64 e.2] 46)).mono (by omega)).trans hb5))
        clear hown' hb5 hgr hor f1
        go_wp2
        go_roundw
        case rel => exact ⟨k + 1, by omega, by go_num, by rw [HAN.out, HALL.out, HIN.out]; rfl, by rw [HMX.out]; exact HM5.out, HB5.out⟩
        case measure => simp [intOf]; omega
    · obtain rfl : k = n := by omega
      have htk : es.take k = es := List.take_of_length_le (by rw [HN.out]; exact Nat.le_refl _)
      have hall := HALL.out
      rw [htk] at hnew hall
      obtain ⟨A5, c5, hv5, hA5, hE5⟩ := hnew.ents
      have hlen : (es.map (takeE zs)).length = k := by rw [List.length_map]; exact HN.out
      rw [hlen] at hv5
      subst hv5
      have HNT := Lib.hid (r_net _ A5 k c5 (es.map (takeE zs)) wr hlen (by omega) hE5 (fun i e he => by
        rw [List.getElem?_map] at he
        cases hx : es[i]? with
        | none => rw [hx] at he; cases he
        | some x =>
          rw [hx] at he
          have he2 : takeE zs x = e := by simpa using he
          subst he2
          exact HMN.out i x hx))
      have HTP := Lib.hid (takeP_yes es zs hall)
      have HB := Lib.hid hb
      clear hnew hE5 hA5 hb htk hall hlen
      go_wp2_with fail
      refine HNT.out.mono ?_
      rintro x w5 ⟨L, cL, rfl, hL, hEL, hbL⟩
      have HEL := Lib.hid (hEL.imp (fun k _ (h : wr.heap.size ≤ k) => Nat.le_trans hsz h))
      have HL := Lib.hid hL
      have HBL := Lib.hid (HB.out.trans (hbL.mono hsz))
      clear hEL hL hbL HNT
      go_wp2
      go_ret2
      rw [HTP.out]
      exact ⟨L, cL, rfl, HL.out, HEL.out, HBL.out⟩
end Go.Proofs.Ytpliofhphijdkaa
