/-
  The document's Merge: each row is looked at first, then all come: what the program's Merge answers and has.
  No condition but the lists' lengths.
-/
import Derived.Test.YtbenpcnmkhmkbaaBagOrder0
namespace Go.Proofs.Ytbenpcnmkhmkbaa
open Go.RowKit

theorem merge_ok (t : Int) (l o : List En) (hl : Good l) (ho : Good o) (h : ∀ e ∈ o, fewN (manyL e.1 l + e.2 * t) = true) : (mergeS t l o).2 = 0 :=
  mfold_fits t o (l, 0) hl ho rfl fun e he => (fewN_iff _).1 (h e he)
theorem merge_bad (t : Int) (l o : List En) (hl : Good l) (ho : Good o) (ht : fewN t = true) (e : En) (he : e ∈ o) (h : fewN (manyL e.1 l + e.2 * t) = false) : mergeL t l o = (l, 10) := by
  unfold mergeL
  rw [if_neg (by rw [ht]; simp), if_neg]
  intro h0
  have hr : ∀ e ∈ o, rightR e.1 = true := fun e he => (ho.2 e he).2.2
  have h1 : manyL e.1 (mergeS t l o).1 = manyL e.1 l + sumF e.1 o * t := mfold_many t o (l, 0) hl hr rfl h0 e.1
  rw [sumF_in o ho.1 e he] at h1
  have h2 := (mergeS_good t l o hl hr).many e.1
  rw [h1, ← fewN_iff, h] at h2
  cases h2
theorem merge_part (t : Int) (l o : List En) (k : Nat) (h : (mergeS t l o).2 = 0) : (mergeS t l (o.take k)).2 = 0 := by
  by_cases h1 : (mergeS t l (o.take k)).2 = 0
  · exact h1
  · have h2 := mergeS_stuck t l (o.take k) (o.drop k) h1
    rw [List.take_append_drop] at h2
    rw [h2] at h
    exact h
theorem merge_step (t : Int) (l o : List En) (k : Nat) (e : En) (he : o[k]? = some e) (hr : rightR e.1 = true) (h : (mergeS t l (o.take k)).2 = 0) : addL e.1 (e.2 * t) (mergeS t l (o.take k)).1 = mergeS t l (o.take (k + 1)) := by
  rw [List.take_add_one, he]
  show _ = mergeS t l (o.take k ++ [e])
  rw [mergeS_snoc]
  unfold addL mstep
  rw [if_pos h, if_neg (by rw [hr]; simp)]
theorem EntsQ.q {w : World} {Q : Nat → Prop} {a : Addr} {l : List En} (h : EntsQ w Q (some a) l) (i : Nat) (e : En) (he : l[i]? = some e) : Q (a.add (i * 2)).block := by
  obtain ⟨ls, h1, h2⟩ := h
  obtain ⟨v, h3, h4⟩ := h1.get i e he
  obtain ⟨f0, _⟩ := flatE_at ls i _ h3
  obtain ⟨a', ha, hq, _⟩ := h2 _ _ f0
  injection ha with ha
  subst ha
  exact hq

set_option maxRecDepth 100000 in
set_option maxHeartbeats 2000000 in
theorem r_merge (Q : Nat → Prop) (g go : Nat) (l o : List En) (t : Int) (w : World) (hQ : ∀ k, w.heap.size ≤ k → Q k) (hg : ¬ Q g) (hb : RefL w Q g l) (ho : RefL w Q go o) (hlen : l.length + o.length ≤ 600000) :
    Calls Try.prog 35 #[.pointer (some ⟨g, 0, none⟩), .pointer (some ⟨go, 0, none⟩), .int .i64 t] w (RChanges w Q g (mergeL t l o)) := by
  have hglt := hb.lt
  rcases Bool.eq_false_or_eq_true (fewN t) with hft | hft
  rotate_left
  · have hm : mergeL t l o = (l, 2) := by
      unfold mergeL
      rw [if_pos hft]
    have HM := Lib.hid hm
    have HFT := Lib.hid hft
    have HB := Lib.hid hb
    clear hQ hg hb ho hm hft
    go_enter Try.func35, Try.ntmps35
    go_wp2_with fail
    refine (r_few _ _).mono ?_
    rintro e w' ⟨rfl, rfl⟩
    rw [HFT.out]
    go_wp2
    go_ret
    rw [HM.out]
    exact ⟨rfl, HB.out, Only.refl _ _⟩
  · have htb := (fewN_iff t).1 hft
    obtain ⟨ht1, ht2⟩ := htb
    have HFT := Lib.hid hft
    have HB := Lib.hid hb
    have HQ := Lib.hid hQ
    have HG := Lib.hid hg
    have HGL := Lib.hid hb.1
    have HGO := Lib.hid ho.1
    obtain ⟨_, hol, L, c, hL, hcc, hbox, hent⟩ := ho
    obtain ⟨ls, hen, hcells⟩ := hent
    have cg := hbox.cell
    have HEN := Lib.hid hen
    have HCE := Lib.hid hcells
    have HO1 := Lib.hid hen.one
    have hlsl := hen.len
    clear hft hb hQ hg hbox hen hcells
    generalize hn : o.length = n at *
    have HN := Lib.hid hn
    have HLS := Lib.hid hlsl
    clear hn hlsl
    go_enter Try.func35, Try.ntmps35
    go_wp2_with fail
    refine (r_few _ _).mono ?_
    rintro e w' ⟨rfl, rfl⟩
    rw [HFT.out]
    go_wp2_with (at_builtin; go_must (refine wp_append_E _ rfl (.tmp 13) (.tmp 17) rfl w.heap.size _ [] ls rfl (OwnE.nil _ _) L n _ rfl HLS.out.symm Q HCE.out HO1.out (by rw [HLS.out]; simp; omega) (Nat.le_refl _) ?_; intro v7 w7 hown7 hb7 _ _; rw [List.nil_append] at hown7; obtain ⟨A7, c7, hv7, _, _, hc7⟩ := hown7.slice Q HQ.out; rw [HLS.out] at hv7; subst hv7))
    have HE7 : Hid (EntsQ w7 Q A7 o) := Lib.hid ⟨ls, HEN.out.keep (Below.keepQ hb7 Q), hc7⟩
    have HB7 := Lib.hid hb7
    have HR7 := Lib.hid (HB.out.below hb7)
    have HK0 : Hid (∀ e ∈ o.take 0, fewN (manyL e.1 l + e.2 * t) = true) := Lib.hid fun e he => by simp at he
    have hs7 := hb7.size
    clear hown7 hc7 hb7
    go_wp2
    go_loopw [8] (fun i wr => ∃ k : Nat, k ≤ n ∧ i = .int .i64 k ∧ Hid (∀ e ∈ o.take k, fewN (manyL e.1 l + e.2 * t) = true) ∧ Below w7.heap.size w7 wr) (fun i _ => n - (intOf i).toNat)
    case atStart => exact ⟨0, Nat.zero_le _, rfl, HK0, Below.refl _ _⟩
    case round =>
      obtain ⟨k, hk, rfl, HK, hbw⟩ := hrel
      have HBW := Lib.hid hbw
      have hsz := hbw.size
      have hall : Below w.heap.size w wr := HB7.out.trans (hbw.mono hs7)
      have HALL := Lib.hid hall
      clear hbw hall
      by_cases hkn : k < n
      · obtain ⟨e, he⟩ : ∃ e, o[k]? = some e := ⟨_, List.getElem?_eq_getElem (by rw [HN.out]; exact hkn)⟩
        obtain ⟨a, rv, rfl, hrow, hblt, c0, c1⟩ := (HE7.out.below HBW.out).get k e he
        have hmem := List.mem_of_getElem? he
        have heb := (fewN_iff _).1 (HGO.out.2 e hmem).2.1
        have hmb := HGL.out.many e.1
        have hpb := prod_bound e.2 t heb ⟨ht1, ht2⟩
        have hw1 : IntKind.i64.wrap (e.2 * t) = e.2 * t := IntWalk.i64_in _ (by omega)
        have hw2 : IntKind.i64.wrap (manyL e.1 l + e.2 * t) = manyL e.1 l + e.2 * t := IntWalk.i64_in _ (by omega)
        have HMEM := Lib.hid hmem
        have HEE := Lib.hid he
        have HC := Lib.hid (r_many _ rv e.1 Q g l wr.drew (hrow.below (below_drew _ _)) ((HR7.out.below HBW.out).below (below_drew _ _)))
        obtain ⟨_, A', c', rfl, _, _⟩ := hrow
        clear he hmem heb hmb hpb
        rcases Bool.eq_false_or_eq_true (fewN (manyL e.1 l + e.2 * t)) with hf | hf
        · have HF := Lib.hid hf
          clear hf
          go_wp2
          go_region_held3 (fun w' => w'.cell? (a.add (k * 2)) = some (.slice A' e.1.length c') ∧ w'.cell? { block := (a.add (k * 2)).block, off := (a.add (k * 2)).off + 1 } = some (.int .i64 e.2)) (go_keep)
            (first
            | (go_at_call 22; refine HC.out.mono ?_; rintro x w2 ⟨rfl, hb2⟩; have hk0 := (hb2.cell (p := a.add (k * 2)) hblt).trans c0; have hk1 := (hb2.cell (p := { block := (a.add (k * 2)).block, off := (a.add (k * 2)).off + 1 }) hblt).trans c1)
            | (go_at_call 65; refine (r_few _ _).mono ?_; rintro x w3 ⟨rfl, rfl⟩; rw [HF.out]))
          go_wp2
          go_roundw
          case rel =>
            refine ⟨k + 1, by omega, by go_num, Lib.hid fun f hf => ?_, HBW.out.trans (((below_drew wr.heap.size wr).trans hb2).mono hsz)⟩
            rw [List.take_add_one, HEE.out] at hf
            rcases List.mem_append.1 hf with hf | hf
            · exact HK.out f hf
            · have : f = e := by simpa using hf
              subst this
              exact HF.out
          case measure => simp [intOf]; omega
        · have HF := Lib.hid hf
          have HMB := Lib.hid (merge_bad t l o HGL.out HGO.out HFT.out e HMEM.out hf)
          clear hf
          go_wp2
          go_region_held3 (fun w' => w'.cell? (a.add (k * 2)) = some (.slice A' e.1.length c') ∧ w'.cell? { block := (a.add (k * 2)).block, off := (a.add (k * 2)).off + 1 } = some (.int .i64 e.2)) (go_keep)
            (first
            | (go_at_call 22; refine HC.out.mono ?_; rintro x w2 ⟨rfl, hb2⟩; have hk0 := (hb2.cell (p := a.add (k * 2)) hblt).trans c0; have hk1 := (hb2.cell (p := { block := (a.add (k * 2)).block, off := (a.add (k * 2)).off + 1 }) hblt).trans c1)
            | (go_at_call 65; refine (r_few _ _).mono ?_; rintro x w3 ⟨rfl, rfl⟩; rw [HF.out]))
          go_wp2
          go_ret
          rw [HMB.out]
          have hfin := HALL.out.trans (((below_drew wr.heap.size wr).trans hb2).mono HALL.out.size)
          exact ⟨rfl, HB.out.below hfin, Only.of_below hfin (Nat.le_of_lt hglt)⟩
      · obtain rfl : k = n := by omega
        have hok := merge_ok t l o HGL.out HGO.out fun e he => HK.out e (by rw [List.take_of_length_le (by rw [HN.out]; exact Nat.le_refl _)]; exact he)
        have HOK := Lib.hid hok
        have HEW := Lib.hid (HE7.out.below HBW.out)
        have HRW : Hid (RefL wr Q g (mergeS t l (o.take 0)).1) := Lib.hid (HR7.out.below HBW.out)
        have hsw : w.heap.size ≤ wr.heap.size := HALL.out.size
        clear hok
        go_wp2
        generalize wr = wE at *
        go_loopw [9] (fun i wr => ∃ j : Nat, j ≤ k ∧ i = .int .i64 j ∧ Hid (RefL wr Q g (mergeS t l (o.take j)).1) ∧ Hid (Only g wE wr)) (fun i _ => k - (intOf i).toNat)
        case atStart => exact ⟨0, Nat.zero_le _, rfl, HRW, Lib.hid (Only.refl _ _)⟩
        case round =>
          obtain ⟨j, hj, rfl, HRJ, HON⟩ := hrel
          have hs9 := HON.out.1.size
          by_cases hjn : j < k
          · obtain ⟨e, he⟩ : ∃ e, o[j]? = some e := ⟨_, List.getElem?_eq_getElem (by rw [HN.out]; exact hjn)⟩
            have hew := HEW.out.keep (HON.out.keepQ HG.out)
            obtain ⟨a, rv, rfl, hrow, hblt, c0, c1⟩ := hew.get j e he
            have hqa := hew.q j e he
            have hne : (a.add (j * 2)).block ≠ g := fun h => HG.out (h ▸ hqa)
            have hmem := List.mem_of_getElem? he
            have heb := (fewN_iff _).1 (HGO.out.2 e hmem).2.1
            have hpb := prod_bound e.2 t heb ⟨ht1, ht2⟩
            have hw1 : IntKind.i64.wrap (e.2 * t) = e.2 * t := IntWalk.i64_in _ (by omega)
            have hst := merge_step t l o j e he (HGO.out.2 e hmem).2.2 (merge_part t l o j HOK.out)
            have hpl := mergeS_len t l (o.take j)
            rw [List.length_take, HN.out] at hpl
            have HST := Lib.hid hst
            have HP := Lib.hid (merge_part t l o (j + 1) HOK.out)
            have HC := Lib.hid (r_add _ rv e.1 (e.2 * t) Q g _ wr.drew (fun i hi => HQ.out i (by have h2 : wr.heap.size ≤ i := hi; omega)) HG.out (hrow.below (below_drew _ _)) (HRJ.out.below (below_drew _ _)) (by omega))
            obtain ⟨_, A', c', rfl, _, _⟩ := hrow
            clear he hew hqa hmem heb hpb hst hpl
            go_wp2
            go_region_held3 (fun w' => w'.cell? (a.add (j * 2)) = some (.slice A' e.1.length c') ∧ w'.cell? { block := (a.add (j * 2)).block, off := (a.add (j * 2)).off + 1 } = some (.int .i64 e.2)) (go_keep)
              (first
              | (go_at_call 20; refine HC.out.mono ?_; rintro x w2 ⟨rfl, hR, ho⟩; have hk0 := (World.cell?_of_block (a := a.add (j * 2)) (ho.2 _ hblt hne)).trans c0; have hk1 := (World.cell?_of_block (a := { block := (a.add (j * 2)).block, off := (a.add (j * 2)).off + 1 }) (ho.2 _ hblt hne)).trans c1))
            rw [HST.out] at hR
            have HR2 := Lib.hid hR
            have HO2 := Lib.hid (HON.out.trans (show Only g wr w2 from ⟨(below_drew _ _).trans ho.1, ho.2⟩))
            clear hR ho
            go_wp2
            go_roundw
            case rel => exact ⟨j + 1, by omega, by go_num, HR2, HO2⟩
            case measure => simp [intOf]; omega
          · obtain rfl : j = k := by omega
            have hmo : mergeL t l o = ((mergeS t l (o.take j)).1, 0) := by
              unfold mergeL
              rw [if_neg (by rw [HFT.out]; simp), if_pos HOK.out, List.take_of_length_le (by rw [HN.out]; exact Nat.le_refl _)]
            have HMO := Lib.hid hmo
            clear hmo
            go_wp2
            go_ret
            rw [HMO.out]
            exact ⟨rfl, HRJ.out, (Only.of_below HALL.out (Nat.le_of_lt hglt)).trans HON.out⟩
end Go.Proofs.Ytbenpcnmkhmkbaa
