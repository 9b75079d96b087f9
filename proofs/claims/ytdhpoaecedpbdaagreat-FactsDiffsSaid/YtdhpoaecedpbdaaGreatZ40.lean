/-
  The document's tree of tenants: one less, one that stands below another one now, another tree; two lists that are one are alike.
  Condition: the tree is one that can be; names are no longer than texts can be.
  Two lists of tenants that are one are alike to the document; the document's copy of a tree.
  Condition: no more than a thousand tenants.
  The program's tree and the document's, side by side: one act is done to both with the same answer, and both have the same tenants behind it.
  Condition: names are no longer than texts can be.
-/
import Derived.Laws.StructEq
import Derived.Test.YtdhpoaecedpbdaaGreatZ30
import Derived.Test.YtdhpoaecedpbdaaGreatZ39
namespace Go.Proofs.YtdhpoaecedpbdaaGreat
section
open Go.RowKit Go.Maps

theorem delT_split : ∀ (L : List Tn) (n : ByteArray) (k : Nat) (x : Tn), L.Pairwise (fun a b => a.1 ≠ b.1) → L[k]? = some x → x.1 = n → delT L n = L.take k ++ L.drop (k + 1)
  | [], n, k, x, _, h, _ => by simp at h
  | y :: L, n, 0, x, ha, h, hx => by
    have h1 := List.pairwise_cons.1 ha
    have e : y = x := by simpa using h
    subst e
    subst hx
    unfold delT
    rw [List.filter_cons_of_neg (by simp)]
    show _ = L
    rw [List.filter_eq_self]
    intro z hz
    simpa using Ne.symm (h1.1 z hz)
  | y :: L, n, k + 1, x, ha, h, hx => by
    have h1 := List.pairwise_cons.1 ha
    have h2 : L[k]? = some x := by simpa using h
    have hy : y.1 ≠ n := by rw [← hx]; exact h1.1 x (List.mem_of_getElem? h2)
    have ih := delT_split L n k x h1.2 h2 hx
    unfold delT at ih ⊢
    rw [List.filter_cons_of_pos (by simpa using hy), ih]
    rfl
theorem setT_split {L : List Tn} {n p : ByteArray} {k : Nat} {x : Tn} (ha : L.Pairwise fun a b => a.1 ≠ b.1) (h : L[k]? = some x) (hx : x.1 = n) : setT L n p = L.set k (n, p) := by
  apply List.ext_getElem?
  intro j
  unfold setT
  rw [List.getElem?_map, List.getElem?_set]
  have hk := (List.getElem?_eq_some_iff.1 h).1
  by_cases e : k = j
  · subst e
    rw [if_pos rfl, if_pos hk, h]
    simp [hx]
  · rw [if_neg e]
    cases hj : L[j]? with
    | none => rfl
    | some y =>
      have hjl := (List.getElem?_eq_some_iff.1 hj).1
      have hne : y.1 ≠ n := by
        rw [← hx]
        have e1 := (List.getElem?_eq_some_iff.1 h).2
        have e2 := (List.getElem?_eq_some_iff.1 hj).2
        rcases Nat.lt_or_gt_of_ne e with hlt | hlt
        · have := List.pairwise_iff_getElem.1 ha k j hk hjl hlt
          rw [e1, e2] at this
          exact Ne.symm this
        · have := List.pairwise_iff_getElem.1 ha j k hjl hk hlt
          rw [e1, e2] at this
          exact this
      simp [hne]
theorem OwnN.set {w : World} {base g cap : Nat} {L : List Tn} (h : OwnN w base (.slice (some ⟨g, 0, none⟩) L.length cap) L) (i : Nat) (x : Tn) (hx : L[i]? = some x) (p : ByteArray) : OwnN (w.setCell ⟨g, i * 2 + 1, none⟩ (.string p)) base (.slice (some ⟨g, 0, none⟩) L.length cap) (L.set i (x.1, p)) := by
  rcases h.2 with ⟨h, _⟩ | ⟨g', cap', cur, hv, hg, hb, h1, h2, h3, h4⟩
  · cases h
  · injection hv with e1 _ e2
    injection e1 with e1
    injection e1 with e1
    subst e1
    subst e2
    have hi := (List.getElem?_eq_some_iff.1 hx).1
    unfold OwnN
    rw [List.length_set]
    refine ⟨by rw [flatT_len, List.length_set], .inr ⟨g, cap, _, rfl, hg, heap_setCell_same w g (i * 2 + 1) _ _ (.string p) hb, h1, h2, by simp [h3], ?_⟩⟩
    apply List.ext_getElem?
    intro j
    have hcur : ∀ j, j < L.length * 2 → cur[j]? = (flatT L)[j]? := fun j hj => by
      have := congrArg (fun l => l[j]?) h4
      simp only [List.getElem?_take, Array.getElem?_toList] at this
      rw [if_pos hj] at this
      exact this
    rw [List.getElem?_take, flatT_at, List.getElem?_set]
    by_cases hj : j < L.length * 2
    · rw [if_pos hj, Array.getElem?_toList, Array.getElem?_setIfInBounds]
      have hsz : i * 2 + 1 < cur.size := by omega
      by_cases e : i * 2 + 1 = j
      · rw [if_pos e, if_pos (by omega), if_pos (by omega), if_pos (by omega), show j % 2 = 1 from by omega]
        rfl
      · rw [if_neg e, hcur j hj, flatT_at]
        by_cases e2 : i = j / 2
        · rw [if_pos e2, if_pos (by omega), ← e2, hx, show j % 2 = 0 from by omega]
          rfl
        · rw [if_neg e2]
    · rw [if_neg hj]
      have : ¬ j / 2 < L.length := by omega
      by_cases e2 : i = j / 2
      · omega
      · rw [if_neg e2, List.getElem?_eq_none (by omega)]
        rfl
theorem OwnN.froz {w : World} {base g n cap : Nat} {L : List Tn} (h : OwnN w base (.slice (some ⟨g, 0, none⟩) n cap) L) (i : Nat) : w.frozen? ⟨g, i, none⟩ = false := by
  rcases h.2 with ⟨hv, _⟩ | ⟨g', cap', cur, hv, _, hb, _⟩
  · cases hv
  · injection hv with e1
    injection e1 with e1
    injection e1 with e1
    subst e1
    exact frozen_of_row w g i _ _ hb
theorem RefB.far {w : World} {q r g n c : Nat} {L : List Tn} (h : RefB w q r (.slice (some ⟨g, 0, none⟩) n c) L) : r ≠ g := by
  intro e
  subst e
  have h1 := h.1
  rcases h.2.2 with ⟨hv, _⟩ | ⟨g', cap, cur, hv, _, hh, _⟩
  · cases hv
  · injection hv with e1
    injection e1 with e1
    injection e1 with e1
    subst e1
    rw [h1] at hh
    injection hh with hh
    injection hh with _ ht
    cases ht
theorem RChg.set {w w' : World} {q r g c : Nat} {L : List Tn} (h : RefB w q r (.slice (some ⟨g, 0, none⟩) L.length c) L) (hb : Below w.heap.size w w') (i : Nat) (x : Tn) (hx : L[i]? = some x) (p : ByteArray) : RChg w q r (.slice (some ⟨g, 0, none⟩) L.length c) (L.set i (x.1, p)) (w'.setCell ⟨g, i * 2 + 1, none⟩ (.string p)) := by
  have hne := h.far
  have h2 := h.below hb
  have hgl : g < w.heap.size := (World.ownsRow.lt h.2 g rfl).2
  have hoth : ∀ k, k ≠ g → (w'.setCell ⟨g, i * 2 + 1, none⟩ (.string p)).heap[k]? = w'.heap[k]? := fun k hk => Below.heap_setCell w' ⟨g, i * 2 + 1, none⟩ _ k hk
  refine ⟨_, g, ⟨(hoth r hne).trans h2.1, OwnN.set h2.2 i x hx p⟩, ⟨(hb.mono (Nat.le_of_lt hgl)).setCell (p := ⟨g, i * 2 + 1, none⟩) (Nat.le_refl _) _, fun k hk hkg => (hoth k hkg).trans (hb.block k hk)⟩, .inr rfl, .inl rfl⟩

set_option maxRecDepth 100000 in
set_option maxHeartbeats 4000000 in
theorem r_dropT (q r : Nat) (v : Value) (L : List Tn) (n : ByteArray) (w : World) (hR : RefB w q r v L) (hq : q ≤ w.heap.size) (hg : GoodT L) :
    Calls Tryz.prog 35 #[.pointer (some ⟨r, 0, none⟩), .string n] w fun e w' => e = .returned (.int .i64 (drpRes L n)) ∧ RChg w q r v (drpTn L n) w' := by
  have hfew := hg.few
  obtain ⟨A, c, rfl, hA0, hcl, hat, hag⟩ := hR.2.slice
  have hrl := hR.lt
  have HAT := Lib.hid hat
  have HR := Lib.hid hR
  have HG := Lib.hid hg
  have stay : ∀ w', Below w.heap.size w w' → ∀ k : Int, drpRes L n = k → k ≠ 0 → RChg w q r (.slice A L.length c) (drpTn L n) w' := by
    intro w' hb k hk h0
    unfold drpTn
    rw [if_neg (by rw [hk]; exact h0)]
    exact RChg.stay hR hb
  have HST := Lib.hid stay
  clear hR hat hg stay
  cases hf : findN L n with
  | none =>
    have hfr : findR L n = -1 := by unfold findR; rw [hf]; rfl
    have HF := Lib.hid hf
    have HFT := Lib.hid (r_findT q r _ L n w HR.out (by omega))
    rw [hfr] at HFT
    clear hf hfr
    go_enter Tryz.func35, Tryz.ntmps35
    go_wp2_with fail
    refine HFT.out.mono ?_
    rintro e w1 ⟨rfl, hb1⟩
    go_wp2
    go_ret
    have hr : drpRes L n = 5 := by unfold drpRes; rw [HF.out]; rfl
    exact ⟨by rw [hr]; rfl, HST.out _ hb1 5 hr (by decide)⟩
  | some x =>
    obtain ⟨hx, hxl⟩ := posT_at hf
    have hfr : findR L n = (posT L n : Int) := by unfold findR; rw [hf]; rfl
    have HF := Lib.hid (show (findN L n).isSome = true by rw [hf]; rfl)
    have HX1 := Lib.hid (findN_some hf).2
    have HFT := Lib.hid (r_findT q r _ L n w HR.out (by omega))
    rw [hfr] at HFT
    clear hf hfr
    generalize posT L n = k at *
    have HDL := Lib.hid (delT_split L n k x HG.out.srt.apart hx HX1.out)
    clear hx
    have hk0 : (0 : Int) ≤ (k : Int) := by omega
    go_enter Tryz.func35, Tryz.ntmps35
    go_wp2_with fail
    refine HFT.out.mono ?_
    rintro e w1 ⟨rfl, hb1⟩
    have HB1 := Lib.hid hb1
    have HR1 := Lib.hid (HR.out.below hb1)
    clear hb1
    go_wp2_with fail
    refine (r_underT q r _ L n w1 HR1.out HG.out).mono ?_
    rintro e w2 ⟨u, rfl, hown2, hb2⟩
    obtain ⟨U, cU, rfl⟩ := hown2.form
    have HB2 := Lib.hid (HB1.out.trans (hb2.mono HB1.out.size))
    clear hown2 hb2
    by_cases hu : 1 < (underL L n).length
    · have hud : decide ((1 : Int) < ((underL L n).length : Int)) = true := by simp; omega
      have HU := Lib.hid hu
      generalize (underL L n).length = ul at hud
      go_wp2
      go_ret
      have hr : drpRes L n = 14 := by unfold drpRes; rw [if_neg (by rw [HF.out]; simp), if_pos HU.out]
      exact ⟨by rw [hr]; rfl, HST.out _ HB2.out 14 hr (by decide)⟩
    · have hud : decide ((1 : Int) < ((underL L n).length : Int)) = false := by simp; omega
      have HRES := Lib.hid (show drpRes L n = 0 by unfold drpRes; rw [if_neg (by rw [HF.out]; simp), if_neg hu])
      have HFN := Lib.hid (show drpTn L n = L.take k ++ L.drop (k + 1) by unfold drpTn; rw [if_pos HRES.out]; exact HDL.out)
      generalize (underL L n).length = ul at hud
      have k02 := cell_rowT w2 r _ _ (HR.out.below HB2.out).1
      have HTK := Lib.hid (show k = (L.take k).length by rw [List.length_take]; omega)
      have HDK := Lib.hid (show L.length - (k + 1) = (L.drop (k + 1)).length by rw [List.length_drop])
      have HT1 := Lib.hid ((HAT.out.below HB2.out).take k)
      have hkl2 : (k : Int) ≤ (L.length : Int) := by omega
      have hkl3 : (k : Int) + 1 ≤ (L.length : Int) := by omega
      have hkc : (k : Int) ≤ (c : Int) := by omega
      have hkc2 : (k : Int) + 1 ≤ (c : Int) := by omega
      go_upto_region 8 with (at_builtin; go_must (refine wp_append_N _ rfl (.tmp 17) (.tmp 23) rfl w.heap.size _ [] (L.take k) rfl (OwnN.nil _ _) _ k _ rfl HTK.out HT1.out (by rw [List.length_take, List.length_nil]; omega) HB2.out.size ?_; intro v6 w6 hown6 hb6; rw [List.nil_append] at hown6; have HO6 := Lib.hid hown6; obtain ⟨A6, c6, hv6⟩ := hown6.form; rw [← HTK.out] at hv6; subst hv6; have HB6 := Lib.hid (HB2.out.trans hb6); clear hown6 hb6))
      have hs6 := HB6.out.size
      have k06 := cell_rowT w6 r _ _ (HR.out.below HB6.out).1
      have HT7 := Lib.hid (TnsAt.dropA (HAT.out.below HB6.out) c (k + 1) hcl)
      go_wp2_with (at_builtin; go_must (refine wp_append_N _ rfl (.tmp 26) (.tmp 33) rfl w.heap.size _ (L.take k) (L.drop (k + 1)) rfl HO6.out _ _ _ rfl HDK.out (HT7.out _ (by intro b hb; subst hb; rfl)) (by rw [List.length_take, List.length_drop]; omega) hs6 ?_; intro v8 w8 hown8 hb8; have HO8 := Lib.hid hown8; obtain ⟨A8, c8, hv8⟩ := hown8.form; generalize hn8 : List.length _ = n8 at hv8; clear hn8; subst hv8; have HB8 := Lib.hid (HB6.out.trans hb8); have k08 := cell_rowT w8 r _ _ (HR.out.below HB8.out).1; have f08 := frozen_of_row w8 r 0 _ _ (HR.out.below HB8.out).1; clear hown8 hb8))
      all_goals
        go_ret
        have hfin := HO8.out
        rw [← HFN.out] at hfin
        have hz := RChg.put HR.out hq HB8.out hfin
        first
          | exact ⟨by rw [HRES.out]; rfl, hz⟩
          | (have hcc : c = k + 1 := by first | assumption | omega
             rw [hcc] at hz
             exact ⟨by rw [HRES.out]; rfl, hz⟩)

/-! ### moving -/
def deepZ (L : List Tn) (n : ByteArray) (k : Nat) : Int := (((underL L n).take k).map fun m => ((chn L m).length : Int) - (chn L n).length + 1).foldl max 0
theorem deepZ_succ (L : List Tn) (n : ByteArray) (k : Nat) (m : ByteArray) (h : (underL L n)[k]? = some m) : deepZ L n (k + 1) = max (deepZ L n k) (((chn L m).length : Int) - (chn L n).length + 1) := by
  unfold deepZ
  rw [List.take_add_one, h, List.map_append, List.foldl_append]
  rfl
theorem foldl_maxZ (d : Int) : ∀ (l : List Nat) (a : Nat), (l.map fun (x : Nat) => (x : Int) + d).foldl max ((a : Int) + d) = ((l.foldl max a : Nat) : Int) + d
  | [], _ => rfl
  | x :: l, a => by
    show (l.map fun (x : Nat) => (x : Int) + d).foldl max (max ((a : Int) + d) ((x : Int) + d)) = ((l.foldl max (max a x) : Nat) : Int) + d
    rw [← foldl_maxZ d l (max a x)]
    congr 1
    omega
theorem chn_under {L : List Tn} (g : GoodT L) {n m : ByteArray} (h : m ∈ underL L n) : (chn L n).length ≤ (chn L m).length := by
  obtain ⟨_, h2⟩ := underL_mem.1 h
  obtain ⟨e, h3, h4⟩ := (g.chain m).1.at n h2
  rw [h3.chn]
  exact h4
theorem deepZ_all {L : List Tn} (g : GoodT L) {n : ByteArray} (hn : (findN L n).isSome = true) : deepZ L n (underL L n).length = heightT L n := by
  have hself : n ∈ underL L n := underL_mem.2 ⟨hn, (g.chain n).1.own hn⟩
  have hge := fun m (hm : m ∈ underL L n) => chn_under g hm
  unfold deepZ heightT deepT
  rw [List.take_length]
  generalize underL L n = l at *
  generalize (chn L n).length = d at *
  cases l with
  | nil => cases hself
  | cons m l =>
    have h1 := hge m (by simp)
    have h2 := foldl_maxZ (1 - (d : Int)) (l.map fun m => (chn L m).length) (chn L m).length
    have e1 : ((m :: l).map fun m => ((chn L m).length : Int) - (d : Int) + 1).foldl max 0 = ((l.map fun m => (chn L m).length).map fun (x : Nat) => (x : Int) + (1 - (d : Int))).foldl max (((chn L m).length : Int) + (1 - (d : Int))) := by
      rw [List.map_cons, List.foldl_cons, List.map_map]
      have e2 : max (0 : Int) (((chn L m).length : Int) - (d : Int) + 1) = ((chn L m).length : Int) + (1 - (d : Int)) := by omega
      rw [e2]
      congr 1
      refine List.map_congr_left fun x _ => ?_
      simp only [Function.comp]
      omega
    rw [e1, h2, List.map_cons, List.foldl_cons, Nat.max_eq_right (Nat.zero_le _)]
    omega
theorem deepZ_le {L : List Tn} (g : GoodT L) (n : ByteArray) : ∀ k, 0 ≤ deepZ L n k ∧ deepZ L n k ≤ 6 := by
  intro k
  have key : ∀ (l : List Int) (a : Int), 0 ≤ a → a ≤ 6 → (∀ x ∈ l, x ≤ 6) → 0 ≤ l.foldl max a ∧ l.foldl max a ≤ 6 := by
    intro l
    induction l with
    | nil => intro a h1 h2 _; exact ⟨h1, h2⟩
    | cons y l ih =>
      intro a h1 h2 h3
      have := h3 y (by simp)
      exact ih (max a y) (by omega) (by omega) fun x hx => h3 x (List.mem_cons_of_mem _ hx)
  refine key _ _ (Int.le_refl _) (by omega) fun x hx => ?_
  obtain ⟨m, _, rfl⟩ := List.mem_map.1 hx
  have := (g.chain m).2
  omega

set_option maxRecDepth 100000 in
set_option maxHeartbeats 4000000 in
theorem r_moveT (q r : Nat) (v : Value) (L : List Tn) (n p : ByteArray) (w : World) (hR : RefB w q r v L) (hg : GoodT L) :
    Calls Tryz.prog 33 #[.pointer (some ⟨r, 0, none⟩), .string n, .string p] w fun e w' => e = .returned (.int .i64 (movRes L n p)) ∧ RChg w q r v (movTn L n p) w' := by
  have hfew := hg.few
  obtain ⟨A, c, rfl, hA0, hcl, hat, hag⟩ := hR.2.slice
  have hrl := hR.lt
  have HAT := Lib.hid hat
  have HR := Lib.hid hR
  have HG := Lib.hid hg
  have stay : ∀ w', Below w.heap.size w w' → ∀ k : Int, movRes L n p = k → k ≠ 0 → RChg w q r (.slice A L.length c) (movTn L n p) w' := by
    intro w' hb k hk h0
    unfold movTn
    rw [if_neg (by rw [hk]; exact h0)]
    exact RChg.stay hR hb
  have HST := Lib.hid stay
  clear hR hat hg stay
  cases hf : findN L n with
  | none =>
    have hfr : findR L n = -1 := by unfold findR; rw [hf]; rfl
    have HF := Lib.hid hf
    have HFT := Lib.hid (r_findT q r _ L n w HR.out (by omega))
    rw [hfr] at HFT
    clear hf hfr
    go_enter Tryz.func33, Tryz.ntmps33
    go_wp2_with fail
    refine HFT.out.mono ?_
    rintro e w1 ⟨rfl, hb1⟩
    go_wp2
    go_ret
    have hr : movRes L n p = 5 := by unfold movRes; rw [HF.out]; rfl
    exact ⟨by rw [hr]; rfl, HST.out _ hb1 5 hr (by decide)⟩
  | some x =>
    obtain ⟨hx, hxl⟩ := posT_at hf
    have hfr : findR L n = (posT L n : Int) := by unfold findR; rw [hf]; rfl
    have HF := Lib.hid (show (findN L n).isSome = true by rw [hf]; rfl)
    have HX1 := Lib.hid (findN_some hf).2
    have HFT := Lib.hid (r_findT q r _ L n w HR.out (by omega))
    rw [hfr] at HFT
    obtain ⟨g, rfl⟩ := HAT.out.head hag (by omega)
    have hgl : g < w.heap.size := (World.ownsRow.lt HR.out.2 g rfl).2
    clear hf hfr
    generalize posT L n = k at *
    have HSL : Hid (∀ w', Below w.heap.size w w' → movRes L n p = 0 → RChg w q r (.slice (some ⟨g, 0, none⟩) L.length c) (movTn L n p) (w'.setCell ⟨g, k * 2 + 1, none⟩ (.string p))) := Lib.hid (by
      intro w' hb h0
      unfold movTn
      rw [if_pos h0, setT_split HG.out.srt.apart hx HX1.out]
      have h := RChg.set HR.out hb k x hx p
      rw [HX1.out] at h
      exact h)
    have HXK := Lib.hid hx
    clear hx
    have hk0 : (0 : Int) ≤ (k : Int) := by omega
    have hul := underL_len L n
    go_enter Tryz.func33, Tryz.ntmps33
    go_wp2_with fail
    refine HFT.out.mono ?_
    rintro e w1 ⟨rfl, hb1⟩
    have HB1 := Lib.hid hb1
    have HR1 := Lib.hid (HR.out.below hb1)
    clear hb1
    have HRES : Hid (∀ k : Int, (if canT L p = false then 18 else if hasX n (chn L p) = true then 13 else if 5 < ((chn L p).length : Int) + heightT L n then 17 else 0) = k → movRes L n p = k) := Lib.hid (by
      intro k hk
      unfold movRes
      rw [if_neg (by rw [HF.out]; simp)]
      exact hk)
    rcases Bool.eq_false_or_eq_true (p.toList == []) with he | he
    · have he2 : (p.toList != []) = false := by rw [bne, he]; rfl
      have HC : Hid (canT L p = true) := Lib.hid (by unfold canT; rw [he]; rfl)
      have HCH : Hid (hasX n (chn L p) = true ↔ p ∈ underL L n) := Lib.hid (by
        constructor
        · intro h
          exact underL_mem.2 ⟨by
            have hm := hasX_iff.1 h
            cases hfp : findN L p with
            | none =>
              have : Chain L p [] := .stop hfp
              rw [this.chn] at hm
              cases hm
            | some y => rfl, hasX_iff.1 h⟩
        · intro h
          exact hasX_iff.2 (underL_mem.1 h).2)
      have HBX := HB1
      go_wp2_with fail
      refine (r_underT q r _ L n _ (HR.out.below HBX.out) HG.out).mono ?_
      rintro e w4 ⟨u, rfl, hown, hb4⟩
      obtain ⟨U, cU, rfl, _, _, hatu, hagu⟩ := hown.slice
      have HU := Lib.hid hatu
      have HAU := Lib.hid hagu
      have HB4 := Lib.hid (HBX.out.trans (hb4.mono HBX.out.size))
      clear hown hatu hagu hb4
      go_wp2
      go_loopw [9, 10] (fun d i wr => ∃ j : Nat, j ≤ (underL L n).length ∧ i = .int .i64 j ∧ d = .int .i64 (deepZ L n j) ∧ Hid (∀ i y, i < j → (underL L n)[i]? = some y → y ≠ p) ∧ Below w4.heap.size w4 wr) (fun _ i _ => (underL L n).length - (intOf i).toNat)
      case atStart => exact ⟨0, Nat.zero_le _, rfl, rfl, Lib.hid (fun i y h => absurd h (by omega)), Below.refl _ _⟩
      case round =>
        obtain ⟨j, hj, rfl, rfl, HNO, hb⟩ := hrel
        have HBJ := Lib.hid (HB4.out.trans (hb.mono HB4.out.size))
        have HBB := Lib.hid hb
        have hat := HU.out.below hb
        obtain ⟨z1, z2⟩ := deepZ_le HG.out n j
        clear hb
        by_cases hlt : j < (underL L n).length
        · obtain ⟨gu, rfl⟩ := hat.head HAU.out (by omega)
          obtain ⟨y, hy⟩ : ∃ y, (underL L n)[j]? = some y := ⟨_, List.getElem?_eq_getElem hlt⟩
          have e0 := hat.at j _ hy
          have hmem := List.mem_of_getElem? hy
          have HS := Lib.hid (deepZ_succ L n j y hy)
          have HY := Lib.hid hy
          have c5 := (HG.out.chain y).2
          have c6 := (HG.out.chain n).2
          clear hat hy
          rcases Bool.eq_false_or_eq_true (y.toList == p.toList) with hyp | hyp
          · have hpm : p ∈ underL L n := by rw [← toList_eqT.1 hyp]; exact hmem
            have hr := Lib.hid (HRES.out 13 (by rw [if_neg (by rw [HC.out]; simp), if_pos (HCH.out.2 hpm)]))
            clear hmem hpm
            go_wp2
            go_ret
            exact ⟨by rw [hr.out]; rfl, HST.out _ HBJ.out 13 hr.out (by decide)⟩
          · have HNE := Lib.hid (show y ≠ p from fun e => by rw [toList_eqT.2 e] at hyp; cases hyp)
            have HD1 := Lib.hid (fun (W : World) (hW : Below w.heap.size w W) => r_depthT q r _ L y W (HR.out.below hW) (by omega))
            have HD2 := Lib.hid (fun (W : World) (hW : Below w.heap.size w W) => r_depthT q r _ L n W (HR.out.below hW) (by omega))
            clear hmem
            generalize hcy : (chn L y).length = cy at *
            generalize hcn : (chn L n).length = cn at *
            clear hcy hcn
            generalize hdz : deepZ L n j = dz at *
            clear hdz
            go_wp2_with fail
            refine (HD1.out _ HBJ.out).mono ?_
            rintro e w5 ⟨rfl, hb5⟩
            have HB5 := Lib.hid (HBJ.out.trans (hb5.mono HBJ.out.size))
            have HBB5 := Lib.hid (HBB.out.trans (hb5.mono HBB.out.size))
            clear hb5
            go_wp2_with fail
            refine (HD2.out _ HB5.out).mono ?_
            rintro e w6 ⟨rfl, hb6⟩
            have HB6 := Lib.hid (HBB5.out.trans (hb6.mono HBB5.out.size))
            clear hb6
            have hq1 : -10 ≤ (cy : Int) - cn := by omega
            have hq2 : (cy : Int) - cn ≤ 10 := by omega
            go_wp2
            go_roundw
            case rel =>
              refine ⟨j + 1, by omega, by go_num, by rw [HS.out]; first | rfl | (simp [Int.max_def]; done) | skip, Lib.hid (fun i z hi hz => ?_), HB6.out⟩
              by_cases e : i < j
              · exact HNO.out i z e hz
              · have : i = j := by omega
                subst this
                rw [HY.out] at hz
                injection hz with hz
                rw [← hz]
                exact HNE.out
            case measure => simp [intOf]; omega
        · have hjl : j = (underL L n).length := by omega
          have HNC : Hid (¬ hasX n (chn L p) = true) := Lib.hid (fun h => by
            obtain ⟨i, hi, he⟩ := List.mem_iff_getElem.1 (HCH.out.1 h)
            exact HNO.out i p (by omega) (by rw [List.getElem?_eq_getElem hi, he]) rfl)
          have hda := deepZ_all HG.out HF.out
          rw [← hjl] at hda
          have HDA := Lib.hid hda
          have cp5 := (HG.out.chain p).2
          have HD3 := Lib.hid (r_depthT q r _ L p _ (HR.out.below HBJ.out) (by omega))
          have hhi : deepZ L n j ≤ 6 := z2
          clear hat hda
          by_cases h5 : 5 < ((chn L p).length : Int) + heightT L n
          · have hr := Lib.hid (HRES.out 17 (by rw [if_neg (by rw [HC.out]; simp), if_neg HNC.out, if_pos h5]))
            have hd : decide ((5 : Int) < ((chn L p).length : Int) + deepZ L n j) = true := by rw [HDA.out]; exact decide_eq_true h5
            generalize deepZ L n j = dz at *
            generalize (chn L p).length = cp at *
            clear h5 hjl
            go_wp2_with fail
            refine HD3.out.mono ?_
            rintro e w5 ⟨rfl, hb5⟩
            have HB5 := Lib.hid (HBJ.out.trans (hb5.mono HBJ.out.size))
            clear hb5
            go_wp2
            go_ret
            exact ⟨by rw [hr.out]; rfl, HST.out _ HB5.out 17 hr.out (by decide)⟩
          · have hr := Lib.hid (HRES.out 0 (by rw [if_neg (by rw [HC.out]; simp), if_neg HNC.out, if_neg h5]))
            have hd : decide ((5 : Int) < ((chn L p).length : Int) + deepZ L n j) = false := by rw [HDA.out]; exact decide_eq_false h5
            generalize deepZ L n j = dz at *
            generalize (chn L p).length = cp at *
            clear h5 hjl
            go_wp2_with fail
            refine HD3.out.mono ?_
            rintro e w5 ⟨rfl, hb5⟩
            have HB5 := Lib.hid (HBJ.out.trans (hb5.mono HBJ.out.size))
            have k0 := cell_rowT w5 r _ _ (HR.out.below HB5.out).1
            obtain ⟨k1, k2⟩ := (HAT.out.below HB5.out).at k _ HXK.out
            have f2 : w5.frozen? ⟨g, k * 2 + 1, none⟩ = false := OwnN.froz (HR.out.below HB5.out).2 _
            clear hb5
            go_wp2
            go_ret
            exact ⟨by rw [hr.out]; rfl, HSL.out _ HB5.out hr.out⟩
    · have he2 : (p.toList != []) = true := by rw [bne, he]; rfl
      have HCC : Hid (canT L p = (findN L p).isSome) := Lib.hid (by unfold canT; rw [he]; rfl)
      go_wp2_with fail
      refine (r_hasT q r _ L p w1 HR1.out (by omega)).mono ?_
      rintro e w3 ⟨rfl, hb3⟩
      have HBX := Lib.hid (HB1.out.trans (hb3.mono HB1.out.size))
      clear hb3
      rcases Bool.eq_false_or_eq_true (findN L p).isSome with h3 | h3
      · rw [h3]
        have HC : Hid (canT L p = true) := Lib.hid (by rw [HCC.out, h3])
        have HCH : Hid (hasX n (chn L p) = true ↔ p ∈ underL L n) := Lib.hid (by
          constructor
          · intro h
            exact underL_mem.2 ⟨h3, hasX_iff.1 h⟩
          · intro h
            exact hasX_iff.2 (underL_mem.1 h).2)
        clear h3
        go_wp2_with fail
        refine (r_underT q r _ L n _ (HR.out.below HBX.out) HG.out).mono ?_
        rintro e w4 ⟨u, rfl, hown, hb4⟩
        obtain ⟨U, cU, rfl, _, _, hatu, hagu⟩ := hown.slice
        have HU := Lib.hid hatu
        have HAU := Lib.hid hagu
        have HB4 := Lib.hid (HBX.out.trans (hb4.mono HBX.out.size))
        clear hown hatu hagu hb4
        go_wp2
        go_loopw [9, 10] (fun d i wr => ∃ j : Nat, j ≤ (underL L n).length ∧ i = .int .i64 j ∧ d = .int .i64 (deepZ L n j) ∧ Hid (∀ i y, i < j → (underL L n)[i]? = some y → y ≠ p) ∧ Below w4.heap.size w4 wr) (fun _ i _ => (underL L n).length - (intOf i).toNat)
        case atStart => exact ⟨0, Nat.zero_le _, rfl, rfl, Lib.hid (fun i y h => absurd h (by omega)), Below.refl _ _⟩
        case round =>
          obtain ⟨j, hj, rfl, rfl, HNO, hb⟩ := hrel
          have HBJ := Lib.hid (HB4.out.trans (hb.mono HB4.out.size))
          have HBB := Lib.hid hb
          have hat := HU.out.below hb
          obtain ⟨z1, z2⟩ := deepZ_le HG.out n j
          clear hb
          by_cases hlt : j < (underL L n).length
          · obtain ⟨gu, rfl⟩ := hat.head HAU.out (by omega)
            obtain ⟨y, hy⟩ : ∃ y, (underL L n)[j]? = some y := ⟨_, List.getElem?_eq_getElem hlt⟩
            have e0 := hat.at j _ hy
            have hmem := List.mem_of_getElem? hy
            have HS := Lib.hid (deepZ_succ L n j y hy)
            have HY := Lib.hid hy
            have c5 := (HG.out.chain y).2
            have c6 := (HG.out.chain n).2
            clear hat hy
            rcases Bool.eq_false_or_eq_true (y.toList == p.toList) with hyp | hyp
            · have hpm : p ∈ underL L n := by rw [← toList_eqT.1 hyp]; exact hmem
              have hr := Lib.hid (HRES.out 13 (by rw [if_neg (by rw [HC.out]; simp), if_pos (HCH.out.2 hpm)]))
              clear hmem hpm
              go_wp2
              go_ret
              exact ⟨by rw [hr.out]; rfl, HST.out _ HBJ.out 13 hr.out (by decide)⟩
            · have HNE := Lib.hid (show y ≠ p from fun e => by rw [toList_eqT.2 e] at hyp; cases hyp)
              have HD1 := Lib.hid (fun (W : World) (hW : Below w.heap.size w W) => r_depthT q r _ L y W (HR.out.below hW) (by omega))
              have HD2 := Lib.hid (fun (W : World) (hW : Below w.heap.size w W) => r_depthT q r _ L n W (HR.out.below hW) (by omega))
              clear hmem
              generalize hcy : (chn L y).length = cy at *
              generalize hcn : (chn L n).length = cn at *
              clear hcy hcn
              generalize hdz : deepZ L n j = dz at *
              clear hdz
              go_wp2_with fail
              refine (HD1.out _ HBJ.out).mono ?_
              rintro e w5 ⟨rfl, hb5⟩
              have HB5 := Lib.hid (HBJ.out.trans (hb5.mono HBJ.out.size))
              have HBB5 := Lib.hid (HBB.out.trans (hb5.mono HBB.out.size))
              clear hb5
              go_wp2_with fail
              refine (HD2.out _ HB5.out).mono ?_
              rintro e w6 ⟨rfl, hb6⟩
              have HB6 := Lib.hid (HBB5.out.trans (hb6.mono HBB5.out.size))
              clear hb6
              have hq1 : -10 ≤ (cy : Int) - cn := by omega
              have hq2 : (cy : Int) - cn ≤ 10 := by omega
              go_wp2
              go_roundw
              case rel =>
                refine ⟨j + 1, by omega, by go_num, by rw [HS.out]; first | rfl | (simp [Int.max_def]; done) | skip, Lib.hid (fun i z hi hz => ?_), HB6.out⟩
                by_cases e : i < j
                · exact HNO.out i z e hz
                · have : i = j := by omega
                  subst this
                  rw [HY.out] at hz
                  injection hz with hz
                  rw [← hz]
                  exact HNE.out
              case measure => simp [intOf]; omega
          · have hjl : j = (underL L n).length := by omega
            have HNC : Hid (¬ hasX n (chn L p) = true) := Lib.hid (fun h => by
              obtain ⟨i, hi, he⟩ := List.mem_iff_getElem.1 (HCH.out.1 h)
              exact HNO.out i p (by omega) (by rw [List.getElem?_eq_getElem hi, he]) rfl)
            have hda := deepZ_all HG.out HF.out
            rw [← hjl] at hda
            have HDA := Lib.hid hda
            have cp5 := (HG.out.chain p).2
            have HD3 := Lib.hid (r_depthT q r _ L p _ (HR.out.below HBJ.out) (by omega))
            have hhi : deepZ L n j ≤ 6 := z2
            clear hat hda
            by_cases h5 : 5 < ((chn L p).length : Int) + heightT L n
            · have hr := Lib.hid (HRES.out 17 (by rw [if_neg (by rw [HC.out]; simp), if_neg HNC.out, if_pos h5]))
              have hd : decide ((5 : Int) < ((chn L p).length : Int) + deepZ L n j) = true := by rw [HDA.out]; exact decide_eq_true h5
              generalize deepZ L n j = dz at *
              generalize (chn L p).length = cp at *
              clear h5 hjl
              go_wp2_with fail
              refine HD3.out.mono ?_
              rintro e w5 ⟨rfl, hb5⟩
              have HB5 := Lib.hid (HBJ.out.trans (hb5.mono HBJ.out.size))
              clear hb5
              go_wp2
              go_ret
              exact ⟨by rw [hr.out]; rfl, HST.out _ HB5.out 17 hr.out (by decide)⟩
            · have hr := Lib.hid (HRES.out 0 (by rw [if_neg (by rw [HC.out]; simp), if_neg HNC.out, if_neg h5]))
              have hd : decide ((5 : Int) < ((chn L p).length : Int) + deepZ L n j) = false := by rw [HDA.out]; exact decide_eq_false h5
              generalize deepZ L n j = dz at *
              generalize (chn L p).length = cp at *
              clear h5 hjl
              go_wp2_with fail
              refine HD3.out.mono ?_
              rintro e w5 ⟨rfl, hb5⟩
              have HB5 := Lib.hid (HBJ.out.trans (hb5.mono HBJ.out.size))
              have k0 := cell_rowT w5 r _ _ (HR.out.below HB5.out).1
              obtain ⟨k1, k2⟩ := (HAT.out.below HB5.out).at k _ HXK.out
              have f2 : w5.frozen? ⟨g, k * 2 + 1, none⟩ = false := OwnN.froz (HR.out.below HB5.out).2 _
              clear hb5
              go_wp2
              go_ret
              exact ⟨by rw [hr.out]; rfl, HSL.out _ HB5.out hr.out⟩
      · rw [h3]
        have HC : Hid (canT L p = false) := Lib.hid (by rw [HCC.out, h3])
        clear h3
        go_wp2
        go_ret
        have hr := HRES.out 18 (by rw [if_pos HC.out])
        exact ⟨by rw [hr]; rfl, HST.out _ HBX.out 18 hr (by decide)⟩
end
end Go.Proofs.YtdhpoaecedpbdaaGreat
namespace Go.Proofs.YtdhpoaecedpbdaaGreat
section
open Go.RowKit Go.Maps

theorem equal_tn (a b : ByteArray) (w : World) : (Op.equalIn 10000 27 (.agg #[.string a, .string b]) (.agg #[.string a, .string b])).run Tryz.prog w = .ok true w := by
  have hS : Tryz.prog.underlying 27 = some (.struct (Tryz.prog.fieldsOf 27)) := by kernel_rfl
  rw [show (10000 : Nat) = 9999 + 1 from rfl, run_equalIn_agg w 9999 27 _ _ hS (by kernel_rfl)]
  simp only [Program.fieldsOf, Tryz.underlying27]
  go_simp

section
attribute [local go_sem high] equal_tn
end

set_option maxRecDepth 100000 in
set_option maxHeartbeats 2000000 in
theorem r_copyT (q r : Nat) (v : Value) (L : List Tn) (w : World) (hR : RefB w q r v L) (hl : L.length ≤ 1000) :
    Calls Tryz.prog 20 #[.pointer (some ⟨r, 0, none⟩)] w fun e w' => ∃ v', e = .returned (.pointer (some ⟨w.heap.size, 0, none⟩)) ∧ RefB w' w.heap.size w.heap.size v' L ∧ Below w.heap.size w w' := by
  obtain ⟨A, c, rfl, _, _, hat, hag⟩ := hR.2.slice
  have hrl := hR.lt
  have hba := one_new w (.cells #[.slice none 0 0] 80)
  have c0 := cell_rowT _ r _ _ (hR.below hba).1
  have c1 := new_cellT w #[.slice none 0 0] 80 0
  have HAT := Lib.hid (hat.below hba)
  have HBA := Lib.hid hba
  clear hR hat hag hba
  go_enter Tryz.func20, Tryz.ntmps20
  go_wp2
  have hbx : (w.alloc (.cells #[.slice none 0 0] 80)).heap[w.heap.size]? = some (.cells #[.slice none 0 0] 80 (0, 0)) := World.alloc_heap_new w _
  have HX := Lib.hid hbx
  have hsz : w.heap.size + 1 ≤ (w.alloc (.cells #[.slice none 0 0] 80)).heap.size := by simp
  clear hbx
  go_region_law
    ((refine step_append_N _ (by rfl) _ _ (by rfl) (w.heap.size + 1) _ [] L (by rfl) (OwnN.nil _ _) A L.length c (by rfl) rfl (by exact HAT.out) (by simp; omega) (by exact hsz) ?_; intro v' w5 hown' hb5; rw [List.nil_append] at hown'; obtain ⟨A5, c5, hv5⟩ := hown'.form; subst hv5; have hx5 := (hb5.block w.heap.size (Nat.lt_succ_self _)).trans HX.out; have e5 := cell_rowT w5 _ _ _ hx5; have f5 := frozen_of_row w5 w.heap.size 0 _ _ hx5; have HO5 := Lib.hid hown'; have HB5 := Lib.hid hb5; have HX5 := Lib.hid hx5; clear hown' hb5 hx5))
  all_goals
    go_wp2
    go_ret
    refine ⟨_, rfl, ⟨heap_setCell_same w5 w.heap.size 0 _ _ _ HX5.out, OwnN.same (OwnN.lower HO5.out (Nat.le_succ _)) fun k hk => ?_⟩, ?_⟩
    · have := OwnN.base_le HO5.out k hk
      exact Below.heap_setCell w5 ⟨w.heap.size, 0, none⟩ _ k (by show k ≠ w.heap.size; omega)
    · exact ((HBA.out.drew.trans (HB5.out.mono (Nat.le_succ _)))).setCell (p := ⟨w.heap.size, 0, none⟩) (Nat.le_refl _) _
end
end Go.Proofs.YtdhpoaecedpbdaaGreat
namespace Go.Proofs.YtdhpoaecedpbdaaGreat
section
open Go.RowKit Go.Maps

/-- Both trees have the tenants L; none lies in the other's blocks. -/
def StT (w : World) (q t b r : Nat) (v : Value) (L : List Tn) : Prop :=
  (∃ D, TreeB w t b D L) ∧ RefB w q r v L ∧ GoodT L ∧ r ≠ t ∧ r ≠ b ∧ (∀ k, v.ownBlock = some k → k ≠ t ∧ k ≠ b) ∧ q ≤ b ∧ q ≤ r
/-- What may have changed. -/
def ChgT (w : World) (b r : Nat) (v : Value) (w' : World) (v' : Value) : Prop :=
  (∀ k, k < w.heap.size → k ≠ b → k ≠ r → v.ownBlock ≠ some k → w'.heap[k]? = w.heap[k]?) ∧ (v' = v ∨ ∀ k, v'.ownBlock = some k → w.heap.size ≤ k)
theorem TreeB.only {w w' : World} {t b g : Nat} {D : DataW Value} {L : List Tn} (h : TreeB w t b D L) (ho : Only g w w') (h1 : g ≠ t) (h2 : g ≠ b) : TreeB w' t b D L := by
  obtain ⟨a1, a2, a3, a4, a5, a6⟩ := h
  exact ⟨(ho.2 t a5 (fun e => h1 e.symm)).trans a1, ownsMapT_block a2 (ho.2 b a6 (fun e => h2 e.symm)), a3, a4, Nat.lt_of_lt_of_le a5 ho.1.size, Nat.lt_of_lt_of_le a6 ho.1.size⟩
theorem RefB.only {w w' : World} {q r g : Nat} {v : Value} {L : List Tn} (h : RefB w q r v L) (ho : Only g w w') (h1 : g ≠ r) (h2 : v.ownBlock ≠ some g) : RefB w' q r v L :=
  ⟨(ho.2 r h.lt (fun e => h1 e.symm)).trans h.1, OwnN.same h.2 fun k hk => ho.2 k (World.ownsRow.lt h.2 k hk).2 (fun e => h2 (by rw [← e]; exact hk))⟩
theorem StT.below {w w' : World} {q t b r : Nat} {v : Value} {L : List Tn} (h : StT w q t b r v L) (hb : Below w.heap.size w w') : StT w' q t b r v L := by
  obtain ⟨⟨D, h1⟩, h2, h3⟩ := h
  exact ⟨⟨D, h1.below hb⟩, h2.below hb, h3⟩
/-- Behind a call to each. -/
theorem StT.both {w w1 w2 w3 : World} {q t b r : Nat} {v : Value} {L L' : List Tn} {D' : DataW Value} (h : StT w q t b r v L) (h1 : Below w.heap.size w w1) (h2 : Only b w1 w2) (hT : TreeB w2 t b D' L') (h3 : RChg w2 q r v L' w3) (hg : GoodT L') :
    ∃ v', StT w3 q t b r v' L' ∧ ChgT w b r v w3 v' ∧ Below q w w3 := by
  obtain ⟨⟨D, a1⟩, a2, _, a4, a5, a6, a7, a8⟩ := h
  obtain ⟨v', g, b1, b2, b3, b4⟩ := h3
  have hgt : g ≠ t ∧ g ≠ b := by
    rcases b3 with rfl | hv
    · exact ⟨a4, a5⟩
    · exact a6 g hv
  have hqg : q ≤ g := by
    rcases b3 with rfl | hv
    · exact a8
    · exact OwnN.base_le a2.2 g hv
  have hs1 := h1.size
  have hs2 := h2.1.size
  refine ⟨v', ⟨⟨D', hT.only b2 hgt.1 hgt.2⟩, b1, hg, a4, a5, fun k hk => ?_, a7, a8⟩, ⟨fun k hk hkb hkr hkv => ?_, ?_⟩, ((h1.mono ?_).trans (h2.1.mono a7)).trans (b2.1.mono hqg)⟩
  · rcases b4 with rfl | hn
    · exact a6 k hk
    · have := hn k hk
      have t1 := a1.2.2.2.2.1
      have t2 := a1.2.2.2.2.2
      omega
  · have hkg : k ≠ g := by
      rcases b3 with rfl | hv
      · exact hkr
      · intro e
        exact hkv (by rw [e]; exact hv)
    rw [b2.2 k (by omega) hkg, h2.2 k (by omega) hkb, h1.block k hk]
  · rcases b4 with rfl | hn
    · exact .inl rfl
    · exact .inr fun k hk => by have := hn k hk; omega
  · have := a2.lt
    omega

def actL (L : List Tn) (x : Ta) : List Tn := if x.k.tmod 3 = 0 then addTn2 L x.n x.p else if x.k.tmod 3 = 1 then movTn L x.n x.p else drpTn L x.n
end
end Go.Proofs.YtdhpoaecedpbdaaGreat
