/-
  The document's tree of tenants: one that is asked for, one more, one less, one that stands below another one now, another tree.
  Condition: the tree is one that can be; names are no longer than texts can be.
-/
import Derived.Laws.StructEq
import Derived.BigQuiet
import Derived.Test.YtdhpoaecedpbdaaGreatZ10
import Derived.Test.YtdhpoaecedpbdaaGreatZ38
namespace Go.Proofs.YtdhpoaecedpbdaaGreat
open Go.RowKit Go.Maps

theorem OwnN.same {w w' : World} {base : Nat} {v : Value} {zs : List Tn} (h : OwnN w base v zs) (he : ∀ k, v.ownBlock = some k → w'.heap[k]? = w.heap[k]?) : OwnN w' base v zs := by
  refine ⟨h.1, ?_⟩
  rcases h.2 with hn | ⟨g, cap, cur, rfl, hg, hh, r⟩
  · exact Or.inl hn
  · exact Or.inr ⟨g, cap, cur, rfl, hg, (he g rfl).trans hh, r⟩
theorem OwnN.cap {w : World} {base : Nat} {A : Option Addr} {n c : Nat} {zs : List Tn} (h : OwnN w base (.slice A n c) zs) : n ≤ c := by
  rcases h.2 with ⟨hv, hn⟩ | ⟨g, cap, cur, hv, _, _, hc, _⟩
  · injection hv with _ h1 h2
    omega
  · injection hv with _ h1 h2
    omega
/-- The document's tree behind a call: its list, what has changed. -/
def RChg (w : World) (q r : Nat) (v : Value) (L' : List Tn) (w' : World) : Prop := ∃ v' g, RefB w' q r v' L' ∧ Only g w w' ∧ (g = r ∨ v.ownBlock = some g) ∧ (v' = v ∨ ∀ k, v'.ownBlock = some k → w.heap.size ≤ k)
theorem TnsAt.drop0 {w : World} {g : Nat} {zs : List Tn} (h : TnsAt w (some ⟨g, 0, none⟩) zs) (k : Nat) : TnsAt w (some ⟨g, k * 2, none⟩) (zs.drop k) := by
  intro j u hj
  rw [flatT_drop, List.getElem?_drop] at hj
  obtain ⟨a, ha, hc⟩ := h _ u hj
  injection ha with ha
  subst ha
  refine ⟨_, rfl, ?_⟩
  rw [← hc]
  congr 1
  unfold Addr.add
  by_cases h1 : j = 0
  · subst h1
    by_cases h2 : k = 0
    · subst h2; simp
    · have h3 : ¬ k * 2 = 0 := by omega
      simp [h3]
  · simp [h1]
theorem RChg.stay {w w' : World} {q r : Nat} {v : Value} {L : List Tn} (h : RefB w q r v L) (hb : Below w.heap.size w w') : RChg w q r v L w' :=
  ⟨v, r, h.below hb, Only.of_below hb (Nat.le_of_lt h.lt), .inl rfl, .inl rfl⟩
theorem RChg.put {w w' : World} {q r : Nat} {v u : Value} {L L' : List Tn} (h : RefB w q r v L) (hq : q ≤ w.heap.size) (hb : Below w.heap.size w w') (ho : OwnN w' w.heap.size u L') : RChg w q r v L' (w'.setCell ⟨r, 0, none⟩ u) := by
  have hr := h.lt
  have h1 : w'.heap[r]? = some (.cells #[v] 80 (0, 0)) := (hb.block r hr).trans h.1
  have hoth : ∀ k, k ≠ r → (w'.setCell ⟨r, 0, none⟩ u).heap[k]? = w'.heap[k]? := fun k hk => Below.heap_setCell w' ⟨r, 0, none⟩ u k hk
  refine ⟨u, r, ⟨?_, OwnN.same (OwnN.lower ho hq) fun k hk => hoth k ?_⟩, ⟨?_, fun k hk hne => (hoth k hne).trans (hb.block k hk)⟩, .inl rfl, .inr fun k hk => OwnN.base_le ho k hk⟩
  · exact heap_setCell_same w' r 0 _ _ u h1
  · have := OwnN.base_le ho k hk
    omega
  · exact (hb.mono (Nat.le_of_lt hr)).setCell (p := ⟨r, 0, none⟩) (Nat.le_refl _) u

theorem store2_T {w w1 : World} (a b : ByteArray) (hb1 : Below (w.alloc (.cells #[.string ⟨#[]⟩, .string ⟨#[]⟩] 27)).heap.size (w.alloc (.cells #[.string ⟨#[]⟩, .string ⟨#[]⟩] 27)) w1) :
    ((w1.setCell ⟨w.heap.size, 0, none⟩ (.string a)).setCell ⟨w.heap.size, 1, none⟩ (.string b)).cell? ⟨w.heap.size, 0, none⟩ = some (.string a) ∧ ((w1.setCell ⟨w.heap.size, 0, none⟩ (.string a)).setCell ⟨w.heap.size, 1, none⟩ (.string b)).cell? ⟨w.heap.size, 1, none⟩ = some (.string b) ∧
      Below w.heap.size w ((w1.setCell ⟨w.heap.size, 0, none⟩ (.string a)).setCell ⟨w.heap.size, 1, none⟩ (.string b)) ∧ w1.frozen? ⟨w.heap.size, 0, none⟩ = false ∧ w1.frozen? ⟨w.heap.size, 1, none⟩ = false ∧ w1.cell? ⟨w.heap.size, 0, none⟩ = some (.string ⟨#[]⟩) ∧ w1.cell? ⟨w.heap.size, 1, none⟩ = some (.string ⟨#[]⟩) := by
  have h0 : w1.heap[w.heap.size]? = some (.cells #[.string ⟨#[]⟩, .string ⟨#[]⟩] 27 (0, 0)) := (hb1.block w.heap.size (by simp)).trans (World.alloc_heap_new w _)
  have h1 := heap_setCell_same w1 w.heap.size 0 _ _ (.string a) h0
  have h2 := heap_setCell_same _ w.heap.size 1 _ _ (.string b) h1
  refine ⟨by rw [cell_of_row _ _ 0 _ _ _ h2]; rfl, by rw [cell_of_row _ _ 1 _ _ _ h2]; rfl, ?_, frozen_of_row w1 _ 0 _ _ h0, frozen_of_row w1 _ 1 _ _ h0, by rw [cell_of_row _ _ 0 _ _ _ h0]; rfl, by rw [cell_of_row _ _ 1 _ _ _ h0]; rfl⟩
  exact (((one_new w _).trans (hb1.mono (by simp))).setCell (p := ⟨w.heap.size, 0, none⟩) (Nat.le_refl _) _).setCell (p := ⟨w.heap.size, 1, none⟩) (Nat.le_refl _) _

/-! ### adding -/
theorem insT_split (x : Tn) : ∀ (L : List Tn) (k : Nat), k ≤ L.length → (∀ i y, i < k → L[i]? = some y → cmpS y.1 x.1 < 0) → (∀ y, L[k]? = some y → ¬ cmpS y.1 x.1 < 0) → insT x L = L.take k ++ x :: L.drop k
  | [], k, hk, _, _ => by
    have : k = 0 := by simpa using hk
    subst this
    rfl
  | y :: L, 0, _, _, h2 => by
    have := h2 y rfl
    unfold insT
    rw [if_neg this]
    rfl
  | y :: L, k + 1, hk, h1, h2 => by
    have h0 := h1 0 y (by omega) rfl
    unfold insT
    rw [if_pos h0, insT_split x L k (by simpa using hk) (fun i z hi hz => h1 (i + 1) z (by omega) (by simpa using hz)) (fun z hz => h2 z (by simpa using hz))]
    rfl
theorem lit_N1 (w : World) (x : Tn) (ty : TypeId) : TnsAt (w.alloc (.cells #[.string x.1, .string x.2] ty)) (some ⟨w.heap.size, 0, none⟩) [x] := fun j u hj => ⟨_, rfl, lit_N w x ty j u (by simpa [flatT] using hj)⟩

set_option maxRecDepth 100000 in
set_option maxHeartbeats 4000000 in
theorem r_addT (q r : Nat) (v : Value) (L : List Tn) (n p : ByteArray) (w : World) (hR : RefB w q r v L) (hq : q ≤ w.heap.size) (hg : GoodT L) (hn : n.size ≤ maxLen) :
    Calls Tryz.prog 31 #[.pointer (some ⟨r, 0, none⟩), .string n, .string p] w fun e w' => e = .returned (.int .i64 (addRes L n p (chn L p))) ∧ RChg w q r v (addTn2 L n p) w' := by
  have hfew := hg.few
  obtain ⟨A, c, rfl, hA0, hcl, hat, hag⟩ := hR.2.slice
  have hrl := hR.lt
  have HAT := Lib.hid hat
  have HR := Lib.hid hR
  have HG := Lib.hid hg
  have HN := Lib.hid hn
  have stay : ∀ w', Below w.heap.size w w' → ∀ k : Int, addRes L n p (chn L p) = k → k ≠ 0 → RChg w q r (.slice A L.length c) (addTn2 L n p) w' := by
    intro w' hb k hk h0
    unfold addTn2
    rw [if_neg (by rw [hk]; exact h0)]
    exact RChg.stay hR hb
  have HST := Lib.hid stay
  clear hR hat hg hn stay
  go_enter Tryz.func31, Tryz.ntmps31
  go_wp2_with fail
  refine (ref_name n w).mono ?_
  rintro e w1 ⟨rfl, hw1⟩
  have hw2 := hw1.symm
  clear hw1
  subst hw2
  rcases Bool.eq_false_or_eq_true (nameR n.data.toList) with h1 | h1
  · rw [h1]
    have H1 := Lib.hid h1
    clear h1
    go_wp2_with fail
    refine (r_hasT q r _ L n _ HR.out (by omega)).mono ?_
    rintro e w2 ⟨rfl, hb2⟩
    have HB2 := Lib.hid hb2
    rcases Bool.eq_false_or_eq_true (findN L n).isSome with h2 | h2
    · rw [h2]
      have H2 := Lib.hid h2
      clear h2 hb2
      go_wp2
      go_ret
      have hr : addRes L n p (chn L p) = 4 := by unfold addRes; rw [if_neg (by rw [H1.out]; simp), if_pos H2.out]
      exact ⟨by rw [hr]; rfl, HST.out _ HB2.out 4 hr (by decide)⟩
    · rw [h2]
      have H2 := Lib.hid h2
      have HR2 := Lib.hid (HR.out.below hb2)
      clear h2 hb2
      have HRES : Hid (∀ k : Int, (if canT L p = false then 18 else if 5 < (chn L p).length + 1 then 17 else if 24 ≤ L.length then 6 else 0) = k → addRes L n p (chn L p) = k) := Lib.hid (by
        intro k hk
        unfold addRes
        rw [if_neg (by rw [H1.out]; simp), if_neg (by rw [H2.out]; simp)]
        exact hk)
      have hS : Hid (SrtT L ∧ findN L n = none) := Lib.hid ⟨HG.out.srt, by simpa using H2.out⟩
      have tailA : Hid (∀ (W : World), Below w.heap.size w W → canT L p = true → True) := Lib.hid (fun _ _ _ => trivial)
      clear tailA
      rcases Bool.eq_false_or_eq_true (p.toList == []) with he | he
      · have he2 : (p.toList != []) = false := by rw [bne, he]; rfl
        have HC : Hid (canT L p = true) := Lib.hid (by unfold canT; rw [he]; rfl)
        go_wp2_with fail
        refine (r_depthT q r _ L p w2 HR2.out (by omega)).mono ?_
        rintro e w4 ⟨rfl, hb4⟩
        have HB4 := Lib.hid (HB2.out.trans (hb4.mono HB2.out.size))
        clear hb4
        have c0 := cell_rowT w4 r _ _ (HR.out.below HB4.out).1
        by_cases h4 : 5 < (chn L p).length + 1
        · have hd5 : decide ((5 : Int) < ((chn L p).length : Int) + 1) = true := by simp; omega
          have hyl : ((chn L p).length : Int) + 1 ≤ 1000 := by have := (HG.out.chain p).2; omega
          go_wp2
          go_ret
          have hr := HRES.out 17 (by rw [if_neg (by rw [HC.out]; simp), if_pos h4])
          exact ⟨by rw [hr]; rfl, HST.out _ HB4.out 17 hr (by decide)⟩
        · have hd5 : decide ((5 : Int) < ((chn L p).length : Int) + 1) = false := by simp; omega
          have hyl : ((chn L p).length : Int) + 1 ≤ 1000 := by have := (HG.out.chain p).2; omega
          by_cases h5 : 24 ≤ L.length
          · have hg1 : decide ((24 : Int) ≤ (L.length : Int)) = true := by simp; omega
            go_wp2
            go_ret
            have hr := HRES.out 6 (by rw [if_neg (by rw [HC.out]; simp), if_neg h4, if_pos h5])
            exact ⟨by rw [hr]; rfl, HST.out _ HB4.out 6 hr (by decide)⟩
          · have hg1 : decide ((24 : Int) ≤ (L.length : Int)) = false := by simp; omega
            have HR0 := Lib.hid (HRES.out 0 (by rw [if_neg (by rw [HC.out]; simp), if_neg h4, if_neg h5]))
            go_wp2
            go_loopw [7] (fun i wr => ∃ k : Nat, k ≤ L.length ∧ i = .int .i64 k ∧ Hid (∀ i y, i < k → L[i]? = some y → cmpS y.1 n < 0) ∧ Below w.heap.size w wr) (fun i _ => L.length - (intOf i).toNat)
            case atStart => exact ⟨0, Nat.zero_le _, rfl, Lib.hid (fun i y h => absurd h (by omega)), HB4.out⟩
            case round =>
              obtain ⟨k, hk, rfl, HLO, hb⟩ := hrel
              have HB := Lib.hid hb
              have hat := HAT.out.below hb
              have k0 := cell_rowT wr r _ _ (HR.out.below hb).1
              have HKT := Lib.hid hat
              have kf : wr.frozen? ⟨r, 0, none⟩ = false := frozen_of_row wr r 0 _ _ (HR.out.below hb).1
              have hsz := hb.size
              have fin : ∀ (k2 : Nat), k2 = k → (∀ y, L[k]? = some y → ¬ cmpS y.1 n < 0) → Hid (addTn2 L n p = L.take k ++ (n, p) :: L.drop k) := fun k2 _ hy => Lib.hid (by
                unfold addTn2
                rw [if_pos HR0.out]
                exact insT_split (n, p) L k hk HLO.out hy)
              have FIN := Lib.hid (fin k rfl)
              clear hb fin
              by_cases hlt : k < L.length
              · obtain ⟨g, rfl⟩ := hat.head hag (by omega)
                obtain ⟨⟨x1, x2⟩, hx⟩ : ∃ x, L[k]? = some x := ⟨_, List.getElem?_eq_getElem hlt⟩
                obtain ⟨d0, d1⟩ := hat.at k _ hx
                simp only at d0 d1
                have s1 : x1.size ≤ maxLen := by have := nameR_short (HG.out.nam _ (List.mem_of_getElem? hx)); unfold maxLen; simp only at this; omega
                have HX := Lib.hid hx
                clear hat hx
                by_cases hc : cmpS x1 n < 0
                · have hcd : decide (cmpS x1 n < 0) = true := decide_eq_true hc
                  have HCN := Lib.hid hc
                  have HCT := Lib.hid (fun W => ref_text x1 n W s1)
                  generalize cmpS x1 n = cr at hcd HCT
                  go_wp2_with fail
                  refine (HCT.out _).mono ?_
                  rintro e w5 ⟨rfl, nd, rfl⟩
                  go_wp2
                  go_roundw
                  case rel =>
                    refine ⟨k + 1, by omega, by go_num, Lib.hid (fun i y hi hy => ?_), below_drewN' HB.out _⟩
                    by_cases e : i < k
                    · exact HLO.out i y e hy
                    · have : i = k := by omega
                      subst this
                      rw [HX.out] at hy
                      injection hy with hy
                      rw [← hy]
                      exact HCN.out
                  case measure => simp [intOf]; omega
                · have hcd : decide (cmpS x1 n < 0) = false := decide_eq_false hc
                  have HFN := Lib.hid (FIN.out (fun y hy => by rw [HX.out] at hy; injection hy with hy; rw [← hy]; exact hc)).out
                  have HCT := Lib.hid (fun W => ref_text x1 n W s1)
                  generalize cmpS x1 n = cr at hcd HCT
                  go_wp2_with fail
                  refine (HCT.out _).mono ?_
                  rintro e w5 ⟨rfl, nd, rfl⟩
                  have HBX := Lib.hid (below_drewN' HB.out nd)
                  have HTX := Lib.hid (HAT.out.below HBX.out)
                  have kx0 := cell_rowT _ r _ _ (HR.out.below HBX.out).1
                  have HTK := Lib.hid (show k = (L.take k).length by rw [List.length_take]; omega)
                  have HDK := Lib.hid (show L.length - k = (L.drop k).length by rw [List.length_drop])
                  have HT1 := Lib.hid (HTX.out.take k)
                  have hkl2 : (k : Int) ≤ (L.length : Int) := by omega
                  have hkc : (k : Int) ≤ (c : Int) := by omega
                  go_upto_region 16 with (at_builtin; go_must (refine wp_append_N _ rfl (.tmp 56) (.tmp 62) rfl w.heap.size _ [] (L.take k) rfl (OwnN.nil _ _) _ k _ rfl HTK.out HT1.out (by rw [← HTK.out]; simp; omega) HBX.out.size ?_; intro v6 w6 hown6 hb6; rw [List.nil_append] at hown6; have HO6 := Lib.hid hown6; obtain ⟨A6, c6, hv6⟩ := hown6.form; rw [← HTK.out] at hv6; subst hv6; have HB6 := Lib.hid (HBX.out.trans hb6); clear hown6 hb6))
                  have hs6 := HB6.out.size
                  go_upto_region 17 with (at_builtin; go_must (refine wp_append_N _ rfl (.tmp 64) (.tmp 68) rfl w.heap.size _ (L.take k) [(n, p)] rfl (World.ownsRow.alloc HO6.out _) (some ⟨w6.heap.size, 0, none⟩) 1 _ rfl rfl (lit_N1 w6 (n, p) _) (by rw [← HTK.out]; simp; omega) (by simp; omega) ?_; intro v7 w7 hown7 hb7; have HO7 := Lib.hid hown7; obtain ⟨A7, c7, hv7⟩ := hown7.form; rw [List.length_append, ← HTK.out, List.length_singleton] at hv7; subst hv7; have HB7 := Lib.hid (HB6.out.trans (((one_new w6 _).mono hs6).trans hb7)); clear hown7 hb7))
                  have k07 := cell_rowT w7 r _ _ (HR.out.below HB7.out).1
                  have HT7 := Lib.hid (TnsAt.drop0 (HAT.out.below HB7.out) k)
                  have hs7 := HB7.out.size
                  go_wp2_with (at_builtin; go_must (refine wp_append_N _ rfl (.tmp 71) (.tmp 77) rfl w.heap.size _ (L.take k ++ [(n, p)]) (L.drop k) rfl HO7.out _ _ _ rfl HDK.out HT7.out (by rw [List.length_append, ← HTK.out, ← HDK.out]; simp; omega) hs7 ?_; intro v8 w8 hown8 hb8; have HO8 := Lib.hid hown8; obtain ⟨A8, c8, hv8⟩ := hown8.form; generalize hn8 : List.length _ = n8 at hv8; clear hn8; subst hv8; have HB8 := Lib.hid (HB7.out.trans hb8); have k08 := cell_rowT w8 r _ _ (HR.out.below HB8.out).1; have f08 := frozen_of_row w8 r 0 _ _ (HR.out.below HB8.out).1; clear hown8 hb8))
                  all_goals
                    go_ret
                    have hfin := HO8.out
                    rw [List.append_assoc, List.singleton_append, ← HFN.out] at hfin
                    have hz := RChg.put HR.out hq HB8.out hfin
                    first
                      | exact ⟨by rw [HR0.out]; rfl, hz⟩
                      | (have hcc : c = L.length := by first | assumption | omega
                         rw [hcc] at hz
                         exact ⟨by rw [HR0.out]; rfl, hz⟩)
              · have hkl : k = L.length := by omega
                have HFN := Lib.hid (FIN.out (fun y hy => by rw [hkl, List.getElem?_eq_none (Nat.le_refl _)] at hy; cases hy)).out
                clear FIN
                subst hkl
                have HBX := HB
                have HTX := HKT
                have HTK := Lib.hid (show L.length = (L.take L.length).length by rw [List.length_take]; omega)
                have HDK := Lib.hid (show 0 = (L.drop L.length).length by rw [List.length_drop, Nat.sub_self])
                have HT1 := Lib.hid (HTX.out.take L.length)
                have hkl2 : (L.length : Int) ≤ (L.length : Int) := by omega
                have hkc : (L.length : Int) ≤ (c : Int) := by omega
                go_upto_region 16 with (at_builtin; go_must (refine wp_append_N _ rfl (.tmp 56) (.tmp 62) rfl w.heap.size _ [] (L.take L.length) rfl (OwnN.nil _ _) _ L.length _ rfl HTK.out HT1.out (by rw [← HTK.out]; simp; omega) HBX.out.size ?_; intro v6 w6 hown6 hb6; rw [List.nil_append] at hown6; have HO6 := Lib.hid hown6; obtain ⟨A6, c6, hv6⟩ := hown6.form; rw [← HTK.out] at hv6; subst hv6; have HB6 := Lib.hid (HBX.out.trans hb6); clear hown6 hb6))
                have hs6 := HB6.out.size
                go_upto_region 17 with (at_builtin; go_must (refine wp_append_N _ rfl (.tmp 64) (.tmp 68) rfl w.heap.size _ (L.take L.length) [(n, p)] rfl (World.ownsRow.alloc HO6.out _) (some ⟨w6.heap.size, 0, none⟩) 1 _ rfl rfl (lit_N1 w6 (n, p) _) (by rw [← HTK.out]; simp; omega) (by simp; omega) ?_; intro v7 w7 hown7 hb7; have HO7 := Lib.hid hown7; obtain ⟨A7, c7, hv7⟩ := hown7.form; rw [List.length_append, ← HTK.out, List.length_singleton] at hv7; subst hv7; have HB7 := Lib.hid (HB6.out.trans (((one_new w6 _).mono hs6).trans hb7)); clear hown7 hb7))
                have k07 := cell_rowT w7 r _ _ (HR.out.below HB7.out).1
                have hs7 := HB7.out.size
                go_wp2_with (at_builtin; go_must (refine wp_append_N _ rfl (.tmp 71) (.tmp 77) rfl w.heap.size _ (L.take L.length ++ [(n, p)]) (L.drop L.length) rfl HO7.out _ _ _ rfl HDK.out (by rw [List.drop_length]; exact TnsAt.nil _ _) (by rw [List.length_append, ← HTK.out, ← HDK.out]; simp; omega) hs7 ?_; intro v8 w8 hown8 hb8; have HO8 := Lib.hid hown8; obtain ⟨A8, c8, hv8⟩ := hown8.form; generalize hn8 : List.length _ = n8 at hv8; clear hn8; subst hv8; have HB8 := Lib.hid (HB7.out.trans hb8); have k08 := cell_rowT w8 r _ _ (HR.out.below HB8.out).1; have f08 := frozen_of_row w8 r 0 _ _ (HR.out.below HB8.out).1; clear hown8 hb8))
                all_goals
                  go_ret
                  have hfin := HO8.out
                  rw [List.append_assoc, List.singleton_append, ← HFN.out] at hfin
                  have hz := RChg.put HR.out hq HB8.out hfin
                  first
                    | exact ⟨by rw [HR0.out]; rfl, hz⟩
                    | (have hcc : c = L.length := by first | assumption | omega
                       rw [hcc] at hz
                       exact ⟨by rw [HR0.out]; rfl, hz⟩)
      · have he2 : (p.toList != []) = true := by rw [bne, he]; rfl
        have HCC : Hid (canT L p = (findN L p).isSome) := Lib.hid (by unfold canT; rw [he]; rfl)
        go_wp2_with fail
        refine (r_hasT q r _ L p w2 HR2.out (by omega)).mono ?_
        rintro e w3 ⟨rfl, hb3⟩
        have HB3 := Lib.hid (HB2.out.trans (hb3.mono HB2.out.size))
        clear hb3
        rcases Bool.eq_false_or_eq_true (findN L p).isSome with h3 | h3
        · rw [h3]
          have HC : Hid (canT L p = true) := Lib.hid (by rw [HCC.out, h3])
          have HR3 := Lib.hid (HR.out.below HB3.out)
          clear h3
          go_wp2_with fail
          refine (r_depthT q r _ L p w3 HR3.out (by omega)).mono ?_
          rintro e w4 ⟨rfl, hb4⟩
          have HB4 := Lib.hid (HB3.out.trans (hb4.mono HB3.out.size))
          clear hb4
          have c0 := cell_rowT w4 r _ _ (HR.out.below HB4.out).1
          by_cases h4 : 5 < (chn L p).length + 1
          · have hd5 : decide ((5 : Int) < ((chn L p).length : Int) + 1) = true := by simp; omega
            have hyl : ((chn L p).length : Int) + 1 ≤ 1000 := by have := (HG.out.chain p).2; omega
            go_wp2
            go_ret
            have hr := HRES.out 17 (by rw [if_neg (by rw [HC.out]; simp), if_pos h4])
            exact ⟨by rw [hr]; rfl, HST.out _ HB4.out 17 hr (by decide)⟩
          · have hd5 : decide ((5 : Int) < ((chn L p).length : Int) + 1) = false := by simp; omega
            have hyl : ((chn L p).length : Int) + 1 ≤ 1000 := by have := (HG.out.chain p).2; omega
            by_cases h5 : 24 ≤ L.length
            · have hg1 : decide ((24 : Int) ≤ (L.length : Int)) = true := by simp; omega
              go_wp2
              go_ret
              have hr := HRES.out 6 (by rw [if_neg (by rw [HC.out]; simp), if_neg h4, if_pos h5])
              exact ⟨by rw [hr]; rfl, HST.out _ HB4.out 6 hr (by decide)⟩
            · have hg1 : decide ((24 : Int) ≤ (L.length : Int)) = false := by simp; omega
              have HR0 := Lib.hid (HRES.out 0 (by rw [if_neg (by rw [HC.out]; simp), if_neg h4, if_neg h5]))
              go_wp2
              go_loopw [7] (fun i wr => ∃ k : Nat, k ≤ L.length ∧ i = .int .i64 k ∧ Hid (∀ i y, i < k → L[i]? = some y → cmpS y.1 n < 0) ∧ Below w.heap.size w wr) (fun i _ => L.length - (intOf i).toNat)
              case atStart => exact ⟨0, Nat.zero_le _, rfl, Lib.hid (fun i y h => absurd h (by omega)), HB4.out⟩
              case round =>
                obtain ⟨k, hk, rfl, HLO, hb⟩ := hrel
                have HB := Lib.hid hb
                have hat := HAT.out.below hb
                have k0 := cell_rowT wr r _ _ (HR.out.below hb).1
                have HKT := Lib.hid hat
                have kf : wr.frozen? ⟨r, 0, none⟩ = false := frozen_of_row wr r 0 _ _ (HR.out.below hb).1
                have hsz := hb.size
                have fin : ∀ (k2 : Nat), k2 = k → (∀ y, L[k]? = some y → ¬ cmpS y.1 n < 0) → Hid (addTn2 L n p = L.take k ++ (n, p) :: L.drop k) := fun k2 _ hy => Lib.hid (by
                  unfold addTn2
                  rw [if_pos HR0.out]
                  exact insT_split (n, p) L k hk HLO.out hy)
                have FIN := Lib.hid (fin k rfl)
                clear hb fin
                by_cases hlt : k < L.length
                · obtain ⟨g, rfl⟩ := hat.head hag (by omega)
                  obtain ⟨⟨x1, x2⟩, hx⟩ : ∃ x, L[k]? = some x := ⟨_, List.getElem?_eq_getElem hlt⟩
                  obtain ⟨d0, d1⟩ := hat.at k _ hx
                  simp only at d0 d1
                  have s1 : x1.size ≤ maxLen := by have := nameR_short (HG.out.nam _ (List.mem_of_getElem? hx)); unfold maxLen; simp only at this; omega
                  have HX := Lib.hid hx
                  clear hat hx
                  by_cases hc : cmpS x1 n < 0
                  · have hcd : decide (cmpS x1 n < 0) = true := decide_eq_true hc
                    have HCN := Lib.hid hc
                    have HCT := Lib.hid (fun W => ref_text x1 n W s1)
                    generalize cmpS x1 n = cr at hcd HCT
                    go_wp2_with fail
                    refine (HCT.out _).mono ?_
                    rintro e w5 ⟨rfl, nd, rfl⟩
                    go_wp2
                    go_roundw
                    case rel =>
                      refine ⟨k + 1, by omega, by go_num, Lib.hid (fun i y hi hy => ?_), below_drewN' HB.out _⟩
                      by_cases e : i < k
                      · exact HLO.out i y e hy
                      · have : i = k := by omega
                        subst this
                        rw [HX.out] at hy
                        injection hy with hy
                        rw [← hy]
                        exact HCN.out
                    case measure => simp [intOf]; omega
                  · have hcd : decide (cmpS x1 n < 0) = false := decide_eq_false hc
                    have HFN := Lib.hid (FIN.out (fun y hy => by rw [HX.out] at hy; injection hy with hy; rw [← hy]; exact hc)).out
                    have HCT := Lib.hid (fun W => ref_text x1 n W s1)
                    generalize cmpS x1 n = cr at hcd HCT
                    go_wp2_with fail
                    refine (HCT.out _).mono ?_
                    rintro e w5 ⟨rfl, nd, rfl⟩
                    have HBX := Lib.hid (below_drewN' HB.out nd)
                    have HTX := Lib.hid (HAT.out.below HBX.out)
                    have kx0 := cell_rowT _ r _ _ (HR.out.below HBX.out).1
                    have HTK := Lib.hid (show k = (L.take k).length by rw [List.length_take]; omega)
                    have HDK := Lib.hid (show L.length - k = (L.drop k).length by rw [List.length_drop])
                    have HT1 := Lib.hid (HTX.out.take k)
                    have hkl2 : (k : Int) ≤ (L.length : Int) := by omega
                    have hkc : (k : Int) ≤ (c : Int) := by omega
                    go_upto_region 16 with (at_builtin; go_must (refine wp_append_N _ rfl (.tmp 56) (.tmp 62) rfl w.heap.size _ [] (L.take k) rfl (OwnN.nil _ _) _ k _ rfl HTK.out HT1.out (by rw [← HTK.out]; simp; omega) HBX.out.size ?_; intro v6 w6 hown6 hb6; rw [List.nil_append] at hown6; have HO6 := Lib.hid hown6; obtain ⟨A6, c6, hv6⟩ := hown6.form; rw [← HTK.out] at hv6; subst hv6; have HB6 := Lib.hid (HBX.out.trans hb6); clear hown6 hb6))
                    have hs6 := HB6.out.size
                    go_upto_region 17 with (at_builtin; go_must (refine wp_append_N _ rfl (.tmp 64) (.tmp 68) rfl w.heap.size _ (L.take k) [(n, p)] rfl (World.ownsRow.alloc HO6.out _) (some ⟨w6.heap.size, 0, none⟩) 1 _ rfl rfl (lit_N1 w6 (n, p) _) (by rw [← HTK.out]; simp; omega) (by simp; omega) ?_; intro v7 w7 hown7 hb7; have HO7 := Lib.hid hown7; obtain ⟨A7, c7, hv7⟩ := hown7.form; rw [List.length_append, ← HTK.out, List.length_singleton] at hv7; subst hv7; have HB7 := Lib.hid (HB6.out.trans (((one_new w6 _).mono hs6).trans hb7)); clear hown7 hb7))
                    have k07 := cell_rowT w7 r _ _ (HR.out.below HB7.out).1
                    have HT7 := Lib.hid (TnsAt.drop0 (HAT.out.below HB7.out) k)
                    have hs7 := HB7.out.size
                    go_wp2_with (at_builtin; go_must (refine wp_append_N _ rfl (.tmp 71) (.tmp 77) rfl w.heap.size _ (L.take k ++ [(n, p)]) (L.drop k) rfl HO7.out _ _ _ rfl HDK.out HT7.out (by rw [List.length_append, ← HTK.out, ← HDK.out]; simp; omega) hs7 ?_; intro v8 w8 hown8 hb8; have HO8 := Lib.hid hown8; obtain ⟨A8, c8, hv8⟩ := hown8.form; generalize hn8 : List.length _ = n8 at hv8; clear hn8; subst hv8; have HB8 := Lib.hid (HB7.out.trans hb8); have k08 := cell_rowT w8 r _ _ (HR.out.below HB8.out).1; have f08 := frozen_of_row w8 r 0 _ _ (HR.out.below HB8.out).1; clear hown8 hb8))
                    all_goals
                      go_ret
                      have hfin := HO8.out
                      rw [List.append_assoc, List.singleton_append, ← HFN.out] at hfin
                      have hz := RChg.put HR.out hq HB8.out hfin
                      first
                        | exact ⟨by rw [HR0.out]; rfl, hz⟩
                        | (have hcc : c = L.length := by first | assumption | omega
                           rw [hcc] at hz
                           exact ⟨by rw [HR0.out]; rfl, hz⟩)
                · have hkl : k = L.length := by omega
                  have HFN := Lib.hid (FIN.out (fun y hy => by rw [hkl, List.getElem?_eq_none (Nat.le_refl _)] at hy; cases hy)).out
                  clear FIN
                  subst hkl
                  have HBX := HB
                  have HTX := HKT
                  have HTK := Lib.hid (show L.length = (L.take L.length).length by rw [List.length_take]; omega)
                  have HDK := Lib.hid (show 0 = (L.drop L.length).length by rw [List.length_drop, Nat.sub_self])
                  have HT1 := Lib.hid (HTX.out.take L.length)
                  have hkl2 : (L.length : Int) ≤ (L.length : Int) := by omega
                  have hkc : (L.length : Int) ≤ (c : Int) := by omega
                  go_upto_region 16 with (at_builtin; go_must (refine wp_append_N _ rfl (.tmp 56) (.tmp 62) rfl w.heap.size _ [] (L.take L.length) rfl (OwnN.nil _ _) _ L.length _ rfl HTK.out HT1.out (by rw [← HTK.out]; simp; omega) HBX.out.size ?_; intro v6 w6 hown6 hb6; rw [List.nil_append] at hown6; have HO6 := Lib.hid hown6; obtain ⟨A6, c6, hv6⟩ := hown6.form; rw [← HTK.out] at hv6; subst hv6; have HB6 := Lib.hid (HBX.out.trans hb6); clear hown6 hb6))
                  have hs6 := HB6.out.size
                  go_upto_region 17 with (at_builtin; go_must (refine wp_append_N _ rfl (.tmp 64) (.tmp 68) rfl w.heap.size _ (L.take L.length) [(n, p)] rfl (World.ownsRow.alloc HO6.out _) (some ⟨w6.heap.size, 0, none⟩) 1 _ rfl rfl (lit_N1 w6 (n, p) _) (by rw [← HTK.out]; simp; omega) (by simp; omega) ?_; intro v7 w7 hown7 hb7; have HO7 := Lib.hid hown7; obtain ⟨A7, c7, hv7⟩ := hown7.form; rw [List.length_append, ← HTK.out, List.length_singleton] at hv7; subst hv7; have HB7 := Lib.hid (HB6.out.trans (((one_new w6 _).mono hs6).trans hb7)); clear hown7 hb7))
                  have k07 := cell_rowT w7 r _ _ (HR.out.below HB7.out).1
                  have hs7 := HB7.out.size
                  go_wp2_with (at_builtin; go_must (refine wp_append_N _ rfl (.tmp 71) (.tmp 77) rfl w.heap.size _ (L.take L.length ++ [(n, p)]) (L.drop L.length) rfl HO7.out _ _ _ rfl HDK.out (by rw [List.drop_length]; exact TnsAt.nil _ _) (by rw [List.length_append, ← HTK.out, ← HDK.out]; simp; omega) hs7 ?_; intro v8 w8 hown8 hb8; have HO8 := Lib.hid hown8; obtain ⟨A8, c8, hv8⟩ := hown8.form; generalize hn8 : List.length _ = n8 at hv8; clear hn8; subst hv8; have HB8 := Lib.hid (HB7.out.trans hb8); have k08 := cell_rowT w8 r _ _ (HR.out.below HB8.out).1; have f08 := frozen_of_row w8 r 0 _ _ (HR.out.below HB8.out).1; clear hown8 hb8))
                  all_goals
                    go_ret
                    have hfin := HO8.out
                    rw [List.append_assoc, List.singleton_append, ← HFN.out] at hfin
                    have hz := RChg.put HR.out hq HB8.out hfin
                    first
                      | exact ⟨by rw [HR0.out]; rfl, hz⟩
                      | (have hcc : c = L.length := by first | assumption | omega
                         rw [hcc] at hz
                         exact ⟨by rw [HR0.out]; rfl, hz⟩)
        · rw [h3]
          have HC : Hid (canT L p = false) := Lib.hid (by rw [HCC.out, h3])
          clear h3
          go_wp2
          go_ret
          have hr := HRES.out 18 (by rw [if_pos HC.out])
          exact ⟨by rw [hr]; rfl, HST.out _ HB3.out 18 hr (by decide)⟩
  · rw [h1]
    have H1 := Lib.hid h1
    clear h1
    go_wp2
    go_ret
    have hr : addRes L n p (chn L p) = 3 := by unfold addRes; rw [if_pos H1.out]
    exact ⟨by rw [hr]; rfl, HST.out _ (Below.refl _ _) 3 hr (by decide)⟩
end Go.Proofs.YtdhpoaecedpbdaaGreat
