/-
  BagOrder of verdererlaw05 answers true at every two lists of entries and every number, in every world, and changes nothing that was there.
  No condition.
-/
import Derived.Test.YtbenpcnmkhmkbaaOpure
namespace Go.Proofs.Ytbenpcnmkhmkbaa
open Go.RowKit

theorem BagL.imp {w : World} {Q Q' : Nat → Prop} {g : Nat} {l : List En} (h : BagL w Q g l) (hq : ∀ k, k < w.heap.size → Q k → Q' k) : BagL w Q' g l := by
  obtain ⟨h0, p, t, h1, h2, h3⟩ := h
  exact ⟨h0, p, t, h1, h2, h3.imp hq⟩
theorem EntsQ.of_own {w : World} {base : Nat} {v : Value} {ls : List RE} {l : List En} {Q : Nat → Prop} (h : OwnE w base v ls) (he : EnR w Q ls l) : ∃ A c, v = .slice A l.length c ∧ EntsQ w (fun _ => True) A l := by
  obtain ⟨A, c, hv, _, _, hc⟩ := h.slice (fun _ => True) (fun _ _ => trivial)
  exact ⟨A, c, by rw [hv, he.len], ls, he.imp fun _ _ _ => trivial, hc⟩
theorem rev_next (l : List En) (k : Nat) (e : En) (h : l[k]? = some e) : (l.drop k).reverse = (l.drop (k + 1)).reverse ++ [e] := by
  obtain ⟨h1, h2⟩ := List.getElem?_eq_some_iff.1 h
  rw [List.drop_eq_getElem_cons h1, h2, List.reverse_cons]

/-- What the law does once the list is turned round. -/
structure Turned (w wr : World) (A : Option Addr) (es : List En) (j : Nat) (v : Value) (ls : List RE) : Prop where
  own : OwnE wr w.heap.size v ls
  rows : EnR wr (fun k => k < w.heap.size) ls (es.drop j).reverse
  below : Below w.heap.size w wr

theorem ofL_fold_len : ∀ (o : List En) (s : List En × Int), (o.foldl ofStep s).1.length ≤ s.1.length + o.length
  | [], s => Nat.le_refl _
  | e :: o, s => by
    have ih := ofL_fold_len o (ofStep s e)
    have h1 : (ofStep s e).1.length ≤ s.1.length + 1 := by
      unfold ofStep
      split
      · exact addL_len _ _ _
      · exact Nat.le_succ _
    rw [List.foldl_cons, List.length_cons]
    omega
theorem ofL_len (es : List En) : (ofL es).1.length ≤ es.length := by
  have h := ofL_fold_len es ([], 0)
  simpa [ofL] using h
theorem of_both (ks : List En) (hl : ks.length ≤ 120) (hs : ∀ e ∈ ks, -1000 ≤ e.2 ∧ e.2 ≤ 1000) :
    ((ofL ks).2 = 0 ∧ (ofL ks.reverse).2 = 0 ∧ Good (ofL ks).1 ∧ Good (ofL ks.reverse).1 ∧ ∀ x, manyL x (ofL ks).1 = manyL x (ofL ks.reverse).1) ∨ ((ofL ks).2 = 2 ∧ (ofL ks.reverse).2 = 2) := by
  have h1 := ofL_small ks hl hs
  have h2 := ofL_small ks.reverse (by simpa using hl) (fun e he => hs e (by simpa using he))
  have hr : (ks.reverse.all fun e => rightR e.1) = ks.all fun e => rightR e.1 := List.all_reverse
  rw [hr] at h2
  rcases Bool.eq_false_or_eq_true (ks.all fun e => rightR e.1) with h | h
  · obtain ⟨a1, a2, a3⟩ := h1.1 h
    obtain ⟨b1, b2, b3⟩ := h2.1 h
    exact Or.inl ⟨a1, b1, a2, b2, fun x => by rw [a3, b3, sumF_reverse]⟩
  · exact Or.inr ⟨h1.2 h, h2.2 h⟩
theorem mergeL_len (t : Int) (a c : List En) : (mergeL t a c).1.length ≤ a.length + c.length := by
  unfold mergeL
  split
  · exact Nat.le_add_right _ _
  · split
    · exact mergeS_len t a c
    · exact Nat.le_add_right _ _
theorem merged_same (t : Int) (a b c l : List En) (k : Int) (ha : Good a) (hb : Good b) (hc : Good c) (hab : ∀ x, manyL x a = manyL x b) (ht : -1000 ≤ t ∧ t ≤ 1000) (h : mergeL t a c = (l, k)) :
    (k = 0 ∧ ∃ l3, mergeL (-t) l c = (l3, 0) ∧ sameL l3 b = true) ∨ (¬ k = 0 ∧ sameL l b = true) := by
  by_cases hk : k = 0
  · subst hk
    obtain ⟨l3, h1, h2, h3, h4⟩ := merge_back t a c l ha hc ht h
    exact Or.inl ⟨rfl, l3, h1, same_bags _ _ h2 hb fun x => (h4 x).trans (hab x)⟩
  · have hl := merge_not t a c l k h hk
    subst hl
    exact Or.inr ⟨hk, same_bags _ _ ha hb hab⟩

set_option maxRecDepth 100000 in
set_option maxHeartbeats 2000000 in
theorem bagOrder_main (w : World) (A B : Option Addr) (c d : Nat) (es fs : List WE) (n m : Nat) (t : Int) (hn : es.length = n) (hm : fs.length = m) (hl : n ≤ 120) (hl2 : m ≤ 120) (hrows : ∀ e ∈ es, e.row.length ≤ 50) (hrows2 : ∀ e ∈ fs, e.row.length ≤ 50) (hW : WeakE w A es) (hW2 : WeakE w B fs) (ht : -1000 ≤ t ∧ t ≤ 1000) :
    Calls Try.prog 6 #[.slice A n c, .slice B m d, .int .i64 t] w fun e w' => e = .returned (.bool true) ∧ Below w.heap.size w w' := by
  have HF := Lib.hid (l_few A es n c w hn (by omega) hW)
  have HF2 := Lib.hid (l_few B fs m d w hm (by omega) hW2)
  have HFW : Hid (fewW es = true) := Lib.hid ((fewW_iff es).2 ⟨by omega, hrows⟩)
  have HFW2 : Hid (fewW fs = true) := Lib.hid ((fewW_iff fs).2 ⟨by omega, hrows2⟩)
  have HE := Lib.hid (hW.ents hrows)
  have HE2 := Lib.hid (hW2.ents hrows2)
  have HM := Lib.hid (fun i e he => ents_many hW i e he)
  have HM2 := Lib.hid (fun i e he => ents_many hW2 i e he)
  have HN : Hid ((ents es).length = n) := Lib.hid (by rw [ents_len]; exact hn)
  have HN2 : Hid ((ents fs).length = m) := Lib.hid (by rw [ents_len]; exact hm)
  have hS0 : ∀ e ∈ (ents es).take 0, -1000 ≤ e.2 ∧ e.2 ≤ 1000 := fun e he => by simp at he
  have HS0 := Lib.hid hS0
  obtain ⟨ht1, ht2⟩ := ht
  have hd1 : decide (t < -1000) = false := by simp; omega
  have hd2 : decide (1000 < t) = false := by simp; omega
  clear hW hW2 hn hm hrows hrows2 hS0
  generalize ents es = ks at *
  generalize ents fs = ms at *
  go_enter Try.func6, Try.ntmps6
  go_wp2_with fail
  refine HF.out.mono ?_
  rintro e w' ⟨rfl, rfl⟩
  rw [HFW.out]
  go_wp2_with fail
  refine HF2.out.mono ?_
  rintro e w' ⟨rfl, rfl⟩
  rw [HFW2.out]
  go_wp2
  go_loopw [7] (fun i wr => ∃ k : Nat, k ≤ n ∧ i = .int .i64 k ∧ Hid (∀ e ∈ ks.take k, -1000 ≤ e.2 ∧ e.2 ≤ 1000) ∧ w = wr) (fun i _ => n - (intOf i).toNat)
  case atStart => exact ⟨0, Nat.zero_le _, rfl, HS0, rfl⟩
  case round =>
    obtain ⟨k, hk, rfl, HS, rfl⟩ := hrel
    by_cases hkn : k < n
    · obtain ⟨e, he⟩ : ∃ e, ks[k]? = some e := ⟨_, List.getElem?_eq_getElem (by rw [HN.out]; exact hkn)⟩
      obtain ⟨a, rv, rfl, hrow, hblt, c0, c1⟩ := HE.out.get k e he
      obtain ⟨_, A', c', rfl, _, _⟩ := hrow
      have HEE := Lib.hid he
      clear he
      by_cases hlo : e.2 < -1000
      · have q1 : decide (e.2 < -1000) = true := by simp; omega
        go_wp2_with fail
        refine (known5 _).mono ?_
        rintro x w9 ⟨rfl, hb9⟩
        go_wp2
        go_ret
        exact ⟨rfl, hb9⟩
      · have q1 : decide (e.2 < -1000) = false := by simp; omega
        by_cases hhi : 1000 < e.2
        · have q2 : decide (1000 < e.2) = true := by simp; omega
          go_wp2_with fail
          refine (known5 _).mono ?_
          rintro x w9 ⟨rfl, hb9⟩
          go_wp2
          go_ret
          exact ⟨rfl, hb9⟩
        · have q2 : decide (1000 < e.2) = false := by simp; omega
          go_wp2
          go_roundw
          case rel =>
            refine ⟨k + 1, by omega, by go_num, Lib.hid fun f hf => ?_, trivial⟩
            rw [List.take_add_one, HEE.out] at hf
            rcases List.mem_append.1 hf with hf | hf
            · exact HS.out f hf
            · have : f = e := by simpa using hf
              subst this
              omega
          case measure => simp [intOf]; omega
    · obtain rfl : k = n := by omega
      have hsm : ∀ e ∈ ks, -1000 ≤ e.2 ∧ e.2 ≤ 1000 := fun e he => HS.out e (by rw [List.take_of_length_le (by rw [HN.out]; exact Nat.le_refl _)]; exact he)
      have HSM := Lib.hid hsm
      have h0 : Turned w w A ks k (.slice none 0 0) [] := ⟨OwnE.nil _ _, by rw [List.drop_of_length_le (by rw [HN.out]; exact Nat.le_refl _)]; exact trivial, Below.refl _ _⟩
      have H0 := Lib.hid h0
      clear hsm h0
      go_wp2
      go_loopw [8, 9] (fun v i wr => ∃ (j : Nat) (ls : List RE), j ≤ k ∧ i = .int .i64 j ∧ Turned w wr A ks j v ls) (fun _ i _ => (intOf i).toNat)
      case atStart => exact ⟨k, [], Nat.le_refl _, rfl, H0.out⟩
      case round =>
        obtain ⟨j, ls, hj, rfl, htu⟩ := hrel
        have HT := Lib.hid htu
        have hsz : w.heap.size ≤ wr.heap.size := htu.below.size
        have hlsl := htu.rows.len
        rw [List.length_reverse, List.length_drop, HN.out] at hlsl
        obtain ⟨A8, c8, hv8, _, _, _⟩ := htu.own.slice (fun _ => True) (fun _ _ => trivial)
        subst hv8
        clear htu
        by_cases hj0 : 0 < j
        · obtain ⟨jp, rfl⟩ : ∃ jp, j = jp + 1 := ⟨j - 1, by omega⟩
          obtain ⟨e, he⟩ : ∃ e, ks[jp]? = some e := ⟨_, List.getElem?_eq_getElem (by rw [HN.out]; omega)⟩
          obtain ⟨a, rv, rfl, hrow, hblt, c0, c1⟩ := HE.out.get jp e he
          have hk0 := (HT.out.below.cell (p := a.add (jp * 2)) hblt).trans c0
          have hk1 := (HT.out.below.cell (p := { block := (a.add (jp * 2)).block, off := (a.add (jp * 2)).off + 1 }) hblt).trans c1
          have HROW := Lib.hid hrow
          obtain ⟨_, A', c', rfl, _, _⟩ := hrow
          have HRN := Lib.hid (rev_next ks jp e he)
          have i1 : IntKind.i64.wrap ((jp : Int) + 1 - 1) = (jp : Int) := by
            rw [Int.add_sub_cancel]
            exact IntWalk.i64_in _ (by omega)
          have i2 : jp < k := by omega
          have i3 : ((jp : Int)).toNat = jp := by omega
          have i4 : ¬ ((jp : Int) < 0) := by omega
          have i5 : (0 : Int) ≤ (jp : Int) := by omega
          have i6 : (jp : Int) < (k : Int) := by omega
          have i7 : IntKind.i64.wrap (jp : Int) = (jp : Int) := IntWalk.i64_in _ (by omega)
          have i8 : (0 : Int) < (jp : Int) + 1 := by omega
          clear he c0 c1
          go_wp2_with (at_builtin; go_must (refine wp_append_E _ rfl (.tmp 61) (.tmp 67) rfl w.heap.size _ ls [(Value.slice A' e.1.length c', e.2)] rfl (HT.out.own.alloc _) _ 1 _ rfl rfl (fun _ => True) (ent_lit1 wr _ _ _ (fun _ _ => trivial)) (by simp [flatE, Value.oneCell']) (by simp; omega) (by simp; omega) ?_; intro v7 w7 hown7 hb7 hgr7 hor7))
          have hch : Below w.heap.size wr w7 := ((one_new wr _).mono hsz).trans hb7
          have hbt := HT.out.below.trans hch
          have hen7 : EnR w7 (fun k => k < w.heap.size) (ls ++ [(Value.slice A' e.1.length c', e.2)]) (ks.drop jp).reverse := by
            rw [HRN.out]
            exact (HT.out.rows.keep fun k hk _ => hch.block k hk).append ⟨rfl, HROW.out.below hbt, trivial⟩
          have HT7 : Hid (Turned w w7 (some a) ks jp v7 (ls ++ [(Value.slice A' e.1.length c', e.2)])) := Lib.hid ⟨hown7, hen7, hbt⟩
          clear hown7 hb7 hgr7 hor7 hch hbt hen7
          go_wp2
          go_roundw
          case rel => exact ⟨jp, _, by omega, by go_num, HT7.out⟩
          case measure => simp [intOf]
        · obtain rfl : j = 0 := by omega
          have hown := HT.out.own
          have hrows := HT.out.rows
          rw [List.drop_zero] at hrows
          obtain ⟨A9, c9, hv9, hen9⟩ := EntsQ.of_own hown hrows
          have hrl : ks.reverse.length = k := by rw [List.length_reverse, HN.out]
          rw [hrl] at hv9
          injection hv9 with q1 q2 q3
          subst q1 q3
          rw [q2]
          have HRL := Lib.hid hrl
          have HE9 := Lib.hid hen9
          have HMR : Hid (∀ (i : Nat) (e : En), ks.reverse[i]? = some e → -9223372036854775808 ≤ e.2 ∧ e.2 ≤ 9223372036854775807) := Lib.hid fun i e he => by
            have := HSM.out e (by simpa using List.mem_of_getElem? he)
            omega
          have HWR := Lib.hid HT.out.below
          have hboth := of_both ks (by rw [HN.out]; exact hl) HSM.out
          clear hown hrows hen9 hrl q2 hlsl HT H0
          have hl1 := ofL_len ks
          rw [HN.out] at hl1
          have hl2' := ofL_len ms
          rw [HN2.out] at hl2'
          have n1 : IntKind.i64.wrap (-t) = -t := IntWalk.i64_in _ (by omega)
          have n2 : IntKind.i64.wrap (0 - t) = -t := by rw [Int.zero_sub]; exact n1
          rcases hboth with ⟨r1, r2, g1, g2, hmany⟩ | ⟨r1, r2⟩
          · have HR2 := Lib.hid r2
            have HG1 := Lib.hid g1
            have HG2 := Lib.hid g2
            have HMA := Lib.hid hmany
            clear g1 g2 hmany r2
            go_wp2_with fail
            refine (b_of _ A _ c ks wr HN.out (by omega) (HE.out.below HWR.out) HM.out).mono ?_
            rintro e w1 ⟨hb1, hcase⟩
            rcases hcase with ⟨_, rfl, hA⟩ | ⟨h0, _⟩
            rotate_left
            · exact absurd r1 h0
            have HB1 := Lib.hid hb1
            have hgal := hA.lt
            have HA1 := Lib.hid (hA.imp (Q' := fun k => k ≠ wr.heap.size) fun k _ hk => by have h2 : wr.heap.size < k := hk; show k ≠ _; omega)
            clear hb1 hA
            generalize hga : wr.heap.size = ga at *
            go_wp2_with fail
            refine (b_of _ A8 _ c8 ks.reverse w1 HRL.out (by omega) (HE9.out.below (by rw [hga]; exact HB1.out)) HMR.out).mono ?_
            rintro e w2 ⟨hb2, hcase⟩
            rcases hcase with ⟨_, rfl, hB⟩ | ⟨h0, _⟩
            rotate_left
            · exact absurd HR2.out h0
            have HB2 := Lib.hid hb2
            have HA2 := Lib.hid (HA1.out.below hb2)
            have hgbl := hB.lt
            have HBB2 := Lib.hid (hB.imp (Q' := fun k => k ≠ ga) fun k _ hk => by have h2 : w1.heap.size < k := hk; show k ≠ _; omega)
            have hs2 := hb2.size
            clear hb2 hB
            generalize hgb : w1.heap.size = gb at *
            have hlow : w.heap.size ≤ ga := by
              have := HWR.out.size
              omega
            have HW2 : Hid (Below w.heap.size w w2) := Lib.hid ((HWR.out.trans (HB1.out.mono hlow)).trans (HB2.out.mono (by omega)))
            go_wp2_with fail
            refine (b_of _ B _ d ms w2 HN2.out (by omega) (HE2.out.below HW2.out) HM2.out).mono ?_
            rintro e w3 ⟨hb3, hcase⟩
            have HW3 := Lib.hid (HW2.out.trans (hb3.mono HW2.out.size))
            have HA3 := Lib.hid (HA2.out.below hb3)
            have HBB3 := Lib.hid (HBB2.out.below hb3)
            have hs3 := hb3.size
            clear hb3
            rcases hcase with ⟨r3, rfl, hC⟩ | ⟨r3, rfl⟩
            · have hgcl := hC.lt
              have HGC := Lib.hid hC.1
              have HC3 := Lib.hid (hC.imp (Q' := fun k => k ≠ ga) fun k _ hk => by have h2 : w2.heap.size < k := hk; show k ≠ _; omega)
              clear hC
              generalize hgc : w2.heap.size = gc at *
              go_wp2_with fail
              refine (b_same (fun k => k ≠ ga) (some ⟨ga, 0, none⟩) (some ⟨gb, 0, none⟩) _ _ w3 (Or.inr ⟨ga, rfl, HA3.out⟩) (Or.inr ⟨gb, rfl, HBB3.out⟩)).mono ?_
              rintro e w4 ⟨rfl, hb4⟩
              rw [same_bags _ _ HG1.out HG2.out HMA.out]
              have HW4 := Lib.hid (HW3.out.trans (hb4.mono HW3.out.size))
              have HA4 := Lib.hid (HA3.out.below hb4)
              have HBB4 := Lib.hid (HBB3.out.below hb4)
              have HC4 := Lib.hid (HC3.out.below hb4)
              have hs4 := hb4.size
              clear hb4
              obtain ⟨l2, h, hml⟩ : ∃ l2 h, mergeL t (ofL ks).1 (ofL ms).1 = (l2, h) := ⟨_, _, rfl⟩
              have hms := merged_same t _ _ _ l2 h HG1.out HG2.out HGC.out HMA.out ⟨by omega, by omega⟩ hml
              have hl2l := mergeL_len t (ofL ks).1 (ofL ms).1
              rw [hml] at hl2l
              have hl2l' : l2.length ≤ (ofL ks).1.length + (ofL ms).1.length := hl2l
              have HML := Lib.hid hml
              clear hml hl2l
              go_wp2_with fail
              refine (b_merge (fun k => k ≠ ga) ga _ _ t w4 (fun k hk => by show k ≠ ga; omega) (fun h => h rfl) HA4.out gc HC4.out (by omega)).mono ?_
              rintro e w5 ⟨rfl, hA5, ho⟩
              rw [HML.out] at hA5 ⊢
              have HW5 := Lib.hid (HW4.out.trans (ho.1.mono hlow))
              have HBB5 := Lib.hid (HBB4.out.keep (ho.keepQ (fun h => h rfl)) (ho.2 gb (by omega) (by omega)))
              have HC5 := Lib.hid (HC4.out.keep (ho.keepQ (fun h => h rfl)) (ho.2 gc (by omega) (by omega)))
              have HA5 := Lib.hid hA5
              have hs5 := ho.1.size
              clear hA5 ho
              rcases hms with ⟨rfl, l3, hml3, hsm⟩ | ⟨hne, hsm⟩
              · have HML3 := Lib.hid hml3
                have HSA := Lib.hid hsm
                clear hml3 hsm
                go_wp2_with fail
                refine (b_merge (fun k => k ≠ ga) ga _ _ (-t) w5 (fun k hk => by show k ≠ ga; omega) (fun h => h rfl) HA5.out gc HC5.out (by omega)).mono ?_
                rintro e w6 ⟨rfl, hA6, ho⟩
                rw [HML3.out] at hA6 ⊢
                have HW6 := Lib.hid (HW5.out.trans (ho.1.mono hlow))
                have HBB6 := Lib.hid (HBB5.out.keep (ho.keepQ (fun h => h rfl)) (ho.2 gb (by omega) (by omega)))
                have HA6 := Lib.hid hA6
                clear hA6 ho
                go_wp2_with fail
                refine (b_same (fun k => k ≠ ga) (some ⟨ga, 0, none⟩) (some ⟨gb, 0, none⟩) _ _ w6 (Or.inr ⟨ga, rfl, HA6.out⟩) (Or.inr ⟨gb, rfl, HBB6.out⟩)).mono ?_
                rintro e w7 ⟨rfl, hb7⟩
                rw [HSA.out]
                have HW7 := Lib.hid (HW6.out.trans (hb7.mono HW6.out.size))
                clear hb7
                go_wp2_with fail
                refine (known5 _).mono ?_
                rintro e w8 ⟨rfl, hb8⟩
                go_wp2
                go_ret
                exact ⟨rfl, HW7.out.trans (hb8.mono HW7.out.size)⟩
              · have hne1 : (h == 0) = false := by simpa using hne
                have HSA := Lib.hid hsm
                clear hsm hne
                go_wp2_with fail
                refine (b_same (fun k => k ≠ ga) (some ⟨ga, 0, none⟩) (some ⟨gb, 0, none⟩) _ _ w5 (Or.inr ⟨ga, rfl, HA5.out⟩) (Or.inr ⟨gb, rfl, HBB5.out⟩)).mono ?_
                rintro e w7 ⟨rfl, hb7⟩
                rw [HSA.out]
                have HW7 := Lib.hid (HW5.out.trans (hb7.mono HW5.out.size))
                clear hb7
                go_wp2_with fail
                refine (known5 _).mono ?_
                rintro e w8 ⟨rfl, hb8⟩
                go_wp2
                go_ret
                exact ⟨rfl, HW7.out.trans (hb8.mono HW7.out.size)⟩
            · have hne1 : ((ofL ms).2 != 0) = true := by simpa using r3
              go_wp2_with fail
              refine (b_same (fun k => k ≠ ga) (some ⟨ga, 0, none⟩) (some ⟨gb, 0, none⟩) _ _ w3 (Or.inr ⟨ga, rfl, HA3.out⟩) (Or.inr ⟨gb, rfl, HBB3.out⟩)).mono ?_
              rintro e w4 ⟨rfl, hb4⟩
              rw [same_bags _ _ HG1.out HG2.out HMA.out]
              have HW4 := Lib.hid (HW3.out.trans (hb4.mono HW3.out.size))
              clear hb4
              go_wp2_with fail
              refine (known5 _).mono ?_
              rintro e w8 ⟨rfl, hb8⟩
              go_wp2
              go_ret
              exact ⟨rfl, HW4.out.trans (hb8.mono HW4.out.size)⟩
          · have HR2 := Lib.hid r2
            clear r2
            go_wp2_with fail
            refine (b_of _ A _ c ks wr HN.out (by omega) (HE.out.below HWR.out) HM.out).mono ?_
            rintro e w1 ⟨hb1, hcase⟩
            rcases hcase with ⟨h0, _⟩ | ⟨_, rfl⟩
            · rw [r1] at h0
              cases h0
            rw [r1]
            have HB1 := Lib.hid hb1
            have HW1 := Lib.hid (HWR.out.trans (hb1.mono HWR.out.size))
            clear hb1
            go_wp2_with fail
            refine (b_of _ A8 _ c8 ks.reverse w1 HRL.out (by omega) (HE9.out.below HB1.out) HMR.out).mono ?_
            rintro e w2 ⟨hb2, hcase⟩
            rcases hcase with ⟨h0, _⟩ | ⟨_, rfl⟩
            · rw [HR2.out] at h0
              cases h0
            rw [HR2.out]
            have HW2 := Lib.hid (HW1.out.trans (hb2.mono HW1.out.size))
            clear hb2
            go_wp2_with fail
            refine (b_of _ B _ d ms w2 HN2.out (by omega) (HE2.out.below HW2.out) HM2.out).mono ?_
            rintro e w3 ⟨hb3, hcase⟩
            have HW3 := Lib.hid (HW2.out.trans (hb3.mono HW2.out.size))
            clear hb3
            rcases hcase with ⟨_, rfl, _⟩ | ⟨_, rfl⟩
            · go_wp2_with fail
              refine (known5 _).mono ?_
              rintro e w8 ⟨rfl, hb8⟩
              go_wp2
              go_ret
              exact ⟨rfl, HW3.out.trans (hb8.mono HW3.out.size)⟩
            · go_wp2_with fail
              refine (known5 _).mono ?_
              rintro e w8 ⟨rfl, hb8⟩
              go_wp2
              go_ret
              exact ⟨rfl, HW3.out.trans (hb8.mono HW3.out.size)⟩
end Go.Proofs.Ytbenpcnmkhmkbaa
