/-
  Diff of package facts: for each relation once, the rows that came or went, in order.
  At lists of at most 20 relations, whose rows are at most 1000 each.
-/
import Derived.Maps.OwnSet
import Derived.Test.YtdhpoaecedpbdaaGreatZ12
import Derived.Test.YtdhpoaecedpbdaaGreatZ13
import Derived.Test.YtdhpoaecedpbdaaGreatZ46
import Derived.Test.YtdhpoaecedpbdaaGreatZ47
namespace Go.Proofs.YtdhpoaecedpbdaaGreat
open Go.RowKit Go.Maps

/-- Each text once, in the order of the first ones. -/
def ddL (l : List ByteArray) : List ByteArray := l.foldl (fun acc s => if hasX s acc then acc else acc ++ [s]) []
theorem ddL_snoc (l : List ByteArray) (s : ByteArray) : ddL (l ++ [s]) = if hasX s (ddL l) then ddL l else ddL l ++ [s] := by
  unfold ddL
  rw [List.foldl_append]
  rfl
theorem ddL_take (l : List ByteArray) (k : Nat) (s : ByteArray) (h : l[k]? = some s) : ddL (l.take (k + 1)) = if hasX s (ddL (l.take k)) then ddL (l.take k) else ddL (l.take k) ++ [s] := by
  rw [List.take_add_one, h]
  exact ddL_snoc _ _
theorem ddL_len (l : List ByteArray) : ∀ k, (ddL (l.take k)).length ≤ k
  | 0 => by simp [ddL]
  | k + 1 => by
    have ih := ddL_len l k
    cases h : l[k]? with
    | none =>
      rw [List.take_add_one, h]
      simp
      omega
    | some s =>
      rw [ddL_take l k s h]
      split
      · omega
      · simp
        omega
def chgOf (R1 R2 : ByteArray → List (List V)) (r : ByteArray) : List Ch := (netL (R1 r) (R2 r)).map fun e => (r, e)
def chgs (R1 R2 : ByteArray → List (List V)) (rels : List ByteArray) : List Ch := (ddL rels).flatMap (chgOf R1 R2)

/-- A set of texts in memory. -/
def SetX (w : World) (b n : Nat) (S : List ByteArray) : Prop := ∃ D : DataW Unit, w.ownsMap Tryz.prog 9 unitElem b n D ∧ ∀ s, Maps.has D (kt s) = hasX s S
theorem SetX.made (w : World) : SetX (w.alloc (.map #[] 0)) w.heap.size 0 [] := ⟨.map [], World.ownsMap_made _ _ _ _, fun _ => rfl⟩
theorem hasX_snoc (s x : ByteArray) (S : List ByteArray) : hasX s (S ++ [x]) = (hasX s S || (x.toList == s.toList)) := by unfold hasX; rw [List.any_append]; simp
theorem toListB {a b : ByteArray} : (a.toList == b.toList) = decide (a = b) := by
  by_cases h : a = b
  · subst h; simp
  · rw [decide_eq_false h]
    have : ¬ a.toList = b.toList := fun e => h (toList_eqT.1 (by rw [e]; simp))
    simpa using this
theorem ownsMapU_block {w w' : World} {b n : Nat} {D : DataW Unit} (h : w.ownsMap Tryz.prog 9 unitElem b n D) (he : w'.heap[b]? = w.heap[b]?) : w'.ownsMap Tryz.prog 9 unitElem b n D := by
  obtain ⟨es, clock, hb, r⟩ := h
  exact ⟨es, clock, he.trans hb, r⟩
theorem OwnH.lower {w : World} {base b2 : Nat} {v : Value} {xs : List CE} (h : OwnH w base v xs) (hb : b2 ≤ base) : OwnH w b2 v xs := by
  refine ⟨h.1, ?_⟩
  rcases h.2 with hn | ⟨g, cap, cur, hv, hg, hh, r⟩
  · exact Or.inl hn
  · exact Or.inr ⟨g, cap, cur, hv, Nat.le_trans hb hg, hh, r⟩
theorem zeroU (w : World) : (zeroValue 109).run Tryz.prog w = .ok (.agg #[]) w := by kernel_rfl

/-- Rows of a state: what the call of Rows gives at each relation. -/
def RowsAre (w : World) (a1 a2 : Value) (R : ByteArray → List (List V)) : Prop := ∀ W rel, Below w.heap.size w W → (R rel).length ≤ 1000 ∧ Ne (R rel) ∧ Calls Tryz.prog 10 #[a1, a2, .string rel] W (RowsPost W (R rel))

theorem chg_next {n0 n1 : Nat} {wr w3 w7 : World} {v v' : Value} {cs : List CE} {pre : List Ch} {c : CE} {d : Ch} {o : Obj} {b : Nat}
    (hen : ChR wr (fun k => some k ≠ v.ownBlock ∧ k ≠ b) cs pre) (h1 : c.1 = d.1) (h2 : c.2.2 = d.2.2) (hu : IsRw wr (fun k => n0 ≤ k ∧ k < n1) c.2.1 d.2.1) (hv : ∀ k, v.ownBlock = some k → k < n0 ∨ n1 ≤ k) (hb : b < n0) (e3 : w3 = wr.alloc o) (hg : w3.grownBy w7 v.ownBlock) (hor : v'.ownBlock = v.ownBlock ∨ v'.ownBlock = some w3.heap.size) :
    ChR w7 (fun k => some k ≠ v'.ownBlock ∧ k ≠ b) (cs ++ [c]) (pre ++ [d]) := by
  subst e3
  have key : ∀ k, k < wr.heap.size → some k ≠ v.ownBlock → some k ≠ v'.ownBlock := by
    intro k hk hkv
    rcases hor with h | h
    · rw [h]
      exact hkv
    · rw [h, World.size_alloc]
      intro e
      injection e with e
      omega
  have h9 : ChR wr (fun k => (some k ≠ v.ownBlock ∧ k ≠ b) ∧ some k ≠ v'.ownBlock) (cs ++ [c]) (pre ++ [d]) := by
    refine ChR.append (ChR.imp (fun k hk h => ⟨h, key k hk h.1⟩) hen) ⟨h1, h2, hu.imp (fun k hk h => ?_), trivial⟩
    have hkv : some k ≠ v.ownBlock := fun e => by have := hv k e.symm; omega
    exact ⟨⟨hkv, by omega⟩, key k hk hkv⟩
  refine ChR.imp (fun k _ h => ⟨h.2, h.1.2⟩) (ChR.keep ?_ h9)
  intro k hk hlt3
  rw [hg.block k (by simp; omega) (fun e => hk.1.1 (by rw [e])), Below.heap_alloc _ _ _ hlt3]

theorem IsRow.rw {w : World} {Q : Nat → Prop} {v : Value} {x : List V} (h : IsRow w Q v x) : IsRw w Q v x := by
  obtain ⟨h0, A, c, e, _, hr⟩ := h
  exact ⟨by omega, A, c, e, hr⟩

set_option maxRecDepth 100000 in
set_option maxHeartbeats 8000000 in
theorem f_diff (a1 a2 b1 b2 : Value) (R1 R2 : ByteArray → List (List V)) (A : Option Addr) (n c : Nat) (rels : List ByteArray) (w : World) (hn : rels.length = n) (hl : n ≤ 20) (hA : ∀ (j : Nat) (s : ByteArray), rels[j]? = some s → ∃ a : Addr, A = some a ∧ w.cell? (a.add j) = some (.string s)) (hsz : ∀ s ∈ rels, s.size ≤ maxLen) (h1 : RowsAre w a1 a2 R1) (h2 : RowsAre w b1 b2 R2) :
    Calls Tryz.prog 21 #[a1, a2, b1, b2, .slice A n c] w fun e w' => ∃ v hs, e = .returned v ∧ OwnH w' w.heap.size v hs ∧ ChR w' (fun k => some k ≠ v.ownBlock) hs (chgs R1 R2 rels) ∧ Below w.heap.size w w' := by
  have hmm := @run_makeMap Tryz.prog
  have HA := Lib.hid hA
  have HN := Lib.hid hn
  have HSZ := Lib.hid hsz
  have H1 := Lib.hid h1
  have H2 := Lib.hid h2
  have HCL : Hid (∀ k, k ≤ n → (chgs R1 R2 (rels.take k)).length ≤ 2000 * k) := Lib.hid (by
    intro k _
    have hone : ∀ r, (chgOf R1 R2 r).length ≤ 2000 := by
      intro r
      unfold chgOf
      rw [List.length_map]
      have := netL_len (R1 r) (R2 r)
      have := (h1 w r (Below.refl _ _)).1
      have := (h2 w r (Below.refl _ _)).1
      omega
    have hall : ∀ l : List ByteArray, (l.flatMap (chgOf R1 R2)).length ≤ 2000 * l.length := by
      intro l
      induction l with
      | nil => simp
      | cons x xs ih =>
        rw [List.flatMap_cons, List.length_append, List.length_cons]
        have := hone x
        omega
    have := hall (ddL (rels.take k))
    have := ddL_len rels k
    unfold chgs
    omega)
  clear hA hn hsz h1 h2
  go_enter Tryz.func21, Tryz.ntmps21
  go_wp2
  go_loopw [11, 22] (fun v i wr => ∃ (k : Nat) (hs : List CE), k ≤ n ∧ i = .int .i64 k ∧ SetX wr w.heap.size k (ddL (rels.take k)) ∧ OwnH wr (w.heap.size + 1) v hs ∧ ChR wr (fun j => some j ≠ v.ownBlock ∧ j ≠ w.heap.size) hs (chgs R1 R2 (rels.take k)) ∧ Below w.heap.size w wr ∧ w.heap.size + 1 ≤ wr.heap.size) (fun _ i _ => n - (intOf i).toNat)
  case atStart => exact ⟨0, [], Nat.zero_le _, rfl, SetX.made w, OwnH.nil _ _, trivial, one_new w _, by simp⟩
  case round =>
    obtain ⟨k, hs, hk, rfl, hset, hown, hch, hb, hz⟩ := hrel
    have HB := Lib.hid hb
    have HCH := Lib.hid hch
    have HOW := Lib.hid hown
    by_cases hlt : k < n
    · obtain ⟨s, hx⟩ : ∃ s, rels[k]? = some s := ⟨_, List.getElem?_eq_getElem (by rw [HN.out]; exact hlt)⟩
      obtain ⟨a, rfl, hac⟩ := HA.out k s hx
      have hal := World.block_lt_of_cell? w _ hac
      have e1 : wr.cell? (a.add k) = some (.string s) := (hb.cell (p := a.add k) hal).trans hac
      have hss := HSZ.out s (List.mem_of_getElem? hx)
      have hkey := Go.WideMaps.keyOf_string_mk (P := Tryz.prog) Tryz.underlying9 hss
      have HDD := Lib.hid (ddL_take rels k s hx)
      obtain ⟨D, hom, hhas⟩ := hset
      have HHAS := Lib.hid hhas
      have HOM := Lib.hid hom
      have hon := one_new wr (.cells #[] 109)
      have HON := Lib.hid hon
      have hzz := HCL.out k hk
      rw [← hch.len] at hzz
      cases hsx : hasX s (ddL (rels.take k)) with
      | true =>
        have ht : Maps.has D (kt s) = true := (hhas s).trans hsx
        have hdd := HDD.out
        rw [hsx, if_pos rfl] at hdd
        have HD2 := Lib.hid hdd
        clear hx hac hch hb hhas hom hdd hon hsx hown
        unfold kt at ht
        go_wp2_with (first
          | (at_lookup; refine wpList_lookup_own_unit _ rfl _ _ 108 rfl 9 109 lawT Tryz.underlying108 (zeroU _) w.heap.size k _ rfl HOM.out _ _ rfl hkey ?_))
        go_roundw
        case rel =>
          refine ⟨k + 1, hs, by omega, by go_num, ?_, HOW.out.alloc _, ?_, HB.out.trans (HON.out.mono HB.out.size), by simp; omega⟩
          · rw [HD2.out]
            exact ⟨D, (HOM.out.alloc _).mono (Nat.le_succ _), HHAS.out⟩
          · have e : chgs R1 R2 (rels.take (k + 1)) = chgs R1 R2 (rels.take k) := by unfold chgs; rw [HD2.out]
            rw [e]
            exact HCH.out.keep (Below.keepQ HON.out _)
        case measure => simp [intOf]; omega
      | false =>
        have ht : Maps.has D (kt s) = false := (hhas s).trans hsx
        have hdd := HDD.out
        rw [hsx, if_neg (by simp)] at hdd
        have HD2 := Lib.hid hdd
        have hch2 := hch.keep (Below.keepQ hon _)
        have HCH2 := Lib.hid hch2
        have HOW2 := Lib.hid (hown.alloc (.cells #[] 109))
        have hB2 := HB.out.trans (hon.mono HB.out.size)
        have HB2 := Lib.hid hB2
        have HSZ2 : Hid ((wr.alloc (.cells #[] 109)).heap.size = wr.heap.size + 1) := Lib.hid (by simp)
        clear hx hac hch hb hhas hom hdd hon hsx hch2 hown hB2
        unfold kt at ht
        go_wp2_with (first
          | (at_lookup; refine wpList_lookup_own_unit _ rfl _ _ 108 rfl 9 109 lawT Tryz.underlying108 (zeroU _) w.heap.size k _ rfl HOM.out _ _ rfl hkey ?_)
          | (at_mapUpdate; refine wpList_mapUpdate_own _ rfl _ _ _ 108 rfl 9 109 lawT Tryz.underlying108 (unitElem (H := Unit)) w.heap.size k _ rfl (HOM.out.alloc _) (by unfold maxLen; omega) _ _ _ rfl rfl hkey _ [] unitElem_mk ?_; intro w1 hown1 hgrow1; have HOM1 := Lib.hid hown1; have HG1 := Lib.hid hgrow1; clear hown1 hgrow1))
        have HB1 := Lib.hid (HB2.out.grown HG1.out (by rw [HSZ2.out]; exact Nat.le_trans (Nat.le_of_succ_le hz) (Nat.le_succ _)) (fun j hj => by cases hj; exact Nat.le_refl _))
        have hs1 := HG1.out.size
        rw [HSZ2.out] at hs1
        have hch1 := HCH2.out.keep (w' := w1) (fun j hj hjl => HG1.out.block j hjl (fun e => hj.2 (Option.some.inj e)))
        have HCH1 := Lib.hid hch1
        have HOW1 := Lib.hid (HOW2.out.same (w' := w1) (fun j hj => HG1.out.block j (HOW2.out.lt j hj).2 (fun e => by have := (HOW2.out.lt j hj).1; injection e with e; omega)))
        obtain ⟨r1l, r1n, r1c⟩ := H1.out w1 s HB1.out
        have HC1 := Lib.hid r1c
        have HL1 := Lib.hid r1l
        have HN1 := Lib.hid r1n
        clear hch1 r1c r1l r1n
        go_wp2_with fail
        refine HC1.out.mono ?_
        rintro e w2 ⟨v2, us2, rfl, ho2, hr2, hb2⟩
        obtain ⟨A2, c2, rfl, _, hc2⟩ := ho2.cells
        have hul2 : us2.length = (R1 s).length := hr2.len
        obtain ⟨m2, hm2⟩ : ∃ m2, us2.length = m2 := ⟨_, rfl⟩
        rw [hm2]
        have HM2 := Lib.hid hm2
        have HU2 := Lib.hid hul2
        have HA2 := Lib.hid (hc2.imp (Q' := fun k => k < w2.heap.size) (fun k _ h => h.2))
        have HR2 := Lib.hid hr2
        have HBW2 := Lib.hid (HB1.out.trans (hb2.mono HB1.out.size))
        have HBX2 := Lib.hid hb2
        obtain ⟨r2l, r2n, r2c⟩ := H2.out w2 s HBW2.out
        have HC2 := Lib.hid r2c
        have HL2 := Lib.hid r2l
        have HN2 := Lib.hid r2n
        clear ho2 hr2 hb2 hc2 r2c r2l r2n hm2 hul2
        go_wp2_with fail
        refine HC2.out.mono ?_
        rintro e w3 ⟨v3, us3, rfl, ho3, hr3, hb3⟩
        obtain ⟨A3, c3, rfl, _, hc3⟩ := ho3.cells
        have hul3 : us3.length = (R2 s).length := hr3.len
        obtain ⟨m3, hm3⟩ : ∃ m3, us3.length = m3 := ⟨_, rfl⟩
        rw [hm3]
        have HM3 := Lib.hid hm3
        have HA3 := Lib.hid (hc3.imp (Q' := fun k => k < w3.heap.size) (fun k _ h => h.2))
        have HBW3 := Lib.hid (HBW2.out.trans (hb3.mono HBW2.out.size))
        have HBX3 := Lib.hid (HBX2.out.trans (hb3.mono HBX2.out.size))
        have hz23 := hb3.size
        have HNET := Lib.hid (f_net A2 A3 m2 m3 c2 c3 us2 us3 (R1 s) (R2 s) w3 HM2.out hm3 (by have := HM2.out; have := HU2.out; have := HL1.out; omega) (by have := HL2.out; omega) ((HA2.out.keep (Below.keepQ hb3 _)).imp (fun k _ h => by omega)) HA3.out (HR2.out.keep (Below.keepQ hb3 _)) hr3 HN1.out HN2.out)
        clear ho3 hr3 hb3 hc3 hm3 hul3
        go_wp2_with fail
        refine HNET.out.mono ?_
        rintro e w4 ⟨L, cl, rfl, hen4, hb4⟩
        obtain ⟨E, hE⟩ : ∃ E, netL (R1 s) (R2 s) = E := ⟨_, rfl⟩
        have hel := netL_len (R1 s) (R2 s)
        rw [hE] at hen4 hel
        rw [hE]
        have HE := Lib.hid hE
        obtain ⟨m, hm⟩ : ∃ m, E.length = m := ⟨_, rfl⟩
        rw [hm] at hel
        rw [hm]
        have HM := Lib.hid hm
        have HML : Hid (m ≤ 2000) := Lib.hid (by have := HL1.out; have := HL2.out; omega)
        have hz4 := hb4.size
        have hz3 := HBX3.out.size
        have HEN4 := Lib.hid (hen4.imp (Q' := fun k => w3.heap.size ≤ k ∧ k < w4.heap.size) (fun k hk h => ⟨h, hk⟩))
        have HBW4 := Lib.hid (HBW3.out.trans (hb4.mono HBW3.out.size))
        have hb14 : Below w1.heap.size w1 w4 := HBX3.out.trans (hb4.mono hz3)
        have HCH4 := Lib.hid (HCH1.out.keep (Below.keepQ hb14 _))
        have HOW4 := Lib.hid (HOW1.out.below hb14)
        have HMB4 : Hid (w4.heap[w.heap.size]? = w1.heap[w.heap.size]?) := Lib.hid (hb14.block _ (by omega))
        have HOLT := Lib.hid (fun j (hj : u11.ownBlock = some j) => (HOW1.out.lt j hj).2)
        have hz14 : w1.heap.size ≤ w3.heap.size := hz3
        have hzw : w.heap.size + 1 ≤ w1.heap.size := by omega
        clear hen4 hb4 hb14 hE hm hel e1 hs1 hz3 hz23
        go_wp2_with fail
        go_loopw [11, 46] (fun v5 i5 w5 => ∃ (j : Nat) (hs5 : List CE), j ≤ m ∧ i5 = .int .i64 j ∧ OwnH w5 (w.heap.size + 1) v5 hs5 ∧ ChR w5 (fun j => some j ≠ v5.ownBlock ∧ j ≠ w.heap.size) hs5 (chgs R1 R2 (rels.take k) ++ (E.take j).map fun e => (s, e)) ∧ (∀ j, v5.ownBlock = some j → j < w3.heap.size ∨ w4.heap.size ≤ j) ∧ EntsQ w5 (fun k => w3.heap.size ≤ k ∧ k < w4.heap.size) L E ∧ w5.heap[w.heap.size]? = w1.heap[w.heap.size]? ∧ Below w.heap.size w w5 ∧ w4.heap.size ≤ w5.heap.size) (fun _ i _ => m - (intOf i).toNat)
        case atStart => exact ⟨0, hs, Nat.zero_le _, rfl, HOW4.out, by simpa using HCH4.out, fun j hj => .inl (by have := HOLT.out j hj; omega), HEN4.out, HMB4.out, HBW4.out, Nat.le_refl _⟩
        case round =>
          obtain ⟨j, hs5, hj, rfl, hown5, hch5, hov5, hent5, hmb5, hb5, hz5⟩ := hrel
          have HOW5 := Lib.hid hown5
          have HCH5 := Lib.hid hch5
          have HOV5 := Lib.hid hov5
          have HEN5 := Lib.hid hent5
          have HMB5 := Lib.hid hmb5
          have HB5 := Lib.hid hb5
          by_cases hjt : j < m
          · obtain ⟨⟨x, mny⟩, he⟩ : ∃ e, E[j]? = some e := ⟨_, List.getElem?_eq_getElem (by rw [HM.out]; exact hjt)⟩
            obtain ⟨q, u, rfl, hrow, hql, q0, q1⟩ := hent5.get j _ he
            dsimp only at hrow q1
            obtain ⟨_, A9, c9, rfl, _, _⟩ := id hrow
            have htk : (E.take (j + 1)).map (fun e => (s, e)) = (E.take j).map (fun e => (s, e)) ++ [(s, (x, mny))] := by
              rw [List.take_add_one, he]
              simp
            have HTK := Lib.hid htk
            have hlen5 := hch5.len
            rw [List.length_append, List.length_map] at hlen5
            have hlt5 : (E.take j).length ≤ j := List.length_take_le _ _
            have hcl5 := HCL.out k hk
            have hon5 := one_new wr (.cells #[.slice A9 x.length c9, .int .i64 mny] 113)
            have HON5 := Lib.hid hon5
            have HOW6 := Lib.hid (hown5.alloc (.cells #[.slice A9 x.length c9, .int .i64 mny] 113))
            have HRW := Lib.hid hrow
            have hml := HML.out
            have HLEN : Hid (hs5.length ≤ 100000) := Lib.hid (by omega)
            clear hch5 hown5 hov5 hent5 hmb5 hb5 he htk hlen5 hlt5 hcl5 hon5 hrow
            go_wp2_with (at_builtin; go_must (refine wp_append_H _ rfl (.tmp 50) (.tmp 57) rfl (w.heap.size + 1) u11 hs5 rfl (HOW6.out.alloc _) (s, Value.slice A9 x.length c9, mny) ⟨_, 0, none⟩ 1 rfl _ (lit_Hg _ _ _ _ _ _ (by simp)) rfl (by have := HLEN.out; omega) (by simp; omega) ?_; intro v7 w7 hown7 hb7 hg7 hor7))
            have hnx := chg_next (c := (s, Value.slice A9 x.length c9, mny)) (d := (s, (x, mny))) (HCH5.out.keep (Below.keepQ HON5.out _)) rfl rfl (HRW.out.keep (Below.keepQ HON5.out _)).rw HOV5.out (by omega) rfl hg7 hor7
            have hkp : ∀ g, g < wr.heap.size → u11.ownBlock ≠ some g → w7.heap[g]? = wr.heap[g]? := fun g hg hne => by
              rw [hg7.block g (by simp; omega) (fun e => hne e.symm), Below.heap_alloc _ _ _ (by simp; omega), Below.heap_alloc _ _ _ hg]
            have hov7 : ∀ g, v7.ownBlock = some g → g < w3.heap.size ∨ w4.heap.size ≤ g := fun g hg => by
              rcases hor7 with h | h
              · exact HOV5.out g (by rw [← h]; exact hg)
              · rw [h] at hg
                injection hg with hg
                simp at hg
                exact .inr (by omega)
            have hz7 := hg7.size
            simp at hz7
            go_roundw
            case rel =>
              refine ⟨j + 1, hs5 ++ [(s, Value.slice A9 x.length c9, mny)], by omega, by go_num, hown7, by rw [HTK.out, ← List.append_assoc]; exact hnx, hov7, HEN5.out.keep (fun g hg hgl => hkp g hgl (fun e => by have := HOV5.out g e; omega)), (hkp _ (by omega) (fun e => by have := (HOW5.out.lt _ e).1; omega)).trans HMB5.out, ?_, by omega⟩
              exact HB5.out.trans (((HON5.out.mono HB5.out.size).trans ((one_new _ _).mono (by simp; omega))).trans (hb7.mono (by omega)))
            case measure => simp [intOf]; omega
          · obtain rfl : j = m := by omega
            have het : E.take j = E := List.take_of_length_le (by have := HM.out; omega)
            rw [het] at hch5
            have HCH9 := Lib.hid hch5
            clear hch5 hown5 hov5 hent5 hmb5 hb5
            go_wp2
            go_roundw
            case rel =>
              refine ⟨k + 1, hs5, by omega, by go_num, ?_, HOW5.out, ?_, HB5.out, by omega⟩
              · rw [HD2.out]
                refine ⟨_, ownsMapU_block HOM1.out HMB5.out, fun s' => ?_⟩
                rw [hasX_snoc, toListB]
                by_cases e : s' = s
                · subst e
                  rw [show Maps.has (D.put (Lit.string s'.data.toList) (DataW.agg [])) (kt s') = true from has_put_same (HOM.out.tidy lawT).isMap (show WideAt.IsKeyLit (kt s') from trivial) _]
                  simp
                · rw [show Maps.has (D.put (Lit.string s.data.toList) (DataW.agg [])) (kt s') = Maps.has D (kt s') from has_put_other (fun e2 => e (kt_inj e2)) _, HHAS.out s', decide_eq_false (fun e2 => e e2.symm), Bool.or_false]
              · have e : chgs R1 R2 (rels.take (k + 1)) = chgs R1 R2 (rels.take k) ++ E.map fun e => (s, e) := by
                  unfold chgs
                  rw [HD2.out, List.flatMap_append, List.flatMap_cons, List.flatMap_nil, List.append_nil]
                  unfold chgOf
                  rw [HE.out]
                rw [e]
                exact HCH9.out
            case measure => simp [intOf]; omega
    · obtain rfl : k = n := by omega
      rw [List.take_of_length_le (by have := HN.out; omega)] at hch
      have HCH9 := Lib.hid hch
      clear hch hset hb hown
      go_wp2
      go_ret
      exact ⟨_, hs, rfl, HOW.out.lower (Nat.le_succ _), HCH9.out.imp (fun j _ h => h.1), HB.out⟩
end Go.Proofs.YtdhpoaecedpbdaaGreat
