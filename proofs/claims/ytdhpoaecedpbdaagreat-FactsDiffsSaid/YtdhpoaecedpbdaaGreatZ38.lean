/-
  The document's tree of tenants: those above one, how deep one stands, those under one; tenants that are appended.
  Condition: no more than a thousand tenants, from each one up it comes to an end.
-/
import Derived.Maps.AppendAt
import Derived.Deep.Cut
import Derived.Test.YtdhpoaecedpbdaaGreatZ30
namespace Go.Proofs.YtdhpoaecedpbdaaGreat
open Go.RowKit Go.Maps

theorem wp_append_L2 {ops : Array Oper} {rest : List Oper} {o : Oper} {a : Act} {Q : Exit → Act → World → Prop} (w : World) (hgd : o.guard = none) (s x : Operand)
    (ho : o.op = .call { callee := .builtin .append, args := #[s, x], argTypes := #[40, 40] })
    (base : Nat) (v : Value) (xs : List ByteArray) (p : ByteArray) (hs : a.eval s = v) (hown : OwnL w base v xs) (ad : Addr) (c : Nat) (hx : a.eval x = .slice (some ad) 1 c) (hr : w.cell? ad = some (.string p))
    (hroom : xs.length ≤ 3000000) (hbase : base ≤ w.heap.size)
    (h : ∀ v' w', OwnL w' base v' (xs ++ [p]) → Below base w w' → w.grownBy w' v.ownBlock → wpList Tryz.prog ops Q rest (a.put o.dst v') w') : wpList Tryz.prog ops Q (o :: rest) a w := by
  refine wpList_plain hgd fun K hK => ?_
  obtain ⟨i, hi, hz, hsize, hby⟩ := info_parts info_X
  obtain ⟨v', w', hrun, h3, h4, _, _⟩ := run_append_own_at (P := Tryz.prog) w base 40 o.type 9 i _ 1 16 Tryz.underlying40 hi hz hsize hby rfl (by omega) v xs.length (xs.map Value.string) hown ad 1 c [.string p]
      rfl (fun j u hj => by
        cases j with
        | zero =>
          have e : Value.string p = u := by simpa using hj
          subst e
          rw [show ad.add 0 = ad from by simp [Addr.add]]
          exact hr
        | succ j => simp at hj) (by intro u hu; rw [List.mem_singleton.1 hu]; rfl) (by unfold maxLen; omega) (by omega) hbase
  unfold Oper.wp execOp
  simp only [ho, resolve, invoke, builtin, Sem.run_bind, Sem.run_pure, Result.andThen_ok, List.map_toArray, List.map_cons, List.map_nil, hs, hx, hrun]
  refine hK _ _ (h v' w' ?_ ((Below.refl _ _).grown h4 hbase (fun k hk => (World.ownsRow.lt hown k hk).1)) h4)
  unfold OwnL
  rw [List.length_append, List.map_append]
  exact h3

theorem flatT_take : ∀ (zs : List Tn) (k : Nat), flatT (zs.take k) = (flatT zs).take (k * 2)
  | [], k => by simp [flatT]
  | x :: zs, 0 => by simp [flatT]
  | x :: zs, k + 1 => by
    have ih := flatT_take zs k
    rw [show (k + 1) * 2 = k * 2 + 1 + 1 from by omega]
    show Value.string x.1 :: Value.string x.2 :: flatT (zs.take k) = Value.string x.1 :: Value.string x.2 :: (flatT zs).take (k * 2)
    rw [ih]
theorem flatT_drop : ∀ (zs : List Tn) (k : Nat), flatT (zs.drop k) = (flatT zs).drop (k * 2)
  | [], k => by simp [flatT]
  | x :: zs, 0 => by simp [flatT]
  | x :: zs, k + 1 => by
    have ih := flatT_drop zs k
    rw [show (k + 1) * 2 = k * 2 + 1 + 1 from by omega]
    show flatT (zs.drop k) = (flatT zs).drop (k * 2)
    rw [ih]
theorem flatT_one (zs : List Tn) : ∀ u ∈ flatT zs, u.oneCell' = true := by
  intro u hu
  obtain ⟨x, _, hu⟩ := List.mem_flatMap.1 hu
  simp only [List.mem_cons, List.not_mem_nil, or_false] at hu
  rcases hu with rfl | rfl <;> rfl
theorem add_addT (a : Addr) (k j : Nat) : (a.add k).add j = a.add (k + j) := by
  unfold Addr.add
  by_cases h1 : k = 0
  · subst h1; simp
  · by_cases h2 : j = 0
    · subst h2; simp
    · simp [h1, h2, Nat.add_assoc]
theorem TnsAt.take {w : World} {A : Option Addr} {zs : List Tn} (h : TnsAt w A zs) (k : Nat) : TnsAt w A (zs.take k) := by
  intro j u hj
  rw [flatT_take, List.getElem?_take] at hj
  split at hj
  · exact h j u hj
  · cases hj
theorem TnsAt.nil (w : World) (A : Option Addr) : TnsAt w A [] := fun j u hj => by simp [flatT] at hj
theorem TnsAt.dropA {w : World} {L : Option Addr} {zs : List Tn} (h : TnsAt w L zs) (c k : Nat) (hc : zs.length ≤ c) (A : Option Addr) (hA : ∀ a, L = some a → A = if c = k then some a else some (a.add (k * 2))) : TnsAt w A (zs.drop k) := by
  by_cases hk : zs.length ≤ k
  · rw [List.drop_of_length_le hk]
    exact TnsAt.nil _ _
  · intro j u hj
    rw [flatT_drop, List.getElem?_drop] at hj
    obtain ⟨a, ha, hc2⟩ := h _ u hj
    refine ⟨a.add (k * 2), ?_, ?_⟩
    · rw [hA a ha, if_neg (by omega)]
    · rw [add_addT]
      exact hc2
set_option maxRecDepth 10000 in
theorem append_N (w : World) (ty : TypeId) (base : Nat) (v : Value) (xs ys : List Tn) (hown : OwnN w base v xs) (A : Option Addr) (m c : Nat) (hm : m = ys.length) (hr : TnsAt w A ys)
    (hroom : xs.length + ys.length ≤ 3000000) (hbase : base ≤ w.heap.size) :
    ∃ v' w', (Builtin.append_ #[78, 78] ty #[v, .slice A m c]).run Tryz.prog w = .ok v' w' ∧ OwnN w' base v' (xs ++ ys) ∧ w.grownBy w' v.ownBlock ∧ (v'.ownBlock = v.ownBlock ∨ v'.ownBlock = some w.heap.size) := by
  obtain ⟨i, hi, hz, hsize, hby⟩ := info_parts info_N
  cases A with
  | none =>
    have hy : ys = [] := by
      cases ys with
      | nil => rfl
      | cons y ys =>
        obtain ⟨a, ha, _⟩ := hr 0 _ rfl
        cases ha
    subst hy
    subst hm
    refine ⟨v, w, ?_, by simpa using hown, World.grownBy.refl _ _, Or.inl rfl⟩
    rcases hown.2 with ⟨rfl, _⟩ | ⟨g, cap, cur, rfl, _, _, hnc, _⟩
    · simp [Builtin.append_, run_underlying Tryz.underlying78, sizeOf, typeInfo, hi, Builtin.lenOf, Builtin.firstCells]
    · simp [Builtin.append_, run_underlying Tryz.underlying78, sizeOf, typeInfo, hi, Builtin.lenOf, Builtin.firstCells, hnc, storeCells]
  | some ad =>
    obtain ⟨v', w', h2, h3, h4, _, h5⟩ := run_append_own_at (P := Tryz.prog) w base 78 ty 27 i _ 2 32 Tryz.underlying78 hi hz hsize hby rfl (by omega) v xs.length (flatT xs) hown ad m c (flatT ys)
      (by rw [flatT_len, hm]) (fun j u hj => by obtain ⟨a, ha, hc⟩ := hr j u hj; injection ha with ha; subst ha; exact hc) (flatT_one ys) (by unfold maxLen; omega) (by omega) hbase
    refine ⟨v', w', h2, ?_, h4, h5⟩
    unfold OwnN
    rw [flatT_append, List.length_append, ← hm]
    exact h3
theorem OwnN.base_le {w : World} {base : Nat} {v : Value} {xs : List Tn} (h : OwnN w base v xs) (k : Nat) (hk : v.ownBlock = some k) : base ≤ k := (World.ownsRow.lt h k hk).1
theorem wp_append_N {ops : Array Oper} {rest : List Oper} {o : Oper} {a : Act} {Q : Exit → Act → World → Prop} (w : World) (hgd : o.guard = none) (s x : Operand)
    (ho : o.op = .call { callee := .builtin .append, args := #[s, x], argTypes := #[78, 78] })
    (base : Nat) (v : Value) (xs ys : List Tn) (hs : a.eval s = v) (hown : OwnN w base v xs) (A : Option Addr) (m c : Nat) (hx : a.eval x = .slice A m c) (hm : m = ys.length) (hr : TnsAt w A ys)
    (hroom : xs.length + ys.length ≤ 3000000) (hbase : base ≤ w.heap.size)
    (h : ∀ v' w', OwnN w' base v' (xs ++ ys) → Below base w w' → wpList Tryz.prog ops Q rest (a.put o.dst v') w') : wpList Tryz.prog ops Q (o :: rest) a w := by
  refine wpList_plain hgd fun K hK => ?_
  obtain ⟨v', w', hrun, h2, h3, _⟩ := append_N w o.type base v xs ys hown A m c hm hr hroom hbase
  unfold Oper.wp execOp
  simp only [ho, resolve, invoke, builtin, Sem.run_bind, Sem.run_pure, Result.andThen_ok, List.map_toArray, List.map_cons, List.map_nil, hs, hx, hrun]
  exact hK _ _ (h v' w' h2 ((Below.refl _ _).grown h3 hbase (fun k hk => hown.base_le k hk)))
theorem step_append_N {ops : Array Oper} {o : Oper} {a : Act} {K : Act → World → Prop} {Q : Exit → Act → World → Prop} {E : Prop} (w : World) (hgd : o.guard = none) (s x : Operand)
    (ho : o.op = .call { callee := .builtin .append, args := #[s, x], argTypes := #[78, 78] })
    (base : Nat) (v : Value) (xs ys : List Tn) (hs : a.eval s = v) (hown : OwnN w base v xs) (A : Option Addr) (m c : Nat) (hx : a.eval x = .slice A m c) (hm : m = ys.length) (hr : TnsAt w A ys)
    (hroom : xs.length + ys.length ≤ 3000000) (hbase : base ≤ w.heap.size)
    (h : ∀ v' w', OwnN w' base v' (xs ++ ys) → Below base w w' → K (a.put o.dst v') w') : if Region.wanted o (yielded ops a.tmps) = true then Oper.wp Tryz.prog o a w K Q else E := by
  rw [if_pos (by unfold Region.wanted; rw [hgd])]
  obtain ⟨v', w', hrun, h2, h3, _⟩ := append_N w o.type base v xs ys hown A m c hm hr hroom hbase
  unfold Oper.wp execOp
  simp only [ho, resolve, invoke, builtin, Sem.run_bind, Sem.run_pure, Result.andThen_ok, List.map_toArray, List.map_cons, List.map_nil, hs, hx, hrun]
  exact h v' w' h2 ((Below.refl _ _).grown h3 hbase (fun k hk => hown.base_le k hk))

set_option maxRecDepth 100000 in
set_option maxHeartbeats 4000000 in
theorem r_aboveT (q r : Nat) (v : Value) (L : List Tn) (n : ByteArray) (w : World) (hR : RefB w q r v L) (hl : L.length ≤ 1000) :
    Calls Tryz.prog 106 #[.pointer (some ⟨r, 0, none⟩), .string n] w fun e w' => ∃ u, e = .returned u ∧ OwnL w' w.heap.size u (chn L n) ∧ Below w.heap.size w w' := by
  have hrl := hR.lt
  obtain ⟨A, c, rfl, _, _, hat, hag⟩ := hR.2.slice
  have HAT := Lib.hid hat
  have HAG := Lib.hid hag
  have HR := Lib.hid hR
  clear hR hat hag
  go_enter Tryz.func106, Tryz.ntmps106
  go_wp2_with fail
  refine (r_findT q r _ L n w HR.out hl).mono ?_
  rintro e w1 ⟨rfl, hb1⟩
  have HB1 := Lib.hid hb1
  clear hb1
  go_wp2
  go_loopw [5, 6, 7] (fun u a i wr => ∃ (k : Nat) (acc : List ByteArray) (m : ByteArray), k ≤ L.length + 1 ∧ i = .int .i64 k ∧ a = .int .i64 (findR L m) ∧ acc.length ≤ k ∧ Hid (chn L n = acc ++ upK L (L.length + 1 - k) m) ∧ OwnL wr w.heap.size u acc ∧ Below w.heap.size w wr) (fun _ _ i _ => L.length + 1 - (intOf i).toNat)
  case atStart => exact ⟨0, [], n, Nat.zero_le _, rfl, rfl, Nat.le_refl _, Lib.hid rfl, OwnL.nil _ _, HB1.out⟩
  case round =>
    obtain ⟨k, acc, m, hk, rfl, rfl, hal, HC, hown, hb⟩ := hrel
    have HB := Lib.hid hb
    have HO := Lib.hid hown
    have HRR := Lib.hid (HR.out.below hb)
    have hat := HAT.out.below hb
    have c0 := cell_rowT wr r _ _ HRR.out.1
    have hsz : w.heap.size ≤ wr.heap.size := hb.size
    clear hb hown
    by_cases hk2 : k ≤ L.length
    · cases hf : findN L m with
      | none =>
        have hq : findR L m = -1 := by unfold findR; rw [hf]; rfl
        rw [hq]
        have HCC : Hid (chn L n = acc) := Lib.hid (by
          rw [HC.out, show L.length + 1 - k = (L.length - k) + 1 from by omega]
          unfold upK
          rw [hf, List.append_nil])
        clear hat hf hq
        go_wp2
        go_ret
        exact ⟨_, rfl, by rw [HCC.out]; exact HO.out, HB.out⟩
      | some x =>
        obtain ⟨x1, x2⟩ := x
        obtain ⟨hx, hxl⟩ := posT_at hf
        have hq : findR L m = (posT L m : Int) := by unfold findR; rw [hf]; rfl
        have hm1 : x1 = m := (findN_some hf).2
        rw [hq]
        obtain ⟨g, rfl⟩ := hat.head HAG.out (by omega)
        have HCC : Hid (chn L n = (acc ++ [m]) ++ upK L (L.length + 1 - (k + 1)) x2) := Lib.hid (by
          rw [HC.out, show L.length + 1 - k = (L.length + 1 - (k + 1)) + 1 from by omega]
          conv => lhs; unfold upK
          rw [hf]
          simp)
        generalize posT L m = p at *
        obtain ⟨c1, c2⟩ := hat.at p _ hx
        simp only at c1 c2
        have HXP := Lib.hid hx
        obtain ⟨A5, c5, rfl⟩ := HO.out.form
        subst hm1
        have hpi : (0 : Int) ≤ (p : Int) := by omega
        have hki : (k : Int) ≤ (L.length : Int) := by omega
        clear hat hf hq hx
        go_upto_region 7 with (at_builtin; go_must (refine wp_append_L2 _ rfl (.tmp 24) (.tmp 33) rfl w.heap.size _ acc x1 rfl (World.ownsRow.alloc HO.out _) ⟨wr.heap.size, 0, none⟩ 1 rfl (new_cellT _ _ _ 0) (by omega) (by simp; omega) ?_; intro v' w3 hown3 hb3 _))
        have HO3 := Lib.hid hown3
        have HB3 := Lib.hid (HB.out.trans (((one_new wr _).mono hsz).trans hb3))
        have HR3 := Lib.hid (HR.out.below HB3.out)
        have d0 := cell_rowT w3 r _ _ HR3.out.1
        obtain ⟨d1, d2⟩ : w3.cell? ⟨g, p * 2, none⟩ = some (.string x1) ∧ w3.cell? ⟨g, p * 2 + 1, none⟩ = some (.string x2) := by
          have h := (HAT.out.below HB3.out).at p _ HXP.out
          exact h
        clear hown3 hb3
        go_wp2_with fail
        refine (r_findT q r _ L x2 w3 HR3.out hl).mono ?_
        rintro e w4 ⟨rfl, hb4⟩
        have HB4 := Lib.hid (HB3.out.trans (hb4.mono HB3.out.size))
        have HO4 := Lib.hid (HO3.out.below hb4 (Nat.le_refl _))
        clear hb4
        go_wp2
        go_roundw
        case rel => exact ⟨k + 1, acc ++ [x1], x2, by omega, by go_num, rfl, by rw [List.length_append, List.length_singleton]; omega, HCC, HO4.out, HB4.out⟩
        case measure => simp [intOf]; omega
    · have hk3 : k = L.length + 1 := by omega
      subst hk3
      have HCC : Hid (chn L n = acc) := Lib.hid (by rw [HC.out, Nat.sub_self]; unfold upK; rw [List.append_nil])
      clear hat
      go_wp2
      go_ret
      exact ⟨_, rfl, by rw [HCC.out]; exact HO.out, HB.out⟩

set_option maxHeartbeats 1000000 in
theorem r_depthT (q r : Nat) (v : Value) (L : List Tn) (n : ByteArray) (w : World) (hR : RefB w q r v L) (hl : L.length ≤ 1000) :
    Calls Tryz.prog 67 #[.pointer (some ⟨r, 0, none⟩), .string n] w fun e w' => e = .returned (.int .i64 ((chn L n).length : Int)) ∧ Below w.heap.size w w' := by
  have HA := Lib.hid (r_aboveT q r v L n w hR hl)
  clear hR
  go_enter Tryz.func67, Tryz.ntmps67
  go_wp2_with fail
  refine HA.out.mono ?_
  rintro e w1 ⟨u, rfl, hown, hb⟩
  obtain ⟨A, c, rfl⟩ := hown.form
  have HB := Lib.hid hb
  clear hown hb
  go_wp2
  go_ret
  exact ⟨rfl, HB.out⟩

theorem hasX_take_succ (n : ByteArray) (C : List ByteArray) (j : Nat) (s : ByteArray) (hs : C[j]? = some s) : hasX n (C.take (j + 1)) = (hasX n (C.take j) || (s.toList == n.toList)) := by
  rw [List.take_add_one, hs]
  unfold hasX
  rw [List.any_append]
  simp
theorem hasX_nodup {C : List ByteArray} (hd : C.Nodup) (j : Nat) (n : ByteArray) (hs : C[j]? = some n) : hasX n (C.take j) = false := by
  cases h : hasX n (C.take j) with
  | false => rfl
  | true =>
    have h1 := hasX_iff.1 h
    obtain ⟨i, hi, he⟩ := List.mem_iff_getElem.1 h1
    rw [List.length_take] at hi
    rw [List.getElem_take] at he
    have hj := (List.getElem?_eq_some_iff.1 hs).1
    have he2 := (List.getElem?_eq_some_iff.1 hs).2
    exact absurd (by rw [he, he2]) (List.pairwise_iff_getElem.1 hd i j (by omega) hj (by omega))
theorem TxsAt.grown {w w' : World} {g : Nat} {ss : List ByteArray} {row : Option Nat} (h : TxsAt w (some ⟨g, 0, none⟩) ss) (hg : w.grownBy w' row) (hne : row ≠ some g) : TxsAt w' (some ⟨g, 0, none⟩) ss := by
  intro j s hj
  obtain ⟨a, ha, hc⟩ := h j s hj
  refine ⟨a, ha, ?_⟩
  have hb : (a.add j).block = g := by
    injection ha with ha
    subst ha
    unfold Addr.add
    split <;> rfl
  rw [← hc]
  exact World.cell?_of_block (w := w) (hg.block _ (World.block_lt_of_cell? w _ hc) (by rw [hb]; exact fun e => hne e.symm))

set_option maxRecDepth 100000 in
set_option maxHeartbeats 4000000 in
theorem r_underT (q r : Nat) (v : Value) (L : List Tn) (n : ByteArray) (w : World) (hR : RefB w q r v L) (hg : GoodT L) :
    Calls Tryz.prog 72 #[.pointer (some ⟨r, 0, none⟩), .string n] w fun e w' => ∃ u, e = .returned u ∧ OwnL w' w.heap.size u (underL L n) ∧ Below w.heap.size w w' := by
  have hrl := hR.lt
  have hfew := hg.few
  obtain ⟨A, c, rfl, _, _, hat, hag⟩ := hR.2.slice
  have HAT := Lib.hid hat
  have HAG := Lib.hid hag
  have HR := Lib.hid hR
  have HG := Lib.hid hg
  clear hR hat hag hg
  go_enter Tryz.func72, Tryz.ntmps72
  go_wp2
  go_loopw [5, 6] (fun u i wr => ∃ k : Nat, k ≤ L.length ∧ i = .int .i64 k ∧ OwnL wr w.heap.size u (underK L n k) ∧ Below w.heap.size w wr) (fun _ i _ => L.length - (intOf i).toNat)
  case atStart => exact ⟨0, Nat.zero_le _, rfl, OwnL.nil _ _, Below.refl _ _⟩
  case round =>
    obtain ⟨k, hk, rfl, hown, hb⟩ := hrel
    have HB := Lib.hid hb
    have HO := Lib.hid hown
    have HRR := Lib.hid (HR.out.below hb)
    have hat := HAT.out.below hb
    have c0 := cell_rowT wr r _ _ HRR.out.1
    have hsz : w.heap.size ≤ wr.heap.size := hb.size
    have hlen := underK_len L n k
    clear hb
    by_cases hlt : k < L.length
    · obtain ⟨g, rfl⟩ := hat.head HAG.out (by omega)
      obtain ⟨⟨x1, x2⟩, hx⟩ : ∃ x, L[k]? = some x := ⟨_, List.getElem?_eq_getElem hlt⟩
      obtain ⟨d0, d1⟩ := hat.at k _ hx
      simp only at d0 d1
      have HX := Lib.hid hx
      have HS : Hid (underK L n (k + 1) = if hasX n (chn L x1) = true then underK L n k ++ [x1] else underK L n k) := Lib.hid (underK_succ L n k _ hx)
      have hC5 := (HG.out.chain x1).2
      have hND := (HG.out.chain x1).1.nodup
      obtain ⟨u0, c0', hu0⟩ := hown.form
      clear hat hx hown
      go_wp2_with fail
      refine (r_aboveT q r _ L x1 wr HRR.out (by omega)).mono ?_
      rintro e w1 ⟨v1, rfl, hown1, hb1⟩
      generalize chn L x1 = C at *
      obtain ⟨U, cU, rfl, _, _, hatu, hagu⟩ := hown1.slice
      have HB1 := Lib.hid (HB.out.trans (hb1.mono hsz))
      have HO1 := Lib.hid (HO.out.below hb1 (Nat.le_refl _))
      have HU := Lib.hid hatu
      have HAU := Lib.hid hagu
      have HUB : Hid (∀ gu, U = some ⟨gu, 0, none⟩ → wr.heap.size ≤ gu) := Lib.hid (by
        intro gu hgu
        subst hgu
        exact (World.ownsRow.lt hown1 gu rfl).1)
      have hs1 := hb1.size
      have hu0l : ∀ b, (Value.slice u0 (underK L n k).length c0').ownBlock = some b → b < wr.heap.size := by
        intro b hbb
        rw [← hu0] at hbb
        exact (World.ownsRow.lt HO.out b hbb).2
      have HU0 := Lib.hid hu0l
      subst hu0
      have HND := Lib.hid hND
      clear hown1 hb1 hatu hagu hu0l hND
      go_wp2
      go_loopw [5, 8] (fun u i wj => ∃ j : Nat, j ≤ C.length ∧ i = .int .i64 j ∧ TxsAt wj U C ∧ OwnL wj w.heap.size u (underK L n k ++ if hasX n (C.take j) = true then [x1] else []) ∧ (hasX n (C.take j) = false → u = .slice u0 (underK L n k).length c0') ∧ Below w.heap.size w wj) (fun _ i _ => C.length - (intOf i).toNat)
      case atStart => exact ⟨0, Nat.zero_le _, rfl, HU.out, by simpa [hasX] using HO1.out, fun _ => rfl, HB1.out⟩
      case round =>
        obtain ⟨j, hj, rfl, hat, hown, hu, hb⟩ := hrel
        have HBJ := Lib.hid hb
        have HOJ := Lib.hid hown
        have HATJ := Lib.hid hat
        have HUU := Lib.hid hu
        by_cases hjl : j < C.length
        · obtain ⟨gu, rfl⟩ := hat.head HAU.out (by omega)
          obtain ⟨y, hy⟩ : ∃ y, C[j]? = some y := ⟨_, List.getElem?_eq_getElem hjl⟩
          have e0 := hat.at j _ hy
          have hts := hasX_take_succ n C j y hy
          have hrj := cell_rowT _ r _ _ (HR.out.below hb).1
          have htj := (HAT.out.below hb).at k _ HX.out
          obtain ⟨f0, f1⟩ := htj
          simp only at f0 f1
          have hsj := hb.size
          rcases Bool.eq_false_or_eq_true (y.toList == n.toList) with he | he
          · have hyn : y = n := toList_eqT.1 he
            have hno := hasX_nodup HND.out j n (by rw [hy, hyn])
            have hu2 := HUU.out hno
            rw [hno, he] at hts
            have HTS := Lib.hid hts
            have HOJ2 := Lib.hid (show OwnL _ w.heap.size _ (underK L n k) by have h := HOJ.out; rw [hno] at h; simpa using h)
            subst hu2
            clear hat hown hu hb hy hts hno HOJ HUU hyn
            go_wp2_with (at_builtin; go_must (refine wp_append_L2 _ rfl (.tmp 40) (.tmp 49) rfl w.heap.size _ (underK L n k) x1 rfl (World.ownsRow.alloc HOJ2.out _) ⟨wr.heap.size, 0, none⟩ 1 rfl (new_cellT _ _ _ 0) (by omega) (by simp; omega) ?_; intro v' w3 hown3 hb3 hg3))
            have HO3 := Lib.hid hown3
            have HB3 := Lib.hid (HBJ.out.trans (((one_new wr _).mono hsj).trans hb3))
            have HU3 := Lib.hid ((HATJ.out.below (one_new wr _)).grown hg3 (fun e => by have h1 := HU0.out _ e; have h2 := HUB.out _ rfl; omega))
            clear hown3 hb3 hg3
            go_wp2
            go_roundw
            case rel => exact ⟨j + 1, by omega, by go_num, HU3.out, by rw [HTS.out]; exact HO3.out, (fun h => by rw [HTS.out] at h; cases h), HB3.out⟩
            case measure => simp [intOf]; omega
          · rw [he, Bool.or_false] at hts
            have HTS := Lib.hid hts
            clear hat hown hu hb hy hts
            go_wp2
            go_roundw
            case rel => exact ⟨j + 1, by omega, by go_num, HATJ.out, by rw [HTS.out]; exact HOJ.out, by rw [HTS.out]; exact HUU.out, HBJ.out⟩
            case measure => simp [intOf]; omega
        · have hjc : j = C.length := by omega
          subst hjc
          have HOJ2 : Hid (OwnL _ w.heap.size _ (underK L n (k + 1))) := Lib.hid (by
            rw [HS.out]
            have h := HOJ.out
            rw [List.take_length] at h
            split
            · rename_i hh
              rw [if_pos hh] at h
              exact h
            · rename_i hh
              rw [if_neg hh, List.append_nil] at h
              exact h)
          clear hat hown hu hb HOJ
          go_wp2
          go_roundw
          case rel => exact ⟨k + 1, by omega, by go_num, HOJ2.out, HBJ.out⟩
          case measure => simp [intOf]; omega
    · have hkl : k = L.length := by omega
      subst hkl
      have HU := Lib.hid (underK_all L n)
      clear hat
      go_wp2
      go_ret
      exact ⟨_, rfl, by rw [← HU.out]; exact HO.out, HB.out⟩
end Go.Proofs.YtdhpoaecedpbdaaGreat
