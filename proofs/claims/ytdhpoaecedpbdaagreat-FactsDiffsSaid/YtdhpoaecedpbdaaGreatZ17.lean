/-
  The sort of tenants by their names, of the library at this program.
  Condition: no more than a thousand tenants; no two of one name.
  All tenants of the program's tree, by rising names; those under one; how high; moving and dropping.
  Condition: the tree is one that can be; names are no longer than texts can be.
  The rows of a list of tenants, of a list of objects: package facts' rowsOf.
  At every list of at most 1000.
  Rows of package facts at the relation of the tenants: their rows by rising names.
  At every tree of at most 1000.
-/
import Derived.Shelf.SlSortCmp.WholeK
import Derived.Test.YtdhpoaecedpbdaaGreatZ15
import Derived.Test.YtdhpoaecedpbdaaGreatZ16
import Derived.Test.YtdhpoaecedpbdaaGreatZ9
namespace Go.Proofs.YtdhpoaecedpbdaaGreat
section
open Go.RowKit Go.Maps Go.Shelf Go.Sort

set_option maxHeartbeats 400000 in
theorem s_ins0 (fv : Value) (w : World) : Calls Tryz.prog 154 #[.slice none 0 0, .int .i64 0, .int .i64 0, fv] w fun e w' => e = .returned (.tuple #[]) ∧ w = w' := by
  go_enter Tryz.func154, Tryz.ntmps154
  go_wp2
  refine wp_loop_rounds 1 ?_
  rw [rounds_succ]
  go_wp2
  (try simp only [Exit.inBlock, Exit.then]); refine bodyPost_end (results_none rfl _ _ _) rfl ?_
  exact ⟨rfl, rfl⟩
set_option maxHeartbeats 400000 in
theorem s_pdq0 (fv : Value) (k : Int) (w : World) : Calls Tryz.prog 135 #[.slice none 0 0, .int .i64 0, .int .i64 0, .int .i64 k, fv] w fun e w' => e = .returned (.tuple #[]) ∧ w = w' := by
  go_enter Tryz.func135, Tryz.ntmps135
  go_wp2
  refine wp_loop_rounds 1 ?_
  rw [rounds_succ]
  go_wp2_with fail
  refine (s_ins0 fv _).mono ?_
  rintro e w' ⟨rfl, rfl⟩
  go_wp2
  (try simp only [Exit.inBlock, Exit.then]); refine bodyPost_ret (results_none rfl _ _ _) rfl ?_
  exact ⟨rfl, rfl⟩
set_option maxHeartbeats 400000 in
theorem s_sort0 (fv : Value) (w : World) : Calls Tryz.prog 114 #[.slice none 0 0, fv] w fun e w' => e = .returned (.tuple #[]) ∧ w = w' := by
  have hl := Any.bits_Len (SlLaysF0.n15.bits (P := Tryz.prog) (ρ := Tryz.sortTn_ren) { Tryz.sortTn with }) 0 w (by omega) (by omega)
  change Calls Tryz.prog 118 _ _ _ at hl
  go_enter Tryz.func114, Tryz.ntmps114
  go_wp2_with fail
  refine hl.mono ?_
  rintro e w' ⟨rfl, rfl⟩
  go_wp2_with fail
  refine (s_pdq0 fv _ _).mono ?_
  rintro e w' ⟨rfl, rfl⟩
  go_wp2
  go_end0
  exact ⟨rfl, rfl⟩
theorem t_sort (L zs : List Tn) (w : World) (base : Nat) (v : Value) (hS : SrtT L) (ha : AnyT L zs) (ho : OwnN w base v zs) (hb : base ≤ w.heap.size) (hl : L.length ≤ 1000) :
    Calls Tryz.prog 114 #[v, .func (.func 84) #[] #[]] w fun e w' => e = .returned (.tuple #[]) ∧ OwnN w' base v L ∧ Below base w w' := by
  have hlen := ha.len hS
  have eg : ∀ args w, (callFunc 84 args).run Tryz.prog w = .ok (.enter 84 args) w := enters_of Tryz.func84 (by kernel_rfl) rfl
  rcases ho.2 with ⟨rfl, hz⟩ | ⟨g, cap, cur, rfl, hg, hgb, _⟩
  · have hL : L = [] := List.eq_nil_of_length_eq_zero (by omega)
    subst hL
    refine (s_sort0 _ w).mono ?_
    rintro e w' ⟨rfl, rfl⟩
    exact ⟨rfl, OwnN.nil _ _, Below.refl _ _⟩
  · obtain ⟨hH, hblk, hbg⟩ := holdsT ho
    refine (AnyQ.slices_SortFunc Tryz.sortTn 2 (fun w => by kernel_rfl) (fun w => by kernel_rfl) encT (fun _ => rfl) (fun x v hv => by simp [encT] at hv; rcases hv with rfl | rfl <;> rfl) cfT swoT 84 #[] g 0 cap zs.toArray w eg (fun _ _ _ _ x y => t_cmp x y _) hH hblk (by simp; omega)).mono ?_
    rintro e w' ⟨rfl, d', n, os, hp, hs, rfl⟩
    have hd := sorted_is hS ha hp hs
    subst hd
    have hz : L.length = zs.length := hlen.symm
    exact ⟨rfl, ownT_sorted ho hz, (Below.refl _ _).grown (grownBy_sortedT _) hb (fun k e => by injection e with e; omega)⟩
end
end Go.Proofs.YtdhpoaecedpbdaaGreat
namespace Go.Proofs.YtdhpoaecedpbdaaGreat
section
open Go.RowKit Go.Maps Go.Shelf

set_option maxHeartbeats 1000000 in
theorem t_sortedF (Bm b nn : Nat) (D : DataW Value) (L : List Tn) (w : World) (hBm : Bm < w.heap.size) (hm : w.cell? ⟨Bm, 0, none⟩ = some (.map (some b))) (hown : w.ownsMap Tryz.prog 9 RpT b nn D) (hR : RelT D L) (hS : SrtT L) (hy : L.length ≤ 1000) :
    Calls Tryz.prog 82 #[.func (.func 115) #[] #[.pointer (some ⟨Bm, 0, none⟩)], .func (.func 84) #[] #[]] w fun e w' => ∃ v, e = .returned v ∧ OwnN w' w.heap.size v L ∧ Below w.heap.size w w' := by
  have HA := Lib.hid (t_collectN Bm b nn D L w hBm hm hown hR hy)
  have HS := Lib.hid hS
  clear hown hR hm hS
  go_enter Tryz.func82, Tryz.ntmps82
  go_wp2_with fail
  refine HA.out.mono ?_
  rintro e w1 ⟨v, zs, rfl, hany, hown, hb⟩
  have HO := Lib.hid (t_sort L zs w1 w.heap.size v HS.out hany hown hb.size hy)
  have HB := Lib.hid hb
  clear hown hb hany
  go_wp2_with fail
  refine HO.out.mono ?_
  rintro e w2 ⟨rfl, hown2, hb2⟩
  have HO2 := Lib.hid hown2
  have HB2 := Lib.hid (HB.out.trans hb2)
  clear hown2 hb2
  go_wp2
  go_ret
  exact ⟨v, rfl, HO2.out, HB2.out⟩
set_option maxHeartbeats 1000000 in
theorem t_all (t b : Nat) (D : DataW Value) (L : List Tn) (w : World) (hT : TreeB w t b D L) (hS : SrtT L) (hy : L.length ≤ 1000) :
    Calls Tryz.prog 43 #[.pointer (some ⟨t, 0, none⟩)] w fun e w' => ∃ v, e = .returned v ∧ OwnN w' w.heap.size v L ∧ Below w.heap.size w w' := by
  obtain ⟨h1, h2, h3, h4, h5, h6⟩ := hT
  have c0 := cell_rowT w t _ _ h1
  have hb := one_new w (.cells #[.map (some b)] 104)
  have HA := Lib.hid (t_sortedF w.heap.size b L.length D L (w.alloc (.cells #[.map (some b)] 104)) (by simp) (new_cellT _ _ _ 0) (ownsMapT_block h2 (hb.block b h6)) h3 hS hy)
  have HB := Lib.hid hb
  clear h1 h2 h3 hb
  go_enter Tryz.func43, Tryz.ntmps43
  go_wp2_with fail
  refine (t_vals b _).mono ?_
  rintro e w1 ⟨rfl, rfl⟩
  go_wp2_with fail
  refine HA.out.mono ?_
  rintro e w2 ⟨v, rfl, hown, hb2⟩
  have HO := Lib.hid (OwnN.lower (b2 := w.heap.size) hown (by simp))
  have HB2 := Lib.hid (HB.out.trans (hb2.mono (by simp)))
  clear hown hb2
  go_wp2
  go_ret
  exact ⟨v, rfl, HO.out, HB2.out⟩
/-- Tenants lie at A, cell by cell. -/
def TnsAt (w : World) (A : Option Addr) (zs : List Tn) : Prop := ∀ (j : Nat) (u : Value), (flatT zs)[j]? = some u → ∃ a : Addr, A = some a ∧ w.cell? (a.add j) = some u
theorem TnsAt.below {w w' : World} {A : Option Addr} {zs : List Tn} (h : TnsAt w A zs) (hb : Below w.heap.size w w') : TnsAt w' A zs := by
  intro j u hj
  obtain ⟨a, ha, hc⟩ := h j u hj
  exact ⟨a, ha, (hb.cell (World.block_lt_of_cell? w _ hc)).trans hc⟩
theorem OwnN.slice {w : World} {base : Nat} {v : Value} {zs : List Tn} (h : OwnN w base v zs) : ∃ A c, v = .slice A zs.length c ∧ (A = none → c = 0) ∧ zs.length ≤ c ∧ TnsAt w A zs ∧ ∀ a, A = some a → ∃ g, a = ⟨g, 0, none⟩ := by
  rcases h.2 with ⟨rfl, hn⟩ | ⟨g, cap, cur, rfl, hb, hg, hcap, _⟩
  · refine ⟨none, 0, by rw [hn], fun _ => rfl, by omega, fun j u hj => ?_, fun a h => by cases h⟩
    have h1 := (List.getElem?_eq_some_iff.1 hj).1
    rw [flatT_len] at h1
    omega
  · exact ⟨_, _, rfl, fun h => by simp at h, hcap, fun j u hj => ⟨_, rfl, World.ownsRow.cells h (g := g) rfl _ _ hj⟩, fun a h => by cases h; exact ⟨_, rfl⟩⟩
theorem TnsAt.head {w : World} {A : Option Addr} {zs : List Tn} (h : TnsAt w A zs) (hag : ∀ a, A = some a → ∃ g, a = ⟨g, 0, none⟩) (hne : 0 < zs.length) : ∃ g, A = some ⟨g, 0, none⟩ := by
  obtain ⟨u, hu⟩ : ∃ u, (flatT zs)[0]? = some u := ⟨_, List.getElem?_eq_getElem (by rw [flatT_len]; omega)⟩
  obtain ⟨a, ha, _⟩ := h 0 u hu
  obtain ⟨g, rfl⟩ := hag a ha
  exact ⟨g, ha⟩
theorem TnsAt.at {w : World} {g : Nat} {zs : List Tn} (h : TnsAt w (some ⟨g, 0, none⟩) zs) (i : Nat) (x : Tn) (hx : zs[i]? = some x) : w.cell? ⟨g, i * 2, none⟩ = some (.string x.1) ∧ w.cell? ⟨g, i * 2 + 1, none⟩ = some (.string x.2) := by
  have key : ∀ r u, (encT x)[r]? = some u → r < 2 → w.cell? ⟨g, i * 2 + r, none⟩ = some u := by
    intro r u hu hr
    obtain ⟨a, ha, hc⟩ := h (i * 2 + r) u (by rw [flatT_at, show (i * 2 + r) / 2 = i from by omega, hx, show (i * 2 + r) % 2 = r from by omega]; exact hu)
    injection ha with ha
    subst ha
    have e : (⟨g, 0, none⟩ : Addr).add (i * 2 + r) = ⟨g, i * 2 + r, none⟩ := by unfold Addr.add; split <;> simp_all
    rw [e] at hc
    exact hc
  exact ⟨key 0 _ rfl (by omega), key 1 _ rfl (by omega)⟩
/-- Texts lie at A. -/
def TxsAt (w : World) (A : Option Addr) (ss : List ByteArray) : Prop := ∀ (j : Nat) (s : ByteArray), ss[j]? = some s → ∃ a : Addr, A = some a ∧ w.cell? (a.add j) = some (.string s)
theorem TxsAt.below {w w' : World} {A : Option Addr} {ss : List ByteArray} (h : TxsAt w A ss) (hb : Below w.heap.size w w') : TxsAt w' A ss := by
  intro j u hj
  obtain ⟨a, ha, hc⟩ := h j u hj
  exact ⟨a, ha, (hb.cell (World.block_lt_of_cell? w _ hc)).trans hc⟩
theorem OwnL.slice {w : World} {base : Nat} {v : Value} {ss : List ByteArray} (h : OwnL w base v ss) : ∃ A c, v = .slice A ss.length c ∧ (A = none → c = 0) ∧ ss.length ≤ c ∧ TxsAt w A ss ∧ ∀ a, A = some a → ∃ g, a = ⟨g, 0, none⟩ := by
  rcases h.2 with ⟨rfl, hn⟩ | ⟨g, cap, cur, rfl, hb, hg, hcap, _⟩
  · refine ⟨none, 0, by rw [hn], fun _ => rfl, by omega, fun j u hj => ?_, fun a h => by cases h⟩
    have h1 := (List.getElem?_eq_some_iff.1 hj).1
    omega
  · exact ⟨_, _, rfl, fun h => by simp at h, hcap, fun j s hj => ⟨_, rfl, World.ownsRow.cells h (g := g) rfl _ _ (by rw [List.getElem?_map, hj]; rfl)⟩, fun a h => by cases h; exact ⟨_, rfl⟩⟩
theorem TxsAt.head {w : World} {A : Option Addr} {ss : List ByteArray} (h : TxsAt w A ss) (hag : ∀ a, A = some a → ∃ g, a = ⟨g, 0, none⟩) (hne : 0 < ss.length) : ∃ g, A = some ⟨g, 0, none⟩ := by
  obtain ⟨a, ha, _⟩ := h 0 _ (List.getElem?_eq_getElem hne)
  obtain ⟨g, rfl⟩ := hag a ha
  exact ⟨g, ha⟩
theorem TxsAt.at {w : World} {g : Nat} {ss : List ByteArray} (h : TxsAt w (some ⟨g, 0, none⟩) ss) (i : Nat) (s : ByteArray) (hx : ss[i]? = some s) : w.cell? ⟨g, i, none⟩ = some (.string s) := by
  obtain ⟨a, ha, hc⟩ := h i s hx
  injection ha with ha
  subst ha
  have e : (⟨g, 0, none⟩ : Addr).add i = ⟨g, i, none⟩ := by unfold Addr.add; split <;> simp_all
  rw [e] at hc
  exact hc
theorem OwnN.below {w w' : World} {base B : Nat} {v : Value} {zs : List Tn} (h : OwnN w base v zs) (hb : Below B w w') (hB : w.heap.size ≤ B) : OwnN w' base v zs := by
  refine ⟨h.1, ?_⟩
  rcases h.2 with hn | ⟨g, cap, cur, hv, hg, hh, r⟩
  · exact Or.inl hn
  · have hlt : g < w.heap.size := (Array.getElem?_eq_some_iff.1 hh).1
    exact Or.inr ⟨g, cap, cur, hv, hg, (hb.block g (by omega)).trans hh, r⟩
theorem OwnL.below {w w' : World} {base B : Nat} {v : Value} {zs : List ByteArray} (h : OwnL w base v zs) (hb : Below B w w') (hB : w.heap.size ≤ B) : OwnL w' base v zs := by
  refine ⟨h.1, ?_⟩
  rcases h.2 with hn | ⟨g, cap, cur, hv, hg, hh, r⟩
  · exact Or.inl hn
  · have hlt : g < w.heap.size := (Array.getElem?_eq_some_iff.1 hh).1
    exact Or.inr ⟨g, cap, cur, hv, hg, (hb.block g (by omega)).trans hh, r⟩

theorem wp_append_L {ops : Array Oper} {rest : List Oper} {o : Oper} {a : Act} {Q : Exit → Act → World → Prop} (w : World) (hgd : o.guard = none) (s x : Operand)
    (ho : o.op = .call { callee := .builtin .append, args := #[s, x], argTypes := #[40, 40] })
    (base : Nat) (v : Value) (xs : List ByteArray) (p : ByteArray) (hs : a.eval s = v) (hown : OwnL w base v xs) (ad : Addr) (c : Nat) (hx : a.eval x = .slice (some ad) 1 c) (hr : w.cell? ad = some (.string p))
    (hroom : xs.length ≤ 3000000) (hbase : base ≤ w.heap.size)
    (h : ∀ v' w', OwnL w' base v' (xs ++ [p]) → Below base w w' → wpList Tryz.prog ops Q rest (a.put o.dst v') w') : wpList Tryz.prog ops Q (o :: rest) a w := by
  refine wpList_plain hgd fun K hK => ?_
  obtain ⟨i, hi, hz, hsize, hby⟩ := info_parts info_X
  obtain ⟨v', w', hrun, h3, h4, _, _⟩ := run_append_own_at (P := Tryz.prog) w base 40 o.type 9 i _ 1 16 Tryz.underlying40 hi hz hsize hby rfl (by omega) v xs.length (xs.map Value.string) hown ad 1 c [.string p]
      rfl (fun j u hj => by
        cases j with
        | zero =>
          have e : Value.string p = u := by simpa using hj
          subst e
          rw [show ad.add 0 = ad from by simp [Addr.add]]
          exact hr
        | succ j => simp at hj) (by intro u hu; rw [List.mem_singleton.1 hu]; rfl) (by unfold maxLen; omega) (by omega) hbase
  unfold Oper.wp execOp
  simp only [ho, resolve, invoke, builtin, Sem.run_bind, Sem.run_pure, Result.andThen_ok, List.map_toArray, List.map_cons, List.map_nil, hs, hx, hrun]
  refine hK _ _ (h v' w' ?_ ((Below.refl _ _).grown h4 hbase (fun k hk => (World.ownsRow.lt hown k hk).1)))
  unfold OwnL
  rw [List.length_append, List.map_append]
  exact h3

/-- What is under one among the first tenants. -/
def underK (L : List Tn) (n : ByteArray) (k : Nat) : List ByteArray := ((L.take k).filter fun x => hasX n (chn L x.1)).map (·.1)
theorem underK_succ (L : List Tn) (n : ByteArray) (k : Nat) (x : Tn) (hx : L[k]? = some x) : underK L n (k + 1) = if hasX n (chn L x.1) = true then underK L n k ++ [x.1] else underK L n k := by
  unfold underK
  rw [List.take_add_one, hx, List.filter_append, List.map_append]
  cases h : hasX n (chn L x.1) <;> simp [h]
theorem underK_all (L : List Tn) (n : ByteArray) : underK L n L.length = underL L n := by unfold underK underL; rw [List.take_length]
theorem underK_len (L : List Tn) (n : ByteArray) (k : Nat) : (underK L n k).length ≤ L.length := by
  unfold underK
  rw [List.length_map]
  exact Nat.le_trans (List.length_filter_le _ _) (by rw [List.length_take]; omega)

set_option maxRecDepth 100000 in
set_option maxHeartbeats 4000000 in
/-- Under: it, and those under it. -/
theorem t_under (t b : Nat) (D : DataW Value) (L : List Tn) (w : World) (n : ByteArray) (hT : TreeB w t b D L) (hg : GoodT L) (_hn : n.size ≤ maxLen) :
    Calls Tryz.prog 73 #[.pointer (some ⟨t, 0, none⟩), .string n] w fun e w' => ∃ v, e = .returned v ∧ OwnL w' w.heap.size v (underL L n) ∧ Below w.heap.size w w' := by
  have hfew := hg.few
  have HA := Lib.hid (t_all t b D L w hT hg.srt (by omega))
  have HT := Lib.hid hT
  have HG := Lib.hid hg
  clear hT hg
  go_enter Tryz.func73, Tryz.ntmps73
  go_wp2_with fail
  refine HA.out.mono ?_
  rintro e w1 ⟨v, rfl, hown, hb1⟩
  obtain ⟨A, c, rfl, _, _, hat, hag⟩ := hown.slice
  have HAT := Lib.hid hat
  have HAG := Lib.hid hag
  have HB1 := Lib.hid hb1
  clear hown hb1 hat hag
  go_wp2
  go_loopw [5, 11] (fun v i wr => ∃ k : Nat, k ≤ L.length ∧ i = .int .i64 k ∧ OwnL wr w1.heap.size v (underK L n k) ∧ Below w1.heap.size w1 wr) (fun _ i _ => L.length - (intOf i).toNat)
  case atStart => exact ⟨0, Nat.zero_le _, rfl, OwnL.nil _ _, Below.refl _ _⟩
  case round =>
    obtain ⟨k, hk, rfl, hown, hb⟩ := hrel
    have HO := Lib.hid hown
    have HB := Lib.hid hb
    have hat := HAT.out.below hb
    have hlen := underK_len L n k
    clear hb
    by_cases hlt : k < L.length
    · obtain ⟨g, rfl⟩ := hat.head HAG.out (by omega)
      obtain ⟨⟨x1, x2⟩, hx⟩ : ∃ x, L[k]? = some x := ⟨_, List.getElem?_eq_getElem hlt⟩
      obtain ⟨c0, c1⟩ := hat.at k _ hx
      have hmem : (x1, x2) ∈ L := List.mem_of_getElem? hx
      have hs := underK_succ L n k _ hx
      have hba := one_new wr (.cells #[.string x1, .string x2] 27)
      have hbw := HB.out.trans (hba.mono HB.out.size)
      have n0 := new_cellT wr #[.string x1, .string x2] 27 0
      have HC := Lib.hid (t_isUnder t b D L (wr.alloc (.cells #[.string x1, .string x2] 27)) x1 n (chn L x1) (HG.out.chain x1).1 (HT.out.below (HB1.out.trans (hbw.mono HB1.out.size))) (fun y hy => by have := HG.out.par y hy; unfold maxLen; omega) (by have := nameR_short (HG.out.nam _ hmem); unfold maxLen; simp only at this; omega))
      have HO1 := Lib.hid (HO.out.below hba (Nat.le_refl _))
      have HBW := Lib.hid hbw
      have N0 := Lib.hid n0
      clear hat hx hmem hba hbw n0
      go_wp2_with fail
      refine HC.out.mono ?_
      rintro e w2 ⟨rfl, hb2⟩
      have HB2 := Lib.hid (HBW.out.trans (hb2.mono HBW.out.size))
      have HO2 := Lib.hid (HO1.out.below hb2 (Nat.le_refl _))
      have n2 := (hb2.cell (p := ⟨wr.heap.size, 0, none⟩) (by simp)).trans N0.out
      clear hb2
      rcases Bool.eq_false_or_eq_true (hasX n (chn L x1)) with hh | hh
      · rw [hh] at hs ⊢
        have HS := Lib.hid hs
        clear hs hh
        obtain ⟨A2, c2, rfl⟩ := hown.form
        clear hown
        go_wp2_with (at_builtin; go_must (refine wp_append_L _ rfl (.tmp 20) (.tmp 23) rfl w1.heap.size _ (underK L n k) x1 rfl (World.ownsRow.alloc HO2.out _) ⟨w2.heap.size, 0, none⟩ 1 rfl (new_cellT _ _ _ 0) (by omega) (by have := HB2.out.size; simp; omega) ?_; intro v' w3 hown3 hb3))
        have HO3 := Lib.hid hown3
        have HB3 := Lib.hid (HB2.out.trans (((one_new w2 _).mono HB2.out.size).trans hb3))
        clear hown3 hb3
        go_wp2
        go_roundw
        case rel => exact ⟨k + 1, by omega, by go_num, by rw [HS.out]; exact HO3.out, HB3.out⟩
        case measure => simp [intOf]; omega
      · rw [hh] at hs ⊢
        have HS := Lib.hid hs
        clear hs hh
        go_wp2
        go_roundw
        case rel => exact ⟨k + 1, by omega, by go_num, by rw [HS.out]; exact HO2.out, HB2.out⟩
        case measure => simp [intOf]; omega
    · have hkl : k = L.length := by omega
      subst hkl
      have HU := Lib.hid (underK_all L n)
      go_wp2
      go_ret
      exact ⟨_, rfl, by rw [← HU.out]; exact OwnL.lower HO.out HB1.out.size, HB1.out.trans (HB.out.mono HB1.out.size)⟩
end
end Go.Proofs.YtdhpoaecedpbdaaGreat
namespace Go.Proofs.YtdhpoaecedpbdaaGreat
section
open Go.RowKit

def rowT (x : Tn) : List V := [txV x.1, txV x.2]
theorem TnsAt.get2 {w : World} {A : Option Addr} {zs : List Tn} (h : TnsAt w A zs) (k : Nat) (x : Tn) (hx : zs[k]? = some x) : ∃ a : Addr, A = some a ∧ w.cell? (a.add (k * 2)) = some (.string x.1) ∧ w.cell? { block := (a.add (k * 2)).block, off := (a.add (k * 2)).off + 1 } = some (.string x.2) := by
  have key : ∀ (zs : List Tn) (k : Nat), zs[k]? = some x → (flatT zs)[k * 2]? = some (.string x.1) ∧ (flatT zs)[k * 2 + 1]? = some (.string x.2) := by
    intro zs
    induction zs with
    | nil => intro k h; simp at h
    | cons z zs ih =>
      intro k h
      match k, h with
      | 0, h =>
        have e : z = x := by simpa using h
        subst e
        exact ⟨rfl, rfl⟩
      | k + 1, h =>
        have h2 := ih k (by simpa using h)
        rw [show (k + 1) * 2 = k * 2 + 2 from by omega]
        exact h2
  obtain ⟨h1, h2⟩ := key zs k hx
  obtain ⟨a, ha, c1⟩ := h _ _ h1
  obtain ⟨b, hb, c2⟩ := h _ _ h2
  rw [ha] at hb
  injection hb with hb
  subst hb
  refine ⟨a, ha, c1, ?_⟩
  have e : ({ block := (a.add (k * 2)).block, off := (a.add (k * 2)).off + 1 } : Addr) = a.add (k * 2 + 1) := add_off a (k * 2) 1 (by omega)
  rw [e]
  exact c2

set_option maxRecDepth 100000 in
set_option maxHeartbeats 4000000 in
theorem f_rowsT (A : Option Addr) (n c : Nat) (L : List Tn) (w : World) (hn : L.length = n) (hl : n ≤ 1000) (hA : TnsAt w A L) :
    Calls Tryz.prog 42 #[.func (.func 15) #[] #[], .slice A n c] w fun e w' => ∃ v us, e = .returned v ∧ OwnG w' w.heap.size v us ∧ RwsQ w' (fun _ => True) us (L.map rowT) ∧ Below w.heap.size w w' := by
  have HA := Lib.hid hA
  have HN := Lib.hid hn
  clear hA hn
  go_enter Tryz.func42, Tryz.ntmps42
  go_wp2_with (at_make; go_must (refine wp_make_L _ rfl _ _ rfl w.heap.size n rfl rfl (by omega) (Nat.le_refl _) ?_; intro v3 w3 hown3 hb3; have HO3 := Lib.hid hown3; have HB3 := Lib.hid hb3; clear hown3 hb3))
  go_loopw [5, 13] (fun v i wr => ∃ (k : Nat) (us : List Value), k ≤ n ∧ i = .int .i64 k ∧ OwnG wr w.heap.size v us ∧ RwsQ wr (fun j => some j ≠ v.ownBlock) us ((L.take k).map rowT) ∧ Below w.heap.size w wr) (fun _ i _ => n - (intOf i).toNat)
  case atStart => exact ⟨0, [], Nat.zero_le _, rfl, HO3.out, trivial, HB3.out⟩
  case round =>
    obtain ⟨k, us, hk, rfl, hown, hen, hb⟩ := hrel
    have HO := Lib.hid hown
    have HEN := Lib.hid hen
    have HB := Lib.hid hb
    have hsz := hb.size
    have hul : us.length ≤ k := by
      rw [hen.len, List.length_map]
      exact List.length_take_le _ _
    clear hown hen
    by_cases h1 : k < n
    · obtain ⟨⟨xa, xb⟩, hx⟩ : ∃ x, L[k]? = some x := ⟨_, List.getElem?_eq_getElem (by rw [HN.out]; exact h1)⟩
      obtain ⟨a, rfl, c0, c1⟩ := (HA.out.below hb).get2 k _ hx
      have htk : (L.take (k + 1)).map rowT = (L.take k).map rowT ++ [[txV xa, txV xb]] := by
        rw [List.take_add_one, hx]
        simp [rowT]
      have HTK := Lib.hid htk
      have HFT := Lib.hid (fun W => f_tenant xa xb W)
      dsimp only at c0 c1
      clear hx htk hb
      go_wp2_with fail
      refine (HFT.out _).mono ?_
      rintro e w6 ⟨uv, rfl, hown6, hb6⟩
      have hb6' : Below wr.heap.size wr w6 := (one_new wr _).trans (hb6.mono (by simp))
      have hs6 := hb6'.size
      have hu := IsRw.own (Q := fun k => wr.heap.size ≤ k) hown6 (by simp) (fun k hk => by simp at hk; omega)
      have HU := Lib.hid hu
      have HB6 := Lib.hid hb6'
      have HO6 := Lib.hid (HO.out.below hb6')
      obtain ⟨A9, c9, rfl⟩ : ∃ A9 c9, uv = .slice A9 2 c9 := by
        obtain ⟨_, A9, c9, e, _⟩ := hu
        exact ⟨A9, c9, e⟩
      clear hown6 hb6 hb6' hu
      go_wp2_with (at_builtin; go_must (refine wp_append_G _ rfl (.tmp 17) (.tmp 21) rfl w.heap.size _ us [Value.slice A9 2 c9] rfl (HO6.out.alloc _) _ 1 _ rfl rfl (lit_S w6 _ _) (by simp [Value.oneCell']) (by simp; omega) (by simp; omega) ?_; intro v7 w7 hown7 hb7 hg7 hor7))
      have hrw7 := rw_next HO.out HB6.out HEN.out HU.out rfl hg7 hor7
      have hb7' : Below w.heap.size wr w7 := (HB6.out.mono hsz).trans (((one_new w6 _).mono (Nat.le_trans hsz hs6)).trans hb7)
      go_roundw
      case rel => exact ⟨k + 1, us ++ [Value.slice A9 2 c9], by omega, by go_num, hown7, by rw [HTK.out]; exact hrw7, HB.out.trans hb7'⟩
      case measure => simp [intOf]; omega
    · obtain rfl : k = n := by omega
      have e : L.take k = L := List.take_of_length_le (by have := HN.out; omega)
      rw [e] at HEN
      have HR := Lib.hid (HEN.out.imp (Q' := fun _ => True) (fun _ _ _ => trivial))
      clear hb
      go_wp2
      go_ret
      exact ⟨_, us, rfl, HO.out, HR.out, HB.out⟩
end
end Go.Proofs.YtdhpoaecedpbdaaGreat
namespace Go.Proofs.YtdhpoaecedpbdaaGreat
section
open Go.RowKit

/-- The relation of the tenants. -/
def tenB : ByteArray := ⟨#[116, 101, 110, 97, 110, 116]⟩

set_option maxRecDepth 100000 in
set_option maxHeartbeats 2000000 in
theorem f_relT (s : Option Addr) (t b : Nat) (D : DataW Value) (L : List Tn) (w : World) (hT : TreeB w t b D L) (hS : SrtT L) (hy : L.length ≤ 1000) :
    Calls Tryz.prog 10 #[.pointer s, .pointer (some ⟨t, 0, none⟩), .string tenB] w fun e w' => ∃ v us, e = .returned v ∧ OwnG w' w.heap.size v us ∧ RwsQ w' (fun _ => True) us (L.map rowT) ∧ Below w.heap.size w w' := by
  have HAL := Lib.hid (t_all t b D L w hT hS hy)
  clear hT hS
  unfold tenB
  go_enter Tryz.func10, Tryz.ntmps10
  go_wp2_with fail
  refine HAL.out.mono ?_
  rintro e w1 ⟨v1, rfl, ho1, hb1⟩
  obtain ⟨A, c, rfl, -, -, hA, -⟩ := ho1.slice
  have HB1 := Lib.hid hb1
  obtain ⟨n, hn⟩ : ∃ n, L.length = n := ⟨_, rfl⟩
  have HRW := Lib.hid (f_rowsT A n c L w1 hn (by omega) hA)
  rw [hn]
  clear ho1 hA hb1 HAL hn
  go_wp2_with fail
  refine HRW.out.mono ?_
  rintro e w2 ⟨v2, us, rfl, ho2, hr2, hb2⟩
  have HO2 := Lib.hid (ho2.lower HB1.out.size)
  have HR2 := Lib.hid hr2
  have HB2 := Lib.hid (HB1.out.trans (hb2.mono HB1.out.size))
  clear ho2 hr2 hb2
  go_wp2
  go_ret
  exact ⟨v2, us, rfl, HO2.out, HR2.out, HB2.out⟩
end
end Go.Proofs.YtdhpoaecedpbdaaGreat
