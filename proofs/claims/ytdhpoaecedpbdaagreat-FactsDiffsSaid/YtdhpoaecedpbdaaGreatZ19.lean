/-
  Columns of package schema answers the columns of a relation, at every set and relation; nothing that was there is changed.
  No condition but that a list has no more than a million.
  fits, Fits and Find of package schema: whether a cell, and a row of cells, may be those of an object of a kind; nothing that was there is changed.
  No condition but that a list has no more than a million.
  Find of the document's schema: a kind of a list, by its name; nothing that was there is changed.
  No condition but that a list has no more than a million.
-/
import Derived.Deep.RegionLaw
import Derived.Test.YtdhpoaecedpbdaaGreatZ18
namespace Go.Proofs.YtdhpoaecedpbdaaGreat
section
open Go.RowKit

def spaceB : ByteArray := ⟨#[115, 112, 97, 99, 101]⟩
def nameB : ByteArray := ⟨#[110, 97, 109, 101]⟩
def parentB : ByteArray := ⟨#[112, 97, 114, 101, 110, 116]⟩
/-- The columns of a relation. -/
def colsOf (l : List Sc) (rel : ByteArray) : Option (List Co) :=
  if sameNm rel tenantB = true then some [textC nameB, textC parentB] else (findS l rel).map fun x => [textC spaceB, textC nameB] ++ x.cols
/-- What Columns answers. -/
def ColsIs (w : World) (o : Option (List Co)) (e : Ending) (w' : World) : Prop :=
  Below w.heap.size w w' ∧ match o with
  | some cs => ∃ v, e = .returned (.tuple #[v, .int .i64 0]) ∧ IsCols w' (Behind w) v cs
  | none => e = .returned (.tuple #[.slice none 0 0, .int .i64 20])

theorem txt_lit2 (w : World) (a b : ByteArray) : TextsAt (w.alloc (.cells #[.string a, .string b] 9)) (fun _ => True) (some ⟨w.heap.size, 0, none⟩) [a, b] := by
  intro j u hj
  refine ⟨_, rfl, trivial, ?_⟩
  rw [show ((⟨w.heap.size, 0, none⟩ : Addr).add j) = ⟨w.heap.size, j, none⟩ from by unfold Addr.add; split <;> simp_all, alloc_new_cells]
  simpa using hj

theorem TextsAt.drew {w : World} {Q : Nat → Prop} {A : Option Addr} {ts : List ByteArray} (h : TextsAt w Q A ts) : TextsAt w.drew Q A ts := h
theorem below_of_drew {w w' : World} (h : Below w.drew.heap.size w.drew w') : Below w.heap.size w w' := (Below.drew (Below.refl _ _)).trans h
theorem step_append_C {ops : Array Oper} {o : Oper} {a : Act} {K : Act → World → Prop} {Q : Exit → Act → World → Prop} {E : Prop} (w : World) (hgd : o.guard = none) (s x : Operand)
    (ho : o.op = .call { callee := .builtin .append, args := #[s, x], argTypes := #[124, 124] })
    (base : Nat) (v : Value) (xs ys : List Co) (hs : a.eval s = v) (hown : OwnC w base v xs) (A : Option Addr) (m c : Nat) (hx : a.eval x = .slice A m c) (hm : m = ys.length) (R : Nat → Prop) (hr : CellsQ w R A (flatC ys))
    (hroom : xs.length + ys.length ≤ 3000000) (hbase : base ≤ w.heap.size)
    (h : ∀ v' w', OwnC w' base v' (xs ++ ys) → Below base w w' → w.grownBy w' v.ownBlock → K (a.put o.dst v') w') : if Region.wanted o (yielded ops a.tmps) = true then Oper.wp Tryz.prog o a w K Q else E := by
  have hw : Region.wanted o (yielded ops a.tmps) = true := by simp [Region.wanted, hgd]
  rw [if_pos hw]
  exact op_append_C w s x ho base v xs ys hs hown A m c hx hm R hr (flatC_one _) hroom hbase (fun v' w' h1 h2 h3 _ => h v' w' h1 h2 h3)

theorem own_cols {w w0 : World} {base : Nat} {v : Value} {cs : List Co} (h : OwnC w base v cs) (hl : cs.length ≤ 1000000) (hb : w0.heap.size ≤ base) : IsCols w (Behind w0) v cs := by
  obtain ⟨A, c, hv, hA, hcap, hcells⟩ := h.slice (Behind w0) (fun k hk => Nat.le_trans hb hk)
  exact ⟨hl, A, c, hv, hA, hcap, hcells⟩
end
end Go.Proofs.YtdhpoaecedpbdaaGreat
namespace Go.Proofs.YtdhpoaecedpbdaaGreat
section
open Go.RowKit

/-- May a value be a cell of a column? -/
def okC (c : Co) (v : V) : Bool := rightV v && (v.k == c.k || (v.k == 0 && c.nl))

set_option maxRecDepth 100000 in
set_option maxHeartbeats 1000000 in
theorem s_fitsC (c : Co) (v : V) (w : World) : Calls Tryz.prog 133 #[.agg #[.string c.nm, .int .i64 c.k, .bool c.nl], .agg #[.int .i64 v.k, .bool v.f, .int .i64 v.n, .string v.t]] w fun e w' => e = .returned (.bool (okC c v)) ∧ Below w.heap.size w w' := by
  obtain ⟨nm, ck, nl⟩ := c
  obtain ⟨k, f, n, t⟩ := v
  have HR := Lib.hid (fun W : World => right_val ⟨k, f, n, t⟩ W)
  obtain ⟨O, hO⟩ : ∃ O, okC ⟨nm, ck, nl⟩ ⟨k, f, n, t⟩ = O := ⟨_, rfl⟩
  rw [hO]
  unfold okC at hO
  simp only at hO
  obtain ⟨r, hr⟩ : ∃ r, rightV ⟨k, f, n, t⟩ = r := ⟨_, rfl⟩
  rw [hr] at hO
  have HRR := Lib.hid hr
  clear hr
  have hgo : ∀ b : Bool, (k == ck) = b → Calls Tryz.prog 133 #[.agg #[.string nm, .int .i64 ck, .bool nl], .agg #[.int .i64 k, .bool f, .int .i64 n, .string t]] w fun e w' => e = .returned (.bool O) ∧ Below w.heap.size w w' := by
    intro b hb
    have hgo2 : ∀ z : Bool, (k == 0) = z → Calls Tryz.prog 133 #[.agg #[.string nm, .int .i64 ck, .bool nl], .agg #[.int .i64 k, .bool f, .int .i64 n, .string t]] w fun e w' => e = .returned (.bool O) ∧ Below w.heap.size w w' := by
      intro z hz
      rw [hb, hz] at hO
      have HO := Lib.hid hO
      clear hO
      cases r
      all_goals cases b
      all_goals cases z
      all_goals
        go_enter Tryz.func133, Tryz.ntmps133
        go_wp2_with fail
        refine (HR.out _).mono ?_
        rintro e w2 ⟨rfl, hb2⟩
        rw [HRR.out]
        have k0 : w2.cell? ⟨w.heap.size + 1, 0, none⟩ = some (.int .i64 k) := (hb2.cell (p := ⟨w.heap.size + 1, 0, none⟩) (by simp)).trans (by simp [go_sem])
        have k1 : w2.cell? ⟨w.heap.size, 1, none⟩ = some (.int .i64 ck) := (hb2.cell (p := ⟨w.heap.size, 1, none⟩) (by simp; omega)).trans (by simp [go_sem])
        have k2 : w2.cell? ⟨w.heap.size, 2, none⟩ = some (.bool nl) := (hb2.cell (p := ⟨w.heap.size, 2, none⟩) (by simp; omega)).trans (by simp [go_sem])
        have HB := Lib.hid ((two_new w _ _).trans (hb2.mono (by simp; omega)))
        clear hb2
        go_wp2
        go_ret
        exact ⟨by rw [← HO.out]; rfl, HB.out⟩
    exact hgo2 _ rfl
  exact hgo _ rfl
/-- May values be the cells of these columns? -/
def okCs : List Co → List V → Bool
  | c :: cs, v :: xs => okC c v && okCs cs xs
  | _, _ => true
/-- Why cells are not those of an object of a kind. -/
def fitsR (o : Option Sc) (xs : List V) : Int := match o with
  | none => 20
  | some x => if xs.length = x.cols.length then (if okCs x.cols xs = true then 0 else 11) else 9
theorem okCs_step (cs : List Co) (xs : List V) (k : Nat) (c : Co) (v : V) (hc : cs[k]? = some c) (hv : xs[k]? = some v) : okCs (cs.drop k) (xs.drop k) = (okC c v && okCs (cs.drop (k + 1)) (xs.drop (k + 1))) := by
  obtain ⟨h1, h2⟩ := List.getElem?_eq_some_iff.1 hc
  obtain ⟨h3, h4⟩ := List.getElem?_eq_some_iff.1 hv
  rw [List.drop_eq_getElem_cons h1, List.drop_eq_getElem_cons h3, h2, h4]
  rfl
theorem okCs_end (cs : List Co) (xs : List V) (k : Nat) (h : cs.length ≤ k) : okCs (cs.drop k) (xs.drop k) = true := by
  rw [List.drop_of_length_le h]
  rfl

set_option maxRecDepth 100000 in
set_option maxHeartbeats 2000000 in
theorem s_Fits (Q : Nat → Prop) (g : Nat) (l : List Sc) (kind : ByteArray) (A : Option Addr) (xs : List V) (n c : Nat) (w : World) (hs : SetIs w Q g l) (hn : n = xs.length) (hl : n ≤ 1000000) (hx : RowAt w w.heap.size A xs) :
    Calls Tryz.prog 108 #[.pointer (some ⟨g, 0, none⟩), .string kind, .slice A n c] w fun e w' => e = .returned (.int .i64 (fitsR (findS l kind) xs)) ∧ Below w.heap.size w w' := by
  have HF := Lib.hid (s_find Q g l kind w hs)
  have HX := Lib.hid hx
  have HN := Lib.hid hn
  clear hs hx hn
  generalize findS l kind = O at *
  cases O with
  | none =>
    have hr : fitsR none xs = 20 := rfl
    rw [hr]
    clear hr
    go_enter Tryz.func108, Tryz.ntmps108
    go_wp2_with fail
    refine HF.out.mono ?_
    rintro e w2 ⟨hb2, rfl⟩
    go_wp2
    go_ret
    exact ⟨rfl, hb2.trans ((one_new _ _).mono hb2.size)⟩
  | some x =>
    obtain ⟨R, hR⟩ : ∃ R, fitsR (some x) xs = R := ⟨_, rfl⟩
    rw [hR]
    have hR2 : (if xs.length = x.cols.length then (if okCs x.cols xs = true then 0 else 11) else 9) = R := hR
    rw [← HN.out] at hR2
    have HR := Lib.hid hR2
    clear hR hR2
    go_enter Tryz.func108, Tryz.ntmps108
    go_wp2_with fail
    refine HF.out.mono ?_
    rintro e w2 ⟨hb2, v, rfl, hv⟩
    obtain ⟨hvl, A2, c2, rfl, _, _, hcs⟩ := hv
    have HB2 := Lib.hid hb2
    have HCS := Lib.hid hcs
    have hs2 := hb2.size
    clear hb2 hcs
    by_cases hq : n = x.cols.length
    · have hR3 : (if okCs x.cols xs = true then 0 else 11) = R := by rw [← HR.out, if_pos hq]
      have HR3 := Lib.hid hR3
      have be : ((n : Int) == (x.cols.length : Int)) = true := by rw [hq]; simp
      have bn : ((n : Int) != (x.cols.length : Int)) = false := by unfold bne; rw [be]; rfl
      clear hR3
      obtain ⟨W2, hW2⟩ : ∃ W2, W2 = w2.alloc (.cells #[.string x.nm, .slice A2 x.cols.length c2] 126) := ⟨_, rfl⟩
      have HBW := Lib.hid (show Below w.heap.size w W2 by rw [hW2]; exact HB2.out.trans ((one_new _ _).mono HB2.out.size))
      have HCW := Lib.hid (show CellsQ W2 Q A2 (flatC x.cols) by rw [hW2]; exact HCS.out.below (one_new _ _))
      have hsW := HBW.out.size
      go_wp2
      rw [← hW2]
      go_loopw [31] (fun i wr => ∃ k : Nat, k ≤ x.cols.length ∧ i = .int .i64 k ∧ okCs x.cols xs = okCs (x.cols.drop k) (xs.drop k) ∧ Below W2.heap.size W2 wr) (fun i _ => x.cols.length - (intOf i).toNat)
      case atStart => exact ⟨0, Nat.zero_le _, rfl, rfl, Below.refl _ _⟩
      case round =>
        obtain ⟨k, hk, rfl, hok, hb⟩ := hrel
        have HOK := Lib.hid hok
        have HB := Lib.hid hb
        have hsz : W2.heap.size ≤ wr.heap.size := hb.size
        clear hok hb
        by_cases h1 : k < x.cols.length
        · obtain ⟨d, hd⟩ : ∃ d, x.cols[k]? = some d := ⟨_, List.getElem?_eq_getElem h1⟩
          have hkn : k < n := by omega
          obtain ⟨u, hu⟩ : ∃ u, xs[k]? = some u := ⟨_, List.getElem?_eq_getElem (by rw [← HN.out]; exact hkn)⟩
          obtain ⟨a2, rfl, ha2, d0, d1, d2⟩ := (HCW.out.below HB.out).col k d hd
          obtain ⟨a, rfl, ha, u0, u1, u2, u3⟩ := (HX.out.below (HBW.out.trans (HB.out.mono hsW))) k u hu
          have ha' : (a.add (k * 4)).block < wr.heap.size := by omega
          have HST := Lib.hid (okCs_step x.cols xs k d u hd hu)
          have HFC := Lib.hid (fun W : World => s_fitsC d u W)
          have U0 := Lib.hid u0
          have U1 := Lib.hid u1
          have U2 := Lib.hid u2
          have U3 := Lib.hid u3
          clear hd hu
          obtain ⟨b, hb⟩ : ∃ b, okC d u = b := ⟨_, rfl⟩
          rw [hb] at HFC HST
          obtain ⟨nm9, k9, nl9⟩ := d
          obtain ⟨k8, f8, n8, t8⟩ := u
          clear hb
          cases b with
          | false =>
            have hz : R = 11 := by rw [← HR3.out, if_neg (by rw [HOK.out, HST.out]; simp)]
            have HZ := Lib.hid hz
            clear hz
            go_wp2
            go_region_held3 (fun w' => w'.cell? ⟨wr.heap.size, 0, none⟩ = some (.string nm9) ∧ w'.cell? ⟨wr.heap.size, 1, none⟩ = some (.int .i64 k9) ∧ w'.cell? ⟨wr.heap.size, 2, none⟩ = some (.bool nl9) ∧ w'.cell? (a.add (k * 4)) = some (.int .i64 k8) ∧ w'.cell? { block := (a.add (k * 4)).block, off := (a.add (k * 4)).off + 1 } = some (.bool f8) ∧ w'.cell? { block := (a.add (k * 4)).block, off := (a.add (k * 4)).off + 2 } = some (.int .i64 n8) ∧ w'.cell? { block := (a.add (k * 4)).block, off := (a.add (k * 4)).off + 3 } = some (.string t8)) (go_keep)
              ((go_at_call 133; refine (HFC.out _).mono ?_; rintro e w3 ⟨rfl, hb3⟩; have q0 := (hb3.cell (p := ⟨wr.heap.size, 0, none⟩) (by simp)).trans (new_cell wr #[.string nm9, .int .i64 k9, .bool nl9] 123 0 _ rfl); have q1 := (hb3.cell (p := ⟨wr.heap.size, 1, none⟩) (by simp)).trans (new_cell wr #[.string nm9, .int .i64 k9, .bool nl9] 123 1 _ rfl); have q2 := (hb3.cell (p := ⟨wr.heap.size, 2, none⟩) (by simp)).trans (new_cell wr #[.string nm9, .int .i64 k9, .bool nl9] 123 2 _ rfl); have hb4 := (one_new wr (.cells #[.string nm9, .int .i64 k9, .bool nl9] 123)).trans ((show Below _ _ w3 from below_of_drew hb3).mono (by simp)); have p0 := (hb4.cell (p := a.add (k * 4)) ha').trans U0.out; have p1 := (hb4.cell (p := { block := (a.add (k * 4)).block, off := (a.add (k * 4)).off + 1 }) ha').trans U1.out; have p2 := (hb4.cell (p := { block := (a.add (k * 4)).block, off := (a.add (k * 4)).off + 2 }) ha').trans U2.out; have p3 := (hb4.cell (p := { block := (a.add (k * 4)).block, off := (a.add (k * 4)).off + 3 }) ha').trans U3.out))
            all_goals
              have HB4 := Lib.hid ((HBW.out.trans (HB.out.mono hsW)).trans (hb4.mono (Nat.le_trans hsW hsz)))
              go_wp2
              go_ret
              exact ⟨by rw [HZ.out]; exact rfl, HB4.out⟩
          | true =>
            go_wp2
            go_region_held3 (fun w' => w'.cell? ⟨wr.heap.size, 0, none⟩ = some (.string nm9) ∧ w'.cell? ⟨wr.heap.size, 1, none⟩ = some (.int .i64 k9) ∧ w'.cell? ⟨wr.heap.size, 2, none⟩ = some (.bool nl9) ∧ w'.cell? (a.add (k * 4)) = some (.int .i64 k8) ∧ w'.cell? { block := (a.add (k * 4)).block, off := (a.add (k * 4)).off + 1 } = some (.bool f8) ∧ w'.cell? { block := (a.add (k * 4)).block, off := (a.add (k * 4)).off + 2 } = some (.int .i64 n8) ∧ w'.cell? { block := (a.add (k * 4)).block, off := (a.add (k * 4)).off + 3 } = some (.string t8)) (go_keep)
              ((go_at_call 133; refine (HFC.out _).mono ?_; rintro e w3 ⟨rfl, hb3⟩; have q0 := (hb3.cell (p := ⟨wr.heap.size, 0, none⟩) (by simp)).trans (new_cell wr #[.string nm9, .int .i64 k9, .bool nl9] 123 0 _ rfl); have q1 := (hb3.cell (p := ⟨wr.heap.size, 1, none⟩) (by simp)).trans (new_cell wr #[.string nm9, .int .i64 k9, .bool nl9] 123 1 _ rfl); have q2 := (hb3.cell (p := ⟨wr.heap.size, 2, none⟩) (by simp)).trans (new_cell wr #[.string nm9, .int .i64 k9, .bool nl9] 123 2 _ rfl); have hb4 := (one_new wr (.cells #[.string nm9, .int .i64 k9, .bool nl9] 123)).trans ((show Below _ _ w3 from below_of_drew hb3).mono (by simp)); have p0 := (hb4.cell (p := a.add (k * 4)) ha').trans U0.out; have p1 := (hb4.cell (p := { block := (a.add (k * 4)).block, off := (a.add (k * 4)).off + 1 }) ha').trans U1.out; have p2 := (hb4.cell (p := { block := (a.add (k * 4)).block, off := (a.add (k * 4)).off + 2 }) ha').trans U2.out; have p3 := (hb4.cell (p := { block := (a.add (k * 4)).block, off := (a.add (k * 4)).off + 3 }) ha').trans U3.out))
            all_goals
              have HB4 := Lib.hid (HB.out.trans (hb4.mono hsz))
              go_wp2
              go_roundw
              case rel => exact ⟨k + 1, by omega, by go_num, by rw [HOK.out, HST.out, Bool.true_and], HB4.out⟩
              case measure => simp [intOf]; omega
        · obtain rfl : k = x.cols.length := by omega
          have hz : R = 0 := by rw [← HR3.out, if_pos (by rw [HOK.out]; exact okCs_end _ _ _ (Nat.le_refl _))]
          subst hz
          go_wp2
          go_ret
          exact ⟨rfl, HBW.out.trans (HB.out.mono hsW)⟩
    · have hR3 : R = 9 := by rw [← HR.out, if_neg hq]
      have be : ((n : Int) == (x.cols.length : Int)) = false := by rw [beq_eq_false_iff_ne]; omega
      have bn : ((n : Int) != (x.cols.length : Int)) = true := by unfold bne; rw [be]; rfl
      subst hR3
      clear hq
      go_wp2
      go_ret
      exact ⟨rfl, HB2.out.trans ((one_new _ _).mono HB2.out.size)⟩
end
end Go.Proofs.YtdhpoaecedpbdaaGreat
namespace Go.Proofs.YtdhpoaecedpbdaaGreat
section
open Go.RowKit

set_option maxRecDepth 100000 in
set_option maxHeartbeats 2000000 in
theorem ref_findS (Q : Nat → Prop) (A : Option Addr) (ls : List RS) (l : List Sc) (n c : Nat) (kind : ByteArray) (w : World) (hn : n = l.length) (hl : n ≤ 1000000) (hr : ScR w Q ls l) (hx : CellsQ w Q A (flatS ls)) :
    Calls Tryz.prog 109 #[.slice A n c, .string kind] w (FoundIs w Q (findS l kind) 20) := by
  have HR := Lib.hid hr
  have HX := Lib.hid hx
  have HN := Lib.hid hn.symm
  obtain ⟨O, hO⟩ : ∃ O, findS l kind = O := ⟨_, rfl⟩
  rw [hO]
  have HO := Lib.hid hO
  clear hr hx hn hO
  go_enter Tryz.func109, Tryz.ntmps109
  go_wp2
  go_loopw [6] (fun i wr => ∃ k : Nat, k ≤ n ∧ i = .int .i64 k ∧ findS (l.drop k) kind = O ∧ wr = w.alloc (.cells #[.string ⟨#[]⟩, .slice none 0 0] 126)) (fun i _ => n - (intOf i).toNat)
  case atStart => exact ⟨0, Nat.zero_le _, rfl, by rw [List.drop_zero]; exact HO.out, rfl⟩
  case round =>
    obtain ⟨k, hk, rfl, hq2, rfl⟩ := hrel
    have HQ := Lib.hid hq2
    clear hq2
    by_cases h1 : k < n
    · obtain ⟨x, hxk⟩ : ∃ x, l[k]? = some x := ⟨_, List.getElem?_eq_getElem (by rw [HN.out]; exact h1)⟩
      obtain ⟨a, v, rfl, hv, ha, a0, a1⟩ := kind_get HR.out HX.out k x hxk
      have HV := Lib.hid hv
      obtain ⟨_, A2, c2, rfl, _, _, _⟩ := hv
      have hfd := find_drop l kind k x hxk
      rw [HQ.out] at hfd
      have HFD := Lib.hid hfd
      clear hxk hfd
      rcases Bool.eq_false_or_eq_true (sameNm x.nm kind) with hz2 | hz2
      · have bz : (x.nm.toList == kind.toList) = true := hz2
        have hO : O = some x := by rw [HFD.out, if_pos hz2]
        subst hO
        clear hz2
        go_wp2
        have hfin : Below w.heap.size w (w.alloc (.cells #[.string x.nm, .slice A2 x.cols.length c2] 126)) := one_new _ _
        exact bodyPost_ret (v := .tuple #[.agg #[.string x.nm, .slice A2 x.cols.length c2], .int .i64 0]) (by simp [results, Tryz.results109, go_sem]) rfl
          ⟨hfin, _, rfl, HV.out.below hfin⟩
      · have bz : (x.nm.toList == kind.toList) = false := hz2
        have hO : findS (l.drop (k + 1)) kind = O := by rw [HFD.out, if_neg (by rw [hz2]; simp)]
        have HOx := Lib.hid hO
        clear hz2 hO
        go_wp2
        exact ⟨⟨k + 1, by omega, by go_num, HOx.out, by trivial⟩, by simp [intOf]; omega⟩
    · have hO : O = none := by
        rw [← HQ.out, List.drop_of_length_le (by rw [HN.out]; omega)]
        rfl
      subst hO
      go_wp2
      exact bodyPost_ret (v := .tuple #[.agg #[.string ⟨#[]⟩, .slice none 0 0], .int .i64 20]) (by simp [results, Tryz.results109, go_sem]) rfl
        ⟨one_new _ _, rfl⟩
end
end Go.Proofs.YtdhpoaecedpbdaaGreat
