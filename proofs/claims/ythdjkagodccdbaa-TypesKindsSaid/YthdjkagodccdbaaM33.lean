/-
  Columns of package schema answers the columns of a relation, at every set and relation; nothing that was there is changed.
  No condition but that a list has no more than a million.
  fits, Fits and Find of package schema: whether a cell, and a row of cells, may be those of an object of a kind; nothing that was there is changed.
  No condition but that a list has no more than a million.
  Find of the document's schema: a kind of a list, by its name; nothing that was there is changed.
  No condition but that a list has no more than a million.
  Fits of the document's schema: why cells are not those of an object of a kind; nothing that was there is changed.
  No condition but that a list has no more than a million.
-/
import Derived.Deep.RegionLaw
import Derived.BigQuiet
import Derived.Test.YthdjkagodccdbaaM32
namespace Go.Proofs.Ythdjkagodccdbaa
section
open Go.RowKit

def spaceB : ByteArray := ⟨#[115, 112, 97, 99, 101]⟩
def nameB : ByteArray := ⟨#[110, 97, 109, 101]⟩
def parentB : ByteArray := ⟨#[112, 97, 114, 101, 110, 116]⟩
/-- The columns of a relation. -/
def colsOf (l : List Sc) (rel : ByteArray) : Option (List Co) :=
  if sameNm rel tenantB = true then some [textC nameB, textC parentB] else (findS l rel).map fun x => [textC spaceB, textC nameB] ++ x.cols
/-- What Columns answers. -/
def ColsIs (w : World) (o : Option (List Co)) (e : Ending) (w' : World) : Prop :=
  Below w.heap.size w w' ∧ match o with
  | some cs => ∃ v, e = .returned (.tuple #[v, .int .i64 0]) ∧ IsCols w' (Behind w) v cs
  | none => e = .returned (.tuple #[.slice none 0 0, .int .i64 20])

theorem txt_lit2 (w : World) (a b : ByteArray) : TextsAt (w.alloc (.cells #[.string a, .string b] 9)) (fun _ => True) (some ⟨w.heap.size, 0, none⟩) [a, b] := by
  intro j u hj
  refine ⟨_, rfl, trivial, ?_⟩
  rw [show ((⟨w.heap.size, 0, none⟩ : Addr).add j) = ⟨w.heap.size, j, none⟩ from by unfold Addr.add; split <;> simp_all, alloc_new_cells]
  simpa using hj

theorem TextsAt.drew {w : World} {Q : Nat → Prop} {A : Option Addr} {ts : List ByteArray} (h : TextsAt w Q A ts) : TextsAt w.drew Q A ts := h
theorem below_of_drew {w w' : World} (h : Below w.drew.heap.size w.drew w') : Below w.heap.size w w' := (Below.drew (Below.refl _ _)).trans h
theorem step_texts {ops : Array Oper} {o : Oper} {a : Act} {K : Act → World → Prop} {Q : Exit → Act → World → Prop} {E : Prop} (w : World) (hgd : o.guard = none) (x : Operand)
    (ho : o.op = .call { callee := .value (.func 93), args := #[x], argTypes := #[24] }) (R : Nat → Prop) (A : Option Addr) (ts : List ByteArray) (n c : Nat) (hx : a.eval x = .slice A n c) (hn : n = ts.length) (hl : n ≤ 1000000) (ht : TextsAt w R A ts)
    (h : ∀ v w', OwnC w' w.heap.size v (ts.map textC) → Below w.heap.size w w' → K (a.put o.dst v) w') : if Region.wanted o (yielded ops a.tmps) = true then Oper.wp Try.prog o a w K Q else E := by
  have hw : Region.wanted o (yielded ops a.tmps) = true := by simp [Region.wanted, hgd]
  rw [if_pos hw]
  have e : (execOp a.eval o).run Try.prog w = .ok (.enter 93 #[a.eval x]) w := by simp [execOp, ho, go_sem]
  unfold Oper.wp
  rw [e, Oper.upon_enter, hx]
  refine (s_texts R A ts n c w hn hl ht).mono ?_
  rintro e w' ⟨v, rfl, h1, h2⟩
  exact h v w' h1 h2
theorem step_append_C {ops : Array Oper} {o : Oper} {a : Act} {K : Act → World → Prop} {Q : Exit → Act → World → Prop} {E : Prop} (w : World) (hgd : o.guard = none) (s x : Operand)
    (ho : o.op = .call { callee := .builtin .append, args := #[s, x], argTypes := #[35, 35] })
    (base : Nat) (v : Value) (xs ys : List Co) (hs : a.eval s = v) (hown : OwnC w base v xs) (A : Option Addr) (m c : Nat) (hx : a.eval x = .slice A m c) (hm : m = ys.length) (R : Nat → Prop) (hr : CellsQ w R A (flatC ys))
    (hroom : xs.length + ys.length ≤ 3000000) (hbase : base ≤ w.heap.size)
    (h : ∀ v' w', OwnC w' base v' (xs ++ ys) → Below base w w' → w.grownBy w' v.ownBlock → K (a.put o.dst v') w') : if Region.wanted o (yielded ops a.tmps) = true then Oper.wp Try.prog o a w K Q else E := by
  have hw : Region.wanted o (yielded ops a.tmps) = true := by simp [Region.wanted, hgd]
  rw [if_pos hw]
  exact op_append_C w s x ho base v xs ys hs hown A m c hx hm R hr (flatC_one _) hroom hbase (fun v' w' h1 h2 h3 _ => h v' w' h1 h2 h3)

theorem own_cols {w w0 : World} {base : Nat} {v : Value} {cs : List Co} (h : OwnC w base v cs) (hl : cs.length ≤ 1000000) (hb : w0.heap.size ≤ base) : IsCols w (Behind w0) v cs := by
  obtain ⟨A, c, hv, hA, hcap, hcells⟩ := h.slice (Behind w0) (fun k hk => Nat.le_trans hb hk)
  exact ⟨hl, A, c, hv, hA, hcap, hcells⟩

set_option maxRecDepth 100000 in
set_option maxHeartbeats 2000000 in
theorem s_columns (Q : Nat → Prop) (g : Nat) (l : List Sc) (rel : ByteArray) (w : World) (hs : SetIs w Q g l) (hfew : ∀ x ∈ l, x.cols.length ≤ 900000) :
    Calls Try.prog 90 #[.pointer (some ⟨g, 0, none⟩), .string rel] w (ColsIs w (colsOf l rel)) := by
  have HF := Lib.hid (s_find Q g l rel w hs)
  clear hs
  rcases Bool.eq_false_or_eq_true (sameNm rel tenantB) with h1 | h1
  · have hc : colsOf l rel = some [textC nameB, textC parentB] := by unfold colsOf; rw [if_pos h1]
    rw [hc]
    have b1 : (rel.toList == [116, 101, 110, 97, 110, 116]) = true := by rw [← same_ten]; exact h1
    clear h1 hc hfew
    go_enter Try.func90, Try.ntmps90
    go_wp2_with fail
    refine (s_texts (fun _ => True) _ [nameB, parentB] 2 _ _ rfl (by decide) (txt_lit2 w nameB parentB)).mono ?_
    rintro e w2 ⟨v, rfl, hown, hb2⟩
    have HO := Lib.hid hown
    obtain ⟨A, c, hv, _⟩ := hown.slice (fun _ => True) (fun _ _ => trivial)
    subst hv
    clear hown
    go_wp2
    go_ret2
    exact ⟨(one_new _ _).trans (hb2.mono (by simp)), _, rfl, own_cols HO.out (by decide) (by simp)⟩
  · have b1 : (rel.toList == [116, 101, 110, 97, 110, 116]) = false := by rw [← same_ten]; exact h1
    have hc : colsOf l rel = (findS l rel).map fun x => [textC spaceB, textC nameB] ++ x.cols := by unfold colsOf; rw [if_neg (by rw [h1]; simp)]
    rw [hc]
    clear h1 hc
    have hmem : ∀ x, findS l rel = some x → x.cols.length ≤ 900000 := fun x hx => hfew x (List.mem_of_find?_eq_some hx)
    clear hfew
    generalize findS l rel = O at *
    cases O with
    | none =>
      clear hmem
      go_enter Try.func90, Try.ntmps90
      go_wp2_with fail
      refine HF.out.mono ?_
      rintro e w2 ⟨hb2, rfl⟩
      go_wp2
      go_ret2
      exact ⟨hb2.trans ((one_new _ _).mono hb2.size), rfl⟩
    | some x =>
      have hxl := hmem x rfl
      clear hmem
      go_enter Try.func90, Try.ntmps90
      go_wp2_with fail
      refine HF.out.mono ?_
      rintro e w2 ⟨hb2, v, rfl, hv⟩
      have HV := Lib.hid hv
      have HB := Lib.hid hb2
      obtain ⟨_, A, c, rfl, _⟩ := hv
      have hs2 := hb2.size
      clear hb2
      go_wp2
      obtain ⟨W, hW⟩ : ∃ W, W = (w2.alloc (.cells #[.string x.nm, .slice A x.cols.length c] 71)).alloc (.cells #[.string spaceB, .string nameB] 9) := ⟨_, rfl⟩
      have hT : TextsAt W (fun _ => True) (some ⟨w2.heap.size + 1, 0, none⟩) [spaceB, nameB] := by
        have h := txt_lit2 (w2.alloc (.cells #[.string x.nm, .slice A x.cols.length c] 71)) spaceB nameB
        rw [World.size_alloc] at h
        rw [hW]
        exact h
      have hBW : Below w2.heap.size w2 W := by rw [hW]; exact two_new _ _ _
      have hK : W.cell? ⟨w2.heap.size, 1, none⟩ = some (.slice A x.cols.length c) := by rw [hW]; simp [go_sem]
      have hZ : w2.heap.size + 1 < W.heap.size := by rw [hW]; simp
      have hcw := HV.out.below hBW
      obtain ⟨_, A9, c9, e9, _, _, hcells9⟩ := hcw
      injection e9 with e91 e92 e93
      subst e91
      have HCW := Lib.hid hcells9
      have HT := Lib.hid hT
      have HK := Lib.hid hK
      have HBW := Lib.hid hBW
      have HW := Lib.hid hW
      clear hT hK hBW hcells9 e93 HW
      subst hW
      go_region_law (first
        | (refine step_texts _ (by rfl) _ (by rfl) (fun _ => True) _ [spaceB, nameB] 2 _ (by rfl) (by rfl) (by decide) (TextsAt.drew HT.out) ?_; intro v1 w3 hown3 hb3; have hb3' := below_of_drew hb3; have k1 := (hb3'.cell (p := ⟨w2.heap.size, 1, none⟩) (Nat.lt_trans (Nat.lt_succ_self _) hZ)).trans HK.out; have HC3 := Lib.hid (HCW.out.below hb3'); have HO3 := Lib.hid hown3; have HB3 := Lib.hid hb3'; obtain ⟨A3, c3, hv3, _⟩ := hown3.slice (fun _ => True) (fun _ _ => trivial); subst hv3; clear hown3 hb3 hb3')
        | (refine step_append_C _ (by rfl) _ _ (by rfl) _ _ _ x.cols (by rfl) (by exact HO3.out) _ _ _ (by rfl) (by rfl) Q (by exact HC3.out) (by simp; omega) (by exact HB3.out.size) ?_; intro v4 w4 hown4 hb4 _; have HO4 := Lib.hid hown4; have HB4 := Lib.hid hb4; obtain ⟨A4, c4, hv4, _⟩ := hown4.slice (fun _ => True) (fun _ _ => trivial); subst hv4; clear hown4 hb4))
      all_goals
        go_wp2
        go_ret2
        have hsW := Nat.le_trans hs2 (Nat.le_trans (Nat.le_succ _) (Nat.le_of_lt hZ))
        exact ⟨((HB.out.trans (HBW.out.mono hs2)).trans (HB3.out.mono hsW)).trans (HB4.out.mono hsW), _, rfl, own_cols HO4.out (by simp; omega) hsW⟩
end
end Go.Proofs.Ythdjkagodccdbaa
namespace Go.Proofs.Ythdjkagodccdbaa
section
open Go.RowKit

/-- May a value be a cell of a column? -/
def okC (c : Co) (v : V) : Bool := rightV v && (v.k == c.k || (v.k == 0 && c.nl))

/-- May values be the cells of these columns? -/
def okCs : List Co → List V → Bool
  | c :: cs, v :: xs => okC c v && okCs cs xs
  | _, _ => true
/-- Why cells are not those of an object of a kind. -/
def fitsR (o : Option Sc) (xs : List V) : Int := match o with
  | none => 20
  | some x => if xs.length = x.cols.length then (if okCs x.cols xs = true then 0 else 11) else 9
theorem okCs_step (cs : List Co) (xs : List V) (k : Nat) (c : Co) (v : V) (hc : cs[k]? = some c) (hv : xs[k]? = some v) : okCs (cs.drop k) (xs.drop k) = (okC c v && okCs (cs.drop (k + 1)) (xs.drop (k + 1))) := by
  obtain ⟨h1, h2⟩ := List.getElem?_eq_some_iff.1 hc
  obtain ⟨h3, h4⟩ := List.getElem?_eq_some_iff.1 hv
  rw [List.drop_eq_getElem_cons h1, List.drop_eq_getElem_cons h3, h2, h4]
  rfl
theorem okCs_end (cs : List Co) (xs : List V) (k : Nat) (h : cs.length ≤ k) : okCs (cs.drop k) (xs.drop k) = true := by
  rw [List.drop_of_length_le h]
  rfl
end
end Go.Proofs.Ythdjkagodccdbaa
namespace Go.Proofs.Ythdjkagodccdbaa
section
open Go.RowKit

set_option maxRecDepth 100000 in
set_option maxHeartbeats 2000000 in
theorem ref_findS (Q : Nat → Prop) (A : Option Addr) (ls : List RS) (l : List Sc) (n c : Nat) (kind : ByteArray) (w : World) (hn : n = l.length) (hl : n ≤ 1000000) (hr : ScR w Q ls l) (hx : CellsQ w Q A (flatS ls)) :
    Calls Try.prog 91 #[.slice A n c, .string kind] w (FoundIs w Q (findS l kind) 20) := by
  have HR := Lib.hid hr
  have HX := Lib.hid hx
  have HN := Lib.hid hn.symm
  obtain ⟨O, hO⟩ : ∃ O, findS l kind = O := ⟨_, rfl⟩
  rw [hO]
  have HO := Lib.hid hO
  clear hr hx hn hO
  go_enter Try.func91, Try.ntmps91
  go_wp2
  go_loopw [6] (fun i wr => ∃ k : Nat, k ≤ n ∧ i = .int .i64 k ∧ findS (l.drop k) kind = O ∧ wr = w.alloc (.cells #[.string ⟨#[]⟩, .slice none 0 0] 71)) (fun i _ => n - (intOf i).toNat)
  case atStart => exact ⟨0, Nat.zero_le _, rfl, by rw [List.drop_zero]; exact HO.out, rfl⟩
  case round =>
    obtain ⟨k, hk, rfl, hq2, rfl⟩ := hrel
    have HQ := Lib.hid hq2
    clear hq2
    by_cases h1 : k < n
    · obtain ⟨x, hxk⟩ : ∃ x, l[k]? = some x := ⟨_, List.getElem?_eq_getElem (by rw [HN.out]; exact h1)⟩
      obtain ⟨a, v, rfl, hv, ha, a0, a1⟩ := kind_get HR.out HX.out k x hxk
      have HV := Lib.hid hv
      obtain ⟨_, A2, c2, rfl, _, _, _⟩ := hv
      have hfd := find_drop l kind k x hxk
      rw [HQ.out] at hfd
      have HFD := Lib.hid hfd
      clear hxk hfd
      rcases Bool.eq_false_or_eq_true (sameNm x.nm kind) with hz2 | hz2
      · have bz : (x.nm.toList == kind.toList) = true := hz2
        have hO : O = some x := by rw [HFD.out, if_pos hz2]
        subst hO
        clear hz2
        go_wp2
        have hfin : Below w.heap.size w (w.alloc (.cells #[.string x.nm, .slice A2 x.cols.length c2] 71)) := one_new _ _
        exact bodyPost_ret (v := .tuple #[.agg #[.string x.nm, .slice A2 x.cols.length c2], .int .i64 0]) (by simp [results, Try.results91, go_sem]) rfl
          ⟨hfin, _, rfl, HV.out.below hfin⟩
      · have bz : (x.nm.toList == kind.toList) = false := hz2
        have hO : findS (l.drop (k + 1)) kind = O := by rw [HFD.out, if_neg (by rw [hz2]; simp)]
        have HOx := Lib.hid hO
        clear hz2 hO
        go_wp2
        exact ⟨⟨k + 1, by omega, by go_num, HOx.out, by trivial⟩, by simp [intOf]; omega⟩
    · have hO : O = none := by
        rw [← HQ.out, List.drop_of_length_le (by rw [HN.out]; omega)]
        rfl
      subst hO
      go_wp2
      exact bodyPost_ret (v := .tuple #[.agg #[.string ⟨#[]⟩, .slice none 0 0], .int .i64 20]) (by simp [results, Try.results91, go_sem]) rfl
        ⟨one_new _ _, rfl⟩
end
end Go.Proofs.Ythdjkagodccdbaa
namespace Go.Proofs.Ythdjkagodccdbaa
section
open Go.RowKit

/-- The worlds in which nothing below h has changed, under a name of their own: a drawing region is then walked once, and a callee that makes memory is let in. -/
theorem ext_class (h : Nat) (w : World) (hh : h ≤ w.heap.size) : ∃ (E : Type) (X : E → World), Nonempty E ∧ (∀ e, Below h w (X e)) ∧ (∀ W, Below h w W → ∃ e, W = X e) ∧ ∀ e W, Below (X e).heap.size (X e) W → ∃ e2, W = X e2 :=
  ⟨{W : World // Below h w W}, Subtype.val, ⟨⟨w, Below.refl _ _⟩⟩, fun e => e.2, fun W hW => ⟨⟨W, hW⟩, rfl⟩, fun e W hW => ⟨⟨W, e.2.trans (hW.mono (Nat.le_trans hh e.2.size))⟩, rfl⟩⟩
end
end Go.Proofs.Ythdjkagodccdbaa
