/-
  Columns of package schema answers the columns of a relation, at every set and relation; nothing that was there is changed.
  No condition but that a list has no more than a million.
-/
import Derived.Test.YtgifkigamebofaaDoorScols
import Derived.Deep.RegionLaw
namespace Go.Proofs.YtgifkigamebofaaDoor
open Go.RowKit

def spaceB : ByteArray := ⟨#[115, 112, 97, 99, 101]⟩
def nameB : ByteArray := ⟨#[110, 97, 109, 101]⟩
def parentB : ByteArray := ⟨#[112, 97, 114, 101, 110, 116]⟩
/-- The columns of a relation. -/
def colsOf (l : List Sc) (rel : ByteArray) : Option (List Co) :=
  if sameNm rel tenantB = true then some [textC nameB, textC parentB] else (findS l rel).map fun x => [textC spaceB, textC nameB] ++ x.cols
/-- What Columns answers. -/
def ColsIs (w : World) (o : Option (List Co)) (e : Ending) (w' : World) : Prop :=
  Below w.heap.size w w' ∧ match o with
  | some cs => ∃ v, e = .returned (.tuple #[v, .int .i64 0]) ∧ IsCols w' (Behind w) v cs
  | none => e = .returned (.tuple #[.slice none 0 0, .int .i64 20])

theorem txt_lit2 (w : World) (a b : ByteArray) : TextsAt (w.alloc (.cells #[.string a, .string b] 9)) (fun _ => True) (some ⟨w.heap.size, 0, none⟩) [a, b] := by
  intro j u hj
  refine ⟨_, rfl, trivial, ?_⟩
  rw [show ((⟨w.heap.size, 0, none⟩ : Addr).add j) = ⟨w.heap.size, j, none⟩ from by unfold Addr.add; split <;> simp_all, alloc_new_cells]
  simpa using hj

theorem TextsAt.drew {w : World} {Q : Nat → Prop} {A : Option Addr} {ts : List ByteArray} (h : TextsAt w Q A ts) : TextsAt w.drew Q A ts := h
theorem below_of_drew {w w' : World} (h : Below w.drew.heap.size w.drew w') : Below w.heap.size w w' := (Below.drew (Below.refl _ _)).trans h
theorem step_texts {ops : Array Oper} {o : Oper} {a : Act} {K : Act → World → Prop} {Q : Exit → Act → World → Prop} {E : Prop} (w : World) (hgd : o.guard = none) (x : Operand)
    (ho : o.op = .call { callee := .value (.func 29), args := #[x], argTypes := #[63] }) (R : Nat → Prop) (A : Option Addr) (ts : List ByteArray) (n c : Nat) (hx : a.eval x = .slice A n c) (hn : n = ts.length) (hl : n ≤ 1000000) (ht : TextsAt w R A ts)
    (h : ∀ v w', OwnC w' w.heap.size v (ts.map textC) → Below w.heap.size w w' → K (a.put o.dst v) w') : if Region.wanted o (yielded ops a.tmps) = true then Oper.wp Tryd.prog o a w K Q else E := by
  have hw : Region.wanted o (yielded ops a.tmps) = true := by simp [Region.wanted, hgd]
  rw [if_pos hw]
  have e : (execOp a.eval o).run Tryd.prog w = .ok (.enter 29 #[a.eval x]) w := by simp [execOp, ho, go_sem]
  unfold Oper.wp
  rw [e, Oper.upon_enter, hx]
  refine (s_texts R A ts n c w hn hl ht).mono ?_
  rintro e w' ⟨v, rfl, h1, h2⟩
  exact h v w' h1 h2
theorem step_append_C {ops : Array Oper} {o : Oper} {a : Act} {K : Act → World → Prop} {Q : Exit → Act → World → Prop} {E : Prop} (w : World) (hgd : o.guard = none) (s x : Operand)
    (ho : o.op = .call { callee := .builtin .append, args := #[s, x], argTypes := #[32, 32] })
    (base : Nat) (v : Value) (xs ys : List Co) (hs : a.eval s = v) (hown : OwnC w base v xs) (A : Option Addr) (m c : Nat) (hx : a.eval x = .slice A m c) (hm : m = ys.length) (R : Nat → Prop) (hr : CellsQ w R A (flatC ys))
    (hroom : xs.length + ys.length ≤ 3000000) (hbase : base ≤ w.heap.size)
    (h : ∀ v' w', OwnC w' base v' (xs ++ ys) → Below base w w' → w.grownBy w' v.ownBlock → K (a.put o.dst v') w') : if Region.wanted o (yielded ops a.tmps) = true then Oper.wp Tryd.prog o a w K Q else E := by
  have hw : Region.wanted o (yielded ops a.tmps) = true := by simp [Region.wanted, hgd]
  rw [if_pos hw]
  exact op_append_C w s x ho base v xs ys hs hown A m c hx hm R hr (flatC_one _) hroom hbase (fun v' w' h1 h2 h3 _ => h v' w' h1 h2 h3)

theorem own_cols {w w0 : World} {base : Nat} {v : Value} {cs : List Co} (h : OwnC w base v cs) (hl : cs.length ≤ 1000000) (hb : w0.heap.size ≤ base) : IsCols w (Behind w0) v cs := by
  obtain ⟨A, c, hv, hA, hcap, hcells⟩ := h.slice (Behind w0) (fun k hk => Nat.le_trans hb hk)
  exact ⟨hl, A, c, hv, hA, hcap, hcells⟩

set_option maxRecDepth 100000 in
set_option maxHeartbeats 2000000 in
theorem s_columns (Q : Nat → Prop) (g : Nat) (l : List Sc) (rel : ByteArray) (w : World) (hs : SetIs w Q g l) (hfew : ∀ x ∈ l, x.cols.length ≤ 900000) :
    Calls Tryd.prog 14 #[.pointer (some ⟨g, 0, none⟩), .string rel] w (ColsIs w (colsOf l rel)) := by
  have HF := Lib.hid (s_find Q g l rel w hs)
  clear hs
  rcases Bool.eq_false_or_eq_true (sameNm rel tenantB) with h1 | h1
  · have hc : colsOf l rel = some [textC nameB, textC parentB] := by unfold colsOf; rw [if_pos h1]
    rw [hc]
    have b1 : (rel.toList == [116, 101, 110, 97, 110, 116]) = true := by rw [← same_ten]; exact h1
    clear h1 hc hfew
    go_enter Tryd.func14, Tryd.ntmps14
    go_wp2_with fail
    refine (s_texts (fun _ => True) _ [nameB, parentB] 2 _ _ rfl (by decide) (txt_lit2 w nameB parentB)).mono ?_
    rintro e w2 ⟨v, rfl, hown, hb2⟩
    have HO := Lib.hid hown
    obtain ⟨A, c, hv, _⟩ := hown.slice (fun _ => True) (fun _ _ => trivial)
    subst hv
    clear hown
    go_wp2
    go_ret2
    exact ⟨(one_new _ _).trans (hb2.mono (by simp)), _, rfl, own_cols HO.out (by decide) (by simp)⟩
  · have b1 : (rel.toList == [116, 101, 110, 97, 110, 116]) = false := by rw [← same_ten]; exact h1
    have hc : colsOf l rel = (findS l rel).map fun x => [textC spaceB, textC nameB] ++ x.cols := by unfold colsOf; rw [if_neg (by rw [h1]; simp)]
    rw [hc]
    clear h1 hc
    have hmem : ∀ x, findS l rel = some x → x.cols.length ≤ 900000 := fun x hx => hfew x (List.mem_of_find?_eq_some hx)
    clear hfew
    generalize findS l rel = O at *
    cases O with
    | none =>
      clear hmem
      go_enter Tryd.func14, Tryd.ntmps14
      go_wp2_with fail
      refine HF.out.mono ?_
      rintro e w2 ⟨hb2, rfl⟩
      go_wp2
      go_ret2
      exact ⟨hb2.trans ((one_new _ _).mono hb2.size), rfl⟩
    | some x =>
      have hxl := hmem x rfl
      clear hmem
      go_enter Tryd.func14, Tryd.ntmps14
      go_wp2_with fail
      refine HF.out.mono ?_
      rintro e w2 ⟨hb2, v, rfl, hv⟩
      have HV := Lib.hid hv
      have HB := Lib.hid hb2
      obtain ⟨_, A, c, rfl, _⟩ := hv
      have hs2 := hb2.size
      clear hb2
      go_wp2
      obtain ⟨W, hW⟩ : ∃ W, W = (w2.alloc (.cells #[.string x.nm, .slice A x.cols.length c] 34)).alloc (.cells #[.string spaceB, .string nameB] 9) := ⟨_, rfl⟩
      have hT : TextsAt W (fun _ => True) (some ⟨w2.heap.size + 1, 0, none⟩) [spaceB, nameB] := by
        have h := txt_lit2 (w2.alloc (.cells #[.string x.nm, .slice A x.cols.length c] 34)) spaceB nameB
        rw [World.size_alloc] at h
        rw [hW]
        exact h
      have hBW : Below w2.heap.size w2 W := by rw [hW]; exact two_new _ _ _
      have hK : W.cell? ⟨w2.heap.size, 1, none⟩ = some (.slice A x.cols.length c) := by rw [hW]; simp [go_sem]
      have hZ : w2.heap.size + 1 < W.heap.size := by rw [hW]; simp
      have hcw := HV.out.below hBW
      obtain ⟨_, A9, c9, e9, _, _, hcells9⟩ := hcw
      injection e9 with e91 e92 e93
      subst e91
      have HCW := Lib.hid hcells9
      have HT := Lib.hid hT
      have HK := Lib.hid hK
      have HBW := Lib.hid hBW
      have HW := Lib.hid hW
      clear hT hK hBW hcells9 e93 HW
      subst hW
      go_region_law (first
        | (refine step_texts _ (by rfl) _ (by rfl) (fun _ => True) _ [spaceB, nameB] 2 _ (by rfl) (by rfl) (by decide) (TextsAt.drew HT.out) ?_; intro v1 w3 hown3 hb3; have hb3' := below_of_drew hb3; have k1 := (hb3'.cell (p := ⟨w2.heap.size, 1, none⟩) (Nat.lt_trans (Nat.lt_succ_self _) hZ)).trans HK.out; have HC3 := Lib.hid (HCW.out.below hb3'); have HO3 := Lib.hid hown3; have HB3 := Lib.hid hb3'; obtain ⟨A3, c3, hv3, _⟩ := hown3.slice (fun _ => True) (fun _ _ => trivial); subst hv3; clear hown3 hb3 hb3')
        | (refine step_append_C _ (by rfl) _ _ (by rfl) _ _ _ x.cols (by rfl) (by exact HO3.out) _ _ _ (by rfl) (by rfl) Q (by exact HC3.out) (by simp; omega) (by exact HB3.out.size) ?_; intro v4 w4 hown4 hb4 _; have HO4 := Lib.hid hown4; have HB4 := Lib.hid hb4; obtain ⟨A4, c4, hv4, _⟩ := hown4.slice (fun _ => True) (fun _ _ => trivial); subst hv4; clear hown4 hb4))
      all_goals
        go_wp2
        go_ret2
        have hsW := Nat.le_trans hs2 (Nat.le_trans (Nat.le_succ _) (Nat.le_of_lt hZ))
        exact ⟨((HB.out.trans (HBW.out.mono hs2)).trans (HB3.out.mono hsW)).trans (HB4.out.mono hsW), _, rfl, own_cols HO4.out (by simp; omega) hsW⟩
end Go.Proofs.YtgifkigamebofaaDoor
