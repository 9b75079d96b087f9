/-
  Kinds and Find of package schema, Same and Columns of the document's: copies of kinds, a kind by its name, whether two kinds are one, the columns of a relation; nothing that was there is changed.
  No condition but that a list has no more than a million.
-/
import Derived.Test.YthdjkagodccdbaaM31
import Derived.Test.YthdjkagodccdbaaM33
namespace Go.Proofs.Ythdjkagodccdbaa
open Go.RowKit

/-! ### whether two columns are one -/
def eqCo (a b : Co) : Bool := a.nm.toList == b.nm.toList && a.k == b.k && a.nl == b.nl
theorem eqCo_self (a : Co) : eqCo a a = true := by simp [eqCo]
theorem equal_co (s : ByteArray) (k : Int) (f : Bool) (s' : ByteArray) (k' : Int) (f' : Bool) (w : World) :
    (Op.equalIn 10000 49 (.agg #[.string s, .int .i64 k, .bool f]) (.agg #[.string s', .int .i64 k', .bool f'])).run Try.prog w = .ok (eqCo ⟨s, k, f⟩ ⟨s', k', f'⟩) w := by
  have hS : Try.prog.underlying 49 = some (.struct (Try.prog.fieldsOf 49)) := by kernel_rfl
  rw [show (10000 : Nat) = 9999 + 1 from rfl, run_equalIn_agg w 9999 49 _ _ hS (by kernel_rfl)]
  simp only [Program.fieldsOf, Try.underlying49]
  go_simp
  unfold eqCo
  by_cases h1 : s.toList = s'.toList <;> by_cases h2 : k = k' <;> by_cases h3 : f = f' <;> simp [h1, h2, h3]

attribute [local go_sem high] equal_co

set_option maxRecDepth 100000 in
set_option maxHeartbeats 2000000 in
theorem ref_same7 (nm : ByteArray) (v1 v2 : Value) (cs : List Co) (Q1 Q2 : Nat → Prop) (w : World) (h1 : IsCols w Q1 v1 cs) (h2 : IsCols w Q2 v2 cs) :
    Calls Try.prog 36 #[.agg #[.string nm, v1], .agg #[.string nm, v2]] w fun e w' => e = .returned (.bool true) ∧ Below w.heap.size w w' := by
  obtain ⟨hl, A, c, rfl, _, _, hx⟩ := h1
  obtain ⟨_, B, d, rfl, _, _, hy⟩ := h2
  have HX := Lib.hid hx
  have HY := Lib.hid hy
  clear hx hy
  obtain ⟨n, hn⟩ : ∃ n, n = cs.length := ⟨_, rfl⟩
  rw [← hn] at hl ⊢
  have HN := Lib.hid hn
  clear hn
  obtain ⟨W, hW⟩ : ∃ W, W = (w.alloc (.cells #[.string nm, .slice A n c] 71)).alloc (.cells #[.string nm, .slice B n d] 71) := ⟨_, rfl⟩
  have hb0 : Below w.heap.size w W := by rw [hW]; exact two_new _ _ _
  have HB0 := Lib.hid hb0
  have k1 : W.cell? ⟨w.heap.size, 1, none⟩ = some (.slice A n c) := by rw [hW]; simp [go_sem]
  have k2 : W.cell? ⟨w.heap.size + 1, 1, none⟩ = some (.slice B n d) := by rw [hW]; simp [go_sem]
  have hz : w.heap.size + 1 < W.heap.size := by rw [hW]; simp
  have HK1 := Lib.hid k1
  have HK2 := Lib.hid k2
  clear hb0 k1 k2
  go_enter Try.func36, Try.ntmps36
  go_wp2
  rw [← hW]
  go_loopw [5] (fun i wr => ∃ k : Nat, k ≤ n ∧ i = .int .i64 k ∧ Below W.heap.size W wr) (fun i _ => n - (intOf i).toNat)
  case atStart => exact ⟨0, Nat.zero_le _, rfl, Below.refl _ _⟩
  case round =>
    obtain ⟨k, hk, rfl, hb⟩ := hrel
    have HB := Lib.hid hb
    have p1 : wr.cell? ⟨w.heap.size, 1, none⟩ = some (.slice A n c) := (hb.cell (p := ⟨w.heap.size, 1, none⟩) (by simp; omega)).trans HK1.out
    have p2 : wr.cell? ⟨w.heap.size + 1, 1, none⟩ = some (.slice B n d) := (hb.cell (p := ⟨w.heap.size + 1, 1, none⟩) hz).trans HK2.out
    clear hb
    by_cases h1 : k < n
    · obtain ⟨u, hu⟩ : ∃ u, cs[k]? = some u := ⟨_, List.getElem?_eq_getElem (by rw [← HN.out]; exact h1)⟩
      have hbw := HB0.out.trans (HB.out.mono HB0.out.size)
      obtain ⟨a, rfl, ha, d0, d1, d2⟩ := (HX.out.below hbw).col k u hu
      obtain ⟨b, rfl, hb, e0, e1, e2⟩ := (HY.out.below hbw).col k u hu
      obtain ⟨nm9, k9, nl9⟩ := u
      have es := eqCo_self ⟨nm9, k9, nl9⟩
      clear hu hbw
      go_wp2
      go_quiet (fail)
      go_wp2
      go_roundw
      case rel => exact ⟨k + 1, by omega, by go_num, below_dN HB.out _⟩
      case measure => simp [intOf]; omega
    · obtain rfl : k = n := by omega
      go_wp2
      go_ret
      exact ⟨rfl, HB0.out.trans (HB.out.mono HB0.out.size)⟩

/-! ### copies of kinds; a kind by its name -/
/-- The kind that bears a name, and the error beside it. -/
def findR (l : List Sc) (rel : ByteArray) : Sc × Int := match findS l rel with
  | some x => (x, 0)
  | none => (⟨⟨#[]⟩, []⟩, 20)
theorem found_any {w w' : World} {Q : Nat → Prop} {l : List Sc} {rel : ByteArray} {e : Ending} (h : FoundIs w Q (findS l rel) 20 e w') :
    Below w.heap.size w w' ∧ ∃ v, e = .returned (.tuple #[.agg #[.string (findR l rel).1.nm, v], .int .i64 (findR l rel).2]) ∧ IsCols w' Q v (findR l rel).1.cols := by
  obtain ⟨hb, h⟩ := h
  refine ⟨hb, ?_⟩
  unfold findR
  cases hO : findS l rel with
  | none => rw [hO] at h; exact ⟨_, h, IsCols.nil _ _⟩
  | some x => rw [hO] at h; exact h

/-! ### the columns of a relation -/
theorem own_lit2 (W : World) (a b : ByteArray) : OwnC (W.alloc (.cells #[.string a, .int .i64 3, .bool false, .string b, .int .i64 3, .bool false] 49)) W.heap.size (.slice (some ⟨W.heap.size, 0, none⟩) 2 2) [textC a, textC b] :=
  ⟨rfl, .inr ⟨W.heap.size, 2, #[.string a, .int .i64 3, .bool false, .string b, .int .i64 3, .bool false], rfl, Nat.le_refl _, (Go.MapKept.heap_alloc W _).1, Nat.le_refl _, by unfold maxLen; omega, rfl, rfl⟩⟩

/-- The columns of a relation, and the error beside them. -/
def colsR2 (l : List Sc) (rel : ByteArray) : List Co × Int := match colsOf l rel with
  | some cs => (cs, 0)
  | none => ([], 20)
theorem cols_any {w w' : World} {l : List Sc} {rel : ByteArray} {e : Ending} (h : ColsIs w (colsOf l rel) e w') :
    Below w.heap.size w w' ∧ ∃ v, e = .returned (.tuple #[v, .int .i64 (colsR2 l rel).2]) ∧ IsCols w' (Behind w) v (colsR2 l rel).1 := by
  obtain ⟨hb, h⟩ := h
  refine ⟨hb, ?_⟩
  unfold colsR2
  cases hO : colsOf l rel with
  | none => rw [hO] at h; exact ⟨_, h, IsCols.nil _ _⟩
  | some x => rw [hO] at h; exact h

set_option maxRecDepth 100000 in
set_option maxHeartbeats 2000000 in
theorem ref_columnsOf (Q : Nat → Prop) (B : Option Addr) (ls : List RS) (l : List Sc) (nb cb : Nat) (rel : ByteArray) (w : World) (hnb : nb = l.length) (hlb : nb ≤ 1000000) (hr : ScR w Q ls l) (hxb : CellsQ w Q B (flatS ls)) (hfew : ∀ x ∈ l, x.cols.length ≤ 900000) :
    Calls Try.prog 84 #[.slice B nb cb, .string rel] w (ColsIs w (colsOf l rel)) := by
  have HF := Lib.hid (ref_findS Q B ls l nb cb rel w hnb hlb hr hxb)
  clear hr hxb hnb hlb
  rcases Bool.eq_false_or_eq_true (sameNm rel tenantB) with h1 | h1
  · have hc : colsOf l rel = some [textC nameB, textC parentB] := by unfold colsOf; rw [if_pos h1]
    rw [hc]
    have b1 : (rel.toList == [116, 101, 110, 97, 110, 116]) = true := by rw [← same_ten]; exact h1
    clear h1 hc hfew
    go_enter Try.func84, Try.ntmps84
    go_wp2
    go_ret2
    exact ⟨one_new _ _, _, rfl, own_cols (own_lit2 _ nameB parentB) (by decide) (Nat.le_refl _)⟩
  · have b1 : (rel.toList == [116, 101, 110, 97, 110, 116]) = false := by rw [← same_ten]; exact h1
    have hc : colsOf l rel = (findS l rel).map fun x => [textC spaceB, textC nameB] ++ x.cols := by unfold colsOf; rw [if_neg (by rw [h1]; simp)]
    rw [hc]
    clear h1 hc
    have hmem : ∀ x, findS l rel = some x → x.cols.length ≤ 900000 := fun x hx => hfew x (List.mem_of_find?_eq_some hx)
    clear hfew
    generalize findS l rel = O at *
    cases O with
    | none =>
      clear hmem
      go_enter Try.func84, Try.ntmps84
      go_wp2_with fail
      refine HF.out.mono ?_
      rintro e w2 ⟨hb2, rfl⟩
      go_wp2
      go_ret2
      exact ⟨hb2.trans ((one_new _ _).mono hb2.size), rfl⟩
    | some x =>
      have hxl := hmem x rfl
      clear hmem
      go_enter Try.func84, Try.ntmps84
      go_wp2_with fail
      refine HF.out.mono ?_
      rintro e w2 ⟨hb2, v, rfl, hv⟩
      have HV := Lib.hid hv
      have HB := Lib.hid hb2
      obtain ⟨_, A, c, rfl, _, _, hcs⟩ := hv
      have HCS := Lib.hid hcs
      have hs2 := hb2.size
      clear hb2 hcs
      have ho := own_lit2 (w2.alloc (.cells #[.string x.nm, .slice A x.cols.length c] 71)) spaceB nameB
      rw [World.size_alloc] at ho
      have HO := Lib.hid ho
      clear ho
      go_wp2_with (at_builtin; go_must (refine wp_append_C _ rfl _ _ rfl (w2.heap.size + 1) (.slice (some ⟨w2.heap.size + 1, 0, none⟩) 2 2) [textC spaceB, textC nameB] x.cols rfl HO.out A x.cols.length c rfl rfl Q (HCS.out.below (two_new _ _ _)) (flatC_one _) (by simp; omega) (by simp) ?_; intro v' w1 hown1 hb1 _ _))
      have HO1 := Lib.hid hown1
      obtain ⟨A4, c4, hv4, _⟩ := hown1.slice (fun _ => True) (fun _ _ => trivial)
      subst hv4
      have HB1 := Lib.hid hb1
      clear hown1 hb1
      go_wp2
      go_ret2
      have hbb : Below w.heap.size w w1 := HB.out.trans (((two_new w2 _ _).trans (HB1.out.mono (by simp))).mono hs2)
      exact ⟨hbb, _, rfl, own_cols HO1.out (by simp; omega) (by omega)⟩
end Go.Proofs.Ythdjkagodccdbaa
