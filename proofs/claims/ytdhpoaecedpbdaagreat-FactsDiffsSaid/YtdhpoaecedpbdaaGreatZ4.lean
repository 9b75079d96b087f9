/-
  Rows of values that a call makes itself: what append leaves behind it, cell by cell, whatever room there was.
  No condition but that a row is no longer than it can be.
  Of, Pick, Join and Pairs of package row, beside the document's own: the cells of the rows that they make, whether the places can be, and whether the cells go together.
  No condition but that rows and lists are no longer than three million, and texts no longer than they can be.
  The document's own Pick and Join of rows: the cells of the rows that they make.
  No condition but that rows and lists are no longer than one million.
  Join of package row makes a row of its own that holds the cells of all rows, one behind the other; nothing that was there is changed.
  No condition but that the rows together are no longer than one million.
  The fixed calls that every statement of package row makes answer as they must, in every world; nothing that was there is changed.
  No condition.
-/
import Derived.Maps.AppendAt
import Derived.Deep.AppendLies
import Derived.OwnWalk
import Derived.Lib.AppendZeros
import Derived.Test.YtdhpoaecedpbdaaGreatZ2
import Derived.Test.YtdhpoaecedpbdaaGreatZ3
namespace Go.Proofs.YtdhpoaecedpbdaaGreat
section
open Go.RowKit

/-- The four cells of a value. -/
def V.cells (v : V) : List Value := [.int .i64 v.k, .bool v.f, .int .i64 v.n, .string v.t]
/-- The cells of a row. -/
def flat (xs : List V) : List Value := xs.flatMap V.cells

theorem flat_length (xs : List V) : (flat xs).length = xs.length * 4 := by
  induction xs with
  | nil => rfl
  | cons x xs ih =>
    have h : (flat (x :: xs)).length = 4 + (flat xs).length := by simp [flat, V.cells]; omega
    rw [h, ih, List.length_cons]
    omega
theorem flat_append (xs ys : List V) : flat (xs ++ ys) = flat xs ++ flat ys := by simp [flat]
theorem flat_cons (x : V) (xs : List V) : flat (x :: xs) = .int .i64 x.k :: .bool x.f :: .int .i64 x.n :: .string x.t :: flat xs := rfl
theorem flat_at : ∀ (xs : List V) (i : Nat) (v : V), xs[i]? = some v → (flat xs)[i * 4]? = some (.int .i64 v.k) ∧ (flat xs)[i * 4 + 1]? = some (.bool v.f) ∧ (flat xs)[i * 4 + 2]? = some (.int .i64 v.n) ∧ (flat xs)[i * 4 + 3]? = some (.string v.t)
  | [], _, _, h => by simp at h
  | x :: xs, 0, v, h => by
    have h' : x = v := by simpa using h
    subst h'
    exact ⟨rfl, rfl, rfl, rfl⟩
  | x :: xs, i + 1, v, h => by
    have ih := flat_at xs i v (by simpa using h)
    rw [flat_cons, show (i + 1) * 4 = i * 4 + 4 from by omega]
    exact ih
theorem flat_one (xs : List V) : ∀ u ∈ flat xs, u.oneCell' = true := by
  intro u hu
  obtain ⟨x, _, hx⟩ := List.mem_flatMap.1 hu
  simp only [V.cells, List.mem_cons, List.not_mem_nil, or_false] at hx
  rcases hx with rfl | rfl | rfl | rfl <;> rfl

theorem add_off (a : Addr) (m r : Nat) (hr : 0 < r) : ({ block := (a.add m).block, off := (a.add m).off + r } : Addr) = a.add (m + r) := by
  unfold Addr.add
  by_cases hm : m = 0
  · subst hm
    simp [Nat.ne_of_gt hr]
  · simp [hm, Nat.add_assoc]

theorem RowAt.cells {w : World} {B : Nat} {a : Addr} {xs : List V} (h : RowAt w B (some a) xs) : ∀ j u, (flat xs)[j]? = some u → w.cell? (a.add j) = some u := by
  intro j u hu
  have hj : j < xs.length * 4 := by
    rw [← flat_length]
    exact (List.getElem?_eq_some_iff.1 hu).1
  have hi : j / 4 < xs.length := by omega
  obtain ⟨v, hv⟩ : ∃ v, xs[j / 4]? = some v := ⟨_, List.getElem?_eq_getElem hi⟩
  obtain ⟨a', ha, _, h0, h1, h2, h3⟩ := h _ _ hv
  injection ha with ha
  subst ha
  obtain ⟨f0, f1, f2, f3⟩ := flat_at xs _ _ hv
  rw [add_off _ _ _ (by omega)] at h1 h2 h3
  rcases (show j = j / 4 * 4 ∨ j = j / 4 * 4 + 1 ∨ j = j / 4 * 4 + 2 ∨ j = j / 4 * 4 + 3 from by omega) with hq | hq | hq | hq
  · rw [hq, f0] at hu
    injection hu with hu
    rw [hq, ← hu]
    rw [← hq]
    rw [← hq] at h0
    exact h0
  · rw [hq, f1] at hu
    injection hu with hu
    rw [hq, ← hu]
    exact h1
  · rw [hq, f2] at hu
    injection hu with hu
    rw [hq, ← hu]
    exact h2
  · rw [hq, f3] at hu
    injection hu with hu
    rw [hq, ← hu]
    exact h3

/-- v is a row of the call's own (from block base on), and holds xs. -/
def Own (w : World) (base : Nat) (v : Value) (xs : List V) : Prop := w.ownsRow base 83 4 v xs.length (flat xs)

theorem Own.row {w : World} {base : Nat} {v : Value} {xs : List V} (h : Own w base v xs) : ∃ A c, v = .slice A xs.length c ∧ (A = none → c = 0) ∧ RowAt w w.heap.size A xs := by
  rcases h.2 with ⟨rfl, hn⟩ | ⟨g, cap, cur, rfl, hb, hg, _⟩
  · refine ⟨none, 0, by rw [hn], fun _ => rfl, fun i v hi => ?_⟩
    have := (List.getElem?_eq_some_iff.1 hi).1
    omega
  · refine ⟨_, _, rfl, fun h => by simp at h, fun i v hi => ⟨_, rfl, ?_, ?_⟩⟩
    · rw [show ((⟨g, 0, none⟩ : Addr).add (i * 4)).block = g from by unfold Addr.add; split <;> rfl]
      exact (Array.getElem?_eq_some_iff.1 hg).1
    · obtain ⟨f0, f1, f2, f3⟩ := flat_at xs i v hi
      have hc := World.ownsRow.cells h (g := g) rfl
      refine ⟨hc _ _ f0, ?_, ?_, ?_⟩
      · rw [add_off _ _ _ (by omega)]
        exact hc _ _ f1
      · rw [add_off _ _ _ (by omega)]
        exact hc _ _ f2
      · rw [add_off _ _ _ (by omega)]
        exact hc _ _ f3

theorem Own.base_le {w : World} {base : Nat} {v : Value} {xs : List V} (h : Own w base v xs) : ∀ k, v.ownBlock = some k → base ≤ k := fun k hk => (World.ownsRow.lt h k hk).1
theorem Own.nil (w : World) (base : Nat) : Own w base (.slice none 0 0) [] := World.ownsRow_nil w base _ _
theorem Own.alloc {w : World} {base : Nat} {v : Value} {xs : List V} (h : Own w base v xs) (o : Obj) : Own (w.alloc o) base v xs := World.ownsRow.alloc h o
theorem Own.drewN {w : World} {base : Nat} {v : Value} {xs : List V} (h : Own w base v xs) (n : Nat) : Own (w.drewN n) base v xs := h
/-- A row stays one's own while only later blocks change. -/
theorem Own.below {w w' : World} {base : Nat} {v : Value} {xs : List V} (h : Own w base v xs) {B : Nat} (hb : Below B w w') (hB : w.heap.size ≤ B) : Own w' base v xs := by
  refine ⟨h.1, ?_⟩
  rcases h.2 with hn | ⟨g, cap, cur, hv, hg, hh, r⟩
  · exact Or.inl hn
  · have hlt : g < w.heap.size := (Array.getElem?_eq_some_iff.1 hh).1
    exact Or.inr ⟨g, cap, cur, hv, hg, (hb.block g (by omega)).trans hh, r⟩

theorem info_V : (Tryz.prog.info? 83).map (fun i => (i.zero, i.size, i.bytes)) = some (some (.agg #[.int .i64 0, .bool false, .int .i64 0, .string ⟨#[]⟩]), 4, 40) := by kernel_rfl

theorem wp_append_V {ops : Array Oper} {rest : List Oper} {o : Oper} {a : Act} {Q : Exit → Act → World → Prop} (w : World) (hgd : o.guard = none) (s x : Operand)
    (ho : o.op = .call { callee := .builtin .append, args := #[s, x], argTypes := #[23, 23] })
    (base : Nat) (v : Value) (xs ys : List V) (hs : a.eval s = v) (hown : Own w base v xs)
    (B : Nat) (A : Option Addr) (m c : Nat) (hx : a.eval x = .slice A m c) (hm : m = ys.length) (hr : RowAt w B A ys)
    (hroom : xs.length + ys.length ≤ 3000000) (hbase : base ≤ w.heap.size)
    (h : ∀ v' w', Own w' base v' (xs ++ ys) → Below base w w' → w.grownBy w' v.ownBlock → wpList Tryz.prog ops Q rest (a.put o.dst v') w') : wpList Tryz.prog ops Q (o :: rest) a w := by
  obtain ⟨i, hi, hz, hsize, hby⟩ := info_parts info_V
  refine wpList_plain hgd fun K hK => ?_
  have hrun : ∃ v' w', (Builtin.append_ #[23, 23] o.type #[v, .slice A m c]).run Tryz.prog w = .ok v' w' ∧ Own w' base v' (xs ++ ys) ∧ w.grownBy w' v.ownBlock := by
    cases A with
    | none =>
      have hy : ys = [] := by
        cases ys with
        | nil => rfl
        | cons y ys =>
          obtain ⟨a, ha, _⟩ := hr 0 y rfl
          cases ha
      subst hy
      subst hm
      refine ⟨v, w, ?_, by simpa using hown, World.grownBy.refl _ _⟩
      rcases hown.2 with ⟨rfl, _⟩ | ⟨g, cap, cur, rfl, _, _, hnc, _⟩
      · simp [Builtin.append_, run_underlying Tryz.underlying23, sizeOf, typeInfo, hi, Builtin.lenOf, Builtin.firstCells]
      · simp [Builtin.append_, run_underlying Tryz.underlying23, sizeOf, typeInfo, hi, Builtin.lenOf, Builtin.firstCells, hnc, storeCells]
    | some ad =>
      obtain ⟨v', w', h1, h2, h3, _⟩ := run_append_own_at (P := Tryz.prog) w base 23 o.type 83 i _ 4 40 Tryz.underlying23 hi hz hsize hby rfl (by omega) v xs.length (flat xs) hown ad m c (flat ys)
        (by rw [flat_length, hm]) hr.cells (flat_one ys) (by unfold maxLen; omega) (by omega) hbase
      refine ⟨v', w', h1, ?_, h3⟩
      unfold Own
      rw [flat_append, List.length_append, ← hm]
      exact h2
  obtain ⟨v', w', hrun, h2, h3⟩ := hrun
  unfold Oper.wp execOp
  simp only [ho, resolve, invoke, builtin, Sem.run_bind, Sem.run_pure, Result.andThen_ok, List.map_toArray, List.map_cons, List.map_nil, hs, hx, hrun]
  exact hK _ _ (h v' w' h2 ((Below.refl _ _).grown h3 hbase (fun k hk => hown.base_le k hk)) h3)

theorem wp_make_V {ops : Array Oper} {rest : List Oper} {o : Oper} {a : Act} {Q : Exit → Act → World → Prop} (w : World) (hg : o.guard = none) (l c : Operand) (hop : o.op = Op.makeSlice 23 l c)
    (base : Nat) (n : Nat) (hl : a.eval l = .int .i64 0) (hc : a.eval c = .int .i64 (n : Int)) (hn : n ≤ 3000000) (hbase : base ≤ w.heap.size)
    (h : ∀ v' w', Own w' base v' [] → Below base w w' → wpList Tryz.prog ops Q rest (a.put o.dst v') w') : wpList Tryz.prog ops Q (o :: rest) a w := by
  obtain ⟨i, hi, hz, hsize, hby⟩ := info_parts info_V
  exact wpList_make_own w hg l c 23 hop base 83 i _ 4 Tryz.underlying23 hi hz hsize .i64 .i64 _ n hl hc rfl (by rw [hby]; omega) (by unfold maxLen; omega) hbase
    fun w' h1 h2 => h _ w' h1 ((Below.refl _ _).grown h2 hbase (fun k hk => by cases hk))

/-- A block of one value's four cells is a row of that value. -/
theorem row_lit1 (w : World) (v : V) : RowAt (w.alloc (.cells #[.int .i64 v.k, .bool v.f, .int .i64 v.n, .string v.t] 83)) (w.heap.size + 1) (some ⟨w.heap.size, 0, none⟩) [v] := by
  have h : Own (w.alloc (.cells #[.int .i64 v.k, .bool v.f, .int .i64 v.n, .string v.t] 83)) w.heap.size (.slice (some ⟨w.heap.size, 0, none⟩) 1 1) [v] :=
    World.ownsRow_lit w #[.int .i64 v.k, .bool v.f, .int .i64 v.n, .string v.t] 1 (Nat.le_refl _) (by unfold maxLen; omega) rfl
  obtain ⟨A, c, hv, _, hr⟩ := h.row
  injection hv with hA _ _
  subst hA
  simpa using hr
end
end Go.Proofs.YtdhpoaecedpbdaaGreat
namespace Go.Proofs.YtdhpoaecedpbdaaGreat
section
open Go.RowKit

/-- A call that answers a row of its own, which holds xs, and changes nothing that was there. -/
def OwnsNew (w : World) (xs : List V) (e : Ending) (w' : World) : Prop := ∃ v, e = .returned v ∧ Own w' w.heap.size v xs ∧ Below w.heap.size w w'

set_option maxHeartbeats 400000 in
theorem clone_V (A : Option Addr) (xs : List V) (n c : Nat) (w : World) (hn : n = xs.length) (hc : A = none → c = 0) (hl : xs.length ≤ 1000000) (hx : RowAt w w.heap.size A xs) :
    Calls Tryz.prog 93 #[.slice A n c] w (OwnsNew w xs) := by
  have HX := Lib.hid hx
  have HN := Lib.hid hn
  clear hx hn
  cases A with
  | none =>
    have hxs : xs = [] := by
      cases xs with
      | nil => rfl
      | cons y ys =>
        obtain ⟨a, ha, _⟩ := HX.out 0 y rfl
        cases ha
    subst hxs
    obtain rfl : n = 0 := HN.out
    obtain rfl : c = 0 := hc rfl
    have q := fun w : World => Lib.run_eql_slice_nil (P := Tryz.prog) w 23 83 none 0 0 0 0 Tryz.underlying23
    go_enter Tryz.func93, Tryz.ntmps93
    go_wp2
    go_ret
    exact ⟨_, rfl, Own.nil _ _, Below.refl _ _⟩
  | some a =>
    clear hc
    have q := fun w : World => Lib.run_eql_slice_nil (P := Tryz.prog) w 23 83 (some a) n c 0 0 Tryz.underlying23
    have hown : Own (w.alloc (.cells #[] 83)) w.heap.size (.slice (some ⟨w.heap.size, 0, none⟩) 0 0) [] := World.ownsRow_made w #[] 0 (Nat.le_refl _) (by unfold maxLen; omega) rfl
    have HO := Lib.hid hown
    clear hown
    go_enter Tryz.func93, Tryz.ntmps93
    go_wp2_with (at_builtin; go_must (refine wp_append_V _ rfl (.tmp 5) (.tmp 6) rfl w.heap.size _ [] xs rfl HO.out w.heap.size (some a) n c rfl HN.out (HX.out.below (one_new _ _)) (by simp; omega) (by simp) ?_; intro v' w1 hown1 hb1 _))
    go_ret
    exact ⟨v', rfl, by simpa using hown1, (one_new _ _).trans hb1⟩

set_option maxHeartbeats 400000 in
theorem row_of (A : Option Addr) (xs : List V) (n c : Nat) (w : World) (hn : n = xs.length) (hc : A = none → c = 0) (hl : xs.length ≤ 1000000) (hx : RowAt w w.heap.size A xs) :
    Calls Tryz.prog 49 #[.slice A n c] w (OwnsNew w xs) := by
  have HF := Lib.hid (clone_V A xs n c w hn hc hl hx)
  clear hx hn hc hl
  go_enter Tryz.func49, Tryz.ntmps49
  go_wp2_with fail
  refine HF.out.mono ?_
  rintro e w' ⟨v, rfl, ho, hb⟩
  go_wp2
  go_ret
  exact ⟨v, rfl, ho, hb⟩

/-- Is z a place of a row of n cells? -/
def inR (n : Nat) (z : Int) : Bool := decide (0 ≤ z) && decide (z < (n : Int))

/-- The list of numbers zs lies at A, below block B. -/
def IntsAt (w : World) (B : Nat) (A : Option Addr) (zs : List Int) : Prop := ∀ (i : Nat) (z : Int), zs[i]? = some z → ∃ a : Addr, A = some a ∧ (a.add i).block < B ∧ w.cell? (a.add i) = some (.int .i64 z)
theorem IntsAt.below {w w' : World} {B : Nat} {A : Option Addr} {zs : List Int} (h : IntsAt w B A zs) (hb : Below B w w') : IntsAt w' B A zs := by
  intro i z hi
  obtain ⟨a, ha, hlt, hc⟩ := h i z hi
  exact ⟨a, ha, hlt, (hb.cell hlt).trans hc⟩

/-- The value at a place. -/
def getV (xs : List V) (z : Int) : V := (xs[z.toNat]?).getD ⟨0, false, 0, ⟨#[]⟩⟩
theorem getV_at (xs : List V) (z : Int) (h : inR xs.length z = true) : xs[z.toNat]? = some (getV xs z) := by
  unfold inR at h
  rw [Bool.and_eq_true, decide_eq_true_eq, decide_eq_true_eq] at h
  have hz : z.toNat < xs.length := by omega
  unfold getV
  rw [List.getElem?_eq_getElem hz]
  rfl
/-- What Pick answers: the cells at the places, and the error's number. -/
def pickR (xs : List V) (zs : List Int) : List V × Int := if zs.all (inR xs.length) = true then (zs.map (getV xs), 0) else ([], 2)
/-- A call that answers a row of its own and an error's number. -/
def Picked (w : World) (r : List V × Int) (e : Ending) (w' : World) : Prop := ∃ v, e = .returned (.tuple #[v, .int .i64 r.2]) ∧ Own w' w.heap.size v r.1 ∧ Below w.heap.size w w'

theorem all_take_succ (p : Int → Bool) (zs : List Int) (k : Nat) (z : Int) (h : zs[k]? = some z) : (zs.take (k + 1)).all p = ((zs.take k).all p && p z) := by
  rw [List.take_add_one, h]
  simp
theorem map_take_succ (f : Int → V) (zs : List Int) (k : Nat) (z : Int) (h : zs[k]? = some z) : (zs.take (k + 1)).map f = (zs.take k).map f ++ [f z] := by
  rw [List.take_add_one, h]
  simp
theorem pickR_no (xs : List V) (zs : List Int) (k : Nat) (z : Int) (h : zs[k]? = some z) (hz : inR xs.length z = false) : pickR xs zs = ([], 2) := by
  unfold pickR
  rw [if_neg]
  intro ha
  have := List.all_eq_true.1 ha z (List.mem_of_getElem? h)
  rw [hz] at this
  cases this
end
end Go.Proofs.YtdhpoaecedpbdaaGreat
namespace Go.Proofs.YtdhpoaecedpbdaaGreat
section
open Go.RowKit
end
end Go.Proofs.YtdhpoaecedpbdaaGreat
namespace Go.Proofs.YtdhpoaecedpbdaaGreat
section
open Go.RowKit

set_option maxHeartbeats 1000000 in
set_option maxRecDepth 100000 in
theorem grow_nil (n : Nat) (w : World) (hn : n ≤ 1000000) : Calls Tryz.prog 120 #[.slice none 0 0, .int .i64 n] w (OwnsNew w []) := by
  by_cases h0 : n = 0
  · subst h0
    go_enter Tryz.func120, Tryz.ntmps120
    go_wp2
    go_ret
    exact ⟨_, rfl, Own.nil _ _, Below.refl _ _⟩
  · obtain ⟨i, hi, hz, hsize, hby⟩ := info_parts info_V
    have hr : ∀ W : World, ∀ ty : TypeId, (Builtin.append_ #[23, 3] ty #[.slice none 0 0, .int .i64 (n : Int)]).run Tryz.prog W = .ok (.slice (some ⟨W.heap.size, 0, none⟩) n (grownCap W n 0 83)) (W.drew.alloc (.cells (Builtin.zeroCells (Value.agg #[.int .i64 0, .bool false, .int .i64 0, .string ⟨#[]⟩]).cells n ++ Builtin.zeroCells (Value.agg #[.int .i64 0, .bool false, .int .i64 0, .string ⟨#[]⟩]).cells (grownCap W n 0 83 - n)) 83)) :=
      fun W ty => Lib.run_append_nil_zeros (P := Tryz.prog) W 23 3 ty 83 i _ .i64 .i64 Tryz.underlying23 Tryz.underlying3 hi hz n (by omega) (by omega) (by omega) (by rw [hby]; omega)
    have HR := Lib.hid hr
    clear hr
    have hpos : 0 < n := by omega
    have hge := grownCap_ge w n 0 83
    have hown : Own (w.drew.alloc (.cells (Builtin.zeroCells (Value.agg #[.int .i64 0, .bool false, .int .i64 0, .string ⟨#[]⟩]).cells n ++ Builtin.zeroCells (Value.agg #[.int .i64 0, .bool false, .int .i64 0, .string ⟨#[]⟩]).cells (grownCap w n 0 83 - n)) 83)) w.heap.size (.slice (some ⟨w.heap.size, 0, none⟩) 0 (grownCap w n 0 83)) [] :=
      World.ownsRow_made w.drew _ _ (Nat.le_refl _) (grownCap_le_maxLen _ _ _ _ (by unfold maxLen; omega)) (by
        rw [Array.size_append, size_zeroCells, size_zeroCells]
        show n * 4 + _ * 4 = _
        omega)
    have HO := Lib.hid hown
    clear hown hge h0
    go_enter Tryz.func120, Tryz.ntmps120
    go_wp2_with (at_builtin; refine Lib.wpList_append_run _ rfl (.tmp 20) (.tmp 21) _ _ rfl _ _ rfl rfl _ _ (HR.out _ _) ?_)
    go_ret
    exact ⟨_, rfl, HO.out, (below_drew _ _).alloc (Nat.le_refl _) _⟩

/-- A row that came in: where it lies, its room, its cells. -/
structure Rw where
  A : Option Addr
  c : Nat
  xs : List V

/-- The list of rows rs lies at L, all below block B. -/
def RowsAt (w : World) (B : Nat) (L : Option Addr) (rs : List Rw) : Prop :=
  ∀ (i : Nat) (r : Rw), rs[i]? = some r → ∃ a : Addr, L = some a ∧ (a.add i).block < B ∧ w.cell? (a.add i) = some (.slice r.A r.xs.length r.c) ∧ RowAt w B r.A r.xs ∧ (r.A = none → r.c = 0)
theorem RowsAt.below {w w' : World} {B : Nat} {L : Option Addr} {rs : List Rw} (h : RowsAt w B L rs) (hb : Below B w w') : RowsAt w' B L rs := by
  intro i r hi
  obtain ⟨a, ha, hlt, hc, hr, hn⟩ := h i r hi
  exact ⟨a, ha, hlt, (hb.cell hlt).trans hc, hr.below hb, hn⟩

/-- How many cells rows have together. -/
def sumL (rs : List Rw) : Nat := (rs.map fun r => r.xs.length).sum
/-- The cells of rows, one behind the other. -/
def catL (rs : List Rw) : List V := rs.flatMap (·.xs)
theorem sumL_take (rs : List Rw) (k : Nat) (r : Rw) (h : rs[k]? = some r) : sumL (rs.take (k + 1)) = sumL (rs.take k) + r.xs.length := by
  unfold sumL
  rw [List.take_add_one, h]
  simp
theorem catL_take (rs : List Rw) (k : Nat) (r : Rw) (h : rs[k]? = some r) : catL (rs.take (k + 1)) = catL (rs.take k) ++ r.xs := by
  unfold catL
  rw [List.take_add_one, h]
  simp
theorem catL_len : ∀ (rs : List Rw), (catL rs).length = sumL rs
  | [] => rfl
  | r :: rs => by
    have ih := catL_len rs
    unfold catL sumL at *
    simp [ih]
theorem sumL_le (rs : List Rw) (k : Nat) : sumL (rs.take k) ≤ sumL rs := by
  have h := congrArg sumL (List.take_append_drop k rs)
  unfold sumL at h ⊢
  rw [List.map_append, List.sum_append] at h
  omega

set_option maxHeartbeats 1000000 in
theorem concat_V (L : Option Addr) (rs : List Rw) (m c : Nat) (w : World) (hm : m = rs.length) (hml : m ≤ maxLen) (hl : sumL rs ≤ 1000000) (hx : RowsAt w w.heap.size L rs) :
    Calls Tryz.prog 92 #[.slice L m c] w (OwnsNew w (catL rs)) := by
  unfold maxLen at hml
  have HX := Lib.hid hx
  have HM := Lib.hid hm
  clear hx hm
  go_enter Tryz.func92, Tryz.ntmps92
  go_wp2
  go_loop [3, 11] (fun s i => ∃ k : Nat, k ≤ m ∧ i = .int .i64 k ∧ s = .int .i64 (sumL (rs.take k))) (fun _ i => m - (intOf i).toNat)
  case atStart => exact ⟨0, Nat.zero_le _, rfl, rfl⟩
  case round =>
    obtain ⟨k, hk, rfl, rfl⟩ := hrel
    by_cases h1 : k < m
    · obtain ⟨r, hr⟩ : ∃ r, rs[k]? = some r := ⟨_, List.getElem?_eq_getElem (by rw [← HM.out]; exact h1)⟩
      obtain ⟨a, rfl, _, hc, _, _⟩ := HX.out k r hr
      have HS := Lib.hid (sumL_take rs k r hr)
      have hle := sumL_le rs (k + 1)
      have h9 : sumL (rs.take k) + r.xs.length ≤ 1000000 := by rw [← HS.out]; omega
      clear hr hle
      go_wp2
      go_round
      case rel => exact ⟨k + 1, by omega, by go_num, by rw [HS.out]; go_num⟩
      case measure => simp [intOf]; omega
    · obtain rfl : k = m := by omega
      have ht : sumL (rs.take k) = sumL rs := by rw [List.take_of_length_le (by rw [← HM.out]; omega)]
      have HT := Lib.hid ht
      clear ht
      have h9 : sumL (rs.take k) ≤ 1000000 := by rw [HT.out]; exact hl
      go_wp2_with (go_at_call 120; refine (grow_nil _ _ h9).mono ?_; rintro e w0 ⟨v0, rfl, hown0, hb0⟩)
      have HO := Lib.hid hown0
      have HB := Lib.hid hb0
      clear hown0 hb0
      go_loopw [6, 27] (fun v i wr => ∃ j : Nat, j ≤ k ∧ i = .int .i64 j ∧ Own wr w.heap.size v (catL (rs.take j)) ∧ Below w.heap.size w wr) (fun _ i _ => k - (intOf i).toNat)
      case atStart => exact ⟨0, Nat.zero_le _, rfl, HO.out, HB.out⟩
      case round =>
        obtain ⟨j, hj, rfl, hown, hb⟩ := hrel
        have HO := Lib.hid hown
        have HB := Lib.hid hb
        have hsz : w.heap.size ≤ wr.heap.size := hb.size
        clear hown hb
        by_cases h2 : j < k
        · obtain ⟨r, hr⟩ : ∃ r, rs[j]? = some r := ⟨_, List.getElem?_eq_getElem (by rw [← HM.out]; exact h2)⟩
          obtain ⟨a, rfl, _, hc, hrow, _⟩ := (HX.out.below HB.out) j r hr
          have HS := Lib.hid (sumL_take rs j r hr)
          have HK := Lib.hid (catL_take rs j r hr)
          have HW := Lib.hid hrow
          have hle := sumL_le rs (j + 1)
          have h8 : (catL (rs.take j)).length + r.xs.length ≤ 1000000 := by rw [catL_len, ← HS.out]; omega
          clear hr hle hrow
          go_wp2_with (at_builtin; go_must (refine wp_append_V _ rfl (.tmp 31) (.tmp 32) rfl w.heap.size _ (catL (rs.take j)) r.xs rfl HO.out _ _ _ _ rfl rfl HW.out (by omega) hsz ?_; intro v' w1 hown1 hb1 _))
          have HO1 := Lib.hid hown1
          have HB1 := Lib.hid hb1
          clear hown1 hb1
          go_wp2
          go_roundw
          case rel => exact ⟨j + 1, by omega, by go_num, by rw [HK.out]; exact HO1.out, HB.out.trans HB1.out⟩
          case measure => simp [intOf]; omega
        · go_wp2
          go_ret
          refine ⟨_, rfl, ?_, HB.out⟩
          have h := HO.out
          rwa [List.take_of_length_le (by rw [← HM.out]; omega)] at h

set_option maxHeartbeats 400000 in
theorem row_join (L : Option Addr) (rs : List Rw) (m c : Nat) (w : World) (hm : m = rs.length) (hml : m ≤ maxLen) (hl : sumL rs ≤ 1000000) (hx : RowsAt w w.heap.size L rs) :
    Calls Tryz.prog 48 #[.slice L m c] w (OwnsNew w (catL rs)) := by
  have HF := Lib.hid (concat_V L rs m c w hm hml hl hx)
  clear hx hm hml hl
  go_enter Tryz.func48, Tryz.ntmps48
  go_wp2_with fail
  refine HF.out.mono ?_
  rintro e w' ⟨v, rfl, ho, hb⟩
  go_wp2
  go_ret
  exact ⟨v, rfl, ho, hb⟩
end
end Go.Proofs.YtdhpoaecedpbdaaGreat
namespace Go.Proofs.YtdhpoaecedpbdaaGreat
section
open Go.RowKit

theorem row_lit (w : World) (cs : Array Value) (xs : List V) (h : cs.toList = flat xs) (hl : xs.length ≤ maxLen) : RowAt (w.alloc (.cells cs 83)) (w.heap.size + 1) (some ⟨w.heap.size, 0, none⟩) xs := by
  have hs : cs.size = xs.length * 4 := by
    rw [← flat_length, ← h]
    simp
  have ho : Own (w.alloc (.cells cs 83)) w.heap.size (.slice (some ⟨w.heap.size, 0, none⟩) xs.length xs.length) xs := by
    unfold Own
    rw [← h]
    exact World.ownsRow_lit w cs xs.length (Nat.le_refl _) hl hs
  obtain ⟨A, c, hv, _, hr⟩ := ho.row
  injection hv with hA _ _
  subst hA
  simpa using hr

theorem ints_lit (w : World) (cs : Array Value) (zs : List Int) (h : cs.toList = zs.map (Value.int .i64)) : IntsAt (w.alloc (.cells cs 3)) (w.heap.size + 1) (some ⟨w.heap.size, 0, none⟩) zs := by
  intro i z hi
  have hb : ((⟨w.heap.size, 0, none⟩ : Addr).add i).block = w.heap.size := by unfold Addr.add; split <;> rfl
  have ha : (⟨w.heap.size, 0, none⟩ : Addr).add i = ⟨w.heap.size, i, none⟩ := by unfold Addr.add; split <;> simp_all
  refine ⟨_, rfl, by rw [hb]; omega, ?_⟩
  rw [ha, cell_of_row _ w.heap.size i cs 3 (0, 0) (heap_alloc_new w _), ← Array.getElem?_toList, h, List.getElem?_map, hi]
  rfl

theorem row_lit' (w : World) (cs : Array Value) (xs : List V) (g : Nat) (hg : g = w.heap.size) (h : cs.toList = flat xs) (hl : xs.length ≤ 1000000) : RowAt (w.alloc (.cells cs 83)) (w.alloc (.cells cs 83)).heap.size (some ⟨g, 0, none⟩) xs := by
  subst hg
  exact (row_lit w cs xs h (by unfold maxLen; omega)).more (by simp)
theorem ints_lit' (w : World) (cs : Array Value) (zs : List Int) (g : Nat) (hg : g = w.heap.size) (h : cs.toList = zs.map (Value.int .i64)) : IntsAt (w.alloc (.cells cs 3)) (w.alloc (.cells cs 3)).heap.size (some ⟨g, 0, none⟩) zs := by
  subst hg
  have := ints_lit w cs zs h
  simpa using this
theorem rows_lit2 (w : World) (r s : Rw) (g : Nat) (hg : g = w.heap.size) (hr : RowAt w w.heap.size r.A r.xs) (hs : RowAt w w.heap.size s.A s.xs) (hr0 : r.A = none → r.c = 0) (hs0 : s.A = none → s.c = 0) :
    RowsAt (w.alloc (.cells #[.slice r.A r.xs.length r.c, .slice s.A s.xs.length s.c] 23)) (w.alloc (.cells #[.slice r.A r.xs.length r.c, .slice s.A s.xs.length s.c] 23)).heap.size (some ⟨g, 0, none⟩) [r, s] := by
  subst hg
  have hb := one_new w (.cells #[.slice r.A r.xs.length r.c, .slice s.A s.xs.length s.c] 23)
  intro i x hi
  match i, hi with
  | 0, hi =>
    have h : r = x := by simpa using hi
    subst h
    exact ⟨_, rfl, by simp [Addr.add], by simp [Addr.add, cell_of_row _ w.heap.size 0 _ 23 (0, 0) (heap_alloc_new w _)], hr.later hb, hr0⟩
  | 1, hi =>
    have h : s = x := by simpa using hi
    subst h
    exact ⟨_, rfl, by simp [Addr.add], by simp [Addr.add, cell_of_row _ w.heap.size 1 _ 23 (0, 0) (heap_alloc_new w _)], hs.later hb, hs0⟩
  | i + 2, hi => simp at hi

def kA : V := ⟨2, false, 5, ⟨#[]⟩⟩
def kB : V := ⟨1, true, 0, ⟨#[]⟩⟩
def kC : V := ⟨0, false, 0, ⟨#[]⟩⟩

theorem bnew {B : Nat} {a w : World} (h : Below B a w) (hB : B ≤ a.heap.size) (o : Obj) : Below B a (w.alloc o) := h.alloc (Nat.le_trans hB h.size) o
theorem bon {B : Nat} {a b c : World} (h : Below B a b) (hB : B ≤ a.heap.size) (k : Below b.heap.size b c) : Below B a c := h.trans (k.mono (Nat.le_trans hB h.size))

theorem Own.rowN {w : World} {base : Nat} {v : Value} {xs : List V} (h : Own w base v xs) (n : Nat) (hn : n = xs.length) : ∃ A c, v = .slice A n c ∧ (A = none → c = 0) ∧ RowAt w w.heap.size A xs := by
  subst hn
  exact h.row
/-- A row of one's own that is not empty: where it lies. -/
theorem Own.form {w : World} {base : Nat} {v : Value} {xs : List V} (h : Own w base v xs) (n : Nat) (hn : n = xs.length) (h0 : 0 < n) : ∃ g c, v = .slice (some ⟨g, 0, none⟩) n c ∧ n ≤ c ∧ base ≤ g ∧ g < w.heap.size ∧ RowAt w w.heap.size (some ⟨g, 0, none⟩) xs := by
  subst hn
  obtain ⟨A, c, hv, _, hr⟩ := h.row
  rcases h.2 with ⟨_, h9⟩ | ⟨g, cap, cur, hv', hb, hg, hc, _⟩
  · omega
  · rw [hv'] at hv
    injection hv with h1 h2 h3
    subst h1
    exact ⟨g, cap, hv', hc, hb, (Array.getElem?_eq_some_iff.1 hg).1, hr⟩
theorem RowAt.take {w : World} {B : Nat} {A : Option Addr} {xs : List V} (h : RowAt w B A xs) (k : Nat) : RowAt w B A (xs.take k) := by
  intro i v hi
  have h1 := (List.getElem?_eq_some_iff.1 hi).1
  rw [List.length_take] at h1
  rw [List.getElem?_take_of_lt (by omega)] at hi
  exact h i v hi
theorem RowAt.drop {w : World} {B g o k : Nat} {xs : List V} (h : RowAt w B (some ⟨g, o, none⟩) xs) : RowAt w B (some ⟨g, o + k * 4, none⟩) (xs.drop k) := by
  intro i v hi
  rw [List.getElem?_drop] at hi
  obtain ⟨a, ha, hb, hv⟩ := h _ _ hi
  injection ha with ha
  subst ha
  have he : (⟨g, o, none⟩ : Addr).add ((k + i) * 4) = (⟨g, o + k * 4, none⟩ : Addr).add (i * 4) := by
    unfold Addr.add
    by_cases h1 : i * 4 = 0
    · by_cases h2 : (k + i) * 4 = 0
      · simp only [if_pos h1, if_pos h2]
        congr 1
        omega
      · simp only [if_pos h1, if_neg h2]
        congr 1
        omega
    · simp only [if_neg h1, if_neg (show ¬ (k + i) * 4 = 0 from by omega)]
      congr 1
      omega
  rw [he] at hb hv
  exact ⟨_, rfl, hb, hv⟩

theorem pick1 : pickR [kA, kB, kC] [2, 0] = ([kC, kA], 0) := by simp [pickR, inR, getV]
theorem pick2 : pickR [kA, kB, kC] [3] = ([], 2) := by simp [pickR, inR]

theorem join_two (W w3 : World) (g c2 G : Nat) (hb : Below w3.heap.size w3 W) (hr : RowAt w3 w3.heap.size (some ⟨g, 0, none⟩) [kC, kA]) (hG : G = W.heap.size) :
    Calls Tryz.prog 48 #[.slice (some ⟨G, 0, none⟩) 2 2] (W.alloc (.cells #[.slice (some ⟨g, 0, none⟩) 1 c2, .slice (some ⟨g, 4, none⟩) 1 (c2 - 1)] 23)) (OwnsNew (W.alloc (.cells #[.slice (some ⟨g, 0, none⟩) 1 c2, .slice (some ⟨g, 4, none⟩) 1 (c2 - 1)] 23)) [kC, kA]) := by
  have h1 : RowAt W W.heap.size (some ⟨g, 0, none⟩) [kC] := (hr.later hb).take 1
  have h2 : RowAt W W.heap.size (some ⟨g, 4, none⟩) [kA] := by
    have h := (hr.later hb).drop (k := 1)
    exact h
  have h3 := rows_lit2 W ⟨some ⟨g, 0, none⟩, c2, [kC]⟩ ⟨some ⟨g, 4, none⟩, c2 - 1, [kA]⟩ G hG h1 h2 (by simp) (by simp)
  exact row_join _ [⟨some ⟨g, 0, none⟩, c2, [kC]⟩, ⟨some ⟨g, 4, none⟩, c2 - 1, [kA]⟩] 2 2 _ rfl (by decide) (by simp [sumL]) h3
end
end Go.Proofs.YtdhpoaecedpbdaaGreat
