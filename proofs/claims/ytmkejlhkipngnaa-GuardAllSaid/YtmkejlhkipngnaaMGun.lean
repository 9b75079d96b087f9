/-
  Lists of one's own of literals as layer 15 sees them; a whole list appended; the atom that has all, as it grows.
  No condition but that lists are no longer than they can be.
-/
import Derived.Test.YtmkejlhkipngnaaM34
import Derived.Test.YtmkejlhkipngnaaM36
import Derived.Test.YtmkejlhkipngnaaMGum
namespace Go.Proofs.Ytmkejlhkipngnaa
open Go.RowKit Go.Maps

theorem el_LmG : IsEl 23 41 LmG.cells 4 56 where
  under := Try.underlying23
  info := ⟨.agg #[.bool false, .string ⟨#[]⟩, .slice none 0 0, .int .i64 0], by kernel_rfl, rfl⟩
  pos := by omega
  len := fun _ => rfl
  one := fun x u hu => by
    simp only [LmG.cells, List.mem_cons, List.not_mem_nil, or_false] at hu
    rcases hu with rfl | rfl | rfl | rfl <;> rfl
  few := by omega
abbrev OwnLg (w : World) (base : Nat) (v : Value) (ls : List LmG) : Prop := OwnF 41 LmG.cells 4 w base v ls
section
variable {α : Type} {S E : TypeId} {f : α → List Value} {n b : Nat}
theorem OwnF.elsF (hI : IsEl S E f n b) {w : World} {base : Nat} {v : Value} {l : List α} (h : OwnF E f n w base v l) : ∃ A c, v = .slice A l.length c ∧ ElsAt f n w A l := by
  rcases h.slice hI with ⟨rfl, rfl⟩ | ⟨g, c, rfl, _, _, _, he⟩
  · exact ⟨none, 0, rfl, fun i x hi => by simp at hi⟩
  · exact ⟨_, c, rfl, he⟩
theorem add_addF (a : Addr) (i j : Nat) : (a.add i).add j = a.add (i + j) := by
  unfold Addr.add
  by_cases hi : i = 0
  · subst hi
    simp
  · by_cases hj : j = 0
    · subst hj
      simp [hi]
    · rw [if_neg hi, if_neg hj, if_neg (by omega)]
      simp [Nat.add_assoc]
theorem flat_cell (hI : IsEl S E f n b) {w : World} {ad : Addr} {ys : List α} (hr : ElsAt f n w (some ad) ys) (j : Nat) (u : Value) (hj : (ys.flatMap f)[j]? = some u) : w.cell? (ad.add j) = some u := by
  have hp := hI.pos
  have hjl : j < ys.length * n := by
    have := (List.getElem?_eq_some_iff.1 hj).1
    rwa [flatF_len hI.len] at this
  have hd : j / n < ys.length := (Nat.div_lt_iff_lt_mul hp).2 hjl
  have hm : j % n < n := Nat.mod_lt _ hp
  obtain ⟨y, hy⟩ : ∃ y, ys[j / n]? = some y := ⟨_, List.getElem?_eq_getElem hd⟩
  obtain ⟨u', hu'⟩ : ∃ u', (f y)[j % n]? = some u' := ⟨_, List.getElem?_eq_getElem (by rw [hI.len]; exact hm)⟩
  have h1 := flatF_at hI.len ys (j / n) y hy (j % n) u' hu'
  have hj2 : j / n * n + j % n = j := by rw [Nat.mul_comm]; exact Nat.div_add_mod j n
  rw [hj2, hj] at h1
  injection h1 with h1
  subst h1
  obtain ⟨a, ha, hc⟩ := hr (j / n) y hy
  injection ha with ha
  subst ha
  have h2 := hc (j % n) u hu'
  rwa [add_addF, hj2] at h2
set_option maxRecDepth 10000 in
theorem appendAll_F (hI : IsEl S E f n b) (w : World) (ty : TypeId) (base : Nat) (v : Value) (xs ys : List α) (hown : OwnF E f n w base v xs) (A : Option Addr) (m c : Nat) (hm : m = ys.length) (hr : ElsAt f n w A ys)
    (hroom : xs.length + ys.length ≤ 1000000) (hbase : base ≤ w.heap.size) :
    ∃ v' w', (Builtin.append_ #[S, S] ty #[v, .slice A m c]).run Try.prog w = .ok v' w' ∧ OwnF E f n w' base v' (xs ++ ys) ∧ w.grownBy w' v.ownBlock ∧ (v'.ownBlock = v.ownBlock ∨ v'.ownBlock = some w.heap.size) := by
  obtain ⟨z, hz0, hzc⟩ := hI.info
  obtain ⟨i, hi, hz, hsize, hby⟩ := info_parts hz0
  have hfew := hI.few
  cases A with
  | none =>
    have hy : ys = [] := by
      cases ys with
      | nil => rfl
      | cons y ys =>
        obtain ⟨a, ha, _⟩ := hr 0 y rfl
        cases ha
    subst hy
    subst hm
    refine ⟨v, w, ?_, by simpa using hown, World.grownBy.refl _ _, .inl rfl⟩
    rcases hown.2 with ⟨rfl, _⟩ | ⟨g, cap, cur, rfl, _, _, hnc, _⟩
    · simp [Builtin.append_, run_underlying hI.under, sizeOf, typeInfo, hi, Builtin.lenOf, Builtin.firstCells]
    · simp [Builtin.append_, run_underlying hI.under, sizeOf, typeInfo, hi, Builtin.lenOf, Builtin.firstCells, hnc, storeCells]
  | some ad =>
    obtain ⟨v', w', h1, h2, h3, _, h5⟩ := run_append_own_at (P := Try.prog) w base S ty E i _ n b hI.under hi hz hsize hby hzc hI.pos v xs.length (xs.flatMap f) hown ad m c (ys.flatMap f)
      (by rw [flatF_len hI.len, hm]) (fun j u hj => flat_cell hI hr j u hj) (fun u hu => by
        obtain ⟨y, _, hy⟩ := List.mem_flatMap.1 hu
        exact hI.one y u hy) (by unfold maxLen; omega) (Nat.le_trans (Nat.mul_le_mul_left _ hfew) (by omega)) hbase
    refine ⟨v', w', h1, ?_, h3, h5⟩
    unfold OwnF
    rw [List.flatMap_append, List.length_append, ← hm]
    exact h2
theorem step_appendAll_F (hI : IsEl S E f n b) {ops : Array Oper} {o : Oper} {a : Act} {K : Act → World → Prop} {Q : Exit → Act → World → Prop} {X : Prop} (w : World) (hgd : o.guard = none) (s x : Operand)
    (ho : o.op = .call { callee := .builtin .append, args := #[s, x], argTypes := #[S, S] })
    (base : Nat) (v : Value) (xs ys : List α) (hs : a.eval s = v) (hown : OwnF E f n w base v xs) (A : Option Addr) (m c : Nat) (hx : a.eval x = .slice A m c) (hm : m = ys.length) (hr : ElsAt f n w A ys)
    (hroom : xs.length + ys.length ≤ 1000000) (hbase : base ≤ w.heap.size)
    (h : ∀ v' w', OwnF E f n w' base v' (xs ++ ys) → Below base w w' → w.grownBy w' v.ownBlock → (v'.ownBlock = v.ownBlock ∨ v'.ownBlock = some w.heap.size) → K (a.put o.dst v') w') :
    if Region.wanted o (yielded ops a.tmps) = true then Oper.wp Try.prog o a w K Q else X := by
  have hw : Region.wanted o (yielded ops a.tmps) = true := by simp [Region.wanted, hgd]
  rw [if_pos hw]
  obtain ⟨v', w', hrun, h2, h3, h4⟩ := appendAll_F hI w o.type base v xs ys hown A m c hm hr hroom hbase
  unfold Oper.wp execOp
  simp only [ho, resolve, invoke, builtin, Sem.run_bind, Sem.run_pure, Result.andThen_ok, List.map_toArray, List.map_cons, List.map_nil, hs, hx, hrun]
  exact h v' w' h2 ((Below.refl _ _).grown h3 hbase (fun k hk => (hown.lt k hk).1)) h3 h4
/-- A slice of nothing that was made. -/
theorem own_noneF (w : World) (g : Nat) (hg : g = w.heap.size) (f : α → List Value) (n : Nat) (E : TypeId) : OwnF E f n (w.alloc (.cells #[] E)) g (.slice (some ⟨g, 0, none⟩) 0 0) [] := by
  subst hg
  refine ⟨by simp, Or.inr ⟨w.heap.size, 0, #[], rfl, Nat.le_refl _, heap_alloc_new w _, Nat.le_refl _, by unfold maxLen; omega, by simp, by simp⟩⟩
end

abbrev wAll : ByteArray := ⟨#[97, 108, 108]⟩
abbrev bxT (s : ByteArray) : Obj := .cells #[.string s, .bool false, .int .i64 0, .bool false, .int .i64 0, .string ⟨#[]⟩] 38
/-- The box of the literal that has all, while it grows. -/
structure ASt (w W : World) (g : Nat) (v : Value) (ts : List TmP) : Prop where
  bx : BoxL W (g + 1) false wAll v 0
  own : OwnTm W g v ts
  ne : ∀ k, v.ownBlock = some k → k ≠ g + 1
  on : Below g w W
section
variable {w W W2 : World} {g : Nat} {v v' : Value} {ts : List TmP} {s : ByteArray}
theorem ASt.cell (h : ASt w W g v ts) : W.cell? ⟨g + 1, 0, none⟩ = some (.bool false) ∧ W.cell? ⟨g + 1, 1, none⟩ = some (.string wAll) ∧ W.cell? ⟨g + 1, 2, none⟩ = some v ∧ W.cell? ⟨g + 1, 3, none⟩ = some (.int .i64 0) := by
  obtain ⟨h0, h1, h2, h3, _⟩ := box4_of h.bx
  exact ⟨h0, h1, h2, h3⟩
theorem ASt.frozen (h : ASt w W g v ts) (i : Nat) : W.frozen? ⟨g + 1, i, none⟩ = false := by
  obtain ⟨_, _, _, _, h4⟩ := box4_of h.bx
  exact h4 i
theorem ASt.big (h : ASt w W g v ts) : g + 2 ≤ W.heap.size := h.bx.lt
theorem ASt.below (h : ASt w W g v ts) (hb : Below W.heap.size W W2) : ASt w W2 g v ts :=
  ⟨(hb.block _ h.bx.lt).trans h.bx, h.own.below hb, h.ne, h.on.trans (hb.mono (by have := h.big; omega))⟩
theorem ASt.grown (h : ASt w W g v ts) (hg : (W.alloc (bxT s)).grownBy W2 v.ownBlock) : BoxL W2 (g + 1) false wAll v 0 := by
  have hz := h.big
  refine (hg.block (g + 1) (by rw [World.size_alloc]; omega) (fun e => h.ne _ e.symm rfl)).trans ?_
  exact (Below.heap_alloc _ _ _ (by omega)).trans h.bx
theorem ASt.step (h : ASt w W g v ts) (hg : (W.alloc (bxT s)).grownBy W2 v.ownBlock) (ho : OwnTm W2 g v' (ts ++ [tmOf s])) (hor : v'.ownBlock = v.ownBlock ∨ v'.ownBlock = some (W.heap.size + 1)) :
    ASt w (W2.setCell ⟨g + 1, 2, none⟩ v') g v' (ts ++ [tmOf s]) := by
  have hz := h.big
  have hne : ∀ k, v'.ownBlock = some k → k ≠ g + 1 := fun k hk => by
    rcases hor with e | e
    · exact h.ne k (e.symm.trans hk)
    · rw [e] at hk
      injection hk with hk
      omega
  refine ⟨heap_setCell_same W2 (g + 1) 2 _ _ v' (h.grown hg), ho.byBlock fun k hk => Below.heap_setCell W2 ⟨g + 1, 2, none⟩ v' k (hne k hk), hne, ?_⟩
  have h1 : Below g W (W.alloc (bxT s)) := (one_new W _).mono (by omega)
  exact (h.on.trans (h1.grown hg (by rw [World.size_alloc]; omega) fun k hk => (h.own.lt k hk).1)).setCell (p := ⟨g + 1, 2, none⟩) (by show g ≤ g + 1; omega) v'
end
/-- The terms of all literals, as just variables. -/
def argT (l : List LmG) : List TmP := l.flatMap fun l => l.args.map fun t => tmOf t.s
theorem argT_len : ∀ (l : List LmG), (∀ x ∈ l, x.args.length ≤ 100) → (argT l).length ≤ l.length * 100
  | [], _ => by simp [argT]
  | x :: l, h => by
    have h1 := argT_len l fun y hy => h y (List.mem_cons_of_mem _ hy)
    have h2 := h x (List.mem_cons_self ..)
    have e : argT (x :: l) = (x.args.map fun t => tmOf t.s) ++ argT l := by simp [argT]
    rw [e, List.length_append, List.length_map, List.length_cons]
    omega
theorem argT_next {l : List LmG} {k : Nat} {x : LmG} (h : l[k]? = some x) : argT (l.take (k + 1)) = argT (l.take k) ++ x.args.map fun t => tmOf t.s := by
  rw [List.take_add_one, h]
  simp [argT]
theorem allTs_eq (r : RuG) : allTs r.pl = (tmOf ⟨#[122]⟩ :: r.head.map tmOf ++ [tmOf r.ofv]) ++ argT r.body := by
  have e : (r.pl.body.flatMap fun l => l.args.map fun t => tmOf t.s) = argT r.body := by
    show ((r.body.map LmG.li).flatMap fun l => l.args.map fun t => tmOf t.s) = _
    rw [List.flatMap_map]
    rfl
  unfold allTs
  rw [e]
  simp
/-- A rule is stored into a box that was made for it. -/
theorem ynew (W : World) (v0 v1 v2 v3 v4 v5 v6 : Value) :
    let W' := ((((((((W.alloc zeroRu).setCell ⟨W.heap.size, 0, none⟩ v0).setCell ⟨W.heap.size, 1, none⟩ v1).setCell ⟨W.heap.size, 2, none⟩ v2).setCell ⟨W.heap.size, 3, none⟩ v3).setCell ⟨W.heap.size, 4, none⟩ v4).setCell ⟨W.heap.size, 5, none⟩ v5).setCell ⟨W.heap.size, 6, none⟩ v6)
    W'.heap[W.heap.size]? = some (.cells #[v0, v1, v2, v3, v4, v5, v6] 25 (0, 0)) ∧ Below W.heap.size W W' ∧ W'.heap.size = W.heap.size + 1 := by
  have h0 : (W.alloc zeroRu).heap[W.heap.size]? = some (.cells #[.int .i64 0, .string ⟨#[]⟩, .slice none 0 0, .int .i64 0, .string ⟨#[]⟩, .int .i64 0, .slice none 0 0] 25 (0, 0)) := heap_alloc_new W zeroRu
  have k1 := heap_setCell_same _ W.heap.size 0 _ _ v0 h0
  have k2 := heap_setCell_same _ W.heap.size 1 _ _ v1 k1
  have k3 := heap_setCell_same _ W.heap.size 2 _ _ v2 k2
  have k4 := heap_setCell_same _ W.heap.size 3 _ _ v3 k3
  have k5 := heap_setCell_same _ W.heap.size 4 _ _ v4 k4
  have k6 := heap_setCell_same _ W.heap.size 5 _ _ v5 k5
  have k7 := heap_setCell_same _ W.heap.size 6 _ _ v6 k6
  refine ⟨k7, ?_, by simp⟩
  exact (((((((one_new W zeroRu).setCell (p := ⟨W.heap.size, 0, none⟩) (Nat.le_refl _) _).setCell (p := ⟨W.heap.size, 1, none⟩) (Nat.le_refl _) _).setCell (p := ⟨W.heap.size, 2, none⟩) (Nat.le_refl _) _).setCell (p := ⟨W.heap.size, 3, none⟩) (Nat.le_refl _) _).setCell (p := ⟨W.heap.size, 4, none⟩) (Nat.le_refl _) _).setCell (p := ⟨W.heap.size, 5, none⟩) (Nat.le_refl _) _).setCell (p := ⟨W.heap.size, 6, none⟩) (Nat.le_refl _) _
/-- Behind the store of the literals: what lies in the new box is a rule. -/
theorem ynext {w1 wr WY w9 : World} {g : Nat} {k0 ag lim : Int} {nm ofv : ByteArray} {hA bA A9 vA : Option Addr} {hc bc c9 vc : Nat} {head : List ByteArray} {body : List LmG} {ts : List TmP}
    (hy : w9.heap[wr.heap.size]? = some (.cells #[.int .i64 k0, .string nm, .slice hA head.length hc, .int .i64 ag, .string ofv, .int .i64 lim, .slice bA body.length bc] 25 (0, 0)))
    (h9 : Below WY.heap.size WY w9) (hY : Below w1.heap.size w1 WY) (hwr : w1.heap.size ≤ wr.heap.size) (hyl : wr.heap.size < WY.heap.size) (hok : RuG.Ok w1 (⟨k0, nm, hA, hc, head, ag, ofv, lim, bA, bc, body⟩ : RuG))
    (ha : ASt w1 w9 g (.slice vA ts.length vc) ts) (hvb : ∀ k, (Value.slice vA ts.length vc).ownBlock = some k → k < wr.heap.size)
    (ho : OwnLg w9 WY.heap.size (.slice A9 (body.length + 1) c9) (body ++ [⟨false, wAll, vA, vc, ts, 0⟩])) :
    (w9.setCell ⟨wr.heap.size, 6, none⟩ (.slice A9 (body.length + 1) c9)).heap[wr.heap.size]? = some (.cells #[.int .i64 k0, .string nm, .slice hA head.length hc, .int .i64 ag, .string ofv, .int .i64 lim, .slice A9 (body.length + 1) c9] 25 (0, 0)) ∧
    Below w1.heap.size w1 (w9.setCell ⟨wr.heap.size, 6, none⟩ (.slice A9 (body.length + 1) c9)) ∧
    RuG.Ok (w9.setCell ⟨wr.heap.size, 6, none⟩ (.slice A9 (body.length + 1) c9)) (⟨k0, nm, hA, hc, head, ag, ofv, lim, A9, c9, body ++ [⟨false, wAll, vA, vc, ts, 0⟩]⟩ : RuG) := by
  have hb := (hY.trans (h9.mono hY.size)).setCell (p := ⟨wr.heap.size, 6, none⟩) hwr (.slice A9 (body.length + 1) c9)
  have hs : ∀ k, k ≠ wr.heap.size → (w9.setCell ⟨wr.heap.size, 6, none⟩ (.slice A9 (body.length + 1) c9)).heap[k]? = w9.heap[k]? := fun k hk => Below.heap_setCell w9 ⟨wr.heap.size, 6, none⟩ _ k hk
  refine ⟨heap_setCell_same w9 wr.heap.size 6 _ _ _ hy, hb, (hok.below hb).1, ?_, ?_⟩
  · have h1 := ho.byBlock (w' := w9.setCell ⟨wr.heap.size, 6, none⟩ (.slice A9 (body.length + 1) c9)) fun k hk => hs k (by have := (ho.lt k hk).1; omega)
    obtain ⟨A, c, hv, he⟩ := h1.elsF el_LmG
    injection hv with e1 _ e3
    subst e1
    exact he
  · intro x hx
    rcases List.mem_append.1 hx with h | h
    · exact (hok.below hb).2.2 x h
    · rw [List.mem_singleton.1 h]
      have h1 := ha.own.byBlock (w' := w9.setCell ⟨wr.heap.size, 6, none⟩ (.slice A9 (body.length + 1) c9)) fun k hk => hs k (by have := hvb k hk; omega)
      obtain ⟨A, c, hv, he⟩ := h1.elsF el_Tm
      injection hv with e1 _ e3
      subst e1
      exact he
theorem sml_all {r : RuG} (hf : r.few) (hl : r.Lng) {A : Option Addr} {c : Nat} {x : LmG} (hx : x.args.length ≤ 5000) (ht : ∀ t ∈ x.args, t.s.size ≤ maxLen) : RuG.Sml { r with bA := A, bc := c, body := r.body ++ [x] } := by
  have h1 := hf.1
  have h2 := hf.2.1
  refine ⟨by show r.head.length ≤ 200; omega, by show (r.body ++ [x]).length ≤ 41; rw [List.length_append, List.length_singleton]; omega, hl.2.2.2.2.1, hl.2.2.2.1, fun y hy => ?_⟩
  rcases List.mem_append.1 hy with h | h
  · exact ⟨by have := hf.2.2 y h; omega, (hl.2.2.2.2.2 y h).2⟩
  · rw [List.mem_singleton.1 h]
    exact ⟨hx, ht⟩
theorem all_short {r : RuG} (hl : r.Lng) : ∀ t ∈ allTs r.pl, t.s.size ≤ maxLen := by
  intro t ht
  rw [allTs_eq] at ht
  rcases List.mem_append.1 ht with h | h
  · rcases List.mem_append.1 h with h | h
    · rcases List.mem_cons.1 h with rfl | h
      · show (1 : Nat) ≤ maxLen
        unfold maxLen
        omega
      · obtain ⟨s, hs, rfl⟩ := List.mem_map.1 h
        exact hl.2.2.2.2.1 s hs
    · rw [List.mem_singleton.1 h]
      exact hl.2.2.2.1
  · obtain ⟨x, hx, ht⟩ := List.mem_flatMap.1 h
    obtain ⟨u, hu, rfl⟩ := List.mem_map.1 ht
    exact (hl.2.2.2.2.2 x hx).2 u hu
end Go.Proofs.Ytmkejlhkipngnaa
