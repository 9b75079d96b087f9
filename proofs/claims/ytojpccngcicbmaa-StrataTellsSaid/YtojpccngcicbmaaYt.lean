/-
  Memory and lists of the program's Order: a name more, a name less; what is next, as plain lists.
  No condition but that lists are short.
-/
import Derived.Test.YtojpccngcicbmaaYs
namespace Go.Proofs.Ytojpccngcicbmaa
open Go.RowKit Go.Maps Go.Sort

/-- An append to a list of one's own: what else it tells. -/
theorem wp_append_L3 {ops : Array Oper} {rest : List Oper} {o : Oper} {a : Act} {Q : Exit → Act → World → Prop} (w : World) (hgd : o.guard = none) (s x : Operand)
    (ho : o.op = .call { callee := .builtin .append, args := #[s, x], argTypes := #[26, 26] })
    (base : Nat) (v : Value) (xs : List ByteArray) (p : ByteArray) (hs : a.eval s = v) (hown : OwnL w base v xs) (ad : Addr) (c : Nat) (hx : a.eval x = .slice (some ad) 1 c) (hr : w.cell? ad = some (.string p))
    (hroom : xs.length ≤ 3000000) (hbase : base ≤ w.heap.size)
    (h : ∀ v' w', OwnL w' base v' (xs ++ [p]) → Below base w w' → w.grownBy w' v.ownBlock → (v'.ownBlock = v.ownBlock ∨ v'.ownBlock = some w.heap.size) → wpList Try.prog ops Q rest (a.put o.dst v') w') : wpList Try.prog ops Q (o :: rest) a w := by
  refine wpList_plain hgd fun K hK => ?_
  obtain ⟨i, hi, hz, hsize, hby⟩ := info_parts info_X
  obtain ⟨v', w', hrun, h3, h4, _, h5⟩ := run_append_own_at (P := Try.prog) w base 26 o.type 9 i _ 1 16 Try.underlying26 hi hz hsize hby rfl (by omega) v xs.length (xs.map Value.string) hown ad 1 c [.string p]
      rfl (fun j u hj => by
        cases j with
        | zero =>
          have e : Value.string p = u := by simpa using hj
          subst e
          rw [show ad.add 0 = ad from by simp [Addr.add]]
          exact hr
        | succ j => simp at hj) (by intro u hu; rw [List.mem_singleton.1 hu]; rfl) (by unfold maxLen; omega) (by omega) hbase
  unfold Oper.wp execOp
  simp only [ho, resolve, invoke, builtin, Sem.run_bind, Sem.run_pure, Result.andThen_ok, List.map_toArray, List.map_cons, List.map_nil, hs, hx, hrun]
  refine hK _ _ (h v' w' ?_ ((Below.refl _ _).grown h4 hbase (fun k hk => (World.ownsRow.lt hown k hk).1)) h4 h5)
  unfold OwnL
  rw [List.length_append, List.map_append]
  exact h3

theorem OwnL.shrink {w : World} {base g n cap : Nat} {xs : List Value} {zs : List ByteArray} (h : w.ownsRow base 9 1 (.slice (some ⟨g, 0, none⟩) n cap) n xs) (hz : zs.map Value.string = xs.take zs.length) (hle : zs.length ≤ n) : OwnL w base (.slice (some ⟨g, 0, none⟩) zs.length cap) zs := by
  rcases h.2 with ⟨hx, _⟩ | ⟨g', cap', cur, hx, hbg, hb, h1, h2, h3, h4⟩
  · cases hx
  cases hx
  refine ⟨by rw [List.length_map]; simp, .inr ⟨g, cap, cur, rfl, hbg, hb, by omega, h2, h3, ?_⟩⟩
  rw [hz, ← h4, List.take_take, Nat.mul_one, Nat.mul_one, Nat.min_eq_left hle]

set_option maxRecDepth 100000 in
theorem p_delete (base i : Nat) (v : Value) (zs : List ByteArray) (w : World) (hown : OwnL w base v zs) (hi : i < zs.length) (hl : zs.length ≤ 1000) (hbase : base ≤ w.heap.size) :
    Calls Try.prog 28 #[v, .int .i64 (i : Int), .int .i64 ((i : Int) + 1)] w fun e w' => ∃ v', e = .returned v' ∧ OwnL w' base v' (zs.eraseIdx i) ∧ v'.ownBlock = v.ownBlock ∧ w.grownBy w' v.ownBlock ∧ Below base w w' := by
  rcases hown.2 with ⟨rfl, hn⟩ | ⟨g, cap, cur, rfl, hbg, hb, h1, h2, h3, h4⟩
  · exact absurd hi (by omega)
  have hH : Holds encStr w g 0 (zs.map byL).toArray := holds_of_block hb (by rw [List.length_map, map_by]; simpa using h4)
  have hD := Try.slices_Delete_string g 0 cap i (i + 1) (zs.map byL) w hH (by rw [List.length_map]; exact h1) (by unfold maxLen at h2; omega) (by omega) (by rw [List.length_map]; omega)
  rw [List.length_map] at hD
  refine hD.mono ?_
  rintro e w' ⟨rfl, q, hw⟩
  have hle : ((zs.map byL).take i ++ (zs.map byL).drop (i + 1) ++ List.replicate (i + 1 - i) ([] : List UInt8)).length = (zs.map byL).length := by
    rw [List.length_append, List.length_append, List.length_take, List.length_drop, List.length_replicate, List.length_map]
    omega
  have ho := ownsRow_sorted (n := q) (os := #[]) (ss := zs.map byL) (ts := (zs.map byL).take i ++ (zs.map byL).drop (i + 1) ++ List.replicate (i + 1 - i) []) hle hbg hb (by rw [List.length_map]; exact h1) h2 h3
  have hg := grownBy_sorted (w := w) (g := g) (n := q) (os := #[]) ((zs.map byL).take i ++ (zs.map byL).drop (i + 1) ++ List.replicate (i + 1 - i) []).toArray
  rw [grow_empty, ← hw] at ho hg
  have hez : (zs.eraseIdx i).length = zs.length - (i + 1 - i) := by rw [List.length_eraseIdx, if_pos hi]; omega
  rw [← hez]
  refine ⟨_, rfl, OwnL.shrink ho ?_ (by rw [List.length_map]; omega), rfl, hg, (Below.refl base w).grown hg hbase (fun k hk => by cases hk; exact hbg)⟩
  have e1 : (zs.map byL).take i ++ (zs.map byL).drop (i + 1) = (zs.eraseIdx i).map byL := by rw [List.eraseIdx_eq_take_drop_succ, List.map_append, List.map_take, List.map_drop]
  rw [e1, List.map_append, map_by, List.take_left' (by rw [List.length_map])]

/-- Where Order stands: the names told, those left in a box. -/
structure OrdSt (n1 q : Nat) (out ls : List ByteArray) (vo vl : Value) (W : World) : Prop where
  box : Boxed W q 26 vl
  qn : n1 ≤ q
  left : OwnL W n1 vl ls
  out : OwnL W n1 vo out
  apart : ∀ k, vo.ownBlock = some k → vl.ownBlock ≠ some k
theorem OrdSt.below {n1 q : Nat} {out ls : List ByteArray} {vo vl : Value} {W W' : World} (h : OrdSt n1 q out ls vo vl W) (hb : Below W.heap.size W W') : OrdSt n1 q out ls vo vl W' :=
  ⟨(hb.block q h.box.lt).trans h.box, h.qn, h.left.below hb (Nat.le_refl _), h.out.below hb (Nat.le_refl _), h.apart⟩
/-- Behind the append. -/
theorem OrdSt.mid {n1 q : Nat} {out ls : List ByteArray} {vo vl : Value} {W : World} (h : OrdSt n1 q out ls vo vl W) {obj : Obj} {W3 : World} {vo' : Value} {o' : List ByteArray} (ho : OwnL W3 n1 vo' o') (hg : (W.alloc obj).grownBy W3 vo.ownBlock) (hor : vo'.ownBlock = vo.ownBlock ∨ vo'.ownBlock = some (W.alloc obj).heap.size) : OrdSt n1 q o' ls vo' vl W3 := by
  have hbx := (h.box.alloc obj).kept hg ((h.box.alloc obj).not_row (by decide) (World.ownsRow.alloc h.out obj))
  have hlt : ∀ k, vl.ownBlock = some k → k < W.heap.size := fun k hk => (World.ownsRow.lt h.left k hk).2
  have hl : OwnL (W.alloc obj) n1 vl ls := World.ownsRow.alloc h.left obj
  refine ⟨hbx, h.qn, hl.byBlock fun k hk => hg.block k (by rw [World.size_alloc]; have := hlt k hk; omega) (fun e => h.apart k e.symm hk), ho, fun k hk hk2 => ?_⟩
  rcases hor with e | e
  · exact h.apart k (e ▸ hk) hk2
  · rw [e, World.size_alloc] at hk
    injection hk with hk
    have := hlt k hk2
    omega
/-- Behind the deletion, the store and the next box. -/
theorem OrdSt.last {n1 q : Nat} {out ls : List ByteArray} {vo vl : Value} {W : World} (h : OrdSt n1 q out ls vo vl W) {W4 : World} {vl' : Value} {ls' : List ByteArray} (ho : OwnL W4 n1 vl' ls') (hv : vl'.ownBlock = vl.ownBlock) (hg : W.grownBy W4 vl.ownBlock) (hn : n1 ≤ W.heap.size) :
    Boxed W4 q 26 vl ∧ Boxed (W4.setCell ⟨q, 0, none⟩ vl') q 26 vl' ∧ OrdSt n1 W4.heap.size out ls' vo vl' ((W4.setCell ⟨q, 0, none⟩ vl').alloc (.cells #[vl'] 26)) := by
  have hbx := h.box.kept hg (h.box.not_row (by decide) h.left)
  have hs := grownBy_setCell' W4 q vl'
  have hsz : (W4.setCell ⟨q, 0, none⟩ vl').heap.size = W4.heap.size := by rw [World.size_setCell]
  have hout : OwnL W4 n1 vo out := h.out.byBlock fun k hk => hg.block k (World.ownsRow.lt h.out k hk).2 (fun e => h.apart k hk e.symm)
  have hne : ∀ (v : Value) (zs : List ByteArray), OwnL W4 n1 v zs → OwnL (W4.setCell ⟨q, 0, none⟩ vl') n1 v zs := fun v zs hz => hz.byBlock fun k hk => hs.block k (World.ownsRow.lt hz k hk).2 (fun e => (hbx.not_row (by decide) hz) (e.symm.trans hk.symm))
  have hnew := Boxed.new (W4.setCell ⟨q, 0, none⟩ vl') 26 vl'
  rw [hsz] at hnew
  refine ⟨hbx, hbx.set vl', hnew, Nat.le_trans hn hg.size, World.ownsRow.alloc (hne _ _ ho) _, World.ownsRow.alloc (hne _ _ hout) _, fun k hk hk2 => h.apart k hk (hv ▸ hk2)⟩

/-! ### Plain lists -/
theorem srt_nodup {l : List ByteArray} (h : SrtS l) : l.Nodup := List.Pairwise.imp (fun h => cmpS_neY h) h
theorem sortN_le (ns : List ByteArray) : (sortN ns).length ≤ ns.length := by
  unfold sortN
  have := asksS_len (ns.map fun n => ((0 : Int), n))
  rwa [List.length_map] at this
theorem sortN_nodup {ns : List ByteArray} (h : ns.Nodup) : (sortN ns).length = ns.length :=
  ((List.perm_ext_iff_of_nodup (srt_nodup (sortN_srt ns)) h).2 fun a => sortN_mem ns a).length_eq
theorem sortN_twice {ns : List ByteArray} (h : ¬ ns.Nodup) : (sortN ns).length < ns.length := by
  have : ∃ i j, ∃ (hi : i < ns.length) (hj : j < ns.length), i < j ∧ ns[i] = ns[j] := Classical.byContradiction fun hc => h (List.pairwise_iff_getElem.2 fun i j hi hj hij e => hc ⟨i, j, hi, hj, hij, e⟩)
  obtain ⟨i, j, hi, hj, hij, e⟩ := this
  have es : sortN ns = sortN (ns.eraseIdx j) := by
    refine sortedS_one _ _ (sortN_srt _) (sortN_srt _) fun y => ?_
    rw [sortN_mem, sortN_mem, List.mem_eraseIdx_iff_getElem]
    constructor
    · intro hy
      obtain ⟨k, hk, rfl⟩ := List.getElem_of_mem hy
      by_cases hkj : k = j
      · subst hkj
        exact ⟨i, hi, by omega, e⟩
      · exact ⟨k, hk, hkj, rfl⟩
    · rintro ⟨k, hk, _, rfl⟩
      exact List.getElem_mem hk
  rw [es]
  have := sortN_le (ns.eraseIdx j)
  rw [List.length_eraseIdx, if_pos hj] at this
  omega
theorem leftS_nil (l : List Rl) : leftS l [] = sortN (nms l) := by
  unfold leftS
  rw [List.filter_eq_self]
  intro a _
  rfl
theorem leftS_next (l : List Rl) (out : List ByteArray) (n : Nat) (x : ByteArray) (h : (leftS l out)[n]? = some x) : leftS l (out ++ [x]) = (leftS l out).eraseIdx n := by
  obtain ⟨hn, rfl⟩ := List.getElem?_eq_some_iff.1 h
  have hnd := srt_nodup (leftS_srt l out)
  refine sortedS_one _ _ (leftS_srt _ _) (List.Pairwise.sublist (List.eraseIdx_sublist _ _) (leftS_srt _ _)) fun y => ?_
  rw [List.mem_eraseIdx_iff_getElem, leftS_mem]
  have hx : hasX y (out ++ [(leftS l out)[n]]) = (hasX y out || ((leftS l out)[n].toList == y.toList)) := by
    unfold hasX
    rw [List.any_append]
    simp
  rw [hx]
  constructor
  · rintro ⟨h1, h2⟩
    rw [Bool.or_eq_false_iff] at h2
    obtain ⟨k, hk, e⟩ := List.getElem_of_mem ((leftS_mem l out y).2 ⟨h1, h2.1⟩)
    refine ⟨k, hk, fun ek => ?_, e⟩
    subst ek
    rw [e] at h2
    simp at h2
  · rintro ⟨k, hk, hkn, rfl⟩
    obtain ⟨h1, h2⟩ := (leftS_mem l out _).1 (List.getElem_mem hk)
    refine ⟨h1, ?_⟩
    rw [h2, Bool.false_or]
    cases hb : ((leftS l out)[n].toList == (leftS l out)[k].toList) with
    | false => rfl
    | true => exact absurd (nodup_inj hnd hn hk (toList_eqT.1 hb)).symm hkn
/-- What stands behind a name, of rules with names of their own. -/
theorem LL_at {l : List Rl} (hd : (nms l).Nodup) {r : Rl} (hr : r ∈ l) : LL l l.length r.nm = belowA l r := by
  have hrest : ∀ (m : List Rl), (∀ q ∈ m, q.nm ≠ r.nm) → (m.flatMap fun q => if q.nm = r.nm then belowA l q else []) = [] := fun m hm => by
    rw [List.flatMap_eq_nil_iff]
    intro q hq
    rw [if_neg (hm q hq)]
  unfold LL
  rw [List.take_of_length_le (Nat.le_refl _)]
  obtain ⟨a, b, hab⟩ := List.append_of_mem hr
  have hnd := hd
  unfold nms at hnd
  rw [hab, List.map_append, List.map_cons] at hnd
  have h1 := List.nodup_append.1 hnd
  have h2 := (List.nodup_cons.1 h1.2.1).1
  have e : ∀ f : Rl → List ByteArray, l.flatMap f = a.flatMap f ++ (f r ++ b.flatMap f) := fun f => by
    conv => lhs; rw [hab]
    rw [List.flatMap_append, List.flatMap_cons]
  rw [e, hrest a (fun q hq eq => h1.2.2 q.nm (List.mem_map.2 ⟨q, hq, rfl⟩) r.nm List.mem_cons_self eq), hrest b (fun q hq eq => h2 (eq ▸ List.mem_map.2 ⟨q, hq, rfl⟩)), if_pos rfl, List.append_nil, List.nil_append]
theorem free_ready {l : List Rl} (hd : (nms l).Nodup) {S : List Mn} (hk : ∀ s, (findM S s).isSome = hasX s (nms l)) (hL : ∀ x ∈ S, x.2.2 = LL l l.length x.1) (out : List ByteArray) {s : ByteArray} (hs : s ∈ nms l) : freeM S (leftS l out) s = readyN l out s := by
  obtain ⟨r, hr, rfl⟩ := List.mem_map.1 hs
  have h1 : textsM (findM S r.nm) = belowA l r := by
    have := hk r.nm
    rw [hasX_iff.2 hs] at this
    obtain ⟨x, hx⟩ := Option.isSome_iff_exists.1 this
    obtain ⟨h2, h3⟩ := findM_some hx
    rw [hx]
    show x.2.2 = _
    rw [hL x h2, h3, LL_at hd hr]
  have hleft : ∀ y, hasX y (leftS l out) = (hasX y (nms l) && !hasX y out) := fun y => by
    rw [Bool.eq_iff_iff, hasX_iff, leftS_mem, Bool.and_eq_true, hasX_iff]
    simp
  unfold freeM readyN readyS
  rw [h1, asksN_at hd hr, Bool.eq_iff_iff, Bool.not_eq_true', List.any_eq_false, List.all_eq_true]
  unfold belowA
  constructor
  · intro h y hy
    cases h4 : hasX y (nms l) with
    | false => rfl
    | true =>
      have h5 := h y (List.mem_filter.2 ⟨hy, h4⟩)
      rw [hleft, h4] at h5
      simpa using h5
  · intro h y hy
    obtain ⟨h2, h3⟩ := List.mem_filter.1 hy
    have h5 := h y h2
    rw [h3] at h5
    rw [hleft, h3]
    simpa using h5
theorem first_next {l : List Rl} (hd : (nms l).Nodup) {S : List Mn} (hk : ∀ s, (findM S s).isSome = hasX s (nms l)) (hL : ∀ x ∈ S, x.2.2 = LL l l.length x.1) {out : List ByteArray} {z : Int} (h : FirstP (freeM S (leftS l out)) (leftS l out) z) :
    (z = -1 ∧ nextS l out = none) ∨ ∃ (n : Nat) (x : ByteArray), z = (n : Int) ∧ (leftS l out)[n]? = some x ∧ nextS l out = some x := by
  have hm : ∀ y ∈ leftS l out, freeM S (leftS l out) y = readyN l out y := fun y hy => free_ready hd hk hL out ((leftS_mem l out y).1 hy).1
  rcases h with ⟨rfl, h⟩ | ⟨n, x, rfl, h1, h2, h3⟩
  · refine .inl ⟨rfl, ?_⟩
    unfold nextS
    rw [List.find?_eq_none]
    intro y hy
    rw [← hm y hy, h y hy]
    simp
  · refine .inr ⟨n, x, rfl, h1, ?_⟩
    obtain ⟨hn, e⟩ := List.getElem?_eq_some_iff.1 h1
    unfold nextS
    rw [List.find?_eq_some_iff_getElem]
    refine ⟨by rw [← hm x (List.mem_of_getElem? h1)]; exact h2, n, hn, e, fun j hj => ?_⟩
    rw [← hm _ (List.getElem_mem _), h3 j _ hj (List.getElem?_eq_getElem (by omega))]
    rfl
theorem orderGo_nextL {l : List Rl} {out : List ByteArray} {n : Nat} {x : ByteArray} (h : (leftS l out)[n]? = some x) (hx : nextS l out = some x) : orderGo l (leftS l out).length out = orderGo l (leftS l (out ++ [x])).length (out ++ [x]) := by
  have hn := (List.getElem?_eq_some_iff.1 h).1
  rw [leftS_next l out n x h, List.length_eraseIdx, if_pos hn]
  obtain ⟨f, hf⟩ : ∃ f, (leftS l out).length = f + 1 := ⟨(leftS l out).length - 1, by omega⟩
  rw [hf]
  show (match nextS l out with | none => _ | some s => _) = _
  rw [hx]
  rfl
theorem orderGo_noneL {l : List Rl} {out : List ByteArray} (h : 0 < (leftS l out).length) (hx : nextS l out = none) : orderGo l (leftS l out).length out = ([], 13) := by
  obtain ⟨f, hf⟩ : ∃ f, (leftS l out).length = f + 1 := ⟨(leftS l out).length - 1, by omega⟩
  rw [hf]
  show (match nextS l out with | none => _ | some s => _) = _
  rw [hx]
end Go.Proofs.Ytojpccngcicbmaa
