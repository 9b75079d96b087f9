/-
  Rules in a list of the call's own; what an order that is not told has.
  No condition.
-/
import Derived.Test.YtojpccngcicbmaaYz
namespace Go.Proofs.Ytojpccngcicbmaa
open Go.RowKit Go.Maps

def OwnR (w : World) (base : Nat) (v : Value) (ls : List Rl) : Prop := w.ownsRow base 30 7 v ls.length (ls.flatMap Rl.cells)
theorem OwnR.nil (w : World) (base : Nat) : OwnR w base (.slice none 0 0) [] := World.ownsRow_nil w base _ _
theorem OwnR.form {w : World} {base : Nat} {v : Value} {ls : List Rl} (h : OwnR w base v ls) : ∃ A c, v = .slice A ls.length c := by
  rcases h.2 with ⟨rfl, hn⟩ | ⟨g, cap, cur, rfl, _, _, _, _⟩
  · have hl : ls.length = 0 := by first | omega | simpa using hn
    exact ⟨none, 0, by rw [hl]⟩
  · exact ⟨_, cap, rfl⟩
theorem OwnR.rls {w : World} {base : Nat} {v : Value} {ls : List Rl} (h : OwnR w base v ls) (hok : ∀ r ∈ ls, r.Ok w) : ∃ A c, v = .slice A ls.length c ∧ RlsAt w A ls := by
  rcases h.2 with ⟨rfl, hn⟩ | ⟨g, cap, cur, rfl, hb, hg, hcap, _⟩
  · have hl : ls = [] := List.eq_nil_of_length_eq_zero (by first | omega | simpa using hn)
    subst hl
    exact ⟨none, 0, rfl, fun i x hi => by simp at hi⟩
  · refine ⟨_, _, rfl, fun i r hi => ⟨_, rfl, ?_, hok r (List.mem_of_getElem? hi)⟩⟩
    rw [zero_add_addr]
    refine rlAt_cells fun j u hj => ?_
    have := World.ownsRow.cells h (g := g) rfl _ _ (flatR_at ls i r hi j u hj)
    rwa [zero_add_addr] at this
theorem info_R : (Try.prog.info? 30).map (fun i => (i.zero, i.size, i.bytes)) = some (some (.agg #[.int .i64 0, .string ⟨#[]⟩, .slice none 0 0, .int .i64 0, .string ⟨#[]⟩, .int .i64 0, .slice none 0 0]), 7, 104) := by kernel_rfl
set_option maxRecDepth 10000 in
theorem wp_append_R {ops : Array Oper} {rest : List Oper} {o : Oper} {a : Act} {Q : Exit → Act → World → Prop} (w : World) (hgd : o.guard = none) (s x : Operand)
    (ho : o.op = .call { callee := .builtin .append, args := #[s, x], argTypes := #[22, 22] })
    (base : Nat) (v : Value) (xs : List Rl) (p : Rl) (hs : a.eval s = v) (hown : OwnR w base v xs) (ad : Addr) (c : Nat) (hx : a.eval x = .slice (some ad) 1 c) (hr : ∀ j u, p.cells[j]? = some u → w.cell? (ad.add j) = some u)
    (hroom : xs.length ≤ 100000) (hbase : base ≤ w.heap.size)
    (h : ∀ v' w', OwnR w' base v' (xs ++ [p]) → Below base w w' → wpList Try.prog ops Q rest (a.put o.dst v') w') : wpList Try.prog ops Q (o :: rest) a w := by
  refine wpList_plain hgd fun K hK => ?_
  obtain ⟨i, hi, hz, hsize, hby⟩ := info_parts info_R
  obtain ⟨v', w', hrun, h3, h4, _, h5⟩ := run_append_own_at (P := Try.prog) w base 22 o.type 30 i _ 7 104 Try.underlying22 hi hz hsize hby rfl (by omega) v xs.length (xs.flatMap Rl.cells) hown ad 1 c p.cells
      rfl hr (by intro u hu; simp only [Rl.cells, List.mem_cons, List.not_mem_nil, or_false] at hu; rcases hu with rfl | rfl | rfl | rfl | rfl | rfl | rfl <;> rfl) (by unfold maxLen; omega) (by omega) hbase
  unfold Oper.wp execOp
  simp only [ho, resolve, invoke, builtin, Sem.run_bind, Sem.run_pure, Result.andThen_ok, List.map_toArray, List.map_cons, List.map_nil, hs, hx, hrun]
  refine hK _ _ (h v' w' ?_ ((Below.refl _ _).grown h4 hbase (fun k hk => (World.ownsRow.lt hown k hk).1)))
  unfold OwnR
  rw [List.length_append, List.flatMap_append, List.flatMap_singleton]
  exact h3
theorem lit_R (w : World) (x : Rl) (ty : TypeId) : ∀ j u, x.cells[j]? = some u → (w.alloc (.cells #[.int .i64 x.k, .string x.nm, .slice x.hA x.hn x.hc, .int .i64 x.ag, .string x.ofv, .int .i64 x.lim, .slice x.bA x.b.length x.bc] ty)).cell? ((⟨w.heap.size, 0, none⟩ : Addr).add j) = some u := by
  intro j u hj
  rw [zero_add_addr, new_cellT, ← Array.getElem?_toList]
  exact hj

theorem orderGo_empty (l : List Rl) : ∀ (f : Nat) (out : List ByteArray), (orderGo l f out).2 ≠ 0 → (orderGo l f out).1 = [] := by
  intro f
  induction f with
  | zero => exact fun out h => absurd rfl h
  | succ f ih =>
    intro out h
    cases hn : nextS l out with
    | none => rw [orderGo_cycle hn]
    | some s => rw [orderGo_next hn] at h ⊢; exact ih _ h
theorem order_empty {l : List Rl} (h : (orderL l).2 ≠ 0) : (orderL l).1 = [] := by
  by_cases h1 : 12 < l.length
  · rw [order_long h1]
  · by_cases h2 : (nms l).Nodup
    · rw [order_goes h1 h2] at h ⊢
      exact orderGo_empty l _ _ h
    · rw [order_twice h1 h2]
/-- What a rule asks and is told stands in the order ahead of the rule, and less deep. -/
theorem order_right {l : List Rl} (h : (orderL l).2 = 0) {r : Rl} (hr : r ∈ l) {y : ByteArray} (hy : y ∈ r.asks) (hp : 0 ≤ posS (orderL l).1 y) :
    posS (orderL l).1 y < posS (orderL l).1 r.nm ∧ deepL l y < deepL l r.nm := by
  obtain ⟨hl12, hd, hg, hfull⟩ := order_good h
  have hyo : y ∈ (orderL l).1 := hasX_iff.1 ((posS_has _ _).mp hp)
  have hyn := hg.names y hyo
  have hrn : r.nm ∈ nms l := List.mem_map.2 ⟨r, hr, rfl⟩
  have hro := hg.full hd hfull hrn
  obtain ⟨i, hi, e⟩ := List.getElem_of_mem hro
  have hi' : (orderL l).1[i]? = some r.nm := by rw [List.getElem?_eq_getElem hi, e]
  have hb : y ∈ bel l r.nm := by
    unfold bel
    rw [asksN_at hd hr]
    exact List.mem_filter.2 ⟨hy, hasX_iff.2 hyn⟩
  obtain ⟨j, hj, hj'⟩ := hg.before hi' hb
  rw [pos_nodup hg.nodup i _ hi', pos_nodup hg.nodup j _ hj', deepL_at h (hasX_iff.2 hyn), deepL_at h (hasX_iff.2 hrn), deepS_eq hg hfull hi']
  refine ⟨by omega, ?_⟩
  have := (foldl_max_ge (deepS l) (bel l r.nm) 0).2 y hb
  omega
end Go.Proofs.Ytojpccngcicbmaa
