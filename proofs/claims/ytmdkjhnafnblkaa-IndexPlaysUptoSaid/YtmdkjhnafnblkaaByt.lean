/-
  Bytes that a call makes itself, and bytes in memory: what append leaves behind it; bytes made a text.
  No condition but that the bytes are no more than one million.
-/
import Derived.Test.YtmdkjhnafnblkaaMake
import Derived.Maps.AppendAt
import Derived.Deep.AppendLies
import Derived.OwnWalk
import Derived.Laws.IdiomStrings
import Derived.Lib.BufferRead
namespace Go.Proofs.Ytmdkjhnafnblkaa
open Go.RowKit

/-- A byte as the program holds it. -/
def bv (b : UInt8) : Value := .int .u8 (b.toNat : Int)
/-- v is a row of the call's own bytes, and holds bs. -/
def OwnB (w : World) (base : Nat) (v : Value) (bs : List UInt8) : Prop := w.ownsRow base 5 1 v bs.length (bs.map bv)

theorem info_B : (Try.prog.info? 5).map (fun i => (i.zero, i.size, i.bytes)) = some (some (.int .u8 0), 1, 1) := by kernel_rfl

theorem run_append_B (w : World) (base : Nat) (v : Value) (bs news : List UInt8) (hown : OwnB w base v bs) (cs : Array Value) (hcs : cs.toList = news.map bv) (G m c : Nat) (hG : G = w.heap.size) (hm : m = news.length) (hroom : bs.length + news.length ≤ 1000000000) (hbase : base ≤ w.heap.size) (n : Nat) (ty : TypeId) :
    ∃ v' w', (Builtin.append_ #[194, 194] ty #[v, .slice (some ⟨G, 0, none⟩) m c]).run Try.prog ((w.alloc (.cells cs 5)).drewN n) = .ok v' w' ∧ OwnB w' base v' (bs ++ news) ∧ Below base w w' := by
  obtain ⟨i, hi, hz, hsize, hby⟩ := info_parts info_B
  subst hG hm
  have hown' : OwnB ((w.alloc (.cells cs 5)).drewN n) base v bs := World.ownsRow.alloc hown _
  have hcells : ∀ j u, (news.map bv)[j]? = some u → ((w.alloc (.cells cs 5)).drewN n).cell? ((⟨w.heap.size, 0, none⟩ : Addr).add j) = some u := by
    intro j u hu
    have ha : (⟨w.heap.size, 0, none⟩ : Addr).add j = ⟨w.heap.size, j, none⟩ := by unfold Addr.add; split <;> simp_all
    rw [ha]
    show (w.alloc (.cells cs 5)).cell? ⟨w.heap.size, j, none⟩ = some u
    rw [cell_of_row _ w.heap.size j cs 5 (0, 0) (heap_alloc_new w _), ← Array.getElem?_toList, hcs]
    exact hu
  have hbase' : base ≤ ((w.alloc (.cells cs 5)).drewN n).heap.size := by
    have : ((w.alloc (.cells cs 5)).drewN n).heap.size = w.heap.size + 1 := by simp
    omega
  obtain ⟨v', w', h1, h2, h3, _⟩ := run_append_own_at (P := Try.prog) ((w.alloc (.cells cs 5)).drewN n) base 194 ty 5 i (.int .u8 0) 1 1 Try.underlying194 hi hz hsize hby rfl (by omega) v bs.length (bs.map bv) hown' ⟨w.heap.size, 0, none⟩ news.length c (news.map bv)
    (by simp) hcells (by intro u hu; obtain ⟨b, _, rfl⟩ := List.mem_map.1 hu; rfl) (by unfold maxLen; omega) (by omega) hbase'
  refine ⟨v', w', h1, ?_, ?_⟩
  · unfold OwnB
    rw [List.map_append, List.length_append]
    exact h2
  · exact (below_drewN' ((one_new w _).mono hbase) n).trans ((Below.refl _ _).grown h3 hbase' (fun k hk => (World.ownsRow.lt hown' k hk).1))

theorem oper_append_B {o : Oper} {a : Act} {K : Act → World → Prop} {Q : Exit → Act → World → Prop} (w : World) (s x : Operand)
    (ho : o.op = .call { callee := .builtin .append, args := #[s, x], argTypes := #[194, 194] })
    (base : Nat) (v : Value) (bs news : List UInt8) (hs : a.eval s = v) (hown : OwnB w base v bs) (cs : Array Value) (hcs : cs.toList = news.map bv) (G m c : Nat) (hx : a.eval x = .slice (some ⟨G, 0, none⟩) m c) (hG : G = w.heap.size) (hm : m = news.length) (hroom : bs.length + news.length ≤ 1000000000) (hbase : base ≤ w.heap.size) (n : Nat)
    (h : ∀ v' w', OwnB w' base v' (bs ++ news) → Below base w w' → K (a.put o.dst v') w') : o.wp Try.prog a ((w.alloc (.cells cs 5)).drewN n) K Q := by
  obtain ⟨v', w', hrun, h2, h3⟩ := run_append_B w base v bs news hown cs hcs G m c hG hm hroom hbase n o.type
  unfold Oper.wp execOp
  simp only [ho, resolve, invoke, builtin, Sem.run_bind, Sem.run_pure, Result.andThen_ok, List.map_toArray, List.map_cons, List.map_nil, hs, hx, hrun]
  exact h v' w' h2 h3

theorem wp_append_B {ops : Array Oper} {rest : List Oper} {o : Oper} {a : Act} {Q : Exit → Act → World → Prop} (w : World) (hgd : o.guard = none) (s x : Operand)
    (ho : o.op = .call { callee := .builtin .append, args := #[s, x], argTypes := #[194, 194] })
    (base : Nat) (v : Value) (bs news : List UInt8) (hs : a.eval s = v) (hown : OwnB w base v bs) (cs : Array Value) (hcs : cs.toList = news.map bv) (G m c : Nat) (hx : a.eval x = .slice (some ⟨G, 0, none⟩) m c) (hG : G = w.heap.size) (hm : m = news.length) (hroom : bs.length + news.length ≤ 1000000000) (hbase : base ≤ w.heap.size)
    (h : ∀ v' w', OwnB w' base v' (bs ++ news) → Below base w w' → wpList Try.prog ops Q rest (a.put o.dst v') w') : wpList Try.prog ops Q (o :: rest) a (w.alloc (.cells cs 5)) :=
  wpList_plain hgd fun _ hK => oper_append_B w s x ho base v bs news hs hown cs hcs G m c hx hG hm hroom hbase 0 fun v' w' h2 h3 => hK _ _ (h v' w' h2 h3)

theorem step_append_B {ops : Array Oper} {o : Oper} {a : Act} {K : Act → World → Prop} {Q : Exit → Act → World → Prop} {E : Prop} (w : World) (hgd : o.guard = none) (s x : Operand)
    (ho : o.op = .call { callee := .builtin .append, args := #[s, x], argTypes := #[194, 194] })
    (base : Nat) (v : Value) (bs news : List UInt8) (hs : a.eval s = v) (hown : OwnB w base v bs) (cs : Array Value) (hcs : cs.toList = news.map bv) (G m c : Nat) (hx : a.eval x = .slice (some ⟨G, 0, none⟩) m c) (hG : G = w.heap.size) (hm : m = news.length) (hroom : bs.length + news.length ≤ 1000000000) (hbase : base ≤ w.heap.size)
    (h : ∀ v' w', OwnB w' base v' (bs ++ news) → Below base w w' → K (a.put o.dst v') w') :
    if Region.wanted o (yielded ops a.tmps) = true then Oper.wp Try.prog o a ((w.alloc (.cells cs 5)).drew) K Q else E := by
  have hw : Region.wanted o (yielded ops a.tmps) = true := by simp [Region.wanted, hgd]
  rw [if_pos hw]
  exact oper_append_B w s x ho base v bs news hs hown cs hcs G m c hx hG hm hroom hbase 1 h

/-- Bytes of the call's own, made a text. -/
theorem conv_B {w : World} {base : Nat} {v : Value} {bs : List UInt8} (h : OwnB w base v bs) : ∃ A n c, v = .slice A n c ∧ (convert 194 9 (.slice A n c)).run Try.prog w = .ok (.string ⟨bs.toArray⟩) w := by
  rcases h.2 with ⟨rfl, hn⟩ | ⟨g, cap, cur, rfl, _, hg, _, _, _, htk⟩
  · have hbs : bs = [] := by
      cases bs with
      | nil => rfl
      | cons b bs => simp at hn
    subst hbs
    exact ⟨none, 0, 0, rfl, Lib.run_convert_nil_bytes w _ _ 5 0 Try.underlying194 Try.underlying5 Try.underlying9⟩
  · refine ⟨_, _, _, rfl, run_convert_bytes_back w _ _ 5 _ cap bs Try.underlying194 Try.underlying5 Try.underlying9 ?_⟩
    intro j hj
    refine World.ownsRow.cells h (g := g) rfl j _ ?_
    rw [List.getElem?_map, List.getElem?_eq_getElem hj]
    rfl

/-- The bytes bs lie at A, below block B. -/
def BytesAt (w : World) (B : Nat) (A : Option Addr) (bs : List UInt8) : Prop := ∀ (i : Nat) (c : UInt8), bs[i]? = some c → ∃ a : Addr, A = some a ∧ (a.add i).block < B ∧ w.cell? (a.add i) = some (bv c)
theorem BytesAt.below {w w' : World} {B : Nat} {A : Option Addr} {bs : List UInt8} (h : BytesAt w B A bs) (hb : Below B w w') : BytesAt w' B A bs := by
  intro i c hi
  obtain ⟨a, ha, hlt, hc⟩ := h i c hi
  exact ⟨a, ha, hlt, (hb.cell hlt).trans hc⟩
theorem BytesAt.more {w : World} {B B' : Nat} {A : Option Addr} {bs : List UInt8} (h : BytesAt w B A bs) (hB : B ≤ B') : BytesAt w B' A bs := by
  intro i c hi
  obtain ⟨a, ha, hlt, hc⟩ := h i c hi
  exact ⟨a, ha, by omega, hc⟩
theorem BytesAt.later {w w' : World} {A : Option Addr} {bs : List UInt8} (h : BytesAt w w.heap.size A bs) (hb : Below w.heap.size w w') : BytesAt w' w'.heap.size A bs := (h.below hb).more hb.size

theorem OwnB.below {w w' : World} {base : Nat} {v : Value} {bs : List UInt8} (h : OwnB w base v bs) {B : Nat} (hb : Below B w w') (hB : w.heap.size ≤ B) : OwnB w' base v bs := by
  refine ⟨h.1, ?_⟩
  rcases h.2 with hn | ⟨g, cap, cur, hv, hg, hh, r⟩
  · exact Or.inl hn
  · have hlt : g < w.heap.size := (Array.getElem?_eq_some_iff.1 hh).1
    exact Or.inr ⟨g, cap, cur, hv, hg, (hb.block g (by omega)).trans hh, r⟩
theorem OwnB.alloc {w : World} {base : Nat} {v : Value} {bs : List UInt8} (h : OwnB w base v bs) (o : Obj) : OwnB (w.alloc o) base v bs := World.ownsRow.alloc h o
theorem OwnB.more {w : World} {base base' : Nat} {v : Value} {bs : List UInt8} (h : OwnB w base v bs) (hb : base' ≤ base) : OwnB w base' v bs := by
  refine ⟨h.1, ?_⟩
  rcases h.2 with hn | ⟨g, cap, cur, hv, hg, r⟩
  · exact Or.inl hn
  · exact Or.inr ⟨g, cap, cur, hv, by omega, r⟩
theorem OwnB.nil (w : World) (base : Nat) : OwnB w base (.slice none 0 0) [] := World.ownsRow_nil w base _ _
/-- Bytes of one's own, as bytes in memory. -/
theorem OwnB.form {w : World} {base : Nat} {v : Value} {bs : List UInt8} (h : OwnB w base v bs) : ∃ A c, v = .slice A bs.length c ∧ (A = none → c = 0) ∧ bs.length ≤ c ∧ BytesAt w w.heap.size A bs := by
  rcases h.2 with ⟨rfl, hn⟩ | ⟨g, cap, cur, rfl, hb, hg, hc, _⟩
  · refine ⟨none, 0, by rw [hn], fun _ => rfl, by omega, fun i v hi => ?_⟩
    have := (List.getElem?_eq_some_iff.1 hi).1
    omega
  · refine ⟨_, _, rfl, fun h => by simp at h, hc, fun i c hi => ⟨_, rfl, ?_, ?_⟩⟩
    · rw [show ((⟨g, 0, none⟩ : Addr).add i).block = g from by unfold Addr.add; split <;> rfl]
      exact (Array.getElem?_eq_some_iff.1 hg).1
    · refine World.ownsRow.cells h (g := g) rfl i _ ?_
      rw [List.getElem?_map, hi]
      rfl

/-- A call that answers a row of its own bytes. -/
def GivesB (w : World) (base : Nat) (bs : List UInt8) (e : Ending) (w' : World) : Prop := ∃ v, e = .returned v ∧ OwnB w' base v bs ∧ Below base w w'

theorem lit_B (w : World) (cs : Array Value) (bs : List UInt8) (h : cs.toList = bs.map bv) (hl : bs.length ≤ 1000000000) : OwnB (w.alloc (.cells cs 5)) w.heap.size (.slice (some ⟨w.heap.size, 0, none⟩) bs.length bs.length) bs := by
  unfold OwnB
  rw [← h]
  exact World.ownsRow_lit w cs bs.length (Nat.le_refl _) (by unfold maxLen; omega) (by rw [← Array.length_toList, h]; simp)

theorem wp_append_Bs {ops : Array Oper} {rest : List Oper} {o : Oper} {a : Act} {Q : Exit → Act → World → Prop} (w : World) (hgd : o.guard = none) (s x : Operand)
    (ho : o.op = .call { callee := .builtin .append, args := #[s, x], argTypes := #[194, 194] })
    (base : Nat) (v : Value) (bs news : List UInt8) (hs : a.eval s = v) (hown : OwnB w base v bs)
    (B : Nat) (A : Option Addr) (m c : Nat) (hx : a.eval x = .slice A m c) (hm : m = news.length) (hr : BytesAt w B A news)
    (hroom : bs.length + news.length ≤ 1000000000) (hbase : base ≤ w.heap.size)
    (h : ∀ v' w', OwnB w' base v' (bs ++ news) → Below base w w' → wpList Try.prog ops Q rest (a.put o.dst v') w') : wpList Try.prog ops Q (o :: rest) a w := by
  obtain ⟨i, hi, hz, hsize, hby⟩ := info_parts info_B
  refine wpList_plain hgd fun K hK => ?_
  have hrun : ∃ v' w', (Builtin.append_ #[194, 194] o.type #[v, .slice A m c]).run Try.prog w = .ok v' w' ∧ OwnB w' base v' (bs ++ news) ∧ w.grownBy w' v.ownBlock := by
    cases A with
    | none =>
      have hy : news = [] := by
        cases news with
        | nil => rfl
        | cons y ys =>
          obtain ⟨a, ha, _⟩ := hr 0 y rfl
          cases ha
      subst hy
      subst hm
      refine ⟨v, w, ?_, by simpa using hown, World.grownBy.refl _ _⟩
      rcases hown.2 with ⟨rfl, _⟩ | ⟨g, cap, cur, rfl, _, _, hnc, _⟩
      · simp [Builtin.append_, run_underlying Try.underlying194, sizeOf, typeInfo, hi, Builtin.lenOf, Builtin.firstCells]
      · simp [Builtin.append_, run_underlying Try.underlying194, sizeOf, typeInfo, hi, Builtin.lenOf, Builtin.firstCells, hnc, storeCells]
    | some ad =>
      have hcells : ∀ j u, (news.map bv)[j]? = some u → w.cell? (ad.add j) = some u := by
        intro j u hu
        rw [List.getElem?_map] at hu
        cases hj : news[j]? with
        | none => rw [hj] at hu; cases hu
        | some c =>
          rw [hj] at hu
          obtain ⟨a', ha', _, hc⟩ := hr j c hj
          have ha2 : ad = a' := Option.some.inj ha'
          subst ha2
          rw [hc]
          exact hu
      obtain ⟨v', w', h1, h2, h3, _⟩ := run_append_own_at (P := Try.prog) w base 194 o.type 5 i (.int .u8 0) 1 1 Try.underlying194 hi hz hsize hby rfl (by omega) v bs.length (bs.map bv) hown ad m c (news.map bv)
        (by simp [hm]) hcells (by intro u hu; obtain ⟨b, _, rfl⟩ := List.mem_map.1 hu; rfl) (by unfold maxLen; omega) (by omega) hbase
      refine ⟨v', w', h1, ?_, h3⟩
      unfold OwnB
      rw [List.map_append, List.length_append, ← hm]
      exact h2
  obtain ⟨v', w', hrun, h2, h3⟩ := hrun
  unfold Oper.wp execOp
  simp only [ho, resolve, invoke, builtin, Sem.run_bind, Sem.run_pure, Result.andThen_ok, List.map_toArray, List.map_cons, List.map_nil, hs, hx, hrun]
  exact hK _ _ (h v' w' h2 ((Below.refl _ _).grown h3 hbase (fun k hk => (World.ownsRow.lt hown k hk).1)))
end Go.Proofs.Ytmdkjhnafnblkaa
