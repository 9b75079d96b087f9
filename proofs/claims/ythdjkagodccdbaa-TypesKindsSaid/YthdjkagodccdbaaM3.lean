/-
  A byte of a text between quotes: appendByte of package value adds the bytes that stand for it, at every byte, and changes nothing that was there.
  No condition but that the bytes are no more than one million.
  quote of package value answers the bytes that stand for a text between two quotes, at every text, and changes nothing that was there.
  No condition but that the text is no longer than a hundred thousand bytes.
-/
import Derived.Maps.AppendAt
import Derived.Deep.AppendLies
import Derived.Deep.RegionHeld3
import Derived.Deep.RegionLaw
import Derived.OwnWalk
import Derived.Laws.IdiomStrings
import Derived.Lib.BufferRead
import Derived.Test.YthdjkagodccdbaaM2
namespace Go.Proofs.Ythdjkagodccdbaa
section
open Go.RowKit

/-- A byte as the program holds it. -/
def bv (b : UInt8) : Value := .int .u8 (b.toNat : Int)
/-- v is a row of the call's own bytes, and holds bs. -/
def OwnB (w : World) (base : Nat) (v : Value) (bs : List UInt8) : Prop := w.ownsRow base 5 1 v bs.length (bs.map bv)

theorem info_B : (Try.prog.info? 5).map (fun i => (i.zero, i.size, i.bytes)) = some (some (.int .u8 0), 1, 1) := by kernel_rfl

theorem run_append_B (w : World) (base : Nat) (v : Value) (bs news : List UInt8) (hown : OwnB w base v bs) (cs : Array Value) (hcs : cs.toList = news.map bv) (G m c : Nat) (hG : G = w.heap.size) (hm : m = news.length) (hroom : bs.length + news.length ≤ 1000000) (hbase : base ≤ w.heap.size) (n : Nat) (ty : TypeId) :
    ∃ v' w', (Builtin.append_ #[132, 132] ty #[v, .slice (some ⟨G, 0, none⟩) m c]).run Try.prog ((w.alloc (.cells cs 5)).drewN n) = .ok v' w' ∧ OwnB w' base v' (bs ++ news) ∧ Below base w w' := by
  obtain ⟨i, hi, hz, hsize, hby⟩ := info_parts info_B
  subst hG hm
  have hown' : OwnB ((w.alloc (.cells cs 5)).drewN n) base v bs := World.ownsRow.alloc hown _
  have hcells : ∀ j u, (news.map bv)[j]? = some u → ((w.alloc (.cells cs 5)).drewN n).cell? ((⟨w.heap.size, 0, none⟩ : Addr).add j) = some u := by
    intro j u hu
    have ha : (⟨w.heap.size, 0, none⟩ : Addr).add j = ⟨w.heap.size, j, none⟩ := by unfold Addr.add; split <;> simp_all
    rw [ha]
    show (w.alloc (.cells cs 5)).cell? ⟨w.heap.size, j, none⟩ = some u
    rw [cell_of_row _ w.heap.size j cs 5 (0, 0) (heap_alloc_new w _), ← Array.getElem?_toList, hcs]
    exact hu
  have hbase' : base ≤ ((w.alloc (.cells cs 5)).drewN n).heap.size := by
    have : ((w.alloc (.cells cs 5)).drewN n).heap.size = w.heap.size + 1 := by simp
    omega
  obtain ⟨v', w', h1, h2, h3, _⟩ := run_append_own_at (P := Try.prog) ((w.alloc (.cells cs 5)).drewN n) base 132 ty 5 i (.int .u8 0) 1 1 Try.underlying132 hi hz hsize hby rfl (by omega) v bs.length (bs.map bv) hown' ⟨w.heap.size, 0, none⟩ news.length c (news.map bv)
    (by simp) hcells (by intro u hu; obtain ⟨b, _, rfl⟩ := List.mem_map.1 hu; rfl) (by unfold maxLen; omega) (by omega) hbase'
  refine ⟨v', w', h1, ?_, ?_⟩
  · unfold OwnB
    rw [List.map_append, List.length_append]
    exact h2
  · exact (below_drewN' ((one_new w _).mono hbase) n).trans ((Below.refl _ _).grown h3 hbase' (fun k hk => (World.ownsRow.lt hown' k hk).1))

theorem oper_append_B {o : Oper} {a : Act} {K : Act → World → Prop} {Q : Exit → Act → World → Prop} (w : World) (s x : Operand)
    (ho : o.op = .call { callee := .builtin .append, args := #[s, x], argTypes := #[132, 132] })
    (base : Nat) (v : Value) (bs news : List UInt8) (hs : a.eval s = v) (hown : OwnB w base v bs) (cs : Array Value) (hcs : cs.toList = news.map bv) (G m c : Nat) (hx : a.eval x = .slice (some ⟨G, 0, none⟩) m c) (hG : G = w.heap.size) (hm : m = news.length) (hroom : bs.length + news.length ≤ 1000000) (hbase : base ≤ w.heap.size) (n : Nat)
    (h : ∀ v' w', OwnB w' base v' (bs ++ news) → Below base w w' → K (a.put o.dst v') w') : o.wp Try.prog a ((w.alloc (.cells cs 5)).drewN n) K Q := by
  obtain ⟨v', w', hrun, h2, h3⟩ := run_append_B w base v bs news hown cs hcs G m c hG hm hroom hbase n o.type
  unfold Oper.wp execOp
  simp only [ho, resolve, invoke, builtin, Sem.run_bind, Sem.run_pure, Result.andThen_ok, List.map_toArray, List.map_cons, List.map_nil, hs, hx, hrun]
  exact h v' w' h2 h3

theorem wp_append_B {ops : Array Oper} {rest : List Oper} {o : Oper} {a : Act} {Q : Exit → Act → World → Prop} (w : World) (hgd : o.guard = none) (s x : Operand)
    (ho : o.op = .call { callee := .builtin .append, args := #[s, x], argTypes := #[132, 132] })
    (base : Nat) (v : Value) (bs news : List UInt8) (hs : a.eval s = v) (hown : OwnB w base v bs) (cs : Array Value) (hcs : cs.toList = news.map bv) (G m c : Nat) (hx : a.eval x = .slice (some ⟨G, 0, none⟩) m c) (hG : G = w.heap.size) (hm : m = news.length) (hroom : bs.length + news.length ≤ 1000000) (hbase : base ≤ w.heap.size)
    (h : ∀ v' w', OwnB w' base v' (bs ++ news) → Below base w w' → wpList Try.prog ops Q rest (a.put o.dst v') w') : wpList Try.prog ops Q (o :: rest) a (w.alloc (.cells cs 5)) :=
  wpList_plain hgd fun _ hK => oper_append_B w s x ho base v bs news hs hown cs hcs G m c hx hG hm hroom hbase 0 fun v' w' h2 h3 => hK _ _ (h v' w' h2 h3)

theorem step_append_B {ops : Array Oper} {o : Oper} {a : Act} {K : Act → World → Prop} {Q : Exit → Act → World → Prop} {E : Prop} (w : World) (hgd : o.guard = none) (s x : Operand)
    (ho : o.op = .call { callee := .builtin .append, args := #[s, x], argTypes := #[132, 132] })
    (base : Nat) (v : Value) (bs news : List UInt8) (hs : a.eval s = v) (hown : OwnB w base v bs) (cs : Array Value) (hcs : cs.toList = news.map bv) (G m c : Nat) (hx : a.eval x = .slice (some ⟨G, 0, none⟩) m c) (hG : G = w.heap.size) (hm : m = news.length) (hroom : bs.length + news.length ≤ 1000000) (hbase : base ≤ w.heap.size)
    (h : ∀ v' w', OwnB w' base v' (bs ++ news) → Below base w w' → K (a.put o.dst v') w') :
    if Region.wanted o (yielded ops a.tmps) = true then Oper.wp Try.prog o a ((w.alloc (.cells cs 5)).drew) K Q else E := by
  have hw : Region.wanted o (yielded ops a.tmps) = true := by simp [Region.wanted, hgd]
  rw [if_pos hw]
  exact oper_append_B w s x ho base v bs news hs hown cs hcs G m c hx hG hm hroom hbase 1 h

/-- A digit of base 16. -/
def hexd (d : Nat) : UInt8 := if d < 10 then UInt8.ofNat (48 + d) else UInt8.ofNat (87 + d)
/-- The bytes that stand for one byte between quotes. -/
def qb (c : UInt8) : List UInt8 :=
  if c.toNat = 34 ∨ c.toNat = 92 then [92, c] else if c.toNat < 32 ∨ 126 < c.toNat then [92, 120, hexd (c.toNat / 16), hexd (c.toNat % 16)] else [c]

theorem hexd_at (d : Nat) (hd : d < 16) (hp : d < ByteArray.size ⟨#[48, 49, 50, 51, 52, 53, 54, 55, 56, 57, 97, 98, 99, 100, 101, 102]⟩) : ((⟨#[48, 49, 50, 51, 52, 53, 54, 55, 56, 57, 97, 98, 99, 100, 101, 102]⟩ : ByteArray)[d]'hp) = hexd d := by
  have h : ∀ e : Fin 16, ((⟨#[48, 49, 50, 51, 52, 53, 54, 55, 56, 57, 97, 98, 99, 100, 101, 102]⟩ : ByteArray)[e.val]'(e.isLt)) = hexd e.val := by decide
  exact h ⟨d, hd⟩
theorem hex_run (z : Int) (d : Nat) (hz : z = (d : Int)) (hd : d < 16) (w : World) : (Instr.index 9 (.string ⟨#[48, 49, 50, 51, 52, 53, 54, 55, 56, 57, 97, 98, 99, 100, 101, 102]⟩) (.int .u8 z)).run Try.prog w = .ok (.int .u8 ((hexd d).toNat : Int)) w := by
  subst hz
  rw [run_index_string _ 9 _ .u8 (d : Int) Try.underlying9]
  have hs : ByteArray.size ⟨#[48, 49, 50, 51, 52, 53, 54, 55, 56, 57, 97, 98, 99, 100, 101, 102]⟩ = 16 := rfl
  rw [dif_pos ⟨by omega, by rw [hs]; omega⟩]
  have e : ((d : Int)).toNat = d := by omega
  have h := hexd_at d hd (by rw [hs]; exact hd)
  simp only [e]
  rw [h]

/-- A call that answers a row of its own bytes. -/
def GivesB (w : World) (base : Nat) (bs : List UInt8) (e : Ending) (w' : World) : Prop := ∃ v, e = .returned v ∧ OwnB w' base v bs ∧ Below base w w'
end
end Go.Proofs.Ythdjkagodccdbaa
namespace Go.Proofs.Ythdjkagodccdbaa
section
open Go.RowKit

/-- Bytes of the call's own, made a text. -/
theorem conv_B {w : World} {base : Nat} {v : Value} {bs : List UInt8} (h : OwnB w base v bs) : ∃ A n c, v = .slice A n c ∧ (convert 132 9 (.slice A n c)).run Try.prog w = .ok (.string ⟨bs.toArray⟩) w := by
  rcases h.2 with ⟨rfl, hn⟩ | ⟨g, cap, cur, rfl, _, hg, _, _, _, htk⟩
  · have hbs : bs = [] := by
      cases bs with
      | nil => rfl
      | cons b bs => simp at hn
    subst hbs
    exact ⟨none, 0, 0, rfl, Lib.run_convert_nil_bytes w _ _ 5 0 Try.underlying132 Try.underlying5 Try.underlying9⟩
  · refine ⟨_, _, _, rfl, run_convert_bytes_back w _ _ 5 _ cap bs Try.underlying132 Try.underlying5 Try.underlying9 ?_⟩
    intro j hj
    refine World.ownsRow.cells h (g := g) rfl j _ ?_
    rw [List.getElem?_map, List.getElem?_eq_getElem hj]
    rfl

/-- The bytes of a text between quotes. -/
def qs (l : List UInt8) : List UInt8 := [34] ++ l.flatMap qb ++ [34]
theorem qb_len (c : UInt8) : (qb c).length ≤ 4 := by
  unfold qb
  split
  · simp
  · split <;> simp
theorem flat_len (l : List UInt8) : (l.flatMap qb).length ≤ l.length * 4 := by
  induction l with
  | nil => simp
  | cons c l ih =>
    have := qb_len c
    simp only [List.flatMap_cons, List.length_append, List.length_cons]
    omega
theorem take_flat (s : ByteArray) (k : Nat) (h : k < s.size) : (s.data.toList.take (k + 1)).flatMap qb = (s.data.toList.take k).flatMap qb ++ qb s[k] := by
  have e : s.data.toList[k]? = some s[k] := by
    rw [List.getElem?_eq_getElem (by exact h)]
    rfl
  rw [List.take_add_one, e]
  simp
end
end Go.Proofs.Ythdjkagodccdbaa
