/-
  A byte of a text between quotes: appendByte of package value adds the bytes that stand for it, at every byte, and changes nothing that was there.
  No condition but that the bytes are no more than one million.
  quote of package value answers the bytes that stand for a text between two quotes, at every text, and changes nothing that was there.
  No condition but that the text is no longer than a hundred thousand bytes.
-/
import Derived.Maps.AppendAt
import Derived.Deep.AppendLies
import Derived.Deep.RegionHeld3
import Derived.Deep.RegionLaw
import Derived.OwnWalk
import Derived.Laws.IdiomStrings
import Derived.Lib.BufferRead
import Derived.Test.YtkobfngnnblpeaaGreatDoorM2
namespace Go.Proofs.YtkobfngnnblpeaaGreatDoor
section
open Go.RowKit

/-- A byte as the program holds it. -/
def bv (b : UInt8) : Value := .int .u8 (b.toNat : Int)
/-- v is a row of the call's own bytes, and holds bs. -/
def OwnB (w : World) (base : Nat) (v : Value) (bs : List UInt8) : Prop := w.ownsRow base 5 1 v bs.length (bs.map bv)

theorem info_B : (Tryz.prog.info? 5).map (fun i => (i.zero, i.size, i.bytes)) = some (some (.int .u8 0), 1, 1) := by kernel_rfl

theorem run_append_B (w : World) (base : Nat) (v : Value) (bs news : List UInt8) (hown : OwnB w base v bs) (cs : Array Value) (hcs : cs.toList = news.map bv) (G m c : Nat) (hG : G = w.heap.size) (hm : m = news.length) (hroom : bs.length + news.length ≤ 1000000) (hbase : base ≤ w.heap.size) (n : Nat) (ty : TypeId) :
    ∃ v' w', (Builtin.append_ #[129, 129] ty #[v, .slice (some ⟨G, 0, none⟩) m c]).run Tryz.prog ((w.alloc (.cells cs 5)).drewN n) = .ok v' w' ∧ OwnB w' base v' (bs ++ news) ∧ Below base w w' := by
  obtain ⟨i, hi, hz, hsize, hby⟩ := info_parts info_B
  subst hG hm
  have hown' : OwnB ((w.alloc (.cells cs 5)).drewN n) base v bs := World.ownsRow.alloc hown _
  have hcells : ∀ j u, (news.map bv)[j]? = some u → ((w.alloc (.cells cs 5)).drewN n).cell? ((⟨w.heap.size, 0, none⟩ : Addr).add j) = some u := by
    intro j u hu
    have ha : (⟨w.heap.size, 0, none⟩ : Addr).add j = ⟨w.heap.size, j, none⟩ := by unfold Addr.add; split <;> simp_all
    rw [ha]
    show (w.alloc (.cells cs 5)).cell? ⟨w.heap.size, j, none⟩ = some u
    rw [cell_of_row _ w.heap.size j cs 5 (0, 0) (heap_alloc_new w _), ← Array.getElem?_toList, hcs]
    exact hu
  have hbase' : base ≤ ((w.alloc (.cells cs 5)).drewN n).heap.size := by
    have : ((w.alloc (.cells cs 5)).drewN n).heap.size = w.heap.size + 1 := by simp
    omega
  obtain ⟨v', w', h1, h2, h3, _⟩ := run_append_own_at (P := Tryz.prog) ((w.alloc (.cells cs 5)).drewN n) base 129 ty 5 i (.int .u8 0) 1 1 Tryz.underlying129 hi hz hsize hby rfl (by omega) v bs.length (bs.map bv) hown' ⟨w.heap.size, 0, none⟩ news.length c (news.map bv)
    (by simp) hcells (by intro u hu; obtain ⟨b, _, rfl⟩ := List.mem_map.1 hu; rfl) (by unfold maxLen; omega) (by omega) hbase'
  refine ⟨v', w', h1, ?_, ?_⟩
  · unfold OwnB
    rw [List.map_append, List.length_append]
    exact h2
  · exact (below_drewN' ((one_new w _).mono hbase) n).trans ((Below.refl _ _).grown h3 hbase' (fun k hk => (World.ownsRow.lt hown' k hk).1))

theorem oper_append_B {o : Oper} {a : Act} {K : Act → World → Prop} {Q : Exit → Act → World → Prop} (w : World) (s x : Operand)
    (ho : o.op = .call { callee := .builtin .append, args := #[s, x], argTypes := #[129, 129] })
    (base : Nat) (v : Value) (bs news : List UInt8) (hs : a.eval s = v) (hown : OwnB w base v bs) (cs : Array Value) (hcs : cs.toList = news.map bv) (G m c : Nat) (hx : a.eval x = .slice (some ⟨G, 0, none⟩) m c) (hG : G = w.heap.size) (hm : m = news.length) (hroom : bs.length + news.length ≤ 1000000) (hbase : base ≤ w.heap.size) (n : Nat)
    (h : ∀ v' w', OwnB w' base v' (bs ++ news) → Below base w w' → K (a.put o.dst v') w') : o.wp Tryz.prog a ((w.alloc (.cells cs 5)).drewN n) K Q := by
  obtain ⟨v', w', hrun, h2, h3⟩ := run_append_B w base v bs news hown cs hcs G m c hG hm hroom hbase n o.type
  unfold Oper.wp execOp
  simp only [ho, resolve, invoke, builtin, Sem.run_bind, Sem.run_pure, Result.andThen_ok, List.map_toArray, List.map_cons, List.map_nil, hs, hx, hrun]
  exact h v' w' h2 h3

theorem wp_append_B {ops : Array Oper} {rest : List Oper} {o : Oper} {a : Act} {Q : Exit → Act → World → Prop} (w : World) (hgd : o.guard = none) (s x : Operand)
    (ho : o.op = .call { callee := .builtin .append, args := #[s, x], argTypes := #[129, 129] })
    (base : Nat) (v : Value) (bs news : List UInt8) (hs : a.eval s = v) (hown : OwnB w base v bs) (cs : Array Value) (hcs : cs.toList = news.map bv) (G m c : Nat) (hx : a.eval x = .slice (some ⟨G, 0, none⟩) m c) (hG : G = w.heap.size) (hm : m = news.length) (hroom : bs.length + news.length ≤ 1000000) (hbase : base ≤ w.heap.size)
    (h : ∀ v' w', OwnB w' base v' (bs ++ news) → Below base w w' → wpList Tryz.prog ops Q rest (a.put o.dst v') w') : wpList Tryz.prog ops Q (o :: rest) a (w.alloc (.cells cs 5)) :=
  wpList_plain hgd fun _ hK => oper_append_B w s x ho base v bs news hs hown cs hcs G m c hx hG hm hroom hbase 0 fun v' w' h2 h3 => hK _ _ (h v' w' h2 h3)

theorem step_append_B {ops : Array Oper} {o : Oper} {a : Act} {K : Act → World → Prop} {Q : Exit → Act → World → Prop} {E : Prop} (w : World) (hgd : o.guard = none) (s x : Operand)
    (ho : o.op = .call { callee := .builtin .append, args := #[s, x], argTypes := #[129, 129] })
    (base : Nat) (v : Value) (bs news : List UInt8) (hs : a.eval s = v) (hown : OwnB w base v bs) (cs : Array Value) (hcs : cs.toList = news.map bv) (G m c : Nat) (hx : a.eval x = .slice (some ⟨G, 0, none⟩) m c) (hG : G = w.heap.size) (hm : m = news.length) (hroom : bs.length + news.length ≤ 1000000) (hbase : base ≤ w.heap.size)
    (h : ∀ v' w', OwnB w' base v' (bs ++ news) → Below base w w' → K (a.put o.dst v') w') :
    if Region.wanted o (yielded ops a.tmps) = true then Oper.wp Tryz.prog o a ((w.alloc (.cells cs 5)).drew) K Q else E := by
  have hw : Region.wanted o (yielded ops a.tmps) = true := by simp [Region.wanted, hgd]
  rw [if_pos hw]
  exact oper_append_B w s x ho base v bs news hs hown cs hcs G m c hx hG hm hroom hbase 1 h

/-- A digit of base 16. -/
def hexd (d : Nat) : UInt8 := if d < 10 then UInt8.ofNat (48 + d) else UInt8.ofNat (87 + d)
/-- The bytes that stand for one byte between quotes. -/
def qb (c : UInt8) : List UInt8 :=
  if c.toNat = 34 ∨ c.toNat = 92 then [92, c] else if c.toNat < 32 ∨ 126 < c.toNat then [92, 120, hexd (c.toNat / 16), hexd (c.toNat % 16)] else [c]

theorem hexd_at (d : Nat) (hd : d < 16) (hp : d < ByteArray.size ⟨#[48, 49, 50, 51, 52, 53, 54, 55, 56, 57, 97, 98, 99, 100, 101, 102]⟩) : ((⟨#[48, 49, 50, 51, 52, 53, 54, 55, 56, 57, 97, 98, 99, 100, 101, 102]⟩ : ByteArray)[d]'hp) = hexd d := by
  have h : ∀ e : Fin 16, ((⟨#[48, 49, 50, 51, 52, 53, 54, 55, 56, 57, 97, 98, 99, 100, 101, 102]⟩ : ByteArray)[e.val]'(e.isLt)) = hexd e.val := by decide
  exact h ⟨d, hd⟩
theorem hex_run (z : Int) (d : Nat) (hz : z = (d : Int)) (hd : d < 16) (w : World) : (Instr.index 9 (.string ⟨#[48, 49, 50, 51, 52, 53, 54, 55, 56, 57, 97, 98, 99, 100, 101, 102]⟩) (.int .u8 z)).run Tryz.prog w = .ok (.int .u8 ((hexd d).toNat : Int)) w := by
  subst hz
  rw [run_index_string _ 9 _ .u8 (d : Int) Tryz.underlying9]
  have hs : ByteArray.size ⟨#[48, 49, 50, 51, 52, 53, 54, 55, 56, 57, 97, 98, 99, 100, 101, 102]⟩ = 16 := rfl
  rw [dif_pos ⟨by omega, by rw [hs]; omega⟩]
  have e : ((d : Int)).toNat = d := by omega
  have h := hexd_at d hd (by rw [hs]; exact hd)
  simp only [e]
  rw [h]

/-- A call that answers a row of its own bytes. -/
def GivesB (w : World) (base : Nat) (bs : List UInt8) (e : Ending) (w' : World) : Prop := ∃ v, e = .returned v ∧ OwnB w' base v bs ∧ Below base w w'

set_option maxRecDepth 100000 in
set_option maxHeartbeats 1000000 in
theorem append_byte (v : Value) (bs : List UInt8) (c : UInt8) (base : Nat) (w : World) (hown : OwnB w base v bs) (hroom : bs.length ≤ 999000) (hbase : base ≤ w.heap.size) :
    Calls Tryz.prog 116 #[v, .int .u8 (c.toNat : Int)] w (GivesB w base (bs ++ qb c)) := by
  have HO := Lib.hid hown
  clear hown
  have c0 : (0 : Int) ≤ (c.toNat : Int) := by omega
  have c1 : (c.toNat : Int) < 256 := by have := c.toNat_lt; omega
  by_cases h1 : c.toNat = 34 ∨ c.toNat = 92
  · have hq : qb c = [92, c] := if_pos h1
    have HQ := Lib.hid hq
    clear hq
    by_cases h2 : (c.toNat : Int) = 34
    · have hb2 : ((c.toNat : Int) == 34) = true := by simpa using h2
      clear h1 h2
      go_enter Tryz.func116, Tryz.ntmps116
      go_wp2_with (at_builtin; refine wp_append_B _ rfl (.tmp 12) (.tmp 14) rfl base _ bs [92, c] rfl HO.out _ rfl _ _ _ rfl rfl rfl (by simp; omega) hbase ?_; intro v' w1 h1 h2)
      go_ret
      exact ⟨v', rfl, by rw [HQ.out]; exact h1, h2⟩
    · have hb2 : ((c.toNat : Int) == 34) = false := by simpa using h2
      have hb3 : ((c.toNat : Int) == 92) = true := by simp; omega
      clear h1 h2
      go_enter Tryz.func116, Tryz.ntmps116
      go_wp2_with (at_builtin; refine wp_append_B _ rfl (.tmp 12) (.tmp 14) rfl base _ bs [92, c] rfl HO.out _ rfl _ _ _ rfl rfl rfl (by simp; omega) hbase ?_; intro v' w1 h1 h2)
      go_ret
      exact ⟨v', rfl, by rw [HQ.out]; exact h1, h2⟩
  · have hb2 : ((c.toNat : Int) == 34) = false := by simp; omega
    have hb3 : ((c.toNat : Int) == 92) = false := by simp; omega
    by_cases h4 : c.toNat < 32 ∨ 126 < c.toNat
    · have hq : qb c = [92, 120, hexd (c.toNat / 16), hexd (c.toNat % 16)] := by
        unfold qb
        rw [if_neg h1, if_pos h4]
      have HQ := Lib.hid hq
      clear hq h1
      have i1 := hex_run ((c.toNat : Int) / 16) (c.toNat / 16) (by omega) (by omega)
      have i2 := hex_run ((c.toNat : Int) % 16) (c.toNat % 16) (by omega) (by omega)
      have i3 := hex_run (bits .and .u8 (c.toNat : Int) 15) (c.toNat % 16) (by rw [u8_and15 _ c0 c1]; omega) (by omega)
      by_cases h5 : (c.toNat : Int) < 32
      · clear h4
        go_enter Tryz.func116, Tryz.ntmps116
        go_wp2
        go_region_law
          ((refine step_append_B _ (by rfl) _ _ (by rfl) base v bs [92, 120, hexd (c.toNat / 16), hexd (c.toNat % 16)] (by rfl) HO.out _ (by rfl) _ _ _ (by rfl) (by simp) (by rfl) (by simp; omega) hbase ?_; intro v' w1 h1 h2))
        all_goals
          go_wp2
          go_ret
          exact ⟨v', rfl, by rw [HQ.out]; exact h1, h2⟩
      · have h6 : 126 < (c.toNat : Int) := by omega
        clear h4
        go_enter Tryz.func116, Tryz.ntmps116
        go_wp2
        go_region_law
          ((refine step_append_B _ (by rfl) _ _ (by rfl) base v bs [92, 120, hexd (c.toNat / 16), hexd (c.toNat % 16)] (by rfl) HO.out _ (by rfl) _ _ _ (by rfl) (by simp) (by rfl) (by simp; omega) hbase ?_; intro v' w1 h1 h2))
        all_goals
          go_wp2
          go_ret
          exact ⟨v', rfl, by rw [HQ.out]; exact h1, h2⟩
    · have hq : qb c = [c] := by
        unfold qb
        rw [if_neg h1, if_neg h4]
      have HQ := Lib.hid hq
      have h5 : ¬ (c.toNat : Int) < 32 := by omega
      have h6 : ¬ 126 < (c.toNat : Int) := by omega
      clear hq h1 h4
      go_enter Tryz.func116, Tryz.ntmps116
      go_wp2_with (at_builtin; refine wp_append_B _ rfl (.tmp 32) (.tmp 34) rfl base _ bs [c] rfl HO.out _ rfl _ _ _ rfl rfl rfl (by simp; omega) hbase ?_; intro v' w1 h1 h2)
      go_ret
      exact ⟨v', rfl, by rw [HQ.out]; exact h1, h2⟩
end
end Go.Proofs.YtkobfngnnblpeaaGreatDoor
namespace Go.Proofs.YtkobfngnnblpeaaGreatDoor
section
open Go.RowKit

/-- Bytes of the call's own, made a text. -/
theorem conv_B {w : World} {base : Nat} {v : Value} {bs : List UInt8} (h : OwnB w base v bs) : ∃ A n c, v = .slice A n c ∧ (convert 129 9 (.slice A n c)).run Tryz.prog w = .ok (.string ⟨bs.toArray⟩) w := by
  rcases h.2 with ⟨rfl, hn⟩ | ⟨g, cap, cur, rfl, _, hg, _, _, _, htk⟩
  · have hbs : bs = [] := by
      cases bs with
      | nil => rfl
      | cons b bs => simp at hn
    subst hbs
    exact ⟨none, 0, 0, rfl, Lib.run_convert_nil_bytes w _ _ 5 0 Tryz.underlying129 Tryz.underlying5 Tryz.underlying9⟩
  · refine ⟨_, _, _, rfl, run_convert_bytes_back w _ _ 5 _ cap bs Tryz.underlying129 Tryz.underlying5 Tryz.underlying9 ?_⟩
    intro j hj
    refine World.ownsRow.cells h (g := g) rfl j _ ?_
    rw [List.getElem?_map, List.getElem?_eq_getElem hj]
    rfl

/-- The bytes of a text between quotes. -/
def qs (l : List UInt8) : List UInt8 := [34] ++ l.flatMap qb ++ [34]
theorem qb_len (c : UInt8) : (qb c).length ≤ 4 := by
  unfold qb
  split
  · simp
  · split <;> simp
theorem flat_len (l : List UInt8) : (l.flatMap qb).length ≤ l.length * 4 := by
  induction l with
  | nil => simp
  | cons c l ih =>
    have := qb_len c
    simp only [List.flatMap_cons, List.length_append, List.length_cons]
    omega
theorem take_flat (s : ByteArray) (k : Nat) (h : k < s.size) : (s.data.toList.take (k + 1)).flatMap qb = (s.data.toList.take k).flatMap qb ++ qb s[k] := by
  have e : s.data.toList[k]? = some s[k] := by
    rw [List.getElem?_eq_getElem (by exact h)]
    rfl
  rw [List.take_add_one, e]
  simp

set_option maxHeartbeats 1000000 in
theorem quote_all (s : ByteArray) (w : World) (hs : s.size ≤ 100000) : Calls Tryz.prog 87 #[.string s] w fun e w' => e = .returned (.string ⟨(qs s.data.toList).toArray⟩) ∧ Below w.heap.size w w' := by
  have hown : OwnB (w.alloc (.cells #[.int .u8 34] 5)) w.heap.size (.slice (some ⟨w.heap.size, 0, none⟩) 1 1) [34] := World.ownsRow_lit w #[.int .u8 34] 1 (Nat.le_refl _) (by unfold maxLen; omega) rfl
  have HO := Lib.hid hown
  clear hown
  have hsl : s.data.toList.length = s.size := rfl
  have HL := Lib.hid hsl
  clear hsl
  go_enter Tryz.func87, Tryz.ntmps87
  go_wp2
  go_loopw [3, 8] (fun v i wr => ∃ k : Nat, k ≤ s.size ∧ i = .int .i64 k ∧ OwnB wr w.heap.size v ([34] ++ (s.data.toList.take k).flatMap qb) ∧ Below w.heap.size w wr) (fun _ i _ => s.size - (intOf i).toNat)
  case atStart => exact ⟨0, Nat.zero_le _, rfl, by simpa using HO.out, one_new _ _⟩
  case round =>
    obtain ⟨k, hk, rfl, hown, hb⟩ := hrel
    have HO := Lib.hid hown
    have HB := Lib.hid hb
    have hsz : w.heap.size ≤ wr.heap.size := hb.size
    clear hown hb
    by_cases h1 : k < s.size
    · have HT := Lib.hid (take_flat s k h1)
      have hlen : ([34] ++ (s.data.toList.take k).flatMap qb).length ≤ 999000 := by
        have h9 := flat_len (s.data.toList.take k)
        have h8 : (s.data.toList.take k).length ≤ k := List.length_take_le _ _
        simp only [List.length_append, List.length_cons, List.length_nil]
        omega
      go_wp2_with (go_at_call 116; refine (append_byte _ _ s[k] w.heap.size _ HO.out hlen hsz).mono ?_; rintro e w1 ⟨v1, rfl, ho1, hb1⟩)
      go_roundw
      case rel => exact ⟨k + 1, by omega, by go_num, by rw [HT.out, ← List.append_assoc]; exact ho1, HB.out.trans hb1⟩
      case measure => simp [intOf]; omega
    · obtain rfl : k = s.size := by omega
      have hq : [34] ++ (s.data.toList.take s.size).flatMap qb ++ [34] = qs s.data.toList := by
        rw [List.take_of_length_le (by rw [HL.out]; omega)]
        rfl
      have HQ := Lib.hid hq
      have hlen : ([34] ++ (s.data.toList.take s.size).flatMap qb).length + 1 ≤ 1000000 := by
        have h9 := flat_len (s.data.toList.take s.size)
        have h8 : (s.data.toList.take s.size).length ≤ s.size := List.length_take_le _ _
        simp only [List.length_append, List.length_cons, List.length_nil]
        omega
      clear hq
      go_wp2_with (at_builtin; refine wp_append_B _ rfl (.tmp 17) (.tmp 18) rfl w.heap.size _ _ [34] rfl HO.out _ rfl _ _ _ rfl rfl rfl hlen hsz ?_; intro v1 w1 ho1 hb1; obtain ⟨A, n, c, rfl, hcv⟩ := conv_B ho1; rw [HQ.out] at hcv; clear ho1)
      go_ret
      exact ⟨rfl, HB.out.trans hb1⟩
end
end Go.Proofs.YtkobfngnnblpeaaGreatDoor
