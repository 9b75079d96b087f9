/-
  Digits that a call makes itself: what append leaves behind it. The document's own number of 64 bits in digits: big answers its sign and its four digits; in every world, nothing that was there is changed.
  No condition but that the number has 64 bits.
-/
import Derived.Test.YtdlimephkjihbaaBig
import Derived.Test.YtdlimephkjihbaaSprod
import Derived.Maps.AppendAt
import Derived.Deep.AppendLies
import Derived.OwnWalk
namespace Go.Proofs.Ytdlimephkjihbaa
open Go.RowKit

/-- v is a row of the call's own digits, and holds ds. -/
def OwnD (w : World) (base : Nat) (v : Value) (ds : List Nat) : Prop := w.ownsRow base 34 1 v ds.length (ds.map dv)

theorem info_D : (Try.prog.info? 34).map (fun i => (i.zero, i.size, i.bytes)) = some (some (.int .u64 0), 1, 8) := by kernel_rfl

theorem run_append_D (w : World) (base : Nat) (v : Value) (bs news : List Nat) (hown : OwnD w base v bs) (cs : Array Value) (hcs : cs.toList = news.map dv) (G m c : Nat) (hG : G = w.heap.size) (hm : m = news.length) (hroom : bs.length + news.length ≤ 1000000) (hbase : base ≤ w.heap.size) (n : Nat) (ty : TypeId) :
    ∃ v' w', (Builtin.append_ #[39, 39] ty #[v, .slice (some ⟨G, 0, none⟩) m c]).run Try.prog ((w.alloc (.cells cs 34)).drewN n) = .ok v' w' ∧ OwnD w' base v' (bs ++ news) ∧ Below base w w' := by
  obtain ⟨i, hi, hz, hsize, hby⟩ := info_parts info_D
  subst hG hm
  have hown' : OwnD ((w.alloc (.cells cs 34)).drewN n) base v bs := World.ownsRow.alloc hown _
  have hcells : ∀ j u, (news.map dv)[j]? = some u → ((w.alloc (.cells cs 34)).drewN n).cell? ((⟨w.heap.size, 0, none⟩ : Addr).add j) = some u := by
    intro j u hu
    have ha : (⟨w.heap.size, 0, none⟩ : Addr).add j = ⟨w.heap.size, j, none⟩ := by unfold Addr.add; split <;> simp_all
    rw [ha]
    show (w.alloc (.cells cs 34)).cell? ⟨w.heap.size, j, none⟩ = some u
    rw [cell_of_row _ w.heap.size j cs 34 (0, 0) (heap_alloc_new w _), ← Array.getElem?_toList, hcs]
    exact hu
  have hbase' : base ≤ ((w.alloc (.cells cs 34)).drewN n).heap.size := by
    have : ((w.alloc (.cells cs 34)).drewN n).heap.size = w.heap.size + 1 := by simp
    omega
  obtain ⟨v', w', h1, h2, h3, _⟩ := run_append_own_at (P := Try.prog) ((w.alloc (.cells cs 34)).drewN n) base 39 ty 34 i (.int .u64 0) 1 8 Try.underlying39 hi hz hsize hby rfl (by omega) v bs.length (bs.map dv) hown' ⟨w.heap.size, 0, none⟩ news.length c (news.map dv)
    (by simp) hcells (by intro u hu; obtain ⟨b, _, rfl⟩ := List.mem_map.1 hu; rfl) (by unfold maxLen; omega) (by omega) hbase'
  refine ⟨v', w', h1, ?_, ?_⟩
  · unfold OwnD
    rw [List.map_append, List.length_append]
    exact h2
  · exact (below_drewN' ((one_new w _).mono hbase) n).trans ((Below.refl _ _).grown h3 hbase' (fun k hk => (World.ownsRow.lt hown' k hk).1))

theorem oper_append_D {o : Oper} {a : Act} {K : Act → World → Prop} {Q : Exit → Act → World → Prop} (w : World) (s x : Operand)
    (ho : o.op = .call { callee := .builtin .append, args := #[s, x], argTypes := #[39, 39] })
    (base : Nat) (v : Value) (bs news : List Nat) (hs : a.eval s = v) (hown : OwnD w base v bs) (cs : Array Value) (hcs : cs.toList = news.map dv) (G m c : Nat) (hx : a.eval x = .slice (some ⟨G, 0, none⟩) m c) (hG : G = w.heap.size) (hm : m = news.length) (hroom : bs.length + news.length ≤ 1000000) (hbase : base ≤ w.heap.size) (n : Nat)
    (h : ∀ v' w', OwnD w' base v' (bs ++ news) → Below base w w' → K (a.put o.dst v') w') : o.wp Try.prog a ((w.alloc (.cells cs 34)).drewN n) K Q := by
  obtain ⟨v', w', hrun, h2, h3⟩ := run_append_D w base v bs news hown cs hcs G m c hG hm hroom hbase n o.type
  unfold Oper.wp execOp
  simp only [ho, resolve, invoke, builtin, Sem.run_bind, Sem.run_pure, Result.andThen_ok, List.map_toArray, List.map_cons, List.map_nil, hs, hx, hrun]
  exact h v' w' h2 h3

theorem wp_append_D {ops : Array Oper} {rest : List Oper} {o : Oper} {a : Act} {Q : Exit → Act → World → Prop} (w : World) (hgd : o.guard = none) (s x : Operand)
    (ho : o.op = .call { callee := .builtin .append, args := #[s, x], argTypes := #[39, 39] })
    (base : Nat) (v : Value) (bs news : List Nat) (hs : a.eval s = v) (hown : OwnD w base v bs) (cs : Array Value) (hcs : cs.toList = news.map dv) (G m c : Nat) (hx : a.eval x = .slice (some ⟨G, 0, none⟩) m c) (hG : G = w.heap.size) (hm : m = news.length) (hroom : bs.length + news.length ≤ 1000000) (hbase : base ≤ w.heap.size)
    (h : ∀ v' w', OwnD w' base v' (bs ++ news) → Below base w w' → wpList Try.prog ops Q rest (a.put o.dst v') w') : wpList Try.prog ops Q (o :: rest) a (w.alloc (.cells cs 34)) :=
  wpList_plain hgd fun _ hK => oper_append_D w s x ho base v bs news hs hown cs hcs G m c hx hG hm hroom hbase 0 fun v' w' h2 h3 => hK _ _ (h v' w' h2 h3)

theorem OwnD.below {w w' : World} {base : Nat} {v : Value} {ds : List Nat} (h : OwnD w base v ds) {B : Nat} (hb : Below B w w') (hB : w.heap.size ≤ B) : OwnD w' base v ds := by
  refine ⟨h.1, ?_⟩
  rcases h.2 with hn | ⟨g, cap, cur, hv, hg, hh, r⟩
  · exact Or.inl hn
  · have hlt : g < w.heap.size := (Array.getElem?_eq_some_iff.1 hh).1
    exact Or.inr ⟨g, cap, cur, hv, hg, (hb.block g (by omega)).trans hh, r⟩
theorem OwnD.nil (w : World) (base : Nat) : OwnD w base (.slice none 0 0) [] := World.ownsRow_nil w base _ _
/-- Digits of one's own stay while a block below them is written. -/
theorem OwnD.setCell {w : World} {base : Nat} {v : Value} {ds : List Nat} (h : OwnD w base v ds) (a : Addr) (u : Value) (ha : a.block < base) : OwnD (w.setCell a u) base v ds := by
  refine ownsRow_setCell_other h (fun e => ?_) u
  have := (World.ownsRow.lt h _ e).1
  omega
theorem OwnD.form {w : World} {base : Nat} {v : Value} {ds : List Nat} (h : OwnD w base v ds) : ∃ A c, v = .slice A ds.length c ∧ DigAt w w.heap.size A ds := by
  rcases h.2 with ⟨rfl, hn⟩ | ⟨g, cap, cur, rfl, hb, hg, hc, _⟩
  · refine ⟨none, 0, by rw [hn], fun i v hi => ?_⟩
    have := (List.getElem?_eq_some_iff.1 hi).1
    omega
  · refine ⟨_, _, rfl, fun i c hi => ⟨_, rfl, ?_, ?_⟩⟩
    · rw [show ((⟨g, 0, none⟩ : Addr).add i).block = g from by unfold Addr.add; split <;> rfl]
      exact (Array.getElem?_eq_some_iff.1 hg).1
    · refine World.ownsRow.cells h (g := g) rfl i _ ?_
      rw [List.getElem?_map, hi]
      rfl

theorem own_len {w : World} {base : Nat} {v : Value} {ds : List Nat} (h : OwnD w base v ds) (n : Nat) (hn : ds.length = n) : ∃ A c, v = .slice A n c := by
  obtain ⟨A, c, hv, _⟩ := h.form
  rw [hn] at hv
  exact ⟨A, c, hv⟩
theorem own_dig {w : World} {base : Nat} {A : Option Addr} {n c : Nat} {ds : List Nat} (h : OwnD w base (.slice A n c) ds) : DigAt w w.heap.size A ds := by
  obtain ⟨A', c', hv, hd⟩ := h.form
  injection hv with h1 _ _
  subst h1
  exact hd

/-- The number that a sign and digits are. -/
def sg (ng : Bool) (u : Nat) : Int := if ng = true then -(u : Int) else u
/-- A number in digits that reads as z. -/
def BigIs (w : World) (v : Value) (z : Int) : Prop := ∃ ng A n c ds, v = .agg #[.bool ng, .slice A n c] ∧ n = ds.length ∧ DigAt w w.heap.size A ds ∧ Dig ds ∧ z = sg ng (val ds)
theorem BigIs.later {w w' : World} {v : Value} {z : Int} (h : BigIs w v z) (hb : Below w.heap.size w w') : BigIs w' v z := by
  obtain ⟨ng, A, n, c, ds, h1, h2, h3, h4, h5⟩ := h
  exact ⟨ng, A, n, c, ds, h1, h2, h3.later hb, h4, h5⟩
/-- The digits lie in no block that was there. -/
def FreshB (w : World) (v : Value) : Prop := ∀ ng A n c, v = .agg #[.bool ng, .slice A n c] → ∀ a : Addr, A = some a → w.heap.size ≤ a.block
theorem own_fresh {w w0 : World} {base n c : Nat} {A : Option Addr} {ng : Bool} {ds : List Nat} (h : OwnD w base (.slice A n c) ds) (hb : w0.heap.size ≤ base) : FreshB w0 (.agg #[.bool ng, .slice A n c]) := by
  intro ng' A' n' c' hv a ha
  simp only [Value.agg.injEq, Array.mk.injEq, List.cons.injEq, Value.slice.injEq, and_true] at hv
  obtain ⟨_, rfl, _, _⟩ := hv
  rcases h.2 with ⟨hn, _⟩ | ⟨g, cap, cur, hv2, hg, _⟩
  · injection hn with h1 _ _
    rw [ha] at h1
    cases h1
  · injection hv2 with h1 _ _
    rw [ha] at h1
    injection h1 with h1
    rw [h1]
    show w0.heap.size ≤ g
    omega
/-- A call that answers a number in digits. -/
def GivesBig (w : World) (z : Int) (e : Ending) (w' : World) : Prop := ∃ v, e = .returned v ∧ BigIs w' v z ∧ Below w.heap.size w w' ∧ FreshB w v

/-- What is left of a number behind so many digits. -/
def uk (u : Nat) : Nat → Nat
  | 0 => u
  | k + 1 => uk u k / 65536
theorem four_take (u k : Nat) (hk : k < 4) : (four u).take (k + 1) = (four u).take k ++ [uk u k % 65536] := by
  rcases (show k = 0 ∨ k = 1 ∨ k = 2 ∨ k = 3 from by omega) with rfl | rfl | rfl | rfl <;> rfl
theorem cell_mod (x : Nat) : [Value.int .u64 ((x : Int) % 65536)] = [dv (x % 65536)] := by
  unfold dv
  rw [Int.natCast_emod]
  rfl

theorem uk_le (u k : Nat) (h : u < 18446744073709551616) : uk u k < 18446744073709551616 := by
  induction k with
  | zero => exact h
  | succ k ih =>
    show uk u k / 65536 < _
    omega

theorem cell_div (x : Nat) : Value.int .u64 ((x : Int) / 65536) = Value.int .u64 ((x / 65536 : Nat) : Int) := by
  rw [Int.natCast_ediv]
  rfl

theorem cell_divw (x : Nat) (h : x < 18446744073709551616) : Value.int .u64 (IntKind.u64.wrap ((x : Int) / 65536)) = Value.int .u64 ((x / 65536 : Nat) : Int) := by
  rw [← cell_div, wrap_u64]
  congr 1
  omega

set_option maxRecDepth 100000 in
set_option maxHeartbeats 2000000 in
theorem big_big (n : Int) (hn : N64 n) (w : World) : Calls Try.prog 58 #[.int .i64 n] w (GivesBig w n) := by
  obtain ⟨U, hU⟩ : ∃ U, n.natAbs = U := ⟨_, rfl⟩
  have hlt : U < 18446744073709551616 := by
    obtain ⟨h0, h1⟩ := hn
    omega
  obtain ⟨ng, hng⟩ : ∃ ng, decide (n < 0) = ng := ⟨_, rfl⟩
  have hend : n = sg ng (val (four U)) := by
    rw [val_four U hlt]
    unfold sg
    rw [← hng]
    by_cases h : n < 0
    · rw [if_pos (by simpa using h)]
      omega
    · rw [if_neg (by simpa using h)]
      omega
  have HEnd := Lib.hid hend
  have hw0 : 0 ≤ n → IntKind.u64.wrap n = (U : Int) := fun h => by
    rw [wrap_u64]
    obtain ⟨h0, h1⟩ := hn
    omega
  have hw1 : n < 0 → IntKind.u64.wrap (0 - IntKind.u64.wrap n) = (U : Int) := fun h => by
    simp only [wrap_u64]
    obtain ⟨h0, h1⟩ := hn
    omega
  have hw2 : n < 0 → IntKind.u64.wrap (-IntKind.u64.wrap n) = (U : Int) := fun h => by
    simp only [wrap_u64]
    obtain ⟨h0, h1⟩ := hn
    omega
  have HW0 := Lib.hid hw0
  have HW1 := Lib.hid hw1
  have HW2 := Lib.hid hw2
  have HNG := Lib.hid hng
  have HLT := Lib.hid hlt
  clear hend hw0 hw1 hw2 hU hlt hn hng
  by_cases hneg : n < 0
  · have hg : ng = true := by rw [← HNG.out]; simpa using hneg
    subst hg
    go_enter Try.func58, Try.ntmps58
    go_wp2
    first | rw [HW1.out hneg] | rw [HW2.out hneg]
    go_loopw [3, 5] (fun u i wr => ∃ (k : Nat) (v : Value), k ≤ 4 ∧ i = .int .i64 k ∧ u = .int .u64 ((uk U k : Nat) : Int) ∧ OwnD wr (w.heap.size + 1 + 1) v ((four U).take k) ∧ BBlk wr (w.heap.size + 1) true v ∧ BBlk wr w.heap.size false (.slice none 0 0) ∧ Below w.heap.size w wr) (fun _ i _ => 4 - (intOf i).toNat)
    case atStart => exact ⟨0, .slice none 0 0, by omega, rfl, rfl, OwnD.nil _ _, BBlk.new (w.alloc _) _ true _ (by simp), (BBlk.new w _ false _ rfl).alloc _, two_new _ _ _⟩
    case round =>
      obtain ⟨k, v, hk, rfl, rfl, hown, h1, h2, hb⟩ := hrel
      have HO := Lib.hid hown
      have H1 := Lib.hid h1
      have H2 := Lib.hid h2
      have HB := Lib.hid hb
      have hsz : w.heap.size + 1 + 1 ≤ wr.heap.size := h1.lt
      obtain ⟨p0, p1⟩ := h1.cells
      obtain ⟨f0, f1⟩ := h1.free
      obtain ⟨X, hX⟩ : ∃ X, uk U k = X := ⟨_, rfl⟩
      have hXl : X < 18446744073709551616 := by rw [← hX]; exact uk_le U k HLT.out
      have hX1 : uk U (k + 1) = X / 65536 := by rw [← hX]; rfl
      have HX1 := Lib.hid hX1
      have x0 : (0 : Int) ≤ (X : Int) := Int.natCast_nonneg _
      have HXL := Lib.hid hXl
      clear hXl
      have hlen : ((four U).take k).length ≤ 4 := by
        rw [List.length_take]
        omega
      clear hown h1 h2 hb
      by_cases h1 : k < 4
      · have hT := four_take U k h1
        rw [hX] at hT ⊢
        have HT := Lib.hid hT
        have HLN : Hid (((four U).take k ++ [X % 65536]).length = k + 1) := Lib.hid (by rw [List.length_append, List.length_take]; simp only [List.length_cons, List.length_nil, four]; omega)
        clear hT hX hX1
        go_wp2_with (at_builtin; refine wp_append_D _ rfl (.tmp 20) (.tmp 23) rfl (w.heap.size + 1 + 1) _ ((four U).take k) [X % 65536] rfl (by exact HO.out) _ (by exact cell_mod _) _ _ _ rfl rfl rfl (by simp only [List.length_cons, List.length_nil]; omega) (by exact hsz) ?_; intro v1 w2 ho1 hb1; obtain ⟨Ad, cd, rfl⟩ := own_len ho1 (k + 1) HLN.out; have HO1 := Lib.hid ho1; have HK1 := Lib.hid (H1.out.below hb1 (by omega)); have HK2 := Lib.hid (H2.out.below hb1 (by omega)); have HB1 := Lib.hid (HB.out.trans (hb1.mono (by omega))); clear ho1 hb1; obtain ⟨s0, s1⟩ := HK1.out.cells; obtain ⟨g0, g1⟩ := HK1.out.free)
        go_roundw
        case rel =>
          refine ⟨k + 1, .slice Ad (k + 1) cd, by omega, by go_num, ?_, ?_, ?_, ?_, ?_⟩
          · rw [HX1.out]; first | exact cell_div X | exact cell_divw X HXL.out
          · rw [HT.out]; exact HO1.out.setCell _ _ (by simp)
          · exact HK1.out.set1 _
          · exact HK2.out.other _ _ (by simp)
          · exact HB1.out.setCell (by simp) _
        case measure => simp [intOf]; omega
      · obtain rfl : k = 4 := by omega
        obtain ⟨q0, q1⟩ := H2.out.cells
        obtain ⟨e0, e1⟩ := H2.out.free
        have HOf : Hid (OwnD wr (w.heap.size + 1 + 1) v (four U)) := Lib.hid HO.out
        obtain ⟨A, c, hv, _⟩ := HOf.out.form
        have hv4 : v = .slice A 4 c := hv
        subst hv4
        clear hv
        go_wp2
        obtain ⟨r0, r1⟩ := ((H2.out.set0 true).set1 (.slice A 4 c)).cells
        refine bodyPost_ret (v := .agg #[.bool true, .slice A 4 c]) (by simp [results, Try.results58, r0, r1, go_sem]) rfl ⟨_, rfl, ⟨true, A, 4, c, four U, rfl, rfl, ?_, dig_four U, HEnd.out⟩, ?_, own_fresh HOf.out (by omega)⟩
        · exact own_dig ((HOf.out.setCell ⟨w.heap.size, 0, none⟩ (.bool true) (by simp; omega)).setCell ⟨w.heap.size, 1, none⟩ (.slice A 4 c) (by simp; omega))
        · exact (HB.out.setCell (Nat.le_refl _) _).setCell (Nat.le_refl _) _
  · have hg : ng = false := by rw [← HNG.out]; simpa using hneg
    subst hg
    go_enter Try.func58, Try.ntmps58
    go_wp2
    rw [HW0.out (by omega)]
    go_loopw [3, 5] (fun u i wr => ∃ (k : Nat) (v : Value), k ≤ 4 ∧ i = .int .i64 k ∧ u = .int .u64 ((uk U k : Nat) : Int) ∧ OwnD wr (w.heap.size + 1 + 1) v ((four U).take k) ∧ BBlk wr (w.heap.size + 1) false v ∧ BBlk wr w.heap.size false (.slice none 0 0) ∧ Below w.heap.size w wr) (fun _ i _ => 4 - (intOf i).toNat)
    case atStart => exact ⟨0, .slice none 0 0, by omega, rfl, rfl, OwnD.nil _ _, BBlk.new (w.alloc _) _ false _ (by simp), (BBlk.new w _ false _ rfl).alloc _, two_new _ _ _⟩
    case round =>
      obtain ⟨k, v, hk, rfl, rfl, hown, h1, h2, hb⟩ := hrel
      have HO := Lib.hid hown
      have H1 := Lib.hid h1
      have H2 := Lib.hid h2
      have HB := Lib.hid hb
      have hsz : w.heap.size + 1 + 1 ≤ wr.heap.size := h1.lt
      obtain ⟨p0, p1⟩ := h1.cells
      obtain ⟨f0, f1⟩ := h1.free
      obtain ⟨X, hX⟩ : ∃ X, uk U k = X := ⟨_, rfl⟩
      have hXl : X < 18446744073709551616 := by rw [← hX]; exact uk_le U k HLT.out
      have hX1 : uk U (k + 1) = X / 65536 := by rw [← hX]; rfl
      have HX1 := Lib.hid hX1
      have x0 : (0 : Int) ≤ (X : Int) := Int.natCast_nonneg _
      have HXL := Lib.hid hXl
      clear hXl
      have hlen : ((four U).take k).length ≤ 4 := by
        rw [List.length_take]
        omega
      clear hown h1 h2 hb
      by_cases h1 : k < 4
      · have hT := four_take U k h1
        rw [hX] at hT ⊢
        have HT := Lib.hid hT
        have HLN : Hid (((four U).take k ++ [X % 65536]).length = k + 1) := Lib.hid (by rw [List.length_append, List.length_take]; simp only [List.length_cons, List.length_nil, four]; omega)
        clear hT hX hX1
        go_wp2_with (at_builtin; refine wp_append_D _ rfl (.tmp 20) (.tmp 23) rfl (w.heap.size + 1 + 1) _ ((four U).take k) [X % 65536] rfl (by exact HO.out) _ (by exact cell_mod _) _ _ _ rfl rfl rfl (by simp only [List.length_cons, List.length_nil]; omega) (by exact hsz) ?_; intro v1 w2 ho1 hb1; obtain ⟨Ad, cd, rfl⟩ := own_len ho1 (k + 1) HLN.out; have HO1 := Lib.hid ho1; have HK1 := Lib.hid (H1.out.below hb1 (by omega)); have HK2 := Lib.hid (H2.out.below hb1 (by omega)); have HB1 := Lib.hid (HB.out.trans (hb1.mono (by omega))); clear ho1 hb1; obtain ⟨s0, s1⟩ := HK1.out.cells; obtain ⟨g0, g1⟩ := HK1.out.free)
        go_roundw
        case rel =>
          refine ⟨k + 1, .slice Ad (k + 1) cd, by omega, by go_num, ?_, ?_, ?_, ?_, ?_⟩
          · rw [HX1.out]; first | exact cell_div X | exact cell_divw X HXL.out
          · rw [HT.out]; exact HO1.out.setCell _ _ (by simp)
          · exact HK1.out.set1 _
          · exact HK2.out.other _ _ (by simp)
          · exact HB1.out.setCell (by simp) _
        case measure => simp [intOf]; omega
      · obtain rfl : k = 4 := by omega
        obtain ⟨q0, q1⟩ := H2.out.cells
        obtain ⟨e0, e1⟩ := H2.out.free
        have HOf : Hid (OwnD wr (w.heap.size + 1 + 1) v (four U)) := Lib.hid HO.out
        obtain ⟨A, c, hv, _⟩ := HOf.out.form
        have hv4 : v = .slice A 4 c := hv
        subst hv4
        clear hv
        go_wp2
        obtain ⟨r0, r1⟩ := ((H2.out.set0 false).set1 (.slice A 4 c)).cells
        refine bodyPost_ret (v := .agg #[.bool false, .slice A 4 c]) (by simp [results, Try.results58, r0, r1, go_sem]) rfl ⟨_, rfl, ⟨false, A, 4, c, four U, rfl, rfl, ?_, dig_four U, HEnd.out⟩, ?_, own_fresh HOf.out (by omega)⟩
        · exact own_dig ((HOf.out.setCell ⟨w.heap.size, 0, none⟩ (.bool false) (by simp; omega)).setCell ⟨w.heap.size, 1, none⟩ (.slice A 4 c) (by simp; omega))
        · exact (HB.out.setCell (Nat.le_refl _) _).setCell (Nat.le_refl _) _
end Go.Proofs.Ytdlimephkjihbaa
