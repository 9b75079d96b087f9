/-
  How an argument that is a rule, and one that is a list of views, reads in memory, with all its names; whether views are few.
  No condition.
  Literals that do not bind in another order tell the same columns, if there is no error; whether views are few.
  No condition.
-/
import Derived.Test.YthdjkagodccdbaaM42
import Derived.Test.YthdjkagodccdbaaMGul
import Derived.Test.YthdjkagodccdbaaMSopen
namespace Go.Proofs.Ythdjkagodccdbaa
section
open Go.ChangeShapes Go.WideShapes Go.ChangeAt Go.RowKit Go.Deep
section
variable {H : Type} {enc : TypeId × Value → H}
set_option maxRecDepth 100000 in
theorem trod_LtN {W : World} {base fuel : Nat} {cs : List Value} {x : DataW H × List MemPlace} (h : DataW.trod enc Try.prog W base (fun _ => true) true fuel 46 cs = some x) :
    ∃ v : LmG, cs = v.cells ∧ (v.s.size ≤ maxLen ∧ v.args.length ≤ maxLen ∧ (∀ t ∈ v.args, t.s.size ≤ maxLen) ∧ ElsAt TmP.cells 6 W v.A v.args) := by
  obtain ⟨hlen, hf⟩ := trod_field fields_Lt one_Lt types_Lt h
  rw [cells_Lt] at hlen
  match cs, hlen with
  | [c0, c1, c2, c3], _ =>
    obtain ⟨y0, n0, g0⟩ := hf 0 _ c0 rfl rfl
    obtain ⟨y1, n1, g1⟩ := hf 1 _ c1 rfl rfl
    obtain ⟨y2, n2, g2⟩ := hf 2 _ c2 rfl rfl
    obtain ⟨y3, n3, g3⟩ := hf 3 _ c3 rfl rfl
    obtain ⟨b, e0, _⟩ := DataW.trod_bool Try.underlying4 g0
    obtain ⟨s, e1, _, hsn⟩ := DataW.trod_string Try.underlying9 g1
    obtain ⟨A, c, xs, e2, hl, hx⟩ := open_listT (α := TmP) Try.underlying44 TmP.cells (fun v => v.s.size ≤ maxLen) (fun _ _ _ h => trod_TmW h) g2
    obtain ⟨o, e3, _⟩ := DataW.trod_int Try.underlying3 g3
    simp only [List.cons.injEq, and_true] at e0 e1 e2 e3
    subst e0 e1 e2 e3
    rw [cells_Tm] at hx
    refine ⟨⟨b, s, A, c, xs, o⟩, rfl, hsn, hl, fun t ht => ?_, fun i x hi => (hx i x hi).2⟩
    obtain ⟨i, hi, e⟩ := List.getElem_of_mem ht
    exact (hx i t (by rw [List.getElem?_eq_getElem hi, e])).1

set_option maxRecDepth 100000 in
theorem trod_RuN {W : World} {base fuel : Nat} {cs : List Value} {x : DataW H × List MemPlace} (h : DataW.trod enc Try.prog W base (fun _ => true) true fuel 27 cs = some x) :
    ∃ r : RuG, cs = r.cells.toList ∧ r.Ok W ∧ r.Lng ∧ ∀ x ∈ r.body, x.s.size ≤ maxLen := by
  obtain ⟨hlen, hf⟩ := trod_field fields_Ru one_Ru types_Ru h
  rw [cells_Ru] at hlen
  match cs, hlen with
  | [c0, c1, c2, c3, c4, c5, c6], _ =>
    obtain ⟨y0, n0, g0⟩ := hf 0 _ c0 rfl rfl
    obtain ⟨y1, n1, g1⟩ := hf 1 _ c1 rfl rfl
    obtain ⟨y2, n2, g2⟩ := hf 2 _ c2 rfl rfl
    obtain ⟨y3, n3, g3⟩ := hf 3 _ c3 rfl rfl
    obtain ⟨y4, n4, g4⟩ := hf 4 _ c4 rfl rfl
    obtain ⟨y5, n5, g5⟩ := hf 5 _ c5 rfl rfl
    obtain ⟨y6, n6, g6⟩ := hf 6 _ c6 rfl rfl
    obtain ⟨k, e0, _⟩ := DataW.trod_int Try.underlying3 g0
    obtain ⟨nm, e1, _, hnm⟩ := DataW.trod_string Try.underlying9 g1
    obtain ⟨hA, hc, hs, e2, hl2, hx2⟩ := open_listT (α := ByteArray) Try.underlying24 strC (fun s => s.size ≤ maxLen) (fun _ _ _ h => by
      obtain ⟨s, e, _, hs⟩ := DataW.trod_string Try.underlying9 h
      exact ⟨s, e, hs⟩) g2
    obtain ⟨ag, e3, _⟩ := DataW.trod_int Try.underlying3 g3
    obtain ⟨ofv, e4, _, hof⟩ := DataW.trod_string Try.underlying9 g4
    obtain ⟨lim, e5, _⟩ := DataW.trod_int Try.underlying2 g5
    obtain ⟨bA, bc, b, e6, hl6, hx6⟩ := open_listT (α := LmG) Try.underlying25 LmG.cells (fun v => v.s.size ≤ maxLen ∧ v.args.length ≤ maxLen ∧ (∀ t ∈ v.args, t.s.size ≤ maxLen) ∧ ElsAt TmP.cells 6 W v.A v.args) (fun _ _ _ h => trod_LtN h) g6
    simp only [List.cons.injEq, and_true] at e0 e1 e2 e3 e4 e5 e6
    subst e0 e1 e2 e3 e4 e5 e6
    rw [cells_str] at hx2
    rw [cells_Lt] at hx6
    have hm6 : ∀ x ∈ b, x.s.size ≤ maxLen ∧ x.args.length ≤ maxLen ∧ (∀ t ∈ x.args, t.s.size ≤ maxLen) ∧ ElsAt TmP.cells 6 W x.A x.args := fun x hx => by
      obtain ⟨i, hi, e⟩ := List.getElem_of_mem hx
      exact (hx6 i x (by rw [List.getElem?_eq_getElem hi, e])).1
    refine ⟨⟨k, nm, hA, hc, hs, ag, ofv, lim, bA, bc, b⟩, rfl, ⟨fun i x hi => (hx2 i x hi).2, fun i x hi => (hx6 i x hi).2, fun x hx => (hm6 x hx).2.2.2⟩, ⟨hl2, hl6, hnm, hof, fun s hs' => ?_, fun x hx => ⟨(hm6 x hx).2.1, (hm6 x hx).2.2.1⟩⟩, fun x hx => (hm6 x hx).1⟩
    obtain ⟨i, hi, e⟩ := List.getElem_of_mem hs'
    exact (hx2 i s (by rw [List.getElem?_eq_getElem hi, e])).1

set_option maxRecDepth 10000 in
theorem open_ruleN {W : World} {base : Nat} {v : Value} {d : DataW H} {p : List MemPlace} {r : Reach} {b0 : Nat} (h : DataW.Trod enc Try.prog W base (fun _ => true) true 27 v d p) (hok : Value.okWide Try.prog W r b0 27 v) :
    ∃ r : RuG, v = .agg r.cells ∧ r.Ok W ∧ r.Lng ∧ ∀ x ∈ r.body, x.s.size ≤ maxLen := by
  obtain ⟨cs, rfl, _⟩ := okWide_struct fields_Ru hok
  obtain ⟨fuel, hf⟩ := h
  obtain ⟨r, e, h1, h2⟩ := trod_RuN hf
  refine ⟨r, ?_, h1, h2⟩
  congr 1
  exact Array.toList_inj.1 e
set_option maxRecDepth 100000 in
theorem trod_ScN {w : World} {base fuel : Nat} {cs : List Value} {x : DataW H × List MemPlace} (h : DataW.trod enc Try.prog w base (fun _ => true) true fuel 71 cs = some x) :
    ∃ e : WS, cs = [.string e.nm, e.v] ∧ WS.Ok w e ∧ e.nm.size ≤ maxLen := by
  obtain ⟨ys, n, _, _, hlen, hyl, hf⟩ := DataW.trod_struct fields_Sc h
  rw [cells_Sc] at hlen
  have hty := types_Sc
  have hone := hone_of one_Sc_fields
  generalize Try.prog.fieldsOf 71 = fs at *
  obtain ⟨l⟩ := fs
  have hll : l.length = 2 := by
    have := congrArg List.length hty
    simpa using this
  match l, hll, hty with
  | [f0, f1], _, hty =>
    simp only [List.map_cons, List.map_nil, List.cons.injEq, and_true] at hty
    obtain ⟨t0, t1⟩ := hty
    have hy2 : ys.length = 2 := hyl
    match cs, hlen, ys, hy2 with
    | [c0, c1], _, [y0, y1], _ =>
      have g : ∀ (i : Nat) (f : Field) (c : Value) (y : DataW H × List MemPlace), (#[f0, f1] : Array Field)[i]? = some f → [c0, c1][i]? = some c → [y0, y1][i]? = some y → DataW.trod enc Try.prog w base (fun _ => true) true n f.type [c] = some y := by
        intro i f c y h1 h2 h3
        have h4 := hf i f h1
        obtain ⟨ho, hc⟩ := hone i f h1
        rw [ho, hc, h3] at h4
        have h5 : (List.drop i [c0, c1]).take 1 = [c] := by
          match i, h2 with
          | 0, h2 => simpa using h2
          | 1, h2 => simpa using h2
          | k + 2, h2 => simp at h2
        rw [h5] at h4
        exact h4
      have g0 := g 0 f0 c0 y0 rfl rfl rfl
      have g1 := g 1 f1 c1 y1 rfl rfl rfl
      rw [t0] at g0
      rw [t1] at g1
      obtain ⟨s, e0, _, hs⟩ := DataW.trod_string Try.underlying9 g0
      obtain ⟨A, c, xs, e1, hl, hn, hcap, hr⟩ := trod_cols g1
      simp only [List.cons.injEq, and_true] at e0 e1
      subst e0 e1
      exact ⟨⟨s, A, c, xs⟩, rfl, ⟨hl, hn, hcap, hr⟩, hs⟩

set_option maxRecDepth 10000 in
theorem open_scsN {W : World} {base : Nat} {v : Value} {d : DataW H} {p : List MemPlace} {r : Reach} {b0 : Nat} (h : DataW.Trod enc Try.prog W base (fun _ => true) true 22 v d p) (hok : Value.okWide Try.prog W r b0 22 v) :
    ∃ (A : Option Addr) (c : Nat) (es : List WS), v = .slice A es.length c ∧ es.length ≤ maxLen ∧ (A = none → c = 0) ∧ es.length ≤ c ∧ WeakS W A es ∧ ∀ e ∈ es, e.nm.size ≤ maxLen := by
  obtain ⟨a0, len, cap, rfl⟩ := okWide_slice Try.underlying22 hok
  obtain ⟨fuel, hf⟩ := h
  rcases open_slice Try.underlying22 hf with ⟨hcs, _⟩ | ⟨a, len', cap', m, k, D, Pl, hcs, _, hl, hm, hmm, _, hel⟩
  · simp [Value.cells] at hcs
    obtain ⟨rfl, rfl, rfl⟩ := hcs
    exact ⟨none, 0, [], rfl, Nat.zero_le _, fun _ => rfl, Nat.le_refl _, (fun i v hi => by simp at hi), fun e he => absurd he List.not_mem_nil⟩
  · simp [Value.cells] at hcs
    obtain ⟨rfl, rfl, rfl⟩ := hcs
    rw [cells_Sc] at hel
    have hex : ∀ i, i < len → ∃ z : WS, (WS.Ok W z ∧ z.nm.size ≤ maxLen) ∧ W.cell? (a.add (i * 2)) = some (.string z.nm) ∧ W.cell? { block := (a.add (i * 2)).block, off := (a.add (i * 2)).off + 1 } = some z.v ∧ (a.add (i * 2)).block < W.heap.size := by
      intro i hi
      have him : i < m := by
        rw [hmm, if_pos rfl]
        omega
      obtain ⟨cs', hc, ht⟩ := hel i him
      obtain ⟨z, rfl, hz⟩ := trod_ScN ht
      obtain ⟨_, _, hat⟩ := World.cells?_some hc
      have h0 := hat 0 (by omega)
      have h1 := hat 1 (by omega)
      have e : (a.add (i * 2)).add 0 = a.add (i * 2) := by simp [Addr.add]
      rw [e] at h0
      have h0' : W.cell? (a.add (i * 2)) = some (.string z.nm) := h0
      exact ⟨z, hz, h0', by simpa [Addr.add] using h1, World.block_lt_of_cell? W _ h0'⟩
    obtain ⟨g, hg⟩ := choose_lt' hex
    refine ⟨some a, cap, (List.range len).map g, by simp, by simp; omega, (fun h => by cases h), by simp; omega, ?_, ?_⟩
    · intro i v hi
      have hil : i < len := by
        have := (List.getElem?_eq_some_iff.1 hi).1
        simpa using this
      rw [List.getElem?_map, List.getElem?_range hil] at hi
      have hv : g i = v := by simpa using hi
      subst hv
      exact ⟨(hg i hil).1.1, a, rfl, (hg i hil).2.2.2, (hg i hil).2.1, (hg i hil).2.2.1⟩
    · intro e he
      obtain ⟨i, hi, rfl⟩ := List.mem_map.1 he
      exact (hg i (List.mem_range.1 hi)).1.2
end
end
end Go.Proofs.Ythdjkagodccdbaa
namespace Go.Proofs.Ythdjkagodccdbaa
section
open Go.RowKit Go.Maps

theorem argT_keep (L : List Co) (t : TmP) (c : Co) : (argT L false t c).2 = L := by
  unfold argT
  repeat' split
  all_goals simp_all
theorem argsT_keep : ∀ (ts : List TmP) (cs L : List Co), (argsT false L ts cs).2 = L
  | [], _, L => by unfold argsT; rfl
  | _ :: _, [], L => by unfold argsT; rfl
  | t :: ts, c :: cs, L => by
    rw [argsT]
    split
    · rw [argsT_keep ts cs, argT_keep]
    · exact argT_keep L t c
theorem litT_keep (S U : List Sc) (L : List Co) (x : LiP) (h : atomB x = false) : (litT S U L x).2 = L := by
  unfold litT atomT
  by_cases ho : x.o = 0
  · rw [if_pos ho]
    have hn : x.n = true := by
      unfold atomB at h
      rw [decide_eq_true ho] at h
      simpa using h
    split
    · rfl
    · split
      · rw [hn]; exact argsT_keep _ _ _
      · rfl
  · rw [if_neg ho]
theorem passT_place (S U : List Sc) (b : Bool) : ∀ (l : List LiP) (L : List Co) (i j : Nat), (passT S U b L i l).1 = (passT S U b L j l).1 ∧ (passT S U b L i l).2.2 = (passT S U b L j l).2.2
  | [], _, _, _ => ⟨rfl, rfl⟩
  | x :: l, L, i, j => by
    rw [passT, passT]
    split
    · split
      · exact passT_place S U b l _ _ _
      · exact ⟨rfl, rfl⟩
    · exact passT_place S U b l _ _ _
theorem passT_filter (S U : List Sc) (b : Bool) : ∀ (l : List LiP) (L : List Co) (i : Nat), (passT S U b L i l).1 = (passT S U b L 0 (l.filter fun x => atomB x == b)).1 ∧ (passT S U b L i l).2.2 = (passT S U b L 0 (l.filter fun x => atomB x == b)).2.2
  | [], _, _ => ⟨rfl, rfl⟩
  | x :: l, L, i => by
    by_cases h : atomB x = b
    · rw [List.filter_cons_of_pos (by simp [h]), passT, passT, if_pos h, if_pos h]
      split
      · have h1 := passT_filter S U b l (litT S U L x).2 (i + 1)
        have h2 := passT_place S U b (l.filter fun x => atomB x == b) (litT S U L x).2 0 (0 + 1)
        exact ⟨h1.1.trans h2.1, h1.2.trans h2.2⟩
      · exact ⟨rfl, rfl⟩
    · rw [List.filter_cons_of_neg (by simp [h]), passT, if_neg h]
      exact passT_filter S U b l L (i + 1)
theorem passT_all (S U : List Sc) : ∀ (l : List LiP) (L : List Co) (i : Nat), (passT S U false L i l).1 = L ∧ ((passT S U false L i l).2.2 = 0 ↔ ∀ x ∈ l, atomB x = false → (litT S U L x).1 = 0)
  | [], L, _ => ⟨rfl, fun _ _ h => absurd h List.not_mem_nil, fun _ => rfl⟩
  | x :: l, L, i => by
    rw [passT]
    by_cases h : atomB x = false
    · rw [if_pos h]
      by_cases hz : (litT S U L x).1 = 0
      · rw [if_pos hz, litT_keep S U L x h]
        obtain ⟨h1, h2⟩ := passT_all S U l L (i + 1)
        refine ⟨h1, h2.trans ⟨fun h3 y hy hb => ?_, fun h3 y hy hb => h3 y (List.mem_cons_of_mem _ hy) hb⟩⟩
        rcases List.mem_cons.1 hy with rfl | hy
        · exact hz
        · exact h3 y hy hb
      · rw [if_neg hz]
        exact ⟨rfl, fun h3 => absurd h3 hz, fun h3 => absurd (h3 x (List.mem_cons_self ..) h) hz⟩
    · rw [if_neg h]
      obtain ⟨h1, h2⟩ := passT_all S U l L (i + 1)
      refine ⟨h1, h2.trans ⟨fun h3 y hy hb => ?_, fun h3 y hy hb => h3 y (List.mem_cons_of_mem _ hy) hb⟩⟩
      rcases List.mem_cons.1 hy with rfl | hy
      · exact absurd hb h
      · exact h3 y hy hb
/-- The same literals, those that bind in the same order, are known alike. -/
theorem knowT_turn (S U : List Sc) (l l' : List LiP) (h1 : (l.filter fun x => atomB x == true) = l'.filter fun x => atomB x == true) (h2 : ∀ x, x ∈ l ↔ x ∈ l') : ((knowT S U l).2.2 = 0 ↔ (knowT S U l').2.2 = 0) ∧ ((knowT S U l).2.2 = 0 → (knowT S U l).1 = (knowT S U l').1) := by
  have p1 := passT_filter S U true l [] 0
  have p2 := passT_filter S U true l' [] 0
  rw [← h1] at p2
  have e1 := p1.1.trans p2.1.symm
  have e2 := p1.2.trans p2.2.symm
  unfold knowT
  by_cases hz : (passT S U true [] 0 l).2.2 = 0
  · rw [if_pos hz, if_pos (e2 ▸ hz), e1]
    obtain ⟨a1, a2⟩ := passT_all S U l (passT S U true [] 0 l').1 0
    obtain ⟨b1, b2⟩ := passT_all S U l' (passT S U true [] 0 l').1 0
    refine ⟨a2.trans (Iff.trans ?_ b2.symm), fun _ => a1.trans b1.symm⟩
    exact ⟨fun h x hx hb => h x ((h2 x).2 hx) hb, fun h x hx hb => h x ((h2 x).1 hx) hb⟩
  · rw [if_neg hz, if_neg (by rw [← e2]; exact hz)]
    exact ⟨by rw [e2], fun h => absurd h hz⟩
theorem varsZ_turn (S U : List Sc) (x y : RuP) (h1 : (x.body.filter fun z => atomB z == true) = y.body.filter fun z => atomB z == true) (h2 : ∀ z, z ∈ x.body ↔ z ∈ y.body) : ((varsZ S U x).2.2 = 0 ↔ (varsZ S U y).2.2 = 0) ∧ (varsZ S U x).1 = (varsZ S U y).1 := by
  obtain ⟨a1, a2⟩ := knowT_turn S U x.body y.body h1 h2
  by_cases hz : (knowT S U x.body).2.2 = 0
  · rw [varsZ_ok S U x hz, varsZ_ok S U y (a1.1 hz)]
    exact ⟨Iff.rfl, a2 hz⟩
  · rw [varsZ_no S U x hz, varsZ_no S U y (fun h => hz (a1.2 h))]
    exact ⟨a1, rfl⟩

/-! ### whether views are few -/
theorem WeakS.at {w : World} {A : Option Addr} {es : List WS} (h : WeakS w A es) (i : Nat) (e : WS) (he : es[i]? = some e) : WS.Ok w e ∧ ∃ a : Addr, A = some a ∧ (a.add (i * 2)).block < w.heap.size ∧ w.cell? (a.add (i * 2)) = some (.string e.nm) ∧ w.cell? { block := (a.add (i * 2)).block, off := (a.add (i * 2)).off + 1 } = some e.v := h i e he
set_option maxRecDepth 100000 in
set_option maxHeartbeats 4000000 in
theorem lw_few14 (A : Option Addr) (es : List WS) (c : Nat) (w : World) (hl : es.length ≤ maxLen) (hx : WeakS w A es) :
    Calls Try.prog 14 #[.slice A es.length c] w fun e w' => FewG (es.length ≤ 20 ∧ ∀ e ∈ es, e.cols.length ≤ 60) w e w' := by
  have HF : Hid (es.length ≤ 20 → (∀ e ∈ es, e.cols.length ≤ 60) → (es.length ≤ 20 ∧ ∀ e ∈ es, e.cols.length ≤ 60)) := Lib.hid fun h1 h2 => ⟨h1, h2⟩
  generalize (es.length ≤ 20 ∧ ∀ e ∈ es, e.cols.length ≤ 60) = few at *
  have HP : Hid (∀ (q : Bool) (w' : World), (q = true → few) → Below w.heap.size w w' → FewG few w (Ending.returned (.bool q)) w') := Lib.hid fun q w' h1 h2 => ⟨q, rfl, h1, h2⟩
  have HX := Lib.hid hx
  clear hx
  unfold maxLen at hl
  obtain ⟨el, hel⟩ : ∃ el, es.length = el := ⟨_, rfl⟩
  have HEL := Lib.hid hel
  rw [hel] at hl HF ⊢
  clear hel
  go_enter Try.func14, Try.ntmps14
  by_cases z1 : (20 : Int) < (el : Int)
  · go_wp2
    go_ret
    exact HP.out false _ (fun h => absurd h Bool.false_ne_true) (Below.refl _ _)
  · have hel20 : el ≤ 20 := by omega
    go_wp2
    go_loopw [3] (fun i wr => ∃ k : Nat, i = .int .i64 k ∧ k ≤ el ∧ Hid (∀ e ∈ es.take k, e.cols.length ≤ 60) ∧ w = wr) (fun i _ => el - (intOf i).toNat)
    case atStart => exact ⟨0, rfl, Nat.zero_le _, Lib.hid (fun e he => by simp at he), rfl⟩
    case round =>
      obtain ⟨k, rfl, hk, HAL, rfl⟩ := hrel
      by_cases hlt : k < el
      · obtain ⟨e, he⟩ : ∃ e, es[k]? = some e := ⟨_, List.getElem?_eq_getElem (by rw [HEL.out]; exact hlt)⟩
        obtain ⟨⟨o1, o2, o3, o4⟩, a, rfl, hab, a0, a1⟩ := HX.out.at k e he
        obtain ⟨en, eA, ec, ecols⟩ := e
        have HO4 : Hid (CellsQ w (fun k => k < w.heap.size) eA (flatC ecols)) := Lib.hid o4
        have a1' : w.cell? { block := (a.add (k * 2)).block, off := (a.add (k * 2)).off + 1 } = some (.slice eA ecols.length ec) := a1
        simp only at o1
        obtain ⟨cl, hcl⟩ : ∃ cl, ecols.length = cl := ⟨_, rfl⟩
        have HCL := Lib.hid hcl
        unfold maxLen at o1
        rw [hcl] at a1' o1
        have HE : Hid (es[k]? = some ⟨en, eA, ec, ecols⟩) := Lib.hid he
        clear he a1 o2 o3 o4 hcl
        by_cases z2 : (60 : Int) < (cl : Int)
        · go_wp2
          go_ret
          exact HP.out false _ (fun h => absurd h Bool.false_ne_true) (Below.refl _ _)
        · have hcl60 : cl ≤ 60 := by omega
          have HAL2 : Hid (∀ e ∈ es.take (k + 1), e.cols.length ≤ 60) := Lib.hid fun e he => by
            rw [List.take_add_one, HE.out] at he
            rcases List.mem_append.1 he with he | he
            · exact HAL.out e he
            · have e9 : e = ⟨en, eA, ec, ecols⟩ := by simpa using he
              rw [e9]
              show ecols.length ≤ 60
              rw [HCL.out]; exact hcl60
          go_wp2
          go_loopw [4] (fun j wx => ∃ m : Nat, j = .int .i64 m ∧ m ≤ cl ∧ w = wx) (fun j _ => cl - (intOf j).toNat)
          case atStart => exact ⟨0, rfl, Nat.zero_le _, rfl⟩
          case round =>
            obtain ⟨m, rfl, hm, rfl⟩ := hrel
            by_cases hml : m < cl
            · obtain ⟨d, hd⟩ : ∃ d, ecols[m]? = some d := ⟨_, List.getElem?_eq_getElem (by rw [HCL.out]; exact hml)⟩
              obtain ⟨b, rfl, hbb, d0, d1, d2⟩ := HO4.out.col m d hd
              obtain ⟨dn, dk, dl⟩ := d
              simp only at d0 d1 d2
              clear hd
              by_cases k1 : dk < 1
              · have t1 : decide (dk < 1) = true := decide_eq_true k1
                clear k1
                go_wp2
                go_ret
                exact HP.out false _ (fun h => absurd h Bool.false_ne_true) (Below.refl _ _)
              · have t1 : decide (dk < 1) = false := decide_eq_false k1
                clear k1
                by_cases k3 : 3 < dk
                · have t3 : decide (3 < dk) = true := decide_eq_true k3
                  clear k3
                  go_wp2
                  go_ret
                  exact HP.out false _ (fun h => absurd h Bool.false_ne_true) (Below.refl _ _)
                · have t3 : decide (3 < dk) = false := decide_eq_false k3
                  clear k3
                  go_wp2
                  go_roundw
                  case rel => exact ⟨m + 1, by go_num, by omega, trivial⟩
                  case measure => simp [intOf]; omega
            · go_wp2
              go_roundw
              case rel => exact ⟨k + 1, by go_num, by omega, HAL2, trivial⟩
              case measure => simp [intOf]; omega
      · have hall := HAL.out
        rw [List.take_of_length_le (by rw [HEL.out]; omega)] at hall
        have HFW := Lib.hid (HF.out hel20 hall)
        clear hall
        go_wp2
        go_ret
        exact HP.out true _ (fun _ => HFW.out) (Below.refl _ _)
end
end Go.Proofs.Ythdjkagodccdbaa
