/-
  law07's few, of a given list of kinds; few kinds are kinds as the contracts ask; a given row of values.
  No condition.
-/
import Derived.Test.YtgifkigamebofaaDoorSopen
namespace Go.Proofs.YtgifkigamebofaaDoor
open Go.ChangeShapes Go.WideShapes Go.ChangeAt Go.RowKit Go.Deep

def fewS (es : List WS) : Bool := decide (es.length ≤ 20) && es.all fun e => decide (e.cols.length ≤ 20) && decide (e.nm.size ≤ 100)
def scOf (e : WS) : Sc := ⟨e.nm, e.cols⟩
theorem fewS_iff (es : List WS) : fewS es = true ↔ es.length ≤ 20 ∧ ∀ e ∈ es, e.cols.length ≤ 20 ∧ e.nm.size ≤ 100 := by
  simp [fewS]

set_option maxRecDepth 100000 in
set_option maxHeartbeats 1000000 in
theorem s_few (A : Option Addr) (es : List WS) (n c : Nat) (w : World) (hn : n = es.length) (hl : n ≤ maxLen) (hx : WeakS w A es) :
    Calls Tryd.prog 6 #[.slice A n c] w fun e w' => e = .returned (.bool (fewS es)) ∧ w' = w := by
  unfold maxLen at hl
  have HX := Lib.hid hx
  have HN := Lib.hid hn
  by_cases h20 : 20 < n
  · have hf : fewS es = false := by unfold fewS; rw [show decide (es.length ≤ 20) = false by simp; omega]; rfl
    rw [hf]
    clear hf hx hn
    go_enter Tryd.func6, Tryd.ntmps6
    go_wp2
    go_ret
    exact ⟨rfl, rfl⟩
  obtain ⟨R, hR⟩ : ∃ R, fewS es = R := ⟨_, rfl⟩
  have hR2 : (es.all fun e => decide (e.cols.length ≤ 20) && decide (e.nm.size ≤ 100)) = R := by
    rw [← hR]; unfold fewS; rw [show decide (es.length ≤ 20) = true by simp; omega, Bool.true_and]
  rw [hR]
  have HR := Lib.hid hR2
  have h21 : n ≤ 20 := by omega
  clear hR hR2 hx hn h20
  go_enter Tryd.func6, Tryd.ntmps6
  go_wp2
  go_loopw [3] (fun i wr => ∃ k : Nat, k ≤ n ∧ i = .int .i64 k ∧ ((es.drop k).all fun e => decide (e.cols.length ≤ 20) && decide (e.nm.size ≤ 100)) = R ∧ wr = w) (fun i _ => n - (intOf i).toNat)
  case atStart => exact ⟨0, Nat.zero_le _, rfl, by rw [List.drop_zero]; exact HR.out, rfl⟩
  case round =>
    obtain ⟨k, hk, rfl, hq, rfl⟩ := hrel
    have HQ := Lib.hid hq
    clear hq
    by_cases h1 : k < n
    · obtain ⟨e, he⟩ : ∃ e, es[k]? = some e := ⟨_, List.getElem?_eq_getElem (by rw [← HN.out]; exact h1)⟩
      obtain ⟨⟨hcl, _⟩, a, rfl, ha, a0, a1⟩ := HX.out k e he
      have hdr : ((es.drop k).all fun e => decide (e.cols.length ≤ 20) && decide (e.nm.size ≤ 100)) = ((decide (e.cols.length ≤ 20) && decide (e.nm.size ≤ 100)) && ((es.drop (k + 1)).all fun e => decide (e.cols.length ≤ 20) && decide (e.nm.size ≤ 100))) := by
        obtain ⟨g1, g2⟩ := List.getElem?_eq_some_iff.1 he
        rw [List.drop_eq_getElem_cons g1, g2]
        rfl
      rw [HQ.out] at hdr
      have HDR := Lib.hid hdr
      obtain ⟨nm, A2, c2, cs⟩ := e
      have a1' : wr.cell? { block := (a.add (k * 2)).block, off := (a.add (k * 2)).off + 1 } = some (.slice A2 cs.length c2) := a1
      have a0' : wr.cell? (a.add (k * 2)) = some (.string nm) := a0
      have hcl' : cs.length ≤ maxLen := hcl
      unfold maxLen at hcl'
      have HD2 : Hid (R = ((decide (cs.length ≤ 20) && decide (nm.size ≤ 100)) && ((es.drop (k + 1)).all fun e => decide (e.cols.length ≤ 20) && decide (e.nm.size ≤ 100)))) := HDR
      clear he hdr a0 a1 hcl
      by_cases h2 : cs.length ≤ 20
      · by_cases h3 : nm.size ≤ 100
        · have hn2 : ((es.drop (k + 1)).all fun e => decide (e.cols.length ≤ 20) && decide (e.nm.size ≤ 100)) = R := by
            rw [HD2.out, show decide (cs.length ≤ 20) = true by simpa using h2, show decide (nm.size ≤ 100) = true by simpa using h3]; rfl
          have HN2 := Lib.hid hn2
          clear hn2
          go_wp2
          exact ⟨⟨k + 1, by omega, by go_num, HN2.out, by trivial⟩, by simp [intOf]; omega⟩
        · have hz : R = false := by rw [HD2.out, show decide (nm.size ≤ 100) = false by simpa using h3, Bool.and_false]; rfl
          have h4 : 100 < nm.size := by omega
          subst hz
          clear h3
          go_wp2
          go_ret
          exact ⟨rfl, rfl⟩
      · have hz : R = false := by rw [HD2.out, show decide (cs.length ≤ 20) = false by simpa using h2]; rfl
        have h4 : 20 < cs.length := by omega
        subst hz
        clear h2
        go_wp2
        go_ret
        exact ⟨rfl, rfl⟩
    · have hz : R = true := by
        rw [← HQ.out, List.drop_of_length_le (by rw [← HN.out]; omega)]
        rfl
      subst hz
      go_wp2
      go_ret
      exact ⟨rfl, rfl⟩

theorem WeakS.kinds {w : World} {A : Option Addr} {es : List WS} {c : Nat} (h : WeakS w A es) (hA : A = none → c = 0) (hc : es.length ≤ c) (hf : fewS es = true) :
    IsKinds w (fun k => k < w.heap.size) (.slice A es.length c) (es.map scOf) := by
  obtain ⟨h20, hall⟩ := (fewS_iff es).1 hf
  refine ⟨by rw [List.length_map]; omega, A, c, by rw [List.length_map], hA, by rw [List.length_map]; exact hc, es.map fun e => (e.nm, e.v), ?_, ?_⟩
  · have h1 : ∀ e ∈ es, WS.Ok w e := by
      intro e he
      obtain ⟨i, hi⟩ := List.mem_iff_getElem?.1 he
      exact (h i e hi).1
    clear h h20 hf hc
    induction es with
    | nil => trivial
    | cons e es ih =>
      obtain ⟨o1, o2, o3, o4⟩ := h1 e (by simp)
      have hl := (hall e (by simp)).1
      exact ⟨rfl, ⟨Nat.le_trans hl (by decide), e.at', e.cap, rfl, o2, o3, o4⟩, ih (fun e he => hall e (by simp [he])) (fun e he => h1 e (by simp [he]))⟩
  · intro j u hj
    obtain ⟨q, hq⟩ : ∃ q, q = j / 2 := ⟨_, rfl⟩
    have hql : q < es.length := by
      have := (List.getElem?_eq_some_iff.1 hj).1
      rw [flatS_len, List.length_map] at this
      omega
    have he := List.getElem?_eq_getElem hql
    obtain ⟨_, a, ha, hb, k0, k1⟩ := h _ _ he
    obtain ⟨f0, f1⟩ := flatS_at (es.map fun e => (e.nm, e.v)) q _ (by rw [List.getElem?_map, he]; rfl)
    refine ⟨a, ha, ?_⟩
    rcases (show j = q * 2 ∨ j = q * 2 + 1 by omega) with e | e
    · subst e
      rw [f0] at hj
      injection hj with hj
      subst hj
      exact ⟨hb, k0⟩
    · subst e
      rw [f1] at hj
      injection hj with hj
      subst hj
      rw [← add_off a (q * 2) 1 (by omega)]
      exact ⟨hb, k1⟩

section
variable {H : Type} {enc : TypeId × Value → H}
set_option maxRecDepth 10000 in
theorem open_row {W : World} {base : Nat} {v : Value} {d : DataW H} {p : List MemPlace} {r : Reach} {b0 : Nat} (h : DataW.Trod enc Tryd.prog W base (fun _ => true) true 42 v d p) (hok : Value.okWide Tryd.prog W r b0 42 v) :
    ∃ (A : Option Addr) (c : Nat) (xs : List V), v = .slice A xs.length c ∧ xs.length ≤ maxLen ∧ (A = none → c = 0) ∧ RowAt W W.heap.size A xs := by
  obtain ⟨a0, len, cap, rfl⟩ := okWide_slice Tryd.underlying42 hok
  obtain ⟨fuel, hf⟩ := h
  rcases open_slice Tryd.underlying42 hf with ⟨hcs, _⟩ | ⟨a, len', cap', m, k, D, Pl, hcs, _, hl, hm, hmm, _, hel⟩
  · simp [Value.cells] at hcs
    obtain ⟨rfl, rfl, rfl⟩ := hcs
    exact ⟨none, 0, [], rfl, Nat.zero_le _, fun _ => rfl, fun i v hi => by simp at hi⟩
  · simp [Value.cells] at hcs
    obtain ⟨rfl, rfl, rfl⟩ := hcs
    rw [cells_V] at hel
    have hex : ∀ i, i < len → ∃ v : V, At W (a.add (i * 4)) v ∧ (a.add (i * 4)).block < W.heap.size := by
      intro i hi
      have him : i < m := by
        rw [hmm, if_pos rfl]
        omega
      obtain ⟨cs', hc, ht⟩ := hel i him
      obtain ⟨v, rfl, hs⟩ := trod_V ht
      obtain ⟨_, _, hat⟩ := World.cells?_some hc
      have h0 := hat 0 (by omega)
      have h1 := hat 1 (by omega)
      have h2 := hat 2 (by omega)
      have h3 := hat 3 (by omega)
      have z : (a.add (i * 4)).add 0 = a.add (i * 4) := by simp [Addr.add]
      rw [z] at h0
      have h0' : W.cell? (a.add (i * 4)) = some (.int .i64 v.k) := h0
      refine ⟨v, ⟨h0', ?_, ?_, ?_⟩, World.block_lt_of_cell? W _ h0'⟩
      · simpa [Addr.add] using h1
      · simpa [Addr.add] using h2
      · simpa [Addr.add] using h3
    obtain ⟨g, hg⟩ := choose_lt' hex
    refine ⟨some a, cap, (List.range len).map g, by simp, by simp; omega, (fun h => by cases h), ?_⟩
    intro i v hi
    have hil : i < len := by
      have := (List.getElem?_eq_some_iff.1 hi).1
      simpa using this
    rw [List.getElem?_map, List.getElem?_range hil] at hi
    have hv : g i = v := by simpa using hi
    subst hv
    exact ⟨a, rfl, (hg i hil).2, (hg i hil).1⟩
end

theorem readable_F (t : TypeId) (h : t ∈ [22, 9, 42]) : Tryd.prog.readableRec t = true ∧ t < Tryd.prog.types.size := by
  simp only [List.mem_cons, List.not_mem_nil, or_false] at h
  rcases h with rfl | rfl | rfl <;> exact ⟨by kernel_rfl, of_decide_eq_true (by kernel_rfl)⟩
end Go.Proofs.YtgifkigamebofaaDoor
