/-
  RowSorts of verdererlaw02 answers true at every list of rows, and the list reads afterwards as it read before: Sort of package row answers what the document's own answers.
  No condition.
-/
import Derived.Test.YtmiagdmfgebfdaaSym7
import Derived.Test.YtmiagdmfgebfdaaSto
namespace Go.Proofs.Ytmiagdmfgebfdaa
open Go.ChangeShapes Go.WideShapes Go.ChangeAt Go.RowKit Go.Deep

instance : Inhabited Rw := ⟨⟨none, 0, []⟩⟩
theorem cells_Rv : Try.prog.cellsOf 34 = 1 := by kernel_rfl
section
variable {H : Type} {enc : TypeId × Value → H}

set_option maxRecDepth 10000 in
theorem trod_rowF {W : World} {base fuel : Nat} {v : List Value} {x : DataW H × List MemPlace} (hf : DataW.trod enc Try.prog W base (fun _ => true) true fuel 34 v = some x) :
    ∃ r : Rw, v = [.slice r.A r.xs.length r.c] ∧ r.xs.length ≤ maxLen ∧ (r.A = none → r.c = 0) ∧ RowAt W W.heap.size r.A r.xs ∧ Fit r.xs := by
  rcases open_slice Try.underlying34 hf with ⟨hcs, _⟩ | ⟨a, len, cap, m, k, D, Pl, hcs, _, hl, hm, hmm, _, hel⟩
  · exact ⟨⟨none, 0, []⟩, hcs, Nat.zero_le _, fun _ => rfl, fun i v hi => by simp at hi, fun i v hi => by simp at hi⟩
  · rw [cells_V] at hel
    have hex : ∀ i, i < len → ∃ v : V, At W (a.add (i * 4)) v ∧ v.t.size ≤ maxLen ∧ (a.add (i * 4)).block < W.heap.size := by
      intro i hi
      have him : i < m := by
        rw [hmm, if_pos rfl]
        omega
      obtain ⟨cs', hc, ht⟩ := hel i him
      obtain ⟨v, rfl, hs, hw⟩ := trod_V ht
      obtain ⟨_, _, hat⟩ := World.cells?_some hc
      have h0 := hat 0 (by omega)
      have h1 := hat 1 (by omega)
      have h2 := hat 2 (by omega)
      have h3 := hat 3 (by omega)
      have z : (a.add (i * 4)).add 0 = a.add (i * 4) := by simp [Addr.add]
      rw [z] at h0
      have h0' : W.cell? (a.add (i * 4)) = some (.int .i64 v.k) := h0
      refine ⟨v, ⟨h0', ?_, ?_, ?_⟩, hs, World.block_lt_of_cell? W _ h0'⟩
      · simpa [Addr.add] using h1
      · simpa [Addr.add] using h2
      · simpa [Addr.add] using h3
    obtain ⟨g, hg⟩ := choose_lt hex
    refine ⟨⟨some a, cap, (List.range len).map g⟩, by simpa using hcs, by simp; omega, (fun h => by cases h), ?_, ?_⟩
    · intro i v hi
      have hil : i < len := by
        have := (List.getElem?_eq_some_iff.1 hi).1
        simpa using this
      rw [List.getElem?_map, List.getElem?_range hil] at hi
      have hv : g i = v := by simpa using hi
      subst hv
      obtain ⟨h1, _, h3⟩ := hg i hil
      exact ⟨a, rfl, h3, h1⟩
    · intro i v hi
      have hil : i < len := by
        have := (List.getElem?_eq_some_iff.1 hi).1
        simpa using this
      rw [List.getElem?_map, List.getElem?_range hil] at hi
      have hv : g i = v := by simpa using hi
      subst hv
      exact (hg i hil).2.1

set_option maxRecDepth 10000 in
theorem open_rowsF {W : World} {base : Nat} {v : Value} {d : DataW H} {p : List MemPlace} {r : Reach} {b0 : Nat} (h : DataW.Trod enc Try.prog W base (fun _ => true) true 22 v d p) (hok : Value.okWide Try.prog W r b0 22 v) :
    ∃ (A : Option Addr) (n c : Nat) (rs : List Rw), v = .slice A n c ∧ n = rs.length ∧ n ≤ maxLen ∧ RowsAt W W.heap.size A rs ∧ (∀ r ∈ rs, r.xs.length ≤ maxLen) ∧ (∀ r ∈ rs, Fit r.xs) := by
  obtain ⟨a0, len, cap, rfl⟩ := okWide_slice Try.underlying22 hok
  obtain ⟨fuel, hf⟩ := h
  rcases open_slice Try.underlying22 hf with ⟨hcs, _⟩ | ⟨a, len', cap', m, k, D, Pl, hcs, _, hl, hm, hmm, _, hel⟩
  · simp [Value.cells] at hcs
    obtain ⟨rfl, rfl, rfl⟩ := hcs
    exact ⟨none, 0, 0, [], rfl, rfl, Nat.zero_le _, fun i v hi => by simp at hi, fun r hr => by simp at hr, fun r hr => by simp at hr⟩
  · simp [Value.cells] at hcs
    obtain ⟨rfl, rfl, rfl⟩ := hcs
    rw [cells_Rv] at hel
    have hex : ∀ i, i < len → ∃ r : Rw, W.cell? (a.add i) = some (.slice r.A r.xs.length r.c) ∧ (a.add i).block < W.heap.size ∧ r.xs.length ≤ maxLen ∧ (r.A = none → r.c = 0) ∧ RowAt W W.heap.size r.A r.xs ∧ Fit r.xs := by
      intro i hi
      have him : i < m := by
        rw [hmm, if_pos rfl]
        omega
      obtain ⟨cs', hc, ht⟩ := hel i him
      rw [Nat.mul_one] at hc
      obtain ⟨r, rfl, h1, h2, h3, h4⟩ := trod_rowF ht
      obtain ⟨_, _, hat⟩ := World.cells?_some hc
      have h0 := hat 0 (by omega)
      have z : (a.add i).add 0 = a.add i := by simp [Addr.add]
      rw [z] at h0
      have h0' : W.cell? (a.add i) = some (.slice r.A r.xs.length r.c) := h0
      exact ⟨r, h0', World.block_lt_of_cell? W _ h0', h1, h2, h3, h4⟩
    obtain ⟨g, hg⟩ := choose_lt hex
    have hin : ∀ r ∈ (List.range len).map g, r.xs.length ≤ maxLen ∧ Fit r.xs := by
      intro r hr
      obtain ⟨i, hi, rfl⟩ := List.mem_map.1 hr
      obtain ⟨_, _, h1, _, _, h2⟩ := hg i (List.mem_range.1 hi)
      exact ⟨h1, h2⟩
    refine ⟨some a, len, cap, (List.range len).map g, rfl, by simp, by omega, ?_, fun r hr => (hin r hr).1, fun r hr => (hin r hr).2⟩
    intro i v hi
    have hil : i < len := by
      have := (List.getElem?_eq_some_iff.1 hi).1
      simpa using this
    rw [List.getElem?_map, List.getElem?_range hil] at hi
    have hv : g i = v := by simpa using hi
    subst hv
    obtain ⟨h1, h2, _, h3, h4, _⟩ := hg i hil
    exact ⟨a, rfl, h2, h1, h4, h3⟩
end
theorem readable_Rs (t : TypeId) (h : t ∈ [22]) : Try.prog.readableRec t = true ∧ t < Try.prog.types.size := by
  simp only [List.mem_cons, List.not_mem_nil, or_false] at h
  subst h
  exact ⟨by kernel_rfl, of_decide_eq_true (by kernel_rfl)⟩

set_option maxRecDepth 100000 in
theorem rowSorts_lifted (os : Os) (started : os.Started) (H : Type) (enc : TypeId × Value → H) :
    ReturnsInHanded {} Try.checked os 3 .any (Rows.rowSortsSpec.pre6 enc Try.prog Try.f3 Rows.rowSortsRow.domain false) (Rows.rowSortsSpec.post enc Try.prog Try.f3 false true false false) := by
  refine returnsInHanded_of_change (C := Try.checked) Try.own started (by kernel_rfl) Try.func3
    (ChangeSpec.witness6 (enc := enc) (C := Try.checked) false ⟨#[], #[.slice none 0 0], []⟩ 8 (by kernel_rfl) (by kernel_rfl) (by kernel_rfl) (by kernel_rfl)) ?_
  intro W base args ds gs before hval0 hW hcnd _
  have hval : ∀ (j : Nat) t v, Try.f3.params[j]? = some t → args[j]? = some v → Value.okWide Try.prog W .any base t v := hval0
  have hW' := hW
  obtain ⟨p, q, hA0, hV, rfl, hfz, hnd⟩ := hW
  have hA : DataW.TrodAll enc Try.prog W 0 (fun _ => true) true Try.f3.params.toList args.toList ds p := hA0
  rw [Try.params3] at hA hval
  obtain ⟨v0, d0, rfl, rfl, h0⟩ := trodAll_one hA
  obtain ⟨rfl, rfl⟩ := trodVars_none hV
  obtain ⟨A, n, c, rs, rfl, hn, hm, hR, hlen, hfit⟩ := open_rowsF h0 (hval 0 22 v0 rfl rfl)
  refine (rowSorts_all rs A n c W hn hm hlen hfit hR).mono fun e W' ⟨he, hb⟩ => ?_
  subst he
  exact ⟨_, rfl, law_post Try.laidOut rfl hW' (by rw [Try.params3]; intro t ht; exact readable_Rs t (by simpa using ht)) (by kernel_rfl) Try.underlying4 rfl rfl rfl hb⟩

theorem rowSorts_holds : Rows.RowSortsSaid :=
  OpenClaim.holds_of_wide 3 Try.f3 rfl rfl rfl rfl rfl rfl rfl ⟨rfl, rfl, rfl, rfl, rfl⟩ rfl rfl rfl rfl rfl (by kernel_rfl) Try.func3 (by kernel_rfl)
    (of_decide_eq_true (by kernel_rfl)) (by unfold Func.isWrapper; first | (rw [if_pos (by decide +kernel)]; kernel_rfl) | (rw [if_neg (by decide +kernel)]; exact ⟨rfl, rfl⟩))
    (fun os started H enc _ => rowSorts_lifted os started H enc)
end Go.Proofs.Ytmiagdmfgebfdaa
