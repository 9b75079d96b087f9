/-
  How an argument that is a list of rules reads in memory: the whole.
  No condition.
-/
import Derived.Test.YtojpccngcicbmaaYac
namespace Go.Proofs.Ytojpccngcicbmaa
open Go.ChangeShapes Go.WideShapes Go.ChangeAt Go.RowKit Go.Deep

instance : Inhabited Lm := ⟨⟨false, ⟨#[]⟩, none, 0, 0, 0⟩⟩
instance : Inhabited Rl := ⟨⟨0, ⟨#[]⟩, none, 0, 0, 0, ⟨#[]⟩, 0, none, 0, []⟩⟩
def cellsM (v : Lm) : List Value := [.bool v.n, .string v.s, .slice v.A v.m v.c, .int .i64 v.o]
section
variable {H : Type} {enc : TypeId × Value → H}

theorem lms_of {W : World} {A : Option Addr} {Q : Lm → Prop} {xs : List Lm} (h : ∀ (i : Nat) (v : Lm), xs[i]? = some v → Q v ∧ ∃ a : Addr, A = some a ∧ ∀ (j : Nat) (u : Value), (cellsM v)[j]? = some u → W.cell? ((a.add (i * Try.prog.cellsOf 45)).add j) = some u) : LmsAt W A xs := by
  intro i x hi
  obtain ⟨_, a, ha, hc⟩ := h i x hi
  rw [cells_Lt] at hc
  have h0 := hc 0 _ rfl
  have h1 := hc 1 _ rfl
  have h2 := hc 2 _ rfl
  have h3 := hc 3 _ rfl
  refine ⟨a, ha, ?_, ?_, ?_, ?_⟩
  · simpa [Addr.add] using h0
  · simpa [Addr.add] using h1
  · simpa [Addr.add] using h2
  · simpa [Addr.add] using h3
theorem txs_of {W : World} {A : Option Addr} {xs : List ByteArray} (h : ∀ (i : Nat) (v : ByteArray), xs[i]? = some v → True ∧ ∃ a : Addr, A = some a ∧ ∀ (j : Nat) (u : Value), [Value.string v][j]? = some u → W.cell? ((a.add (i * Try.prog.cellsOf 9)).add j) = some u) : TxsAt W A xs := by
  intro i s hi
  obtain ⟨_, a, ha, hc⟩ := h i s hi
  refine ⟨a, ha, ?_⟩
  have := hc 0 _ rfl
  rw [cells_str, Nat.mul_one] at this
  simpa [Addr.add] using this

theorem trod_Ru {W : World} {base fuel : Nat} {cs : List Value} {x : DataW H × List MemPlace} (h : DataW.trod enc Try.prog W base (fun _ => true) true fuel 30 cs = some x) :
    ∃ r : Rl, cs = r.cells ∧ r.Full W := by
  obtain ⟨hlen, hf⟩ := trod_field fields_Ru one_Ru types_Ru h
  rw [cells_Ru] at hlen
  match cs, hlen with
  | [c0, c1, c2, c3, c4, c5, c6], _ =>
    obtain ⟨y0, n0, g0⟩ := hf 0 _ c0 rfl rfl
    obtain ⟨y1, n1, g1⟩ := hf 1 _ c1 rfl rfl
    obtain ⟨y2, n2, g2⟩ := hf 2 _ c2 rfl rfl
    obtain ⟨y3, n3, g3⟩ := hf 3 _ c3 rfl rfl
    obtain ⟨y4, n4, g4⟩ := hf 4 _ c4 rfl rfl
    obtain ⟨y5, n5, g5⟩ := hf 5 _ c5 rfl rfl
    obtain ⟨y6, n6, g6⟩ := hf 6 _ c6 rfl rfl
    obtain ⟨k, e0, _⟩ := DataW.trod_int Try.underlying3 g0
    obtain ⟨nm, e1, _, hnm⟩ := DataW.trod_string Try.underlying9 g1
    obtain ⟨hA, hc, hs, e2, hl2, hx2⟩ := open_listT (α := ByteArray) Try.underlying26 (fun s => [.string s]) (fun _ => True) (fun _ _ _ h => by
      obtain ⟨s, e, _, _⟩ := DataW.trod_string Try.underlying9 h
      exact ⟨s, e, trivial⟩) g2
    obtain ⟨ag, e3, _⟩ := DataW.trod_int Try.underlying3 g3
    obtain ⟨ofv, e4, _, hof⟩ := DataW.trod_string Try.underlying9 g4
    obtain ⟨lim, e5, _⟩ := DataW.trod_int Try.underlying2 g5
    obtain ⟨bA, bc, b, e6, hl6, hx6⟩ := open_listT (α := Lm) Try.underlying28 cellsM (fun v => v.m ≤ maxLen ∧ ∃ vs : List ByteArray, vs.length = v.m ∧ TmsAt W v.A vs) (fun _ _ _ h => trod_Lt h) g6
    simp only [List.cons.injEq, and_true] at e0 e1 e2 e3 e4 e5 e6
    subst e0 e1 e2 e3 e4 e5 e6
    refine ⟨⟨k, nm, hA, hs.length, hc, ag, ofv, lim, bA, bc, b⟩, rfl, lms_of hx6, ⟨hs, rfl, txs_of hx2⟩, fun x hx => ?_, hl2, hl6, hnm, hof⟩
    obtain ⟨i, hi, e⟩ := List.getElem_of_mem hx
    exact (hx6 i x (by rw [List.getElem?_eq_getElem hi, e])).1

set_option maxRecDepth 10000 in
theorem open_rules {W : World} {base : Nat} {v : Value} {d : DataW H} {p : List MemPlace} {r : Reach} {b0 : Nat} (h : DataW.Trod enc Try.prog W base (fun _ => true) true 22 v d p) (hok : Value.okWide Try.prog W r b0 22 v) :
    ∃ (A : Option Addr) (c : Nat) (l : List Rl), v = .slice A l.length c ∧ l.length ≤ maxLen ∧ RlfsAt W A l := by
  obtain ⟨a0, len, cap, rfl⟩ := okWide_slice Try.underlying22 hok
  obtain ⟨fuel, hf⟩ := h
  obtain ⟨A, c, l, e, hl, hx⟩ := open_listT (α := Rl) Try.underlying22 Rl.cells (fun r => r.Full W) (fun _ _ _ h => trod_Ru h) hf
  simp [Value.cells] at e
  obtain ⟨rfl, rfl, rfl⟩ := e
  refine ⟨_, _, l, rfl, hl, fun i x hi => ?_⟩
  obtain ⟨hq, a, ha, hc⟩ := hx i x hi
  rw [cells_Ru] at hc
  have h0 := hc 0 _ rfl
  have h1 := hc 1 _ rfl
  have h2 := hc 2 _ rfl
  have h3 := hc 3 _ rfl
  have h4 := hc 4 _ rfl
  have h5 := hc 5 _ rfl
  have h6 := hc 6 _ rfl
  refine ⟨a, ha, ⟨?_, ?_, ?_, ?_, ?_, ?_, ?_⟩, hq⟩
  · simpa [Addr.add] using h0
  · simpa [Addr.add] using h1
  · simpa [Addr.add] using h2
  · simpa [Addr.add] using h3
  · simpa [Addr.add] using h4
  · simpa [Addr.add] using h5
  · simpa [Addr.add] using h6
end
theorem readable_Ru (t : TypeId) (h : t ∈ [22, 9]) : Try.prog.readableRec t = true ∧ t < Try.prog.types.size := by
  simp only [List.mem_cons, List.not_mem_nil, or_false] at h
  rcases h with rfl | rfl <;> exact ⟨by kernel_rfl, of_decide_eq_true (by kernel_rfl)⟩
end Go.Proofs.Ytojpccngcicbmaa
