/-
  Columns of package schema answers the columns of a relation, at every set and relation; nothing that was there is changed.
  No condition but that a list has no more than a million.
-/
import Derived.Test.YtmiagdmfgebfdaaScols
import Derived.Deep.RegionLaw
namespace Go.Proofs.Ytmiagdmfgebfdaa
open Go.RowKit

def spaceB : ByteArray := ⟨#[115, 112, 97, 99, 101]⟩
def nameB : ByteArray := ⟨#[110, 97, 109, 101]⟩
def parentB : ByteArray := ⟨#[112, 97, 114, 101, 110, 116]⟩
/-- The columns of a relation. -/
def colsOf (l : List Sc) (rel : ByteArray) : Option (List Co) :=
  if sameNm rel tenantB = true then some [textC nameB, textC parentB] else (findS l rel).map fun x => [textC spaceB, textC nameB] ++ x.cols
/-- What Columns answers. -/
def ColsIs (w : World) (o : Option (List Co)) (e : Ending) (w' : World) : Prop :=
  Below w.heap.size w w' ∧ match o with
  | some cs => ∃ v, e = .returned (.tuple #[v, .int .i64 0]) ∧ IsCols w' (Behind w) v cs
  | none => e = .returned (.tuple #[.slice none 0 0, .int .i64 20])

theorem txt_lit2 (w : World) (a b : ByteArray) : TextsAt (w.alloc (.cells #[.string a, .string b] 9)) (fun _ => True) (some ⟨w.heap.size, 0, none⟩) [a, b] := by
  intro j u hj
  refine ⟨_, rfl, trivial, ?_⟩
  rw [show ((⟨w.heap.size, 0, none⟩ : Addr).add j) = ⟨w.heap.size, j, none⟩ from by unfold Addr.add; split <;> simp_all, alloc_new_cells]
  simpa using hj

theorem TextsAt.drew {w : World} {Q : Nat → Prop} {A : Option Addr} {ts : List ByteArray} (h : TextsAt w Q A ts) : TextsAt w.drew Q A ts := h
theorem below_of_drew {w w' : World} (h : Below w.drew.heap.size w.drew w') : Below w.heap.size w w' := (Below.drew (Below.refl _ _)).trans h
theorem step_append_C {ops : Array Oper} {o : Oper} {a : Act} {K : Act → World → Prop} {Q : Exit → Act → World → Prop} {E : Prop} (w : World) (hgd : o.guard = none) (s x : Operand)
    (ho : o.op = .call { callee := .builtin .append, args := #[s, x], argTypes := #[87, 87] })
    (base : Nat) (v : Value) (xs ys : List Co) (hs : a.eval s = v) (hown : OwnC w base v xs) (A : Option Addr) (m c : Nat) (hx : a.eval x = .slice A m c) (hm : m = ys.length) (R : Nat → Prop) (hr : CellsQ w R A (flatC ys))
    (hroom : xs.length + ys.length ≤ 3000000) (hbase : base ≤ w.heap.size)
    (h : ∀ v' w', OwnC w' base v' (xs ++ ys) → Below base w w' → w.grownBy w' v.ownBlock → K (a.put o.dst v') w') : if Region.wanted o (yielded ops a.tmps) = true then Oper.wp Try.prog o a w K Q else E := by
  have hw : Region.wanted o (yielded ops a.tmps) = true := by simp [Region.wanted, hgd]
  rw [if_pos hw]
  exact op_append_C w s x ho base v xs ys hs hown A m c hx hm R hr (flatC_one _) hroom hbase (fun v' w' h1 h2 h3 _ => h v' w' h1 h2 h3)

theorem own_cols {w w0 : World} {base : Nat} {v : Value} {cs : List Co} (h : OwnC w base v cs) (hl : cs.length ≤ 1000000) (hb : w0.heap.size ≤ base) : IsCols w (Behind w0) v cs := by
  obtain ⟨A, c, hv, hA, hcap, hcells⟩ := h.slice (Behind w0) (fun k hk => Nat.le_trans hb hk)
  exact ⟨hl, A, c, hv, hA, hcap, hcells⟩

end Go.Proofs.Ytmiagdmfgebfdaa
