/-
  The document's Rule: the rule that a text is, or where, and why, it is none; nothing that was there is changed.
  No condition.
-/
import Derived.Test.YthdjkagodccdbaaM28
namespace Go.Proofs.Ythdjkagodccdbaa
open Go.RowKit

abbrev zeroRu : Obj := .cells #[.int .i64 0, .string ⟨#[]⟩, .slice none 0 0, .int .i64 0, .string ⟨#[]⟩, .int .i64 0, .slice none 0 0] 27
/-- A rule as it is answered. -/
def RuRes (w w' : World) (e : Ending) (R : RuP × Int × Int) : Prop := ∃ hv bv, e = .returned (.tuple #[.agg #[.int .i64 R.1.k, .string R.1.nm, hv, .int .i64 R.1.ag, .string R.1.ofv, .int .i64 R.1.lim, bv], .int .i64 R.2.1, .int .i64 R.2.2]) ∧ OwnSt w' w.heap.size hv R.1.head ∧ LisAt w' w.heap.size bv R.1.body ∧ Below w.heap.size w w'
/-- Where a rule is read, and the box of what is answered. -/
structure YSt (w W : World) (g x t c base : Nat) (ls : List Tok) (s : Rst) (r : RuP) (hv bv : Value) : Prop where
  X : XSt W g x t c base ls s r hv bv
  b0 : W.heap[w.heap.size]? = some zeroRu
  on : Below w.heap.size w W
  g0 : w.heap.size < g
  gx : x = g + 1
  bs : base = g + 2
section
variable {w W W' : World} {g x t c base : Nat} {ls : List Tok} {s s' : Rst} {r r' : RuP} {hv bv hv' bv' : Value}
theorem YSt.go (h : YSt w W g x t c base ls s r hv bv) (hx : XSt W' g x t c base ls s' r' hv' bv') (ho : OnlyX g x base W W') : YSt w W' g x t c base ls s' r' hv' bv' := by
  have h1 := h.g0
  have h2 := h.gx
  have h3 := h.bs
  have h4 := h.on.size
  refine ⟨hx, (ho.2 _ (by omega) (Array.getElem?_eq_some_iff.1 h.b0).1 (by omega) (by omega)).trans h.b0, h.on.trans ⟨ho.1.os, ho.1.tape, ho.1.output, ho.1.size, fun k hk => ho.2 k (by omega) (by omega) (by omega) (by omega)⟩, h1, h2, h3⟩
theorem YSt.call (h : YSt w W g x t c base ls s r hv bv) (hr : RdP W' g t c ls s') (ho : OnlyR g W W') : YSt w W' g x t c base ls s' r hv bv := h.go (h.X.call hr ho) (OnlyX.of ho)
theorem YSt.below (h : YSt w W g x t c base ls s r hv bv) (hb : Below W.heap.size W W') : YSt w W' g x t c base ls s r hv bv := h.call (h.X.rd.below hb) (OnlyR.of hb)
theorem YSt.set0 (h : YSt w W g x t c base ls s r hv bv) (k : Int) : YSt w (W.setCell ⟨x, 0, none⟩ (.int .i64 k)) g x t c base ls s { r with k := k } hv bv := h.go (h.X.set0 k) (OnlyX.set _ _ _ _ _ _)
theorem YSt.set1 (h : YSt w W g x t c base ls s r hv bv) (k : ByteArray) : YSt w (W.setCell ⟨x, 1, none⟩ (.string k)) g x t c base ls s { r with nm := k } hv bv := h.go (h.X.set1 k) (OnlyX.set _ _ _ _ _ _)
theorem YSt.set5 (h : YSt w W g x t c base ls s r hv bv) (k : Int) : YSt w (W.setCell ⟨x, 5, none⟩ (.int .i64 k)) g x t c base ls s { r with lim := k } hv bv := h.go (h.X.set5 k) (OnlyX.set _ _ _ _ _ _)
/-- What is answered. -/
theorem YSt.res (h : YSt w W g x t c base ls s r hv bv) (v0 v1 v2 v3 v4 v5 v6 : Value) :
    let W' := ((((((W.setCell ⟨w.heap.size, 0, none⟩ v0).setCell ⟨w.heap.size, 1, none⟩ v1).setCell ⟨w.heap.size, 2, none⟩ v2).setCell ⟨w.heap.size, 3, none⟩ v3).setCell ⟨w.heap.size, 4, none⟩ v4).setCell ⟨w.heap.size, 5, none⟩ v5).setCell ⟨w.heap.size, 6, none⟩ v6
    OwnSt W' w.heap.size hv r.head ∧ LisAt W' w.heap.size bv r.body ∧ Below w.heap.size w W' := by
  have h1 := h.g0
  have h2 := h.gx
  have h3 := h.bs
  have hs : ∀ (A : World) (i : Nat) (v : Value) (k : Nat), k ≠ w.heap.size → (A.setCell ⟨w.heap.size, i, none⟩ v).heap[k]? = A.heap[k]? := fun A i v k hk => Below.heap_setCell A ⟨w.heap.size, i, none⟩ v k hk
  have hall : ∀ k, k ≠ w.heap.size → (((((((W.setCell ⟨w.heap.size, 0, none⟩ v0).setCell ⟨w.heap.size, 1, none⟩ v1).setCell ⟨w.heap.size, 2, none⟩ v2).setCell ⟨w.heap.size, 3, none⟩ v3).setCell ⟨w.heap.size, 4, none⟩ v4).setCell ⟨w.heap.size, 5, none⟩ v5).setCell ⟨w.heap.size, 6, none⟩ v6).heap[k]? = W.heap[k]? := fun k hk => by
    rw [hs _ 6 v6 k hk, hs _ 5 v5 k hk, hs _ 4 v4 k hk, hs _ 3 v3 k hk, hs _ 2 v2 k hk, hs _ 1 v1 k hk, hs _ 0 v0 k hk]
  refine ⟨(h.X.hd.byBlock fun k hk => hall k (by have := (h.X.hd.lt k hk).1; omega)).lower (by omega), ?_, ?_⟩
  · obtain ⟨qs, q1, q2, q3⟩ := h.X.bd
    refine ⟨qs, (q1.byBlock fun k hk => hall k (by have := (q1.lt k hk).1; omega)).lower (by omega), q2, fun i q y ha hb => ?_⟩
    obtain ⟨a, b, c', d⟩ := q3 i q y ha hb
    exact ⟨a, b, c', (d.byBlock fun b' cur hl hh => hall b' (by omega)).lower (by omega)⟩
  · exact bset (bset (bset (bset (bset (bset (bset h.on))))))
end
theorem box7r_of {W : World} {g : Nat} {a b c d e f k : Value} {T : TypeId} (h : W.heap[g]? = some (.cells #[a, b, c, d, e, f, k] T (0, 0))) :
    W.cell? ⟨g, 0, none⟩ = some a ∧ W.cell? ⟨g, 1, none⟩ = some b ∧ W.cell? ⟨g, 2, none⟩ = some c ∧ W.cell? ⟨g, 3, none⟩ = some d ∧ W.cell? ⟨g, 4, none⟩ = some e ∧ W.cell? ⟨g, 5, none⟩ = some f ∧ W.cell? ⟨g, 6, none⟩ = some k ∧ (∀ i, W.frozen? ⟨g, i, none⟩ = false) :=
  ⟨cell_of_row _ g 0 _ _ (0, 0) h, cell_of_row _ g 1 _ _ (0, 0) h, cell_of_row _ g 2 _ _ (0, 0) h, cell_of_row _ g 3 _ _ (0, 0) h, cell_of_row _ g 4 _ _ (0, 0) h, cell_of_row _ g 5 _ _ (0, 0) h, cell_of_row _ g 6 _ _ (0, 0) h, fun i => by simp [World.frozen?, h]⟩
theorem lexR_some {l : List UInt8} (h : (lexR l).2.2 = 0) : 0 < (lexR l).1.length ∧ (lexR l).1.length ≤ 400 := by
  rcases lexR_cases l with ⟨_, h1⟩ | ⟨_, h2, h3, _⟩
  · exact absurd h h1
  · rw [h3]
    have hl := lexA_len l.length l
    refine ⟨?_, by omega⟩
    rw [lexA_step]
    simp
theorem takeR_no {ls : List Tok} {s : Rst} {l : List UInt8} (h : isR ls s l = false) : takeR ls s l = s := by unfold takeR; rw [h]; rfl
theorem ki1 {ls : List Tok} {s : Rst} (h : isR ls s wDeny = true) : kiK ls s = 1 ∧ kiS ls s = takeR ls s wDeny := by
  have e : kiK ls s = 1 := by unfold kiK; rw [if_pos h]
  refine ⟨e, ?_⟩
  unfold kiS takeR
  rw [e, if_pos h]
  rfl
theorem ki2 {ls : List Tok} {s : Rst} (h1 : isR ls s wDeny = false) (h : isR ls s wView = true) : kiK ls s = 2 ∧ kiS ls s = takeR ls s wView := by
  have e : kiK ls s = 2 := by unfold kiK; rw [h1, if_neg Bool.false_ne_true, if_pos h]
  refine ⟨e, ?_⟩
  unfold kiS takeR
  rw [e, if_pos h]
  rfl
theorem ki3 {ls : List Tok} {s : Rst} (h1 : isR ls s wDeny = false) (h2 : isR ls s wView = false) (h : isR ls s wQuota = true) : kiK ls s = 3 ∧ kiS ls s = takeR ls s wQuota := by
  have e : kiK ls s = 3 := by unfold kiK; rw [h1, if_neg Bool.false_ne_true, h2, if_neg Bool.false_ne_true, if_pos h]
  refine ⟨e, ?_⟩
  unfold kiS takeR
  rw [e, if_pos h]
  rfl
theorem ki0 {ls : List Tok} {s : Rst} (h1 : isR ls s wDeny = false) (h2 : isR ls s wView = false) (h : isR ls s wQuota = false) : kiK ls s = 0 ∧ kiS ls s = failR s 7 (nowR ls s).a := by
  have e : kiK ls s = 0 := by unfold kiK; rw [h1, if_neg Bool.false_ne_true, h2, if_neg Bool.false_ne_true, h, if_neg Bool.false_ne_true]
  refine ⟨e, ?_⟩
  unfold kiS
  rw [e]
  rfl
theorem now_fail (ls : List Tok) (s : Rst) (a b : Int) : nowR ls (failR s a b) = nowR ls s := by unfold nowR; rw [failR_i]
theorem field_at2 (k : Int) (b : ByteArray) (vk : Int) (vf : Bool) (vn : Int) (vt : ByteArray) (a : Int) (W : World) : (Instr.field 61 (.agg #[.int .i64 k, .string b, .int .i64 vk, .bool vf, .int .i64 vn, .string vt, .int .i64 a]) 2).run Try.prog W = .ok (.agg #[.int .i64 vk, .bool vf, .int .i64 vn, .string vt]) W := by kernel_rfl
theorem field_v0 (vk : Int) (vf : Bool) (vn : Int) (vt : ByteArray) (W : World) : (Instr.field 59 (.agg #[.int .i64 vk, .bool vf, .int .i64 vn, .string vt]) 0).run Try.prog W = .ok (.int .i64 vk) W := by kernel_rfl
theorem field_v2 (vk : Int) (vf : Bool) (vn : Int) (vt : ByteArray) (W : World) : (Instr.field 59 (.agg #[.int .i64 vk, .bool vf, .int .i64 vn, .string vt]) 2).run Try.prog W = .ok (.int .i64 vn) W := by kernel_rfl
theorem rp_takeL {w : World} {g t c : Nat} {ls : List Tok} {s : Rst} (h : RdP w g t c ls s) (u : ByteArray) (l : List UInt8) (hu : u.data.toList = l) :
    Calls Try.prog 18 #[.pointer (some ⟨g, 0, none⟩), .string u] w fun e w' => e = .returned (.bool (isR ls s l)) ∧ RdP w' g t c ls (takeR ls s l) ∧ OnlyR g w w' := by
  subst hu
  exact rp_take h u
theorem rp_mustL {w : World} {g t c : Nat} {ls : List Tok} {s : Rst} (h : RdP w g t c ls s) (u : ByteArray) (l : List UInt8) (hu : u.data.toList = l) :
    Calls Try.prog 22 #[.pointer (some ⟨g, 0, none⟩), .string u] w fun e w' => e = .returned (.tuple #[]) ∧ RdP w' g t c ls (mustR ls s l) ∧ OnlyR g w w' := by
  subst hu
  exact rp_must h u
end Go.Proofs.Ythdjkagodccdbaa
