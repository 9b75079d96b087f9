/-
  Terms and literals in memory: six cells a term, four a literal; lists of one's own of them, and of texts.
  No condition.
  The document's term: a constant, or a variable.
  Condition: no more than four hundred tokens, and a place among them.
-/
import Derived.Test.YthdjkagodccdbaaM21
import Derived.Test.YthdjkagodccdbaaM22
namespace Go.Proofs.Ythdjkagodccdbaa
section
open Go.RowKit

abbrev TmP.cells (x : TmP) : List Value := [.string x.s, .bool x.a, .int .i64 x.v.k, .bool x.v.f, .int .i64 x.v.n, .string x.v.t]
abbrev TmP.val (x : TmP) : Value := .agg #[.string x.s, .bool x.a, .int .i64 x.v.k, .bool x.v.f, .int .i64 x.v.n, .string x.v.t]
/-- A literal as it lies: its terms lie elsewhere. -/
structure LmP where
  n : Bool
  s : ByteArray
  v : Value
  o : Int
abbrev LmP.cells (x : LmP) : List Value := [.bool x.n, .string x.s, x.v, .int .i64 x.o]
abbrev strC (s : ByteArray) : List Value := [.string s]
theorem el_Tm : IsEl 44 84 TmP.cells 6 64 where
  under := Try.underlying44
  info := ⟨.agg #[.string ⟨#[]⟩, .bool false, .int .i64 0, .bool false, .int .i64 0, .string ⟨#[]⟩], by kernel_rfl, rfl⟩
  pos := by omega
  len := fun _ => rfl
  one := fun x u hu => by
    simp only [List.mem_cons, List.not_mem_nil, or_false] at hu
    rcases hu with rfl | rfl | rfl | rfl | rfl | rfl <;> rfl
  few := by omega
theorem el_Str : IsEl 24 9 strC 1 16 where
  under := Try.underlying24
  info := ⟨.string ⟨#[]⟩, by kernel_rfl, rfl⟩
  pos := by omega
  len := fun _ => rfl
  one := fun x u hu => by
    simp only [strC, List.mem_cons, List.not_mem_nil, or_false] at hu
    rcases hu with rfl
    rfl
  few := by omega
/-- A literal whose terms' list is one cell. -/
def LmQ := { x : LmP // x.v.oneCell' = true }
def LmQ.cells (x : LmQ) : List Value := x.1.cells
theorem el_Lm : IsEl 25 46 LmQ.cells 4 56 where
  under := Try.underlying25
  info := ⟨.agg #[.bool false, .string ⟨#[]⟩, .slice none 0 0, .int .i64 0], by kernel_rfl, rfl⟩
  pos := by omega
  len := fun _ => rfl
  one := fun x u hu => by
    obtain ⟨x, hx⟩ := x
    simp only [LmQ.cells, List.mem_cons, List.not_mem_nil, or_false] at hu
    rcases hu with rfl | rfl | rfl | rfl
    · rfl
    · rfl
    · exact hx
    · rfl
  few := by omega
abbrev OwnTm (w : World) (base : Nat) (v : Value) (ls : List TmP) : Prop := OwnF 84 TmP.cells 6 w base v ls
abbrev OwnSt (w : World) (base : Nat) (v : Value) (ls : List ByteArray) : Prop := OwnF 9 strC 1 w base v ls
abbrev OwnLq (w : World) (base : Nat) (v : Value) (ls : List LmQ) : Prop := OwnF 46 LmQ.cells 4 w base v ls
/-- A block of its own whose cells were just laid. -/
theorem lit_F {α : Type} (f : α → List Value) (w : World) (x : α) (cs : Array Value) (T : TypeId) (h : cs.toList = f x) : ∀ j u, (f x)[j]? = some u → (w.alloc (.cells cs T)).cell? ((⟨w.heap.size, 0, none⟩ : Addr).add j) = some u := by
  intro j u hj
  have hn := heap_alloc_new w (.cells cs T)
  have e : (⟨w.heap.size, 0, none⟩ : Addr).add j = ⟨w.heap.size, j, none⟩ := by unfold Addr.add; split <;> simp_all
  rw [e, cell_of_row _ w.heap.size j _ T (0, 0) hn, ← hj, ← h, Array.getElem?_toList]
end
end Go.Proofs.Ythdjkagodccdbaa
namespace Go.Proofs.Ythdjkagodccdbaa
section
open Go.RowKit

theorem box6_of {W : World} {g : Nat} {a b c d e f : Value} {T : TypeId} (h : W.heap[g]? = some (.cells #[a, b, c, d, e, f] T (0, 0))) :
    W.cell? ⟨g, 0, none⟩ = some a ∧ W.cell? ⟨g, 1, none⟩ = some b ∧ W.cell? ⟨g, 2, none⟩ = some c ∧ W.cell? ⟨g, 3, none⟩ = some d ∧ W.cell? ⟨g, 4, none⟩ = some e ∧ W.cell? ⟨g, 5, none⟩ = some f ∧ (∀ i, W.frozen? ⟨g, i, none⟩ = false) :=
  ⟨cell_of_row _ g 0 _ _ (0, 0) h, cell_of_row _ g 1 _ _ (0, 0) h, cell_of_row _ g 2 _ _ (0, 0) h, cell_of_row _ g 3 _ _ (0, 0) h, cell_of_row _ g 4 _ _ (0, 0) h, cell_of_row _ g 5 _ _ (0, 0) h, fun i => by simp [World.frozen?, h]⟩
theorem box4_of {W : World} {g : Nat} {a b c d : Value} {T : TypeId} (h : W.heap[g]? = some (.cells #[a, b, c, d] T (0, 0))) :
    W.cell? ⟨g, 0, none⟩ = some a ∧ W.cell? ⟨g, 1, none⟩ = some b ∧ W.cell? ⟨g, 2, none⟩ = some c ∧ W.cell? ⟨g, 3, none⟩ = some d ∧ (∀ i, W.frozen? ⟨g, i, none⟩ = false) :=
  ⟨cell_of_row _ g 0 _ _ (0, 0) h, cell_of_row _ g 1 _ _ (0, 0) h, cell_of_row _ g 2 _ _ (0, 0) h, cell_of_row _ g 3 _ _ (0, 0) h, fun i => by simp [World.frozen?, h]⟩
/-- A store into a block that is new keeps what was there. -/
theorem OnlyR.new {g b i : Nat} {w w' : World} (h : OnlyR g w w') (hb : w.heap.size ≤ b) (v : Value) : OnlyR g w (w'.setCell ⟨b, i, none⟩ v) := by
  refine ⟨h.1.setCell (p := ⟨b, i, none⟩) (Nat.zero_le _) v, fun k hk hg => ?_⟩
  rw [Below.heap_setCell w' ⟨b, i, none⟩ v k (by show k ≠ b; omega)]
  exact h.2 k hk hg
theorem RdP.new {w : World} {g t c b i : Nat} {ls : List Tok} {s : Rst} (h : RdP w g t c ls s) (hg : g ≠ b) (ht : t ≠ b) (v : Value) : RdP (w.setCell ⟨b, i, none⟩ v) g t c ls s :=
  h.other (h := b) (OnlyR.set b i w v) hg ht
theorem RdP.tlt {w : World} {g t c : Nat} {ls : List Tok} {s : Rst} (h : RdP w g t c ls s) : t < w.heap.size := by
  obtain ⟨⟨k, b, ⟨vk, vf, vn, vt⟩, a⟩, hX⟩ : ∃ x, nowR ls s = x := ⟨_, rfl⟩
  have := nowR_at h.2.2.2.1
  rw [hX] at this
  exact World.block_lt_of_cell? w _ (h.tok this).1
abbrev zeroTm : Obj := .cells #[.string ⟨#[]⟩, .bool false, .int .i64 0, .bool false, .int .i64 0, .string ⟨#[]⟩] 84

set_option maxRecDepth 10000 in
set_option maxHeartbeats 2000000 in
theorem rp_term {w : World} {g t c : Nat} {ls : List Tok} {s : Rst} (h : RdP w g t c ls s) :
    Calls Try.prog 61 #[.pointer (some ⟨g, 0, none⟩)] w fun e w' => e = .returned (tmV ls s).val ∧ RdP w' g t c ls (tmS ls s) ∧ OnlyR g w w' := by
  have hon := one_new w zeroTm
  have h1 := h.below hon
  obtain ⟨⟨k, b, ⟨vk, vf, vn, vt⟩, a⟩, hX⟩ : ∃ x, nowR ls s = x := ⟨_, rfl⟩
  have hC : conB ls s = (decide (s.why = 0) && decide (k = 2)) := by unfold conB; rw [hX]
  have hS : tmS ls s = if conB ls s = true then stepR ls s else nmS ls s := rfl
  have hV : tmV ls s = if conB ls s = true then ⟨⟨#[]⟩, false, ⟨vk, vf, vn, vt⟩⟩ else ⟨nmV ls s, false, noV⟩ := by unfold tmV; rw [hX]
  obtain ⟨_, _, c2, _⟩ := h.cell
  have HC := Lib.hid hC
  have HS := Lib.hid hS
  have HV := Lib.hid hV
  have HN := Lib.hid (rp_now' h1 hX)
  have HON := Lib.hid hon
  have H1 := Lib.hid h1
  have hg := h.lt
  have ht := h.tlt
  have hk0 := heap_alloc_new w zeroTm
  have HK0 := Lib.hid hk0
  generalize tmS ls s = s2 at *
  generalize tmV ls s = v2 at *
  generalize conB ls s = q at *
  clear h hX h1 hon hC hS hV hk0
  go_enter Try.func61, Try.ntmps61
  go_wp2_with fail
  refine HN.out.mono ?_
  rintro e w1 ⟨rfl, hb1⟩
  have hz1 : w.heap.size + 1 ≤ w1.heap.size := by have := hb1.size; simpa using this
  have hb2 : Below (w.heap.size + 1) (w.alloc zeroTm) (w1.alloc (Tok.obj k b vk vf vn vt a)) := (hb1.mono (by simp)).trans ((one_new w1 _).mono hz1)
  have hB2 := HON.out.trans (hb2.mono (by omega))
  have HB2 := Lib.hid hB2
  have R2 := Lib.hid (H1.out.below (by rw [World.size_alloc]; exact hb2))
  have hbx := (hb2.block w.heap.size (by omega)).trans HK0.out
  have HBX := Lib.hid hbx
  have hby := heap_alloc_new w1 (Tok.obj k b vk vf vn vt a)
  have HBY := Lib.hid hby
  have c2 := (hB2.cell (p := ⟨g, 2, none⟩) hg).trans c2
  have n0 := cell_of_row _ w1.heap.size 0 _ _ (0, 0) hby
  clear hb1 hb2 hB2 HN hbx hby
  by_cases hcon : s.why = 0 ∧ k = 2
  · obtain ⟨hy, rfl⟩ := hcon
    have hq : q = true := by rw [HC.out, hy]; rfl
    subst hq
    rw [hy] at c2
    have HST := Lib.hid (rp_step R2.out)
    clear HC hy
    go_wp2_with fail
    refine HST.out.mono ?_
    rintro e w3 ⟨rfl, hr3, ho3⟩
    have hsz3 := ho3.size
    rw [World.size_alloc] at hsz3
    have k1 := (ho3.2 w.heap.size (by rw [World.size_alloc]; omega) (by omega)).trans HBX.out
    have k2 := (ho3.2 w1.heap.size (by rw [World.size_alloc]; omega) (by omega)).trans HBY.out
    have R3 := Lib.hid hr3
    have HO3 := Lib.hid ((OnlyR.of (g := g) HB2.out).trans ho3)
    obtain ⟨d0, d1, d2, d3, d4, d5, df⟩ := box6_of k1
    have f0 := df 0
    have f1 := df 1
    have f2 := df 2
    have f3 := df 3
    have f4 := df 4
    have f5 := df 5
    have e2 := cell_of_row _ w1.heap.size 2 _ _ (0, 0) k2
    have e3 := cell_of_row _ w1.heap.size 3 _ _ (0, 0) k2
    have e4 := cell_of_row _ w1.heap.size 4 _ _ (0, 0) k2
    have e5 := cell_of_row _ w1.heap.size 5 _ _ (0, 0) k2
    clear hr3 ho3 k1 k2 df n0 c2 HST
    go_wp2
    exact bodyPost_ret (v := .agg #[.string ⟨#[]⟩, .bool false, .int .i64 vk, .bool vf, .int .i64 vn, .string vt]) (by simp [results, Try.results61, go_sem, d0, d1, d2, d3, d4, d5]) rfl
      ⟨by rw [HV.out]; rfl, by rw [HS.out, if_pos trivial]; repeat (first | (with_reducible exact R3.out) | (with_reducible refine RdP.new ?_ (by omega) (by omega) _)), by repeat (first | (with_reducible exact HO3.out) | (with_reducible refine OnlyR.new ?_ (Nat.le_refl _) _))⟩
  · have hq : q = false := by
      rw [HC.out, Bool.and_eq_false_iff, decide_eq_false_iff_not, decide_eq_false_iff_not]
      by_cases h1 : s.why = 0
      · exact .inr fun h => hcon ⟨h1, h⟩
      · exact .inl h1
    subst hq
    have HNM := Lib.hid (rp_name R2.out)
    have HQ := Lib.hid HC.out
    clear HC
    by_cases hy : s.why = 0
    · have hk : (k == 2) = false := by simpa using fun h => hcon ⟨hy, h⟩
      rw [hy] at c2
      clear hcon hy
      go_wp2_with fail
      refine HNM.out.mono ?_
      rintro e w3 ⟨rfl, hr3, ho3⟩
      have hsz3 := ho3.size
      rw [World.size_alloc] at hsz3
      have k1 := (ho3.2 w.heap.size (by rw [World.size_alloc]; omega) (by omega)).trans HBX.out
      have R3 := Lib.hid hr3
      have HO3 := Lib.hid ((OnlyR.of (g := g) HB2.out).trans ho3)
      obtain ⟨d0, d1, d2, d3, d4, d5, df⟩ := box6_of k1
      have f0 := df 0
      have f1 := df 1
      have f2 := df 2
      have f3 := df 3
      have f4 := df 4
      have f5 := df 5
      clear hr3 ho3 k1 df n0 c2 HNM
      go_wp2
      exact bodyPost_ret (v := .agg #[.string (nmV ls s), .bool false, .int .i64 0, .bool false, .int .i64 0, .string ⟨#[]⟩]) (by simp [results, Try.results61, go_sem, d0, d1, d2, d3, d4, d5]) rfl
        ⟨by rw [HV.out]; rfl, by rw [HS.out, if_neg Bool.false_ne_true]; repeat (first | (with_reducible exact R3.out) | (with_reducible refine RdP.new ?_ (by omega) (by omega) _)), by repeat (first | (with_reducible exact HO3.out) | (with_reducible refine OnlyR.new ?_ (Nat.le_refl _) _))⟩
    · have hy' : (s.why == 0) = false := by simpa using hy
      clear hcon
      go_wp2_with fail
      refine HNM.out.mono ?_
      rintro e w3 ⟨rfl, hr3, ho3⟩
      have hsz3 := ho3.size
      rw [World.size_alloc] at hsz3
      have k1 := (ho3.2 w.heap.size (by rw [World.size_alloc]; omega) (by omega)).trans HBX.out
      have R3 := Lib.hid hr3
      have HO3 := Lib.hid ((OnlyR.of (g := g) HB2.out).trans ho3)
      obtain ⟨d0, d1, d2, d3, d4, d5, df⟩ := box6_of k1
      have f0 := df 0
      have f1 := df 1
      have f2 := df 2
      have f3 := df 3
      have f4 := df 4
      have f5 := df 5
      clear hr3 ho3 k1 df n0 c2 HNM
      go_wp2
      exact bodyPost_ret (v := .agg #[.string (nmV ls s), .bool false, .int .i64 0, .bool false, .int .i64 0, .string ⟨#[]⟩]) (by simp [results, Try.results61, go_sem, d0, d1, d2, d3, d4, d5]) rfl
        ⟨by rw [HV.out]; rfl, by rw [HS.out, if_neg Bool.false_ne_true]; repeat (first | (with_reducible exact R3.out) | (with_reducible refine RdP.new ?_ (by omega) (by omega) _)), by repeat (first | (with_reducible exact HO3.out) | (with_reducible refine OnlyR.new ?_ (Nat.le_refl _) _))⟩
end
end Go.Proofs.Ythdjkagodccdbaa
