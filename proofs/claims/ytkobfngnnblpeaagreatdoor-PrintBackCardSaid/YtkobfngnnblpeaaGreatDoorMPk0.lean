/-
  The fixed calls of package parse's statements.
  Condition: the package-level errors of strconv stand.
-/
import Derived.Test.YtkobfngnnblpeaaGreatDoorMPpr
import Derived.Test.YtkobfngnnblpeaaGreatDoorMPpt
namespace Go.Proofs.YtkobfngnnblpeaaGreatDoor
open Go.RowKit


def kB1 : List UInt8 := [100, 101, 110, 121, 32, 98, 105, 103, 40, 115, 44, 32, 110, 41, 32, 105, 102, 32, 112, 111, 100, 40, 115, 44, 32, 110, 44, 32, 95, 44, 32, 99, 44, 32, 95, 41, 44, 32, 99, 32, 62, 32, 49, 48, 48]
def kB2 : List UInt8 := [100, 101, 110, 121, 32, 98, 105, 103, 40, 115, 41, 32, 105, 102, 32, 112, 111, 100, 40, 115, 41, 32, 99]
def vT (l : List UInt8) : TmP := ⟨⟨l.toArray⟩, false, noV⟩
def kR1 : RuP := ⟨1, ⟨#[98, 105, 103]⟩, [⟨#[115]⟩, ⟨#[110]⟩], 0, ⟨#[]⟩, 0, [⟨false, ⟨#[112, 111, 100]⟩, [vT [115], vT [110], anyT, vT [99], anyT], 0⟩, ⟨false, ⟨#[]⟩, [vT [99], ⟨⟨#[]⟩, false, ⟨2, false, 100, ⟨#[]⟩⟩⟩], 5⟩]⟩
theorem k12_1 : ruleR kB1 = (kR1, 0, 0) := by kernel_rfl
theorem k12_2 : ruleR kB2 = (noRu, 22, 7) := by kernel_rfl
theorem kB1_is : (⟨#[100, 101, 110, 121, 32, 98, 105, 103, 40, 115, 44, 32, 110, 41, 32, 105, 102, 32, 112, 111, 100, 40, 115, 44, 32, 110, 44, 32, 95, 44, 32, 99, 44, 32, 95, 41, 44, 32, 99, 32, 62, 32, 49, 48, 48]⟩ : ByteArray).data.toList = kB1 := rfl
theorem kB2_is : (⟨#[100, 101, 110, 121, 32, 98, 105, 103, 40, 115, 41, 32, 105, 102, 32, 112, 111, 100, 40, 115, 41, 32, 99]⟩ : ByteArray).data.toList = kB2 := rfl
theorem box7p_of {W : World} {g : Nat} {a b c d e f k : Value} {T : TypeId} (h : W.heap[g]? = some (.cells #[a, b, c, d, e, f, k] T (0, 0))) :
    W.cell? ⟨g, 0, none⟩ = some a ∧ W.cell? ⟨g, 1, none⟩ = some b ∧ W.cell? ⟨g, 2, none⟩ = some c ∧ W.cell? ⟨g, 3, none⟩ = some d ∧ W.cell? ⟨g, 4, none⟩ = some e ∧ W.cell? ⟨g, 5, none⟩ = some f ∧ W.cell? ⟨g, 6, none⟩ = some k :=
  ⟨cell_of_row _ g 0 _ _ (0, 0) h, cell_of_row _ g 1 _ _ (0, 0) h, cell_of_row _ g 2 _ _ (0, 0) h, cell_of_row _ g 3 _ _ (0, 0) h, cell_of_row _ g 4 _ _ (0, 0) h, cell_of_row _ g 5 _ _ (0, 0) h, cell_of_row _ g 6 _ _ (0, 0) h⟩
theorem two_of {l : List LmG} {a b : LiP} (h : l.map LmG.li = [a, b]) : ∃ x0 x1 : LmG, l = [x0, x1] ∧ x0.li = a ∧ x1.li = b := by
  rcases l with _ | ⟨x0, _ | ⟨x1, _ | ⟨x2, l⟩⟩⟩
  · cases h
  · cases h
  · injection h with h1 h2
    injection h2 with h2 h3
    exact ⟨x0, x1, rfl, h1, h2⟩
  · injection h with h1 h2
    injection h2 with h2 h3
    cases h3
/-- What known asks of the first text's rule, where it lies. -/
theorem known_cells {w : World} {bA : Option Addr} {body : List LmG} (h : LgsAt w bA body) (e7 : body.map LmG.li = kR1.body) :
    ∃ (a b0 b1 : Addr) (c0 c1 : Nat), bA = some a ∧ body.length = 2 ∧ w.cell? { block := a.block, off := a.off + 2 } = some (.slice (some b0) 5 c0) ∧ w.cell? { block := a.block, off := a.off + 4 + 3 } = some (.int .i64 5) ∧ w.cell? { block := a.block, off := a.off + 4 + 2 } = some (.slice (some b1) 2 c1) ∧ w.cell? { block := b0.block, off := b0.off + 12 + 1 } = some (.bool true) ∧ w.cell? { block := b1.block, off := b1.off + 6 + 4 } = some (.int .i64 100) := by
  obtain ⟨x0, x1, rfl, h0, h1⟩ := two_of e7
  obtain ⟨n0, s0, A0, c0, a0, o0⟩ := x0
  obtain ⟨n1, s1, A1, c1, a1, o1⟩ := x1
  injection h0 with p1 p2 p3 p4
  injection h1 with q1 q2 q3 q4
  subst p1 p2 p3 p4 q1 q2 q3 q4
  obtain ⟨a, ha, _, _, k2, _⟩ := els_L (i := 0) h.1 rfl
  obtain ⟨a', ha', _, _, m2, m3⟩ := els_L (i := 1) h.1 rfl
  obtain rfl := Option.some.inj (ha.symm.trans ha')
  obtain ⟨b0, hb0, _, t1, _⟩ := els_T (i := 2) (h.2 _ List.mem_cons_self) rfl
  obtain ⟨b1, hb1, _, _, _, _, u4, _⟩ := els_T (i := 1) (h.2 _ (List.mem_cons_of_mem _ List.mem_cons_self)) rfl
  simp only at hb0 hb1
  subst hb0 hb1
  exact ⟨a, b0, b1, c0, c1, ha, rfl, by simpa [Addr.add] using k2, m3, m2, t1, u4⟩
set_option maxRecDepth 100000 in
set_option maxHeartbeats 4000000 in
theorem known12 (w : World) (hv : Vars w) : Calls Tryz.prog 6 #[] w fun e w' => e = .returned (.bool true) ∧ Below w.heap.size w w' := by
  have H1 := p_rule ⟨#[100, 101, 110, 121, 32, 98, 105, 103, 40, 115, 44, 32, 110, 41, 32, 105, 102, 32, 112, 111, 100, 40, 115, 44, 32, 110, 44, 32, 95, 44, 32, 99, 44, 32, 95, 41, 44, 32, 99, 32, 62, 32, 49, 48, 48]⟩ w hv
  rw [kB1_is, k12_1] at H1
  have H1 := Lib.hid H1
  have HV := Lib.hid hv
  clear hv
  go_enter Tryz.func6, Tryz.ntmps6
  go_wp2_with fail
  refine H1.out.mono ?_
  intro e w1 hres
  obtain ⟨G, rfl, hpl, hok, hb1⟩ := hres.rule
  obtain ⟨gk, gnm, hA, hc, ghead, gag, gof, glim, bA, bc, gbody⟩ := G
  injection hpl with e1 e2 e3 e4 e5 e6 e7
  subst e1 e2 e3 e4 e5 e6
  obtain ⟨a, b0, b1, c0, c1, ha, hl, hcells⟩ := known_cells hok.2 e7
  simp only at ha hl
  subst ha
  clear hok e7 hres
  have HV1 := Lib.hid (HV.out.later hb1)
  have hx1 := heap_alloc_new w1 (.cells #[.int .i64 kR1.k, .string kR1.nm, .slice hA kR1.head.length hc, .int .i64 kR1.ag, .string kR1.ofv, .int .i64 kR1.lim, .slice (some a) 2 bc] 35)
  have HX1 := Lib.hid hx1
  have HC1 := Lib.hid hcells
  have HB1 := Lib.hid hb1
  clear hx1 hcells hb1 HV H1
  simp only [RuG.cells, hl]
  go_wp2_with fail
  obtain ⟨w2, hw2⟩ : ∃ W, W = w1.alloc (.cells #[.int .i64 1, .string ⟨#[98, 105, 103]⟩, .slice hA 2 hc, .int .i64 0, .string ⟨#[]⟩, .int .i64 0, .slice (some a) 2 bc] 35) := ⟨_, rfl⟩
  have hb2 : Below w1.heap.size w1 w2 := by rw [hw2]; exact one_new _ _
  have HX2 : Hid (w2.heap[w1.heap.size]? = some (.cells #[.int .i64 1, .string ⟨#[98, 105, 103]⟩, .slice hA 2 hc, .int .i64 0, .string ⟨#[]⟩, .int .i64 0, .slice (some a) 2 bc] 35 (0, 0))) := Lib.hid (by rw [hw2]; exact HX1.out)
  have hs2 : w1.heap.size < w2.heap.size := by rw [hw2]; simp
  rw [← hw2]
  have H2 := p_rule ⟨#[100, 101, 110, 121, 32, 98, 105, 103, 40, 115, 41, 32, 105, 102, 32, 112, 111, 100, 40, 115, 41, 32, 99]⟩ w2 (HV1.out.later hb2)
  rw [kB2_is, k12_2] at H2
  refine H2.mono ?_
  clear H2
  intro e w3 hres
  obtain ⟨G, rfl, _, _, hb3⟩ := hres.rule
  clear hres
  obtain ⟨w4, hw4⟩ : ∃ W, W = w3.alloc (.cells #[.int .i64 G.k, .string G.nm, .slice G.hA G.head.length G.hc, .int .i64 G.ag, .string G.ofv, .int .i64 G.lim, .slice G.bA G.body.length G.bc] 35) := ⟨_, rfl⟩
  have hb4 : Below w3.heap.size w3 w4 := by rw [hw4]; exact one_new _ _
  have hb3 : Below w2.heap.size w2 w4 := hb3.trans (hb4.mono hb3.size)
  have hb13 : Below w1.heap.size w1 w4 := hb2.trans (hb3.mono (Nat.le_of_lt hs2))
  obtain ⟨n0, n1, n2, n3, n4, n5, n6⟩ := box7p_of ((hb3.block w1.heap.size hs2).trans HX2.out)
  obtain ⟨g2, g3, g4, g5, g6⟩ := HC1.out
  have g2 := (hb13.cell (World.block_lt_of_cell? w1 _ g2)).trans g2
  have g3 := (hb13.cell (World.block_lt_of_cell? w1 _ g3)).trans g3
  have g4 := (hb13.cell (World.block_lt_of_cell? w1 _ g4)).trans g4
  have g5 := (hb13.cell (World.block_lt_of_cell? w1 _ g5)).trans g5
  have g6 := (hb13.cell (World.block_lt_of_cell? w1 _ g6)).trans g6
  have q1 : ((⟨#[98, 105, 103]⟩ : ByteArray) == ⟨#[98, 105, 103]⟩) = true := by decide +kernel
  have HB3 := Lib.hid (HB1.out.trans (hb13.mono HB1.out.size))
  rw [hw4] at n0 n1 n2 n3 n4 n5 n6 g2 g3 g4 g5 g6 HB3
  clear HC1 HX2 HX1 HV1 HB1 hb2 hs2 hb3 hb13 hb4 hw2 hw4 w4
  simp only [RuG.cells]
  go_wp2_with fail
  go_ret
  exact ⟨rfl, HB3.out⟩
end Go.Proofs.YtkobfngnnblpeaaGreatDoor
