/-
  The fixed calls of package parse's statements.
  Condition: the package-level errors of strconv stand.
  ParseTokens' walk: at any text and any gaps.
  Condition: the package-level errors of strconv stand.
-/
import Derived.Deep.RegionHeld3
import Derived.Test.YtkobfngnnblpeaaGreatDoorMPpr
import Derived.Test.YtkobfngnnblpeaaGreatDoorMPpt
import Derived.Test.YtkobfngnnblpeaaGreatDoorMPta
namespace Go.Proofs.YtkobfngnnblpeaaGreatDoor
section
open Go.RowKit


def kB1 : List UInt8 := [100, 101, 110, 121, 32, 98, 105, 103, 40, 115, 44, 32, 110, 41, 32, 105, 102, 32, 112, 111, 100, 40, 115, 44, 32, 110, 44, 32, 95, 44, 32, 99, 44, 32, 95, 41, 44, 32, 99, 32, 62, 32, 49, 48, 48]
def kB2 : List UInt8 := [100, 101, 110, 121, 32, 98, 105, 103, 40, 115, 41, 32, 105, 102, 32, 112, 111, 100, 40, 115, 41, 32, 99]
def vT (l : List UInt8) : TmP := ⟨⟨l.toArray⟩, false, noV⟩
def kR1 : RuP := ⟨1, ⟨#[98, 105, 103]⟩, [⟨#[115]⟩, ⟨#[110]⟩], 0, ⟨#[]⟩, 0, [⟨false, ⟨#[112, 111, 100]⟩, [vT [115], vT [110], anyT, vT [99], anyT], 0⟩, ⟨false, ⟨#[]⟩, [vT [99], ⟨⟨#[]⟩, false, ⟨2, false, 100, ⟨#[]⟩⟩⟩], 5⟩]⟩
theorem k12_1 : ruleR kB1 = (kR1, 0, 0) := by kernel_rfl
theorem k12_2 : ruleR kB2 = (noRu, 22, 7) := by kernel_rfl
theorem kB1_is : (⟨#[100, 101, 110, 121, 32, 98, 105, 103, 40, 115, 44, 32, 110, 41, 32, 105, 102, 32, 112, 111, 100, 40, 115, 44, 32, 110, 44, 32, 95, 44, 32, 99, 44, 32, 95, 41, 44, 32, 99, 32, 62, 32, 49, 48, 48]⟩ : ByteArray).data.toList = kB1 := rfl
theorem kB2_is : (⟨#[100, 101, 110, 121, 32, 98, 105, 103, 40, 115, 41, 32, 105, 102, 32, 112, 111, 100, 40, 115, 41, 32, 99]⟩ : ByteArray).data.toList = kB2 := rfl
theorem box7p_of {W : World} {g : Nat} {a b c d e f k : Value} {T : TypeId} (h : W.heap[g]? = some (.cells #[a, b, c, d, e, f, k] T (0, 0))) :
    W.cell? ⟨g, 0, none⟩ = some a ∧ W.cell? ⟨g, 1, none⟩ = some b ∧ W.cell? ⟨g, 2, none⟩ = some c ∧ W.cell? ⟨g, 3, none⟩ = some d ∧ W.cell? ⟨g, 4, none⟩ = some e ∧ W.cell? ⟨g, 5, none⟩ = some f ∧ W.cell? ⟨g, 6, none⟩ = some k :=
  ⟨cell_of_row _ g 0 _ _ (0, 0) h, cell_of_row _ g 1 _ _ (0, 0) h, cell_of_row _ g 2 _ _ (0, 0) h, cell_of_row _ g 3 _ _ (0, 0) h, cell_of_row _ g 4 _ _ (0, 0) h, cell_of_row _ g 5 _ _ (0, 0) h, cell_of_row _ g 6 _ _ (0, 0) h⟩
theorem two_of {l : List LmG} {a b : LiP} (h : l.map LmG.li = [a, b]) : ∃ x0 x1 : LmG, l = [x0, x1] ∧ x0.li = a ∧ x1.li = b := by
  rcases l with _ | ⟨x0, _ | ⟨x1, _ | ⟨x2, l⟩⟩⟩
  · cases h
  · cases h
  · injection h with h1 h2
    injection h2 with h2 h3
    exact ⟨x0, x1, rfl, h1, h2⟩
  · injection h with h1 h2
    injection h2 with h2 h3
    cases h3
/-- What known asks of the first text's rule, where it lies. -/
theorem known_cells {w : World} {bA : Option Addr} {body : List LmG} (h : LgsAt w bA body) (e7 : body.map LmG.li = kR1.body) :
    ∃ (a b0 b1 : Addr) (c0 c1 : Nat), bA = some a ∧ body.length = 2 ∧ w.cell? { block := a.block, off := a.off + 2 } = some (.slice (some b0) 5 c0) ∧ w.cell? { block := a.block, off := a.off + 4 + 3 } = some (.int .i64 5) ∧ w.cell? { block := a.block, off := a.off + 4 + 2 } = some (.slice (some b1) 2 c1) ∧ w.cell? { block := b0.block, off := b0.off + 12 + 1 } = some (.bool true) ∧ w.cell? { block := b1.block, off := b1.off + 6 + 4 } = some (.int .i64 100) := by
  obtain ⟨x0, x1, rfl, h0, h1⟩ := two_of e7
  obtain ⟨n0, s0, A0, c0, a0, o0⟩ := x0
  obtain ⟨n1, s1, A1, c1, a1, o1⟩ := x1
  injection h0 with p1 p2 p3 p4
  injection h1 with q1 q2 q3 q4
  subst p1 p2 p3 p4 q1 q2 q3 q4
  obtain ⟨a, ha, _, _, k2, _⟩ := els_L (i := 0) h.1 rfl
  obtain ⟨a', ha', _, _, m2, m3⟩ := els_L (i := 1) h.1 rfl
  obtain rfl := Option.some.inj (ha.symm.trans ha')
  obtain ⟨b0, hb0, _, t1, _⟩ := els_T (i := 2) (h.2 _ List.mem_cons_self) rfl
  obtain ⟨b1, hb1, _, _, _, _, u4, _⟩ := els_T (i := 1) (h.2 _ (List.mem_cons_of_mem _ List.mem_cons_self)) rfl
  simp only at hb0 hb1
  subst hb0 hb1
  exact ⟨a, b0, b1, c0, c1, ha, rfl, by simpa [Addr.add] using k2, m3, m2, t1, u4⟩
set_option maxRecDepth 100000 in
set_option maxHeartbeats 4000000 in
theorem known12 (w : World) (hv : Vars w) : Calls Tryz.prog 6 #[] w fun e w' => e = .returned (.bool true) ∧ Below w.heap.size w w' := by
  have H1 := p_rule ⟨#[100, 101, 110, 121, 32, 98, 105, 103, 40, 115, 44, 32, 110, 41, 32, 105, 102, 32, 112, 111, 100, 40, 115, 44, 32, 110, 44, 32, 95, 44, 32, 99, 44, 32, 95, 41, 44, 32, 99, 32, 62, 32, 49, 48, 48]⟩ w hv
  rw [kB1_is, k12_1] at H1
  have H1 := Lib.hid H1
  have HV := Lib.hid hv
  clear hv
  go_enter Tryz.func6, Tryz.ntmps6
  go_wp2_with fail
  refine H1.out.mono ?_
  intro e w1 hres
  obtain ⟨G, rfl, hpl, hok, hb1⟩ := hres.rule
  obtain ⟨gk, gnm, hA, hc, ghead, gag, gof, glim, bA, bc, gbody⟩ := G
  injection hpl with e1 e2 e3 e4 e5 e6 e7
  subst e1 e2 e3 e4 e5 e6
  obtain ⟨a, b0, b1, c0, c1, ha, hl, hcells⟩ := known_cells hok.2 e7
  simp only at ha hl
  subst ha
  clear hok e7 hres
  have HV1 := Lib.hid (HV.out.later hb1)
  have hx1 := heap_alloc_new w1 (.cells #[.int .i64 kR1.k, .string kR1.nm, .slice hA kR1.head.length hc, .int .i64 kR1.ag, .string kR1.ofv, .int .i64 kR1.lim, .slice (some a) 2 bc] 35)
  have HX1 := Lib.hid hx1
  have HC1 := Lib.hid hcells
  have HB1 := Lib.hid hb1
  clear hx1 hcells hb1 HV H1
  simp only [RuG.cells, hl]
  go_wp2_with fail
  obtain ⟨w2, hw2⟩ : ∃ W, W = w1.alloc (.cells #[.int .i64 1, .string ⟨#[98, 105, 103]⟩, .slice hA 2 hc, .int .i64 0, .string ⟨#[]⟩, .int .i64 0, .slice (some a) 2 bc] 35) := ⟨_, rfl⟩
  have hb2 : Below w1.heap.size w1 w2 := by rw [hw2]; exact one_new _ _
  have HX2 : Hid (w2.heap[w1.heap.size]? = some (.cells #[.int .i64 1, .string ⟨#[98, 105, 103]⟩, .slice hA 2 hc, .int .i64 0, .string ⟨#[]⟩, .int .i64 0, .slice (some a) 2 bc] 35 (0, 0))) := Lib.hid (by rw [hw2]; exact HX1.out)
  have hs2 : w1.heap.size < w2.heap.size := by rw [hw2]; simp
  rw [← hw2]
  have H2 := p_rule ⟨#[100, 101, 110, 121, 32, 98, 105, 103, 40, 115, 41, 32, 105, 102, 32, 112, 111, 100, 40, 115, 41, 32, 99]⟩ w2 (HV1.out.later hb2)
  rw [kB2_is, k12_2] at H2
  refine H2.mono ?_
  clear H2
  intro e w3 hres
  obtain ⟨G, rfl, _, _, hb3⟩ := hres.rule
  clear hres
  obtain ⟨w4, hw4⟩ : ∃ W, W = w3.alloc (.cells #[.int .i64 G.k, .string G.nm, .slice G.hA G.head.length G.hc, .int .i64 G.ag, .string G.ofv, .int .i64 G.lim, .slice G.bA G.body.length G.bc] 35) := ⟨_, rfl⟩
  have hb4 : Below w3.heap.size w3 w4 := by rw [hw4]; exact one_new _ _
  have hb3 : Below w2.heap.size w2 w4 := hb3.trans (hb4.mono hb3.size)
  have hb13 : Below w1.heap.size w1 w4 := hb2.trans (hb3.mono (Nat.le_of_lt hs2))
  obtain ⟨n0, n1, n2, n3, n4, n5, n6⟩ := box7p_of ((hb3.block w1.heap.size hs2).trans HX2.out)
  obtain ⟨g2, g3, g4, g5, g6⟩ := HC1.out
  have g2 := (hb13.cell (World.block_lt_of_cell? w1 _ g2)).trans g2
  have g3 := (hb13.cell (World.block_lt_of_cell? w1 _ g3)).trans g3
  have g4 := (hb13.cell (World.block_lt_of_cell? w1 _ g4)).trans g4
  have g5 := (hb13.cell (World.block_lt_of_cell? w1 _ g5)).trans g5
  have g6 := (hb13.cell (World.block_lt_of_cell? w1 _ g6)).trans g6
  have q1 : ((⟨#[98, 105, 103]⟩ : ByteArray) == ⟨#[98, 105, 103]⟩) = true := by decide +kernel
  have HB3 := Lib.hid (HB1.out.trans (hb13.mono HB1.out.size))
  rw [hw4] at n0 n1 n2 n3 n4 n5 n6 g2 g3 g4 g5 g6 HB3
  clear HC1 HX2 HX1 HV1 HB1 hb2 hs2 hb3 hb13 hb4 hw2 hw4 w4
  simp only [RuG.cells]
  go_wp2_with fail
  go_ret
  exact ⟨rfl, HB3.out⟩
end
end Go.Proofs.YtkobfngnnblpeaaGreatDoor
namespace Go.Proofs.YtkobfngnnblpeaaGreatDoor
section
open Go.RowKit

theorem lexR_sz (l : List UInt8) : ∀ x ∈ (lexR l).1, x.t.size ≤ l.length := by
  unfold lexR
  intro x hx
  split at hx
  · simp at hx
  · cases hf : (lexA l.length l).find? (fun t => decide (t.k = 0)) with
    | none =>
      rw [hf] at hx
      exact lexF_sz _ _ _ x hx
    | some t =>
      rw [hf] at hx
      simp at hx
theorem joinA_len (g : Nat → Bool) (m : Nat) : ∀ (ls : List Tok) (i : Nat), (∀ x ∈ ls, x.t.size ≤ m) → (joinA g i ls).length ≤ ls.length * (m + 2)
  | [], _, _ => by simp [joinA]
  | x :: r, i, h => by
    have ih := joinA_len g m r (i + 1) (fun y hy => h y (List.mem_cons_of_mem _ hy))
    have hx : x.t.data.toList.length ≤ m := h x List.mem_cons_self
    have hs : (if 0 < i then sepJ (g i) else []).length ≤ 2 := by
      unfold sepJ
      split
      · split <;> simp
      · simp
    rw [joinA, List.length_append, List.length_append, List.length_cons, Nat.add_mul]
    omega
theorem joinA_succ (g : Nat → Bool) (ls : List Tok) (k : Nat) (x : Tok) (hx : ls[k]? = some x) : joinA g 0 (ls.take (k + 1)) = joinA g 0 (ls.take k) ++ ((if 0 < k then sepJ (g k) else []) ++ x.t.data.toList) := by
  obtain ⟨hk, e⟩ := List.getElem?_eq_some_iff.1 hx
  rw [List.take_add_one, hx, joinA_append, List.length_take, Nat.min_eq_left (by omega), Nat.zero_add]
  simp [joinA]
theorem t_cat0 (bs : List UInt8) (x : ByteArray) : (⟨bs.toArray⟩ : ByteArray) ++ x = ⟨(bs ++ ([] ++ x.data.toList)).toArray⟩ := by
  apply ByteArray.ext
  simp
theorem t_cat1 (bs : List UInt8) (x : ByteArray) : ((⟨bs.toArray⟩ : ByteArray) ++ ⟨#[32]⟩) ++ x = ⟨(bs ++ ([32] ++ x.data.toList)).toArray⟩ := by
  apply ByteArray.ext
  simp
theorem t_cat2 (bs : List UInt8) (x : ByteArray) : (((⟨bs.toArray⟩ : ByteArray) ++ ⟨#[32]⟩) ++ ⟨#[10]⟩) ++ x = ⟨(bs ++ ([32, 10] ++ x.data.toList)).toArray⟩ := by
  apply ByteArray.ext
  simp
/-- The gap ahead of the k-th token. -/
abbrev gapF (gl : List Bool) (k : Nat) : Bool := gl.getD (k % gl.length) false

set_option maxRecDepth 100000 in
set_option maxHeartbeats 40000000 in
theorem parseTokens_all (s : ByteArray) (gA : Option Addr) (gl : List Bool) (gc : Nat) (w : World) (hv : Vars w) (hg : ∀ (j : Nat) (b : Bool), gl[j]? = some b → ∃ a, gA = some a ∧ w.cell? (a.add j) = some (.bool b)) :
    Calls Tryz.prog 3 #[.string s, .slice gA gl.length gc] w fun e w' => e = .returned (.bool true) ∧ Below w.heap.size w w' := by
  have HV := Lib.hid hv
  have hsl : s.data.toList.length = s.size := rfl
  clear hv
  obtain ⟨⟨ls, z, e0⟩, hR⟩ : ∃ x, x = lexR s.data.toList := ⟨_, rfl⟩
  have HR := Lib.hid hR.symm
  clear hR
  by_cases h0 : e0 = 0
  case neg =>
    have b1 : (e0 != 0) = true := by simpa using h0
    clear h0
    go_enter Tryz.func3, Tryz.ntmps3
    go_wp2_with (fail)
    refine (lx_read s _ (by exact HV.out)).mono ?_
    rintro e w1 ⟨A, c, he, hA, _, hag, hb1⟩
    rw [HR.out] at he
    have he' : e = .returned (.tuple #[.slice A ls.length c, .int .i64 z, .int .i64 e0]) := he
    clear he
    subst he'
    have HB1 := Lib.hid hb1
    clear hb1 hA hag
    go_wp2_with (go_at_call 6; refine (known12 _ (by exact HV.out.later HB1.out)).mono ?_; rintro e w3 ⟨rfl, hb3⟩)
    go_ret
    exact ⟨rfl, HB1.out.trans (hb3.mono HB1.out.size)⟩
  case pos =>
  subst h0
  by_cases hsz : 150 < s.size
  case pos =>
    go_enter Tryz.func3, Tryz.ntmps3
    go_wp2_with (fail)
    refine (lx_read s _ (by exact HV.out)).mono ?_
    rintro e w1 ⟨A, c, he, hA, _, hag, hb1⟩
    rw [HR.out] at he
    have he' : e = .returned (.tuple #[.slice A ls.length c, .int .i64 z, .int .i64 0]) := he
    clear he
    subst he'
    have HB1 := Lib.hid hb1
    have d1 : decide ((150 : Int) < (s.size : Int)) = true := by simp; omega
    clear hb1 hA hag
    go_wp2_with (go_at_call 6; refine (known12 _ (by exact HV.out.later HB1.out)).mono ?_; rintro e w3 ⟨rfl, hb3⟩)
    go_ret
    exact ⟨rfl, HB1.out.trans (hb3.mono HB1.out.size)⟩
  case neg =>
  have hll : ls.length ≤ 400 := by
    have h2 := lexR_some (l := s.data.toList) (by rw [HR.out])
    rw [HR.out] at h2
    exact h2.2
  have hts : ∀ x ∈ ls, x.t.size ≤ 150 := fun x hx => by
    have h2 := lexR_sz s.data.toList x (by rw [HR.out]; exact hx)
    omega
  have HTS := Lib.hid hts
  have HJ1 : Hid ((joinA (gapF gl) 0 ls).length ≤ 300 → (ruleR (joinA (gapF gl) 0 ls)).1 = (ruleR s.data.toList).1 ∧ (ruleR (joinA (gapF gl) 0 ls)).2.2 = (ruleR s.data.toList).2.2) := Lib.hid fun h => by
    have h1 := lexR_joined (gapF gl) s.data.toList (by rw [HR.out]) (by rw [HR.out]; exact h)
    rw [HR.out] at h1
    exact ruleR_alike s.data.toList _ (by rw [HR.out]) h1.1 (by rw [HR.out]; exact h1.2)
  clear hts
  go_enter Tryz.func3, Tryz.ntmps3
  go_wp2_with (fail)
  refine (lx_read s _ (by exact HV.out)).mono ?_
  rintro e w1 ⟨A, c, he, hA, hto, hag, hb1⟩
  rw [HR.out] at he hto
  have he' : e = .returned (.tuple #[.slice A ls.length c, .int .i64 z, .int .i64 0]) := he
  clear he
  subst he'
  have hto' : ToksAt w1 A ls := hto
  have HT := Lib.hid hto'
  have HAG := Lib.hid hag
  have HB1 := Lib.hid hb1
  have HG : Hid (∀ (j : Nat) (b : Bool), gl[j]? = some b → ∃ a, gA = some a ∧ w1.cell? (a.add j) = some (.bool b)) := Lib.hid fun j b hj => by
    obtain ⟨a, ha, hc⟩ := hg j b hj
    exact ⟨a, ha, (hb1.cell (World.block_lt_of_cell? w _ hc)).trans hc⟩
  have d1 : decide ((150 : Int) < (s.size : Int)) = false := by simp; omega
  clear hb1 hA hag hto hto' hg
  go_wp2
  go_loopw [8, 9] (fun v i wr => ∃ (k : Nat) (bs : List UInt8), k ≤ ls.length ∧ i = .int .i64 k ∧ v = .string ⟨bs.toArray⟩ ∧ bs.length ≤ k * 152 ∧ Hid (bs = joinA (gapF gl) 0 (ls.take k)) ∧ Below w1.heap.size w1 wr) (fun _ i _ => ls.length - (intOf i).toNat)
  case atStart => exact ⟨0, [], by omega, rfl, rfl, by simp, Lib.hid (by simp [joinA]), Below.refl _ _⟩
  case round =>
    obtain ⟨k, bs, hk, rfl, rfl, hbl, HBS, hb⟩ := hrel
    have HB := Lib.hid hb
    have hto := HT.out.below hb
    clear hb
    by_cases hlt : k < ls.length
    · obtain ⟨⟨xk, xt, ⟨vk, vf, vn, vt⟩, xa⟩, hx⟩ : ∃ x, ls[k]? = some x := ⟨_, List.getElem?_eq_getElem hlt⟩
      obtain ⟨g, rfl⟩ : ∃ g, A = some ⟨g, 0, none⟩ := by
        obtain ⟨a, ha, _⟩ := hto _ _ (flatT_at ls k _ 0 hx (by omega))
        obtain ⟨g, rfl⟩ := HAG.out a ha
        exact ⟨g, ha⟩
      have c1 := hto.at k 1 _ _ hx (by omega) rfl
      have hxt : xt.size ≤ 150 := HTS.out _ (List.mem_of_getElem? hx)
      have hJS := joinA_succ (gapF gl) ls k _ hx
      have hlen : bs.length + 2 + xt.size ≤ (k + 1) * 152 := by rw [Nat.add_mul]; omega
      have hb9 : bs.length ≤ 400 * 152 := Nat.le_trans hbl (Nat.le_trans (Nat.mul_le_mul_right 152 hk) (Nat.mul_le_mul_right 152 hll))
      have HX := Lib.hid hx
      clear hto hx
      by_cases hk0 : 0 < k
      · have d2 : decide ((0 : Int) < (k : Int)) = true := by simp; omega
        by_cases hm : 0 < gl.length
        · obtain ⟨b, hgb⟩ : ∃ b, gl[k % gl.length]? = some b := ⟨_, List.getElem?_eq_getElem (Nat.mod_lt _ hm)⟩
          have hgF : gapF gl k = b := by
            show gl.getD (k % gl.length) false = b
            rw [List.getD_eq_getElem?_getD, hgb]
            rfl
          obtain ⟨a, rfl, hcb⟩ := HG.out _ _ hgb
          have hcb2 : wr.cell? (a.add (k % gl.length)) = some (.bool b) := (HB.out.cell (World.block_lt_of_cell? w1 _ hcb)).trans hcb
          have d3 : decide ((0 : Int) < (gl.length : Int)) = true := by simp; omega
          have q1 : (k : Int).tmod (gl.length : Int) = ((k % gl.length : Nat) : Int) := by rw [Int.tmod_eq_emod_of_nonneg (by omega)]; rfl
          have hml := Nat.mod_lt k hm
          obtain ⟨m, hmm⟩ : ∃ m, k % gl.length = m := ⟨_, rfl⟩
          rw [hmm] at hcb2 q1 hml hgb
          clear hcb hmm
          cases b with
          | true =>
            rw [if_pos hk0, hgF] at hJS
            go_wp2
            go_roundw
            case rel =>
              refine ⟨k + 1, _, by omega, by go_num, by rw [t_cat2], ?_, Lib.hid ?_, HB.out⟩
              · simp only [List.length_append, List.length_cons, List.length_nil]
                have : xt.data.toList.length = xt.size := rfl
                omega
              · rw [HBS.out, hJS]
                rfl
            case measure => simp [intOf]; omega
          | false =>
            rw [if_pos hk0, hgF] at hJS
            go_wp2
            go_roundw
            case rel =>
              refine ⟨k + 1, _, by omega, by go_num, by rw [t_cat1], ?_, Lib.hid ?_, HB.out⟩
              · simp only [List.length_append, List.length_cons, List.length_nil]
                have : xt.data.toList.length = xt.size := rfl
                omega
              · rw [HBS.out, hJS]
                rfl
            case measure => simp [intOf]; omega
        · have d3 : decide ((0 : Int) < (gl.length : Int)) = false := decide_eq_false (by omega)
          have hgF : gapF gl k = false := by
            have : gl = [] := List.length_eq_zero_iff.1 (by omega)
            subst this
            rfl
          rw [if_pos hk0, hgF] at hJS
          go_wp2
          go_roundw
          case rel =>
            refine ⟨k + 1, _, by omega, by go_num, by rw [t_cat1], ?_, Lib.hid ?_, HB.out⟩
            · simp only [List.length_append, List.length_cons, List.length_nil]
              have : xt.data.toList.length = xt.size := rfl
              omega
            · rw [HBS.out, hJS]
              rfl
          case measure => simp [intOf]; omega
      · have d2 : decide ((0 : Int) < (k : Int)) = false := by simp; omega
        rw [if_neg hk0] at hJS
        go_wp2
        go_roundw
        case rel =>
          refine ⟨k + 1, _, by omega, by go_num, by rw [t_cat0], ?_, Lib.hid ?_, HB.out⟩
          · simp only [List.length_append, List.length_nil]
            have : xt.data.toList.length = xt.size := rfl
            omega
          · rw [HBS.out, hJS]
        case measure => simp [intOf]; omega
    · have hk' : k = ls.length := by omega
      subst hk'
      rw [List.take_length] at HBS
      clear hlt hk
      have HJ := HJ1
      rw [← HBS.out] at HJ
      have hb9 : bs.length ≤ 400 * 152 := Nat.le_trans hbl (Nat.mul_le_mul_right 152 hll)
      clear HBS HJ1 hbl
      have H1 : Hid (∀ W, Below w1.heap.size w1 W → Calls Tryz.prog 7 #[.string s] W fun e w' => RuRes W w' e (ruleR s.data.toList)) := Lib.hid fun W hW => p_rule s W (HV.out.later (HB1.out.trans (hW.mono HB1.out.size)))
      have H2 : Hid (∀ W, Below w1.heap.size w1 W → Calls Tryz.prog 7 #[.string ⟨bs.toArray⟩] W fun e w' => RuRes W w' e (ruleR bs)) := Lib.hid fun W hW => p_rule ⟨bs.toArray⟩ W (HV.out.later (HB1.out.trans (hW.mono HB1.out.size)))
      have HF1 := Lib.hid (ruleR_few s.data.toList)
      obtain ⟨⟨R1, z1, y1⟩, hR1⟩ : ∃ x, ruleR s.data.toList = x := ⟨_, rfl⟩
      obtain ⟨⟨R2, z2, y2⟩, hR2⟩ : ∃ x, ruleR bs = x := ⟨_, rfl⟩
      rw [hR1] at H1 HF1 HJ
      rw [hR2] at H2 HJ
      have HJ2 : Hid (bs.length ≤ 300 → R2 = R1 ∧ y2 = y1) := Lib.hid HJ.out
      clear hR1 hR2 HJ
      go_wp2_with (fail)
      refine (H1.out _ HB.out).mono ?_
      intro e w2 hres
      obtain ⟨G1, rfl, hp1, hok1, hb1⟩ := hres.rule
      obtain ⟨k1, nm1, hA1, hc1, head1, ag1, ofv1, lim1, bA1, bc1, body1⟩ := G1
      have hx1 := heap_alloc_new w2 (.cells #[.int .i64 k1, .string nm1, .slice hA1 head1.length hc1, .int .i64 ag1, .string ofv1, .int .i64 lim1, .slice bA1 body1.length bc1] 35)
      have HX1 := Lib.hid hx1
      have HO1 := Lib.hid (hok1.below (one_new w2 (.cells #[.int .i64 k1, .string nm1, .slice hA1 head1.length hc1, .int .i64 ag1, .string ofv1, .int .i64 lim1, .slice bA1 body1.length bc1] 35)))
      have hq1 := hb1.alloc hb1.size (.cells #[.int .i64 k1, .string nm1, .slice hA1 head1.length hc1, .int .i64 ag1, .string ofv1, .int .i64 lim1, .slice bA1 body1.length bc1] 35)
      have HC1 := Lib.hid (HB.out.trans (hq1.mono HB.out.size))
      have HP1 : Hid (RuG.pl (⟨k1, nm1, hA1, hc1, head1, ag1, ofv1, lim1, bA1, bc1, body1⟩ : RuG) = R1) := Lib.hid hp1
      have hz1 : (w2.alloc (.cells #[.int .i64 k1, .string nm1, .slice hA1 head1.length hc1, .int .i64 ag1, .string ofv1, .int .i64 lim1, .slice bA1 body1.length bc1] 35)).heap.size = w2.heap.size + 1 := World.size_alloc _ _
      have HZ1 := Lib.hid hz1
      clear hb1 hres H1 hok1 hx1 hq1 hp1 hz1
      simp only [RuG.cells]
      go_wp2_with (fail)
      refine (H2.out _ HC1.out).mono ?_
      intro e w3 hres
      obtain ⟨G2, rfl, hp2, hok2, hb2⟩ := hres.rule
      obtain ⟨k2, nm2, hA2, hc2, head2, ag2, ofv2, lim2, bA2, bc2, body2⟩ := G2
      have hq2 := hb2.alloc hb2.size (.cells #[.int .i64 k2, .string nm2, .slice hA2 head2.length hc2, .int .i64 ag2, .string ofv2, .int .i64 lim2, .slice bA2 body2.length bc2] 35)
      have HK1 : Hid (RuG.Ok (w3.alloc (.cells #[.int .i64 k2, .string nm2, .slice hA2 head2.length hc2, .int .i64 ag2, .string ofv2, .int .i64 lim2, .slice bA2 body2.length bc2] 35)) (⟨k1, nm1, hA1, hc1, head1, ag1, ofv1, lim1, bA1, bc1, body1⟩ : RuG)) := Lib.hid (HO1.out.below hq2)
      have HK2 : Hid (RuG.Ok (w3.alloc (.cells #[.int .i64 k2, .string nm2, .slice hA2 head2.length hc2, .int .i64 ag2, .string ofv2, .int .i64 lim2, .slice bA2 body2.length bc2] 35)) (⟨k2, nm2, hA2, hc2, head2, ag2, ofv2, lim2, bA2, bc2, body2⟩ : RuG)) := Lib.hid (hok2.below (one_new w3 (.cells #[.int .i64 k2, .string nm2, .slice hA2 head2.length hc2, .int .i64 ag2, .string ofv2, .int .i64 lim2, .slice bA2 body2.length bc2] 35)))
      have HRR : Hid (bs.length ≤ 300 → ∀ W, Below (w3.alloc (.cells #[.int .i64 k2, .string nm2, .slice hA2 head2.length hc2, .int .i64 ag2, .string ofv2, .int .i64 lim2, .slice bA2 body2.length bc2] 35)).heap.size (w3.alloc (.cells #[.int .i64 k2, .string nm2, .slice hA2 head2.length hc2, .int .i64 ag2, .string ofv2, .int .i64 lim2, .slice bA2 body2.length bc2] 35)) W → Calls Tryz.prog 8 #[.agg #[.int .i64 k1, .string nm1, .slice hA1 head1.length hc1, .int .i64 ag1, .string ofv1, .int .i64 lim1, .slice bA1 body1.length bc1], .agg #[.int .i64 k2, .string nm2, .slice hA2 head2.length hc2, .int .i64 ag2, .string ofv2, .int .i64 lim2, .slice bA2 body2.length bc2]] W fun e w' => e = .returned (.bool true) ∧ Below W.heap.size W w') := Lib.hid fun hle W hW => r_same (⟨k1, nm1, hA1, hc1, head1, ag1, ofv1, lim1, bA1, bc1, body1⟩ : RuG) (⟨k2, nm2, hA2, hc2, head2, ag2, ofv2, lim2, bA2, bc2, body2⟩ : RuG) W (HK1.out.below hW) (HK2.out.below hW) (by rw [HP1.out, hp2]; exact (HJ2.out hle).1.symm) (by rw [HP1.out]; exact HF1.out)
      have HKN : Hid (∀ W, Below (w3.alloc (.cells #[.int .i64 k2, .string nm2, .slice hA2 head2.length hc2, .int .i64 ag2, .string ofv2, .int .i64 lim2, .slice bA2 body2.length bc2] 35)).heap.size (w3.alloc (.cells #[.int .i64 k2, .string nm2, .slice hA2 head2.length hc2, .int .i64 ag2, .string ofv2, .int .i64 lim2, .slice bA2 body2.length bc2] 35)) W → Calls Tryz.prog 6 #[] W fun e w' => e = .returned (.bool true) ∧ Below W.heap.size W w') := Lib.hid fun W hW => known12 W (HV.out.later (HB1.out.trans ((HC1.out.trans ((hq2.trans (hW.mono hq2.size)).mono HC1.out.size)).mono HB1.out.size)))
      have HS : Hid (∀ W, Below (w3.alloc (.cells #[.int .i64 k2, .string nm2, .slice hA2 head2.length hc2, .int .i64 ag2, .string ofv2, .int .i64 lim2, .slice bA2 body2.length bc2] 35)).heap.size (w3.alloc (.cells #[.int .i64 k2, .string nm2, .slice hA2 head2.length hc2, .int .i64 ag2, .string ofv2, .int .i64 lim2, .slice bA2 body2.length bc2] 35)) W → W.heap[w2.heap.size]? = some (.cells #[.int .i64 k1, .string nm1, .slice hA1 head1.length hc1, .int .i64 ag1, .string ofv1, .int .i64 lim1, .slice bA1 body1.length bc1] 35 (0, 0)) ∧ W.heap[w3.heap.size]? = some (.cells #[.int .i64 k2, .string nm2, .slice hA2 head2.length hc2, .int .i64 ag2, .string ofv2, .int .i64 lim2, .slice bA2 body2.length bc2] 35 (0, 0))) := Lib.hid fun W hW => ⟨((hq2.trans (hW.mono hq2.size)).block w2.heap.size (by rw [HZ1.out]; omega)).trans HX1.out, (hW.block w3.heap.size (by rw [World.size_alloc]; omega)).trans (heap_alloc_new w3 (.cells #[.int .i64 k2, .string nm2, .slice hA2 head2.length hc2, .int .i64 ag2, .string ofv2, .int .i64 lim2, .slice bA2 body2.length bc2] 35))⟩
      have HB2 := Lib.hid (HB1.out.trans ((HC1.out.trans (hq2.mono HC1.out.size)).mono HB1.out.size))
      clear hb2 hq2 hres H2 hok2 hp2 HO1 HX1 HZ1 HP1 HC1 HK1 HK2 HF1
      obtain ⟨g1, g2⟩ := HS.out _ (Below.refl _ _)
      obtain ⟨n0, n1, n2, n3, n4, n5, n6⟩ := box7p_of g1
      obtain ⟨n7, n8, n9, n10, n11, n12, n13⟩ := box7p_of g2
      clear g1 g2
      simp only [RuG.cells]
      have hbsz : (⟨bs.toArray⟩ : ByteArray).size = bs.length := size_mk bs
      by_cases hbig : 300 < bs.length
      · have d4 : decide ((300 : Int) < (((⟨bs.toArray⟩ : ByteArray).size : Nat) : Int)) = true := decide_eq_true (by rw [hbsz]; omega)
        have d5 : decide ((300 : Int) < (bs.length : Int)) = true := decide_eq_true (by omega)
        clear HRR hbsz
        go_wp2_with (go_at_call 6; refine (HKN.out _ (by exact Below.refl _ _)).mono ?_; rintro e w9 ⟨rfl, hb9k⟩; have HB9 := Lib.hid (HB2.out.trans (hb9k.mono HB2.out.size)); clear hb9k)
        go_ret
        exact ⟨rfl, HB9.out⟩
      · have d4 : decide ((300 : Int) < (((⟨bs.toArray⟩ : ByteArray).size : Nat) : Int)) = false := decide_eq_false (by rw [hbsz]; omega)
        have d5 : decide ((300 : Int) < (bs.length : Int)) = false := decide_eq_false (by omega)
        obtain ⟨_, rfl⟩ := HJ2.out (by omega)
        have HR2 := Lib.hid (HRR.out (by omega))
        have ebb : (y2 == y2) = true := by simp
        clear HRR hbsz
        go_wp2_with (first
          | (go_at_call 8; refine (HR2.out _ (by exact Below.refl _ _)).mono ?_; rintro e w8 ⟨rfl, hb8⟩; have HB8 := Lib.hid hb8; clear hb8)
          | (go_at_call 6; refine (HKN.out w8 HB8.out).mono ?_; rintro e w9 ⟨rfl, hb9k⟩; have HB9 := Lib.hid (HB2.out.trans ((HB8.out.trans (hb9k.mono HB8.out.size)).mono HB2.out.size)); clear hb9k))
        go_ret
        exact ⟨rfl, HB9.out⟩
end
end Go.Proofs.YtkobfngnnblpeaaGreatDoor
