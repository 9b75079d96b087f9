/-
  What the statement asks of fixed calls comes.
  No condition.
-/
import Derived.Test.YtojpccngcicbmaaYx
import Derived.Test.YtojpccngcicbmaaYy
import Derived.KernelRfl
namespace Go.Proofs.Ytojpccngcicbmaa
open Go.RowKit Go.Maps

theorem known_one (k1 k2 : Int) (hA1 hA2 : Option Addr) (n1 c1 n2 c2 : Nat) (g1 g2 : Int) (o1 o2 : ByteArray) (l1 l2 : Int) (b1 b2 : Option Addr) (d1 d2 : Nat) :
    orderL [⟨k1, ⟨#[97]⟩, hA1, n1, c1, g1, o1, l1, b1, d1, litsK [⟨#[98]⟩]⟩, ⟨k2, ⟨#[98]⟩, hA2, n2, c2, g2, o2, l2, b2, d2, litsK [⟨#[99]⟩]⟩] = ([⟨#[98]⟩, ⟨#[97]⟩], 0) := by
  rw [order_goes (by simp) (by unfold nms; simp)]
  kernel_rfl
theorem known_two (k1 k2 : Int) (hA1 hA2 : Option Addr) (n1 c1 n2 c2 : Nat) (g1 g2 : Int) (o1 o2 : ByteArray) (l1 l2 : Int) (b1 b2 : Option Addr) (d1 d2 : Nat) :
    orderL [⟨k1, ⟨#[97]⟩, hA1, n1, c1, g1, o1, l1, b1, d1, litsK [⟨#[98]⟩]⟩, ⟨k2, ⟨#[98]⟩, hA2, n2, c2, g2, o2, l2, b2, d2, litsK [⟨#[122]⟩, ⟨#[97]⟩]⟩] = ([], 13) := by
  rw [order_goes (by simp) (by unfold nms; simp)]
  kernel_rfl
theorem known_three (k1 k2 : Int) (hA1 hA2 : Option Addr) (n1 c1 n2 c2 : Nat) (g1 g2 : Int) (o1 o2 : ByteArray) (l1 l2 : Int) (b1 b2 : Option Addr) (d1 d2 : Nat) :
    deepL [⟨k1, ⟨#[97]⟩, hA1, n1, c1, g1, o1, l1, b1, d1, litsK [⟨#[98]⟩]⟩, ⟨k2, ⟨#[98]⟩, hA2, n2, c2, g2, o2, l2, b2, d2, litsK []⟩] ⟨#[97]⟩ = 2 := by
  have h : orderL [⟨k1, ⟨#[97]⟩, hA1, n1, c1, g1, o1, l1, b1, d1, litsK [⟨#[98]⟩]⟩, ⟨k2, ⟨#[98]⟩, hA2, n2, c2, g2, o2, l2, b2, d2, litsK []⟩] = ([⟨#[98]⟩, ⟨#[97]⟩], 0) := by
    rw [order_goes (by simp) (by unfold nms; simp)]
    kernel_rfl
  refine (deepL_at (by rw [h]) (hasX_iff.2 (by unfold nms; simp))).trans ?_
  kernel_rfl

theorem lit_cellR (w : World) (l : List Rl) (ty : TypeId) (j : Nat) (v : Value) (h : (l.flatMap Rl.cells)[j]? = some v) (cs : Array Value) (hcs : cs.toList = l.flatMap Rl.cells) : (w.alloc (.cells cs ty)).cell? ⟨w.heap.size, j, none⟩ = some v := by
  rw [new_cellT, ← Array.getElem?_toList, hcs]
  exact h
theorem flatR_at : ∀ (ls : List Rl) (i : Nat) (x : Rl), ls[i]? = some x → ∀ j u, x.cells[j]? = some u → (ls.flatMap Rl.cells)[i * 7 + j]? = some u := by
  intro ls
  induction ls with
  | nil => intro i x h; simp at h
  | cons y ls ih =>
    intro i x h j u hj
    rw [List.flatMap_cons]
    cases i with
    | zero =>
      have e : y = x := by simpa using h
      subst e
      rw [List.getElem?_append_left (by have := (List.getElem?_eq_some_iff.1 hj).1; omega)]
      simpa using hj
    | succ i =>
      have hy : y.cells.length = 7 := rfl
      rw [List.getElem?_append_right (by omega)]
      rw [← ih i x (by simpa using h) j u hj]
      congr 1
      omega
theorem rlAt_cells {W : World} {g o : Nat} {r : Rl} (h : ∀ j u, r.cells[j]? = some u → W.cell? ⟨g, o + j, none⟩ = some u) : RlAt W ⟨g, o, none⟩ r :=
  ⟨h 0 _ rfl, h 1 _ rfl, h 2 _ rfl, h 3 _ rfl, h 4 _ rfl, h 5 _ rfl, h 6 _ rfl⟩
/-- Rules in a block of their own. -/
theorem lit_rules (w : World) (l : List Rl) (ty : TypeId) (cs : Array Value) (hcs : cs.toList = l.flatMap Rl.cells) (hok : ∀ r ∈ l, r.Ok w) : RlsAt (w.alloc (.cells cs ty)) (some ⟨w.heap.size, 0, none⟩) l := by
  intro i r hi
  refine ⟨_, rfl, ?_, (hok r (List.mem_of_getElem? hi)).below (one_new _ _)⟩
  rw [zero_add_addr]
  exact rlAt_cells fun j u hj => lit_cellR w l ty _ u (flatR_at l i r hi j u hj) cs hcs
theorem litsK_ok {W : World} {r : Rl} {ss : List ByteArray} (hb : r.b = litsK ss) (h : LmsAt W r.bA r.b) (hs : ss.length ≤ 20) (hz : ∀ s ∈ ss, s.size ≤ 100) : r.Ok W := by
  refine ⟨h, by rw [hb, litsK_len]; omega, fun x hx => ?_⟩
  rw [hb] at hx
  unfold litsK at hx
  obtain ⟨p, hp, rfl⟩ := List.mem_map.1 hx
  have hm : p.1 ∈ ss := (List.mem_zipIdx hp).2.2 ▸ List.getElem_mem _
  have := hz _ hm
  unfold maxLen
  show p.1.size ≤ _
  omega

theorem head_some (g : Nat) : Head0 (some ⟨g, 0, none⟩) := fun a h => by cases h; exact ⟨_, rfl⟩
/-- A rule that asks makes. -/
def RuleP (w : World) (nm : ByteArray) (ss : List ByteArray) (n : Nat) (e : Ending) (w' : World) : Prop :=
  ∃ (k : Int) (hA : Option Addr) (hn hc : Nat) (ag : Int) (ofv : ByteArray) (lim : Int) (bA : Option Addr) (bc : Nat),
    e = .returned (.agg #[.int .i64 k, .string nm, .slice hA hn hc, .int .i64 ag, .string ofv, .int .i64 lim, .slice bA n bc]) ∧ Rl.Ok w' ⟨k, nm, hA, hn, hc, ag, ofv, lim, bA, bc, litsK ss⟩ ∧ Below w.heap.size w w'
theorem asks_at {A : Option Addr} {nm : ByteArray} {ss : List ByteArray} {n : Nat} {w0 w : World} (hn : n = ss.length) (hA : TxsAt w A ss) (hag : Head0 A) (hl : ss.length ≤ 20) (hz : ∀ s ∈ ss, s.size ≤ 100) (hb : Below w0.heap.size w0 w) :
    Calls Try.prog 18 #[.string nm, .slice A n n] w (RuleP w0 nm ss n) := by
  subst hn
  refine (lw_asks nm ss A ss.length w hl hA hag).mono ?_
  rintro e w' ⟨r, rfl, hnm, hb2, hlm, hbl⟩
  have hok := litsK_ok hb2 hlm hl hz
  obtain ⟨k, nm', hA, hn, hc, ag, ofv, lim, bA, bc, b⟩ := r
  simp only at hnm hb2
  subst hnm
  subst hb2
  refine ⟨k, hA, hn, hc, ag, ofv, lim, bA, bc, ?_, hok, hb.trans (hbl.mono hb.size)⟩
  unfold Rl.cells
  simp only [litsK_len]
theorem asks_lit (nm : ByteArray) (ss : List ByteArray) (n : Nat) (w : World) (cs : Array Value) (hn : n = ss.length) (hcs : cs.toList = ss.map Value.string) (hl : ss.length ≤ 20) (hz : ∀ s ∈ ss, s.size ≤ 100) :
    Calls Try.prog 18 #[.string nm, .slice (some ⟨w.heap.size, 0, none⟩) n n] (w.alloc (.cells cs 9)) (RuleP w nm ss n) :=
  asks_at hn (lit_texts w cs ss w.heap.size rfl hcs) (head_some _) hl hz (one_new _ _)

set_option maxRecDepth 100000 in
set_option maxHeartbeats 8000000 in
theorem lw_known (w : World) : Calls Try.prog 6 #[] w fun e w' => e = .returned (.bool true) ∧ Below w.heap.size w w' := by
  have A1 := Lib.hid (asks_lit ⟨#[97]⟩ [⟨#[98]⟩] 1 w #[.string ⟨#[98]⟩] rfl rfl (by decide) (by decide))
  go_enter Try.func6, Try.ntmps6
  go_wp2_with fail
  refine A1.out.mono ?_
  rintro e w1 ⟨k1, hA1, hn1, hc1, ag1, ofv1, lim1, bA1, bc1, rfl, ok1, hb1⟩
  have OK1 := Lib.hid ok1
  have B1 := Lib.hid hb1
  clear ok1 hb1 A1
  have A2 := Lib.hid (asks_lit ⟨#[98]⟩ [⟨#[99]⟩] 1 w1 #[.string ⟨#[99]⟩] rfl rfl (by decide) (by decide))
  go_wp2_with fail
  refine A2.out.mono ?_
  rintro e w2 ⟨k2, hA2, hn2, hc2, ag2, ofv2, lim2, bA2, bc2, rfl, ok2, hb2⟩
  have OK2 := Lib.hid ok2
  have B2 := Lib.hid hb2
  clear ok2 hb2 A2
  have HR1 := lit_rules w2 [⟨k1, ⟨#[97]⟩, hA1, hn1, hc1, ag1, ofv1, lim1, bA1, bc1, litsK [⟨#[98]⟩]⟩, ⟨k2, ⟨#[98]⟩, hA2, hn2, hc2, ag2, ofv2, lim2, bA2, bc2, litsK [⟨#[99]⟩]⟩] 30 #[.int .i64 k1, .string ⟨#[97]⟩, .slice hA1 hn1 hc1, .int .i64 ag1, .string ofv1, .int .i64 lim1, .slice bA1 1 bc1, .int .i64 k2, .string ⟨#[98]⟩, .slice hA2 hn2 hc2, .int .i64 ag2, .string ofv2, .int .i64 lim2, .slice bA2 1 bc2] rfl (fun r hr => by
    rcases List.mem_cons.1 hr with rfl | hr
    · exact OK1.out.below B2.out
    · rw [List.mem_singleton.1 hr]
      exact OK2.out)
  have HN1 : ∀ r ∈ [(⟨k1, ⟨#[97]⟩, hA1, hn1, hc1, ag1, ofv1, lim1, bA1, bc1, litsK [⟨#[98]⟩]⟩ : Rl), ⟨k2, ⟨#[98]⟩, hA2, hn2, hc2, ag2, ofv2, lim2, bA2, bc2, litsK [⟨#[99]⟩]⟩], r.nm.size ≤ maxLen := fun r hr => by
    rcases List.mem_cons.1 hr with rfl | hr
    · show (⟨#[97]⟩ : ByteArray).size ≤ maxLen
      decide
    · rw [List.mem_singleton.1 hr]
      show (⟨#[98]⟩ : ByteArray).size ≤ maxLen
      decide
  have HO1 := p_Order [⟨k1, ⟨#[97]⟩, hA1, hn1, hc1, ag1, ofv1, lim1, bA1, bc1, litsK [⟨#[98]⟩]⟩, ⟨k2, ⟨#[98]⟩, hA2, hn2, hc2, ag2, ofv2, lim2, bA2, bc2, litsK [⟨#[99]⟩]⟩] (some ⟨w2.heap.size, 0, none⟩) 2 _ (by simp) HR1 HN1
  rw [known_one k1 k2 hA1 hA2 hn1 hc1 hn2 hc2 ag1 ag2 ofv1 ofv2 lim1 lim2 bA1 bA2 bc1 bc2] at HO1
  have HOH1 := Lib.hid HO1
  clear HO1 HR1 HN1
  go_wp2_with fail
  refine HOH1.out.mono ?_
  rintro e w3 ⟨v1, rfl, hv1, hb1⟩
  have V1 := Lib.hid hv1
  have BO1 := Lib.hid ((one_new w2 (.cells #[.int .i64 k1, .string ⟨#[97]⟩, .slice hA1 hn1 hc1, .int .i64 ag1, .string ofv1, .int .i64 lim1, .slice bA1 1 bc1, .int .i64 k2, .string ⟨#[98]⟩, .slice hA2 hn2 hc2, .int .i64 ag2, .string ofv2, .int .i64 lim2, .slice bA2 1 bc2] 30)).trans (hb1.mono (by simp)))
  obtain ⟨Av1, cv1, hvv1⟩ := hv1.form
  subst hvv1
  clear hv1 hb1 HOH1
  have A3 := Lib.hid (asks_lit ⟨#[97]⟩ [⟨#[98]⟩] 1 w3 #[.string ⟨#[98]⟩] rfl rfl (by decide) (by decide))
  go_wp2_with fail
  refine A3.out.mono ?_
  rintro e w4 ⟨k3, hA3, hn3, hc3, ag3, ofv3, lim3, bA3, bc3, rfl, ok3, hb3⟩
  have OK3 := Lib.hid ok3
  have B3 := Lib.hid hb3
  clear ok3 hb3 A3
  have A4 := Lib.hid (asks_lit ⟨#[98]⟩ [⟨#[122]⟩, ⟨#[97]⟩] 2 w4 #[.string ⟨#[122]⟩, .string ⟨#[97]⟩] rfl rfl (by decide) (by decide))
  go_wp2_with fail
  refine A4.out.mono ?_
  rintro e w5 ⟨k4, hA4, hn4, hc4, ag4, ofv4, lim4, bA4, bc4, rfl, ok4, hb4⟩
  have OK4 := Lib.hid ok4
  have B4 := Lib.hid hb4
  clear ok4 hb4 A4
  have HR3 := lit_rules w5 [⟨k3, ⟨#[97]⟩, hA3, hn3, hc3, ag3, ofv3, lim3, bA3, bc3, litsK [⟨#[98]⟩]⟩, ⟨k4, ⟨#[98]⟩, hA4, hn4, hc4, ag4, ofv4, lim4, bA4, bc4, litsK [⟨#[122]⟩, ⟨#[97]⟩]⟩] 30 #[.int .i64 k3, .string ⟨#[97]⟩, .slice hA3 hn3 hc3, .int .i64 ag3, .string ofv3, .int .i64 lim3, .slice bA3 1 bc3, .int .i64 k4, .string ⟨#[98]⟩, .slice hA4 hn4 hc4, .int .i64 ag4, .string ofv4, .int .i64 lim4, .slice bA4 2 bc4] rfl (fun r hr => by
    rcases List.mem_cons.1 hr with rfl | hr
    · exact OK3.out.below B4.out
    · rw [List.mem_singleton.1 hr]
      exact OK4.out)
  have HN3 : ∀ r ∈ [(⟨k3, ⟨#[97]⟩, hA3, hn3, hc3, ag3, ofv3, lim3, bA3, bc3, litsK [⟨#[98]⟩]⟩ : Rl), ⟨k4, ⟨#[98]⟩, hA4, hn4, hc4, ag4, ofv4, lim4, bA4, bc4, litsK [⟨#[122]⟩, ⟨#[97]⟩]⟩], r.nm.size ≤ maxLen := fun r hr => by
    rcases List.mem_cons.1 hr with rfl | hr
    · show (⟨#[97]⟩ : ByteArray).size ≤ maxLen
      decide
    · rw [List.mem_singleton.1 hr]
      show (⟨#[98]⟩ : ByteArray).size ≤ maxLen
      decide
  have HO3 := p_Order [⟨k3, ⟨#[97]⟩, hA3, hn3, hc3, ag3, ofv3, lim3, bA3, bc3, litsK [⟨#[98]⟩]⟩, ⟨k4, ⟨#[98]⟩, hA4, hn4, hc4, ag4, ofv4, lim4, bA4, bc4, litsK [⟨#[122]⟩, ⟨#[97]⟩]⟩] (some ⟨w5.heap.size, 0, none⟩) 2 _ (by simp) HR3 HN3
  rw [known_two k3 k4 hA3 hA4 hn3 hc3 hn4 hc4 ag3 ag4 ofv3 ofv4 lim3 lim4 bA3 bA4 bc3 bc4] at HO3
  have HOH3 := Lib.hid HO3
  clear HO3 HR3 HN3
  go_wp2_with fail
  refine HOH3.out.mono ?_
  rintro e w6 ⟨v3, rfl, hv3, hb3⟩
  have V3 := Lib.hid hv3
  have BO3 := Lib.hid ((one_new w5 (.cells #[.int .i64 k3, .string ⟨#[97]⟩, .slice hA3 hn3 hc3, .int .i64 ag3, .string ofv3, .int .i64 lim3, .slice bA3 1 bc3, .int .i64 k4, .string ⟨#[98]⟩, .slice hA4 hn4 hc4, .int .i64 ag4, .string ofv4, .int .i64 lim4, .slice bA4 2 bc4] 30)).trans (hb3.mono (by simp)))
  obtain ⟨Av3, cv3, hvv3⟩ := hv3.form
  subst hvv3
  clear hv3 hb3 HOH3
  have hv16 := ((V1.out.below B3.out (Nat.le_refl _)).below B4.out (Nat.le_refl _)).below BO3.out (Nat.le_refl _)
  obtain ⟨Ax, cx, hxe, _, _, htx, hgx⟩ := hv16.slice
  injection hxe with hxe1 hxe2 hxe3
  subst hxe1
  subst hxe3
  have HT := Lib.hid (r_texts [⟨#[98]⟩, ⟨#[97]⟩] Av1 (some ⟨w6.heap.size, 0, none⟩) cv1 2 (w6.alloc (.cells #[.string ⟨#[98]⟩, .string ⟨#[97]⟩] 9)) (by decide) (htx.below (one_new _ _)) hgx (lit_texts w6 #[.string ⟨#[98]⟩, .string ⟨#[97]⟩] [⟨#[98]⟩, ⟨#[97]⟩] w6.heap.size rfl rfl) (head_some _))
  clear hv16 htx hgx
  go_wp2_with fail
  refine HT.out.mono ?_
  rintro e w7 ⟨rfl, hb7⟩
  have B7 := Lib.hid ((one_new w6 (.cells #[.string ⟨#[98]⟩, .string ⟨#[97]⟩] 9)).trans (hb7.mono (by simp)))
  clear hb7 HT
  have A5 := Lib.hid (asks_lit ⟨#[97]⟩ [⟨#[98]⟩] 1 w7 #[.string ⟨#[98]⟩] rfl rfl (by decide) (by decide))
  go_wp2_with fail
  refine A5.out.mono ?_
  rintro e w8 ⟨k5, hA5, hn5, hc5, ag5, ofv5, lim5, bA5, bc5, rfl, ok5, hb5⟩
  have OK5 := Lib.hid ok5
  have B5 := Lib.hid hb5
  clear ok5 hb5 A5
  have A6 := Lib.hid (asks_at (A := none) (nm := ⟨#[98]⟩) (ss := []) (n := 0) (w0 := w8) (w := w8) rfl (txs_none _) head_none (by decide) (by decide) (Below.refl _ _))
  go_wp2_with fail
  refine A6.out.mono ?_
  rintro e w9 ⟨k6, hA6, hn6, hc6, ag6, ofv6, lim6, bA6, bc6, rfl, ok6, hb6⟩
  have OK6 := Lib.hid ok6
  have B6 := Lib.hid hb6
  clear ok6 hb6 A6
  have HR5 := lit_rules w9 [⟨k5, ⟨#[97]⟩, hA5, hn5, hc5, ag5, ofv5, lim5, bA5, bc5, litsK [⟨#[98]⟩]⟩, ⟨k6, ⟨#[98]⟩, hA6, hn6, hc6, ag6, ofv6, lim6, bA6, bc6, litsK []⟩] 30 #[.int .i64 k5, .string ⟨#[97]⟩, .slice hA5 hn5 hc5, .int .i64 ag5, .string ofv5, .int .i64 lim5, .slice bA5 1 bc5, .int .i64 k6, .string ⟨#[98]⟩, .slice hA6 hn6 hc6, .int .i64 ag6, .string ofv6, .int .i64 lim6, .slice bA6 0 bc6] rfl (fun r hr => by
    rcases List.mem_cons.1 hr with rfl | hr
    · exact OK5.out.below B6.out
    · rw [List.mem_singleton.1 hr]
      exact OK6.out)
  have HN5 : ∀ r ∈ [(⟨k5, ⟨#[97]⟩, hA5, hn5, hc5, ag5, ofv5, lim5, bA5, bc5, litsK [⟨#[98]⟩]⟩ : Rl), ⟨k6, ⟨#[98]⟩, hA6, hn6, hc6, ag6, ofv6, lim6, bA6, bc6, litsK []⟩], r.nm.size ≤ maxLen := fun r hr => by
    rcases List.mem_cons.1 hr with rfl | hr
    · show (⟨#[97]⟩ : ByteArray).size ≤ maxLen
      decide
    · rw [List.mem_singleton.1 hr]
      show (⟨#[98]⟩ : ByteArray).size ≤ maxLen
      decide
  have HD := p_Deep [⟨k5, ⟨#[97]⟩, hA5, hn5, hc5, ag5, ofv5, lim5, bA5, bc5, litsK [⟨#[98]⟩]⟩, ⟨k6, ⟨#[98]⟩, hA6, hn6, hc6, ag6, ofv6, lim6, bA6, bc6, litsK []⟩] (some ⟨w9.heap.size, 0, none⟩) 2 ⟨#[97]⟩ _ (by simp) HR5 HN5 (by decide)
  rw [known_three k5 k6 hA5 hA6 hn5 hc5 hn6 hc6 ag5 ag6 ofv5 ofv6 lim5 lim6 bA5 bA6 bc5 bc6] at HD
  have HDH := Lib.hid HD
  clear HD HR5 HN5
  go_wp2_with fail
  refine HDH.out.mono ?_
  rintro e w10 ⟨rfl, hb10⟩
  have B10 := Lib.hid ((one_new w9 (.cells #[.int .i64 k5, .string ⟨#[97]⟩, .slice hA5 hn5 hc5, .int .i64 ag5, .string ofv5, .int .i64 lim5, .slice bA5 1 bc5, .int .i64 k6, .string ⟨#[98]⟩, .slice hA6 hn6 hc6, .int .i64 ag6, .string ofv6, .int .i64 lim6, .slice bA6 0 bc6] 30)).trans (hb10.mono (by simp)))
  clear hb10 HDH
  go_wp2
  go_ret
  refine ⟨rfl, ?_⟩
  have c1 := B1.out
  have c2 := c1.trans (B2.out.mono c1.size)
  have c3 := c2.trans (BO1.out.mono c2.size)
  have c4 := c3.trans (B3.out.mono c3.size)
  have c5 := c4.trans (B4.out.mono c4.size)
  have c6 := c5.trans (BO3.out.mono c5.size)
  have c7 := c6.trans (B7.out.mono c6.size)
  have c8 := c7.trans (B5.out.mono c7.size)
  have c9 := c8.trans (B6.out.mono c8.size)
  exact c9.trans (B10.out.mono c9.size)
end Go.Proofs.Ytojpccngcicbmaa
