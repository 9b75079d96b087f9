/-
  Whether conditions hold of a row, as the document has it, in every world; nothing that was there is changed.
  No condition but that a list of conditions is no longer than a million, and texts no longer than they can be.
-/
import Derived.Test.YtpliofhphijdkaaPkf
import Derived.Deep.RegionLaw
namespace Go.Proofs.Ytpliofhphijdkaa
open Go.RowKit

/-- A cell of a row, as the document tells it: the value, whether it is there. -/
def cellV (xs : List V) (z : Int) : V × Bool := if inR xs.length z = true then (getV xs z, true) else (⟨0, false, 0, ⟨#[]⟩⟩, false)
def Cell (w : World) (r : V × Bool) (e : Ending) (w' : World) : Prop := e = .returned (.tuple #[.agg #[.int .i64 r.1.k, .bool r.1.f, .int .i64 r.1.n, .string r.1.t], .bool r.2]) ∧ Below w.heap.size w w'

set_option maxRecDepth 100000 in
set_option maxHeartbeats 1000000 in
theorem r_cell (A : Option Addr) (n c : Nat) (xs : List V) (z : Int) (w : World) (hn : n = xs.length) (hx : RowAt w w.heap.size A xs) :
    Calls Try.prog 45 #[.slice A n c, .int .i64 z] w (Cell w (cellV xs z)) := by
  have hnew := one_new w (.cells #[.int .i64 0, .bool false, .int .i64 0, .string ⟨#[]⟩] 52)
  have HNEW := Lib.hid hnew
  rcases Bool.eq_false_or_eq_true (inR xs.length z) with hin | hin
  rotate_left
  · have HP := Lib.hid (show cellV xs z = (⟨0, false, 0, ⟨#[]⟩⟩, false) by unfold cellV; rw [hin]; rfl)
    have hno : ¬ (0 ≤ z ∧ z < (n : Int)) := fun h => by
      rw [hn] at h
      rw [(inR_iff _ _).2 h] at hin
      cases hin
    have b0 : (w.alloc (.cells #[.int .i64 0, .bool false, .int .i64 0, .string ⟨#[]⟩] 52)).heap[w.heap.size]? = some (.cells #[.int .i64 0, .bool false, .int .i64 0, .string ⟨#[]⟩] 52 (0, 0)) := World.alloc_heap_new w _
    clear hx hnew hin hn
    have r0 := cell_of_row _ w.heap.size 0 _ _ _ b0
    have r1 := cell_of_row _ w.heap.size 1 _ _ _ b0
    have r2 := cell_of_row _ w.heap.size 2 _ _ _ b0
    have r3 := cell_of_row _ w.heap.size 3 _ _ _ b0
    by_cases h0 : z < 0
    · have d0 : decide (z < 0) = true := decide_eq_true h0
      go_enter Try.func45, Try.ntmps45
      go_wp2
      refine bodyPost_ret (v := .tuple #[.agg #[.int .i64 0, .bool false, .int .i64 0, .string ⟨#[]⟩], .bool false]) (by simp [results, Try.results45, r0, r1, r2, r3, go_sem]) rfl ?_
      rw [HP.out]
      exact ⟨rfl, HNEW.out⟩
    · have d0 : decide (z < 0) = false := decide_eq_false h0
      have d1 : decide ((n : Int) ≤ z) = true := decide_eq_true (by omega)
      go_enter Try.func45, Try.ntmps45
      go_wp2
      refine bodyPost_ret (v := .tuple #[.agg #[.int .i64 0, .bool false, .int .i64 0, .string ⟨#[]⟩], .bool false]) (by simp [results, Try.results45, r0, r1, r2, r3, go_sem]) rfl ?_
      rw [HP.out]
      exact ⟨rfl, HNEW.out⟩
  · obtain ⟨z0, z1⟩ := (inR_iff _ _).1 hin
    obtain ⟨a, rfl, ha, a0, a1, a2, a3⟩ := hx z.toNat (getV xs z) (getV_at xs z hin)
    rw [← hn] at z1
    have z2 : z.toNat < n := by omega
    have ca0 := (hnew.cell (p := a.add (z.toNat * 4)) ha).trans a0
    have ca1 := (hnew.cell (p := { block := (a.add (z.toNat * 4)).block, off := (a.add (z.toNat * 4)).off + 1 }) ha).trans a1
    have ca2 := (hnew.cell (p := { block := (a.add (z.toNat * 4)).block, off := (a.add (z.toNat * 4)).off + 2 }) ha).trans a2
    have ca3 := (hnew.cell (p := { block := (a.add (z.toNat * 4)).block, off := (a.add (z.toNat * 4)).off + 3 }) ha).trans a3
    have HP := Lib.hid (show cellV xs z = (getV xs z, true) by unfold cellV; rw [if_pos hin])
    have d0 : decide (z < 0) = false := decide_eq_false (by omega)
    have d1 : decide ((n : Int) ≤ z) = false := decide_eq_false (by omega)
    clear hx hnew hin hn a0 a1 a2 a3
    generalize getV xs z = v at *
    go_enter Try.func45, Try.ntmps45
    go_wp2
    have b0 : (w.alloc (.cells #[.int .i64 v.k, .bool v.f, .int .i64 v.n, .string v.t] 52)).heap[w.heap.size]? = some (.cells #[.int .i64 v.k, .bool v.f, .int .i64 v.n, .string v.t] 52 (0, 0)) := World.alloc_heap_new w _
    have r0 := cell_of_row _ w.heap.size 0 _ _ _ b0
    have r1 := cell_of_row _ w.heap.size 1 _ _ _ b0
    have r2 := cell_of_row _ w.heap.size 2 _ _ _ b0
    have r3 := cell_of_row _ w.heap.size 3 _ _ _ b0
    refine bodyPost_ret (v := .tuple #[.agg #[.int .i64 v.k, .bool v.f, .int .i64 v.n, .string v.t], .bool true]) (by simp [results, Try.results45, r0, r1, r2, r3, go_sem]) rfl ?_
    rw [HP.out]
    exact ⟨rfl, one_new w _⟩

/-- The other side of a condition. -/
def sideV (xs : List V) (c : Cn) : V × Bool := if c.r < 0 then (c.v, true) else cellV xs c.r
theorem holdsC_cell (xs : List V) (c : Cn) : holdsC xs c = ((cellV xs c.l).2 && (sideV xs c).2 && testI c.op (cmpV (cellV xs c.l).1 (sideV xs c).1)) := by
  unfold holdsC sideV cellV
  rcases Bool.eq_false_or_eq_true (inR xs.length c.l) with h | h
  · rw [h, if_pos rfl]
    by_cases hr : c.r < 0
    · rw [if_pos hr, if_pos hr]
      simp
    · rw [if_neg hr, if_neg hr]
      rcases Bool.eq_false_or_eq_true (inR xs.length c.r) with h2 | h2
      · rw [h2, if_pos rfl]
        simp
      · rw [h2, if_neg (by simp)]
        simp
  · rw [h]
    simp
theorem cellV_fit (xs : List V) (z : Int) (h : Fit xs) : (cellV xs z).1.t.size ≤ maxLen := by
  unfold cellV
  split
  · next hin => exact h _ _ (getV_at xs z hin)
  · exact Nat.zero_le _
theorem all_drop_k (xs : List V) (cs : List Cn) (k : Nat) (d : Cn) (h : cs[k]? = some d) : holdsL xs (cs.drop k) = (holdsC xs d && holdsL xs (cs.drop (k + 1))) := by
  obtain ⟨h1, h2⟩ := List.getElem?_eq_some_iff.1 h
  unfold holdsL
  rw [List.drop_eq_getElem_cons h1, h2, List.all_cons]
def At4 (w : World) (b : Nat) (v : V) : Prop := w.heap[b]? = some (.cells #[.int .i64 v.k, .bool v.f, .int .i64 v.n, .string v.t] 52 (0, 0))

def set4 (w : World) (b : Nat) (v : V) : World := (((w.setCell ⟨b, 0, none⟩ (.int .i64 v.k)).setCell ⟨b, 1, none⟩ (.bool v.f)).setCell ⟨b, 2, none⟩ (.int .i64 v.n)).setCell ⟨b, 3, none⟩ (.string v.t)
theorem set4_at {w : World} {b : Nat} {u : V} (h : At4 w b u) (v : V) : At4 (set4 w b v) b v :=
  heap_setCell_same _ b 3 _ _ _ (heap_setCell_same _ b 2 _ _ _ (heap_setCell_same _ b 1 _ _ _ (heap_setCell_same w b 0 _ _ _ h)))
theorem set4_other (w : World) (b : Nat) (v : V) (k : Nat) (hk : k ≠ b) : (set4 w b v).heap[k]? = w.heap[k]? := by
  unfold set4
  rw [Below.heap_setCell _ _ _ _ hk, Below.heap_setCell _ _ _ _ hk, Below.heap_setCell _ _ _ _ hk, Below.heap_setCell _ _ _ _ hk]
theorem set4_below {w W : World} {B b : Nat} (h : Below B w W) (hb : B ≤ b) (v : V) : Below B w (set4 W b v) :=
  (((h.setCell (p := ⟨b, 0, none⟩) hb _).setCell (p := ⟨b, 1, none⟩) hb _).setCell (p := ⟨b, 2, none⟩) hb _).setCell (p := ⟨b, 3, none⟩) hb _
theorem At4.cells {w : World} {b : Nat} {v : V} (h : At4 w b v) : w.cell? ⟨b, 0, none⟩ = some (.int .i64 v.k) ∧ w.cell? ⟨b, 1, none⟩ = some (.bool v.f) ∧ w.cell? ⟨b, 2, none⟩ = some (.int .i64 v.n) ∧ w.cell? ⟨b, 3, none⟩ = some (.string v.t) :=
  ⟨cell_of_row _ b 0 _ _ _ h, cell_of_row _ b 1 _ _ _ h, cell_of_row _ b 2 _ _ _ h, cell_of_row _ b 3 _ _ _ h⟩
theorem At4.thaw {w : World} {b : Nat} {v : V} (h : At4 w b v) : w.frozen? ⟨b, 0, none⟩ = false ∧ w.frozen? ⟨b, 1, none⟩ = false ∧ w.frozen? ⟨b, 2, none⟩ = false ∧ w.frozen? ⟨b, 3, none⟩ = false :=
  ⟨frozen_of_row _ b 0 _ _ h, frozen_of_row _ b 1 _ _ h, frozen_of_row _ b 2 _ _ h, frozen_of_row _ b 3 _ _ h⟩
theorem ref_test_agg (op : Int) (a b : V) (W : World) (ha : a.t.size ≤ maxLen) : Calls Try.prog 46 #[.int .i64 op, .agg #[.int .i64 a.k, .bool a.f, .int .i64 a.n, .string a.t], .agg #[.int .i64 b.k, .bool b.f, .int .i64 b.n, .string b.t]] W fun e w' => e = .returned (.bool (testI op (cmpV a b))) ∧ Below W.heap.size W w' := ref_test op a b W ha

set_option maxRecDepth 100000 in
set_option maxHeartbeats 4000000 in
theorem r_Holds (A C : Option Addr) (n c m c' : Nat) (xs : List V) (cs : List Cn) (w : World) (hn : n = xs.length) (hm : m = cs.length) (hl2 : m ≤ 1000000) (hx : RowAt w w.heap.size A xs) (hf : Fit xs) (hC : CnsAt w C cs) :
    Calls Try.prog 28 #[.slice A n c, .slice C m c'] w fun e w' => e = .returned (.bool (holdsL xs cs)) ∧ Below w.heap.size w w' := by
  have HX := Lib.hid hx
  have HC := Lib.hid hC
  have HN := Lib.hid hn
  have HM := Lib.hid hm
  have HF := Lib.hid hf
  have H0 : Hid (holdsL xs cs = holdsL xs (cs.drop 0)) := Lib.hid rfl
  clear hx hC hn hm hf
  go_enter Try.func28, Try.ntmps28
  go_wp2
  go_loopw [5] (fun i wr => ∃ k : Nat, k ≤ m ∧ i = .int .i64 k ∧ Hid (holdsL xs cs = holdsL xs (cs.drop k)) ∧ Below w.heap.size w wr) (fun i _ => m - (intOf i).toNat)
  case atStart => exact ⟨0, Nat.zero_le _, rfl, H0, Below.refl _ _⟩
  case round =>
    obtain ⟨k, hk, rfl, HQ, hb⟩ := hrel
    have HB := Lib.hid hb
    have hsz : w.heap.size ≤ wr.heap.size := hb.size
    by_cases h1 : k < m
    · obtain ⟨d, hd⟩ : ∃ d, cs[k]? = some d := ⟨_, List.getElem?_eq_getElem (by rw [← HM.out]; exact h1)⟩
      obtain ⟨a, rfl, ha, ⟨a0, a1, a2, a3, a4, a5, a6⟩, _⟩ := (HC.out.below hb) k d hd
      have HD := Lib.hid (all_drop_k xs cs k d hd)
      have HHC := Lib.hid (holdsC_cell xs d)
      have hx1 : RowAt wr wr.heap.size A xs := (RowQ.of HX.out (fun k hk => hk) |>.keep (Below.keepQ hb (fun k => k < w.heap.size))).at
      have HX1 := Lib.hid hx1
      have HC1 := Lib.hid (r_cell A n c xs d.l wr HN.out hx1)
      have HFA := Lib.hid (cellV_fit xs d.l HF.out)
      clear hd hb hx1
      go_wp2_with fail
      refine HC1.out.mono ?_
      rintro e w1 ⟨rfl, hb1⟩
      obtain ⟨⟨av, ok⟩, hr⟩ : ∃ r, r = cellV xs d.l := ⟨_, rfl⟩
      rw [← hr] at HHC HFA ⊢
      clear hr HC1
      obtain ⟨bv, hbv⟩ : ∃ v, v = d.v := ⟨_, rfl⟩
      have c3 := (hb1.cell (p := { block := (a.add (k * 7)).block, off := (a.add (k * 7)).off + 3 }) ha).trans a3
      have c4 := (hb1.cell (p := { block := (a.add (k * 7)).block, off := (a.add (k * 7)).off + 4 }) ha).trans a4
      have c5 := (hb1.cell (p := { block := (a.add (k * 7)).block, off := (a.add (k * 7)).off + 5 }) ha).trans a5
      have c6 := (hb1.cell (p := { block := (a.add (k * 7)).block, off := (a.add (k * 7)).off + 6 }) ha).trans a6
      have c2 := (hb1.cell (p := { block := (a.add (k * 7)).block, off := (a.add (k * 7)).off + 2 }) ha).trans a2
      have hlt1 : (a.add (k * 7)).block < w1.heap.size := Nat.lt_of_lt_of_le ha hb1.size
      have hs1 := hb1.size
      have hW : ∃ W, W = (w1.alloc (.cells #[.int .i64 av.k, .bool av.f, .int .i64 av.n, .string av.t] 52)).alloc (.cells #[.int .i64 d.v.k, .bool d.v.f, .int .i64 d.v.n, .string d.v.t] 52) := ⟨_, rfl⟩
      obtain ⟨W2, hW2⟩ := hW
      have hA4 : At4 W2 w1.heap.size av := by rw [hW2]; exact ((one_new _ _).block w1.heap.size (by simp)).trans (World.alloc_heap_new w1 _)
      have hB4 : At4 W2 (w1.heap.size + 1) d.v := by
        have h := World.alloc_heap_new (w1.alloc (.cells #[.int .i64 av.k, .bool av.f, .int .i64 av.n, .string av.t] 52)) (.cells #[.int .i64 d.v.k, .bool d.v.f, .int .i64 d.v.n, .string d.v.t] 52)
        rw [World.size_alloc] at h
        rw [hW2]
        exact h
      have hb2 : Below wr.heap.size wr W2 := by rw [hW2]; exact hb1.trans (((one_new _ _).trans ((one_new _ _).mono (by simp))).mono hs1)
      have e2 := (hb2.cell (p := { block := (a.add (k * 7)).block, off := (a.add (k * 7)).off + 2 }) ha).trans a2
      have HHW := Lib.hid hW2
      have HA2 := Lib.hid hA4
      have HB2 := Lib.hid hB4
      have HBW2 := Lib.hid hb2
      clear hW2 hA4 hB4 hb1 hb2 hbv
      by_cases hrr : d.r < 0
      · have hdr : decide (0 ≤ d.r) = false := decide_eq_false (by omega)
        have hside : sideV xs d = (d.v, true) := if_pos hrr
        rw [hside] at HHC
        clear hside
        obtain ⟨W, hWW⟩ : ∃ W, W = W2 := ⟨_, rfl⟩
        have HA4 : Hid (At4 W w1.heap.size av) := Lib.hid (by rw [hWW]; exact HA2.out)
        have HB4 : Hid (At4 W (w1.heap.size + 1) d.v) := Lib.hid (by rw [hWW]; exact HB2.out)
        have HBW : Hid (Below wr.heap.size wr W) := Lib.hid (by rw [hWW]; exact HBW2.out)
        have HWF := Lib.hid (HB.out.trans (HBW.out.mono hsz))
        have HWEQ := Lib.hid (hWW.trans HHW.out)
        clear hWW HHW HA2 HB2 HBW2
        go_wp2
        rw [← HWEQ.out]
        clear c2 c3 c4 c5 c6 e2
        obtain ⟨k0, k1, k2, k3⟩ := HA4.out.cells
        obtain ⟨m0, m1, m2, m3⟩ := HB4.out.cells
        have g1 := (HBW.out.cell (p := { block := (a.add (k * 7)).block, off := (a.add (k * 7)).off + 1 }) ha).trans a1
        have hltg : (a.add (k * 7)).block < W.heap.size := Nat.lt_of_lt_of_le ha HBW.out.size
        have hlta : w1.heap.size < W.heap.size := (Array.getElem?_eq_some_iff.1 HA4.out).1
        have hltb : w1.heap.size + 1 < W.heap.size := (Array.getElem?_eq_some_iff.1 HB4.out).1
        have HTS := Lib.hid (fun X => ref_test_agg d.op av d.v X HFA.out)
        clear a0 a1 a2 a3 a4 a5 a6
        cases ok with
        | false =>
          have hz : holdsC xs d = false := HHC.out
          rw [hz] at HD
          clear hz HHC HTS k0 k1 k2 k3 m0 m1 m2 m3 g1
          go_quiet (fail)
          go_wp2
          go_ret
          refine ⟨ret_bool ?_, below_drewN' HWF.out _⟩
          rw [HQ.out, HD.out]
          rfl
        | true =>
          have hz : holdsC xs d = testI d.op (cmpV av d.v) := HHC.out
          rw [hz] at HD
          clear hz HHC
          go_region_held3 (fun w' => w'.cell? { block := (a.add (k * 7)).block, off := (a.add (k * 7)).off + 1 } = some (.int .i64 d.op) ∧ (w'.cell? ⟨w1.heap.size, 0, none⟩ = some (.int .i64 av.k) ∧ w'.cell? ⟨w1.heap.size, 1, none⟩ = some (.bool av.f) ∧ w'.cell? ⟨w1.heap.size, 2, none⟩ = some (.int .i64 av.n) ∧ w'.cell? ⟨w1.heap.size, 3, none⟩ = some (.string av.t)) ∧ w'.cell? ⟨w1.heap.size + 1, 0, none⟩ = some (.int .i64 d.v.k) ∧ w'.cell? ⟨w1.heap.size + 1, 1, none⟩ = some (.bool d.v.f) ∧ w'.cell? ⟨w1.heap.size + 1, 2, none⟩ = some (.int .i64 d.v.n) ∧ w'.cell? ⟨w1.heap.size + 1, 3, none⟩ = some (.string d.v.t)) (go_keep)
            (first
            | (go_at_call 46; refine (HTS.out _).mono ?_; rintro x w9 ⟨rfl, hb9⟩; have g1' := (hb9.cell (p := { block := (a.add (k * 7)).block, off := (a.add (k * 7)).off + 1 }) hltg).trans g1; have k0' := (hb9.cell (p := ⟨w1.heap.size, 0, none⟩) hlta).trans k0; have k1' := (hb9.cell (p := ⟨w1.heap.size, 1, none⟩) hlta).trans k1; have k2' := (hb9.cell (p := ⟨w1.heap.size, 2, none⟩) hlta).trans k2; have k3' := (hb9.cell (p := ⟨w1.heap.size, 3, none⟩) hlta).trans k3; have m0' := (hb9.cell (p := ⟨w1.heap.size + 1, 0, none⟩) hltb).trans m0; have m1' := (hb9.cell (p := ⟨w1.heap.size + 1, 1, none⟩) hltb).trans m1; have m2' := (hb9.cell (p := ⟨w1.heap.size + 1, 2, none⟩) hltb).trans m2; have m3' := (hb9.cell (p := ⟨w1.heap.size + 1, 3, none⟩) hltb).trans m3))
          have HW9 := Lib.hid (HWF.out.trans (((below_drew W.heap.size W).trans hb9).mono HWF.out.size))
          clear hb9 g1' k0' k1' k2' k3' m0' m1' m2' m3'
          generalize testI d.op (cmpV av d.v) = tb at *
          cases tb with
          | false =>
            go_wp2
            go_ret
            refine ⟨ret_bool ?_, HW9.out⟩
            rw [HQ.out, HD.out]
            rfl
          | true =>
            go_wp2
            go_roundw
            case rel => exact ⟨k + 1, by omega, by go_num, Lib.hid (by rw [HQ.out, HD.out]; rfl), HW9.out⟩
            case measure => simp [intOf]; omega
      · have hdr : decide (0 ≤ d.r) = true := decide_eq_true (by omega)
        have hside : sideV xs d = cellV xs d.r := if_neg hrr
        rw [hside] at HHC
        have hx2 : RowAt W2 W2.heap.size A xs := (RowQ.of HX1.out (fun k hk => hk) |>.keep (Below.keepQ HBW2.out (fun k => k < wr.heap.size))).at
        have HC2 := Lib.hid (r_cell A n c xs d.r W2 HN.out hx2)
        clear hside hx2
        go_wp2_with fail
        rw [← HHW.out]
        refine HC2.out.mono ?_
        rintro e w3 ⟨rfl, hb3⟩
        obtain ⟨⟨bv, is⟩, hr⟩ : ∃ r, r = cellV xs d.r := ⟨_, rfl⟩
        rw [← hr] at HHC ⊢
        clear hr HC2
        have hA3 : At4 w3 w1.heap.size av := (hb3.block _ (Array.getElem?_eq_some_iff.1 HA2.out).1).trans HA2.out
        have hB3 : At4 w3 (w1.heap.size + 1) d.v := (hb3.block _ (Array.getElem?_eq_some_iff.1 HB2.out).1).trans HB2.out
        obtain ⟨t0, t1, t2, t3⟩ := hB3.thaw
        obtain ⟨q0, q1, q2, q3⟩ := hB3.cells
        have hbw3 : Below wr.heap.size wr w3 := HBW2.out.trans (hb3.mono HBW2.out.size)
        obtain ⟨W, hWW⟩ : ∃ W, W = (((w3.setCell ⟨w1.heap.size + 1, 0, none⟩ (.int .i64 bv.k)).setCell ⟨w1.heap.size + 1, 1, none⟩ (.bool bv.f)).setCell ⟨w1.heap.size + 1, 2, none⟩ (.int .i64 bv.n)).setCell ⟨w1.heap.size + 1, 3, none⟩ (.string bv.t) := ⟨_, rfl⟩
        have HA4 : Hid (At4 W w1.heap.size av) := Lib.hid (by rw [hWW]; exact (set4_other w3 (w1.heap.size + 1) bv w1.heap.size (by omega)).trans hA3)
        have HB4 : Hid (At4 W (w1.heap.size + 1) bv) := Lib.hid (by rw [hWW]; exact set4_at hB3 bv)
        have HBW : Hid (Below wr.heap.size wr W) := Lib.hid (by rw [hWW]; exact set4_below hbw3 (by omega) bv)
        have HWF := Lib.hid (HB.out.trans (HBW.out.mono hsz))
        have HWEQ := Lib.hid hWW
        clear hWW HHW HA2 HB2 HBW2 hA3 hB3 hbw3 hb3
        go_wp2
        rw [← HWEQ.out]
        clear c2 c3 c4 c5 c6 e2 t0 t1 t2 t3 q0 q1 q2 q3
        obtain ⟨k0, k1, k2, k3⟩ := HA4.out.cells
        obtain ⟨m0, m1, m2, m3⟩ := HB4.out.cells
        have g1 := (HBW.out.cell (p := { block := (a.add (k * 7)).block, off := (a.add (k * 7)).off + 1 }) ha).trans a1
        have hltg : (a.add (k * 7)).block < W.heap.size := Nat.lt_of_lt_of_le ha HBW.out.size
        have hlta : w1.heap.size < W.heap.size := (Array.getElem?_eq_some_iff.1 HA4.out).1
        have hltb : w1.heap.size + 1 < W.heap.size := (Array.getElem?_eq_some_iff.1 HB4.out).1
        have HTS := Lib.hid (fun X => ref_test_agg d.op av bv X HFA.out)
        clear a0 a1 a2 a3 a4 a5 a6
        cases ok with
        | false =>
          have hz : holdsC xs d = false := HHC.out
          rw [hz] at HD
          clear hz HHC HTS k0 k1 k2 k3 m0 m1 m2 m3 g1
          go_quiet (fail)
          go_wp2
          go_ret
          refine ⟨ret_bool ?_, below_drewN' HWF.out _⟩
          rw [HQ.out, HD.out]
          rfl
        | true =>
          cases is with
          | false =>
            have hz : holdsC xs d = false := HHC.out
            rw [hz] at HD
            clear hz HHC HTS k0 k1 k2 k3 m0 m1 m2 m3 g1
            go_quiet (fail)
            go_wp2
            go_ret
            refine ⟨ret_bool ?_, below_drewN' HWF.out _⟩
            rw [HQ.out, HD.out]
            rfl
          | true =>
            have hz : holdsC xs d = testI d.op (cmpV av bv) := HHC.out
            rw [hz] at HD
            clear hz HHC
            go_region_held3 (fun w' => w'.cell? { block := (a.add (k * 7)).block, off := (a.add (k * 7)).off + 1 } = some (.int .i64 d.op) ∧ (w'.cell? ⟨w1.heap.size, 0, none⟩ = some (.int .i64 av.k) ∧ w'.cell? ⟨w1.heap.size, 1, none⟩ = some (.bool av.f) ∧ w'.cell? ⟨w1.heap.size, 2, none⟩ = some (.int .i64 av.n) ∧ w'.cell? ⟨w1.heap.size, 3, none⟩ = some (.string av.t)) ∧ w'.cell? ⟨w1.heap.size + 1, 0, none⟩ = some (.int .i64 bv.k) ∧ w'.cell? ⟨w1.heap.size + 1, 1, none⟩ = some (.bool bv.f) ∧ w'.cell? ⟨w1.heap.size + 1, 2, none⟩ = some (.int .i64 bv.n) ∧ w'.cell? ⟨w1.heap.size + 1, 3, none⟩ = some (.string bv.t)) (go_keep)
              (first
              | (go_at_call 46; refine (HTS.out _).mono ?_; rintro x w9 ⟨rfl, hb9⟩; have g1' := (hb9.cell (p := { block := (a.add (k * 7)).block, off := (a.add (k * 7)).off + 1 }) hltg).trans g1; have k0' := (hb9.cell (p := ⟨w1.heap.size, 0, none⟩) hlta).trans k0; have k1' := (hb9.cell (p := ⟨w1.heap.size, 1, none⟩) hlta).trans k1; have k2' := (hb9.cell (p := ⟨w1.heap.size, 2, none⟩) hlta).trans k2; have k3' := (hb9.cell (p := ⟨w1.heap.size, 3, none⟩) hlta).trans k3; have m0' := (hb9.cell (p := ⟨w1.heap.size + 1, 0, none⟩) hltb).trans m0; have m1' := (hb9.cell (p := ⟨w1.heap.size + 1, 1, none⟩) hltb).trans m1; have m2' := (hb9.cell (p := ⟨w1.heap.size + 1, 2, none⟩) hltb).trans m2; have m3' := (hb9.cell (p := ⟨w1.heap.size + 1, 3, none⟩) hltb).trans m3))
            have HW9 := Lib.hid (HWF.out.trans (((below_drew W.heap.size W).trans hb9).mono HWF.out.size))
            clear hb9 g1' k0' k1' k2' k3' m0' m1' m2' m3'
            generalize testI d.op (cmpV av bv) = tb at *
            cases tb with
            | false =>
              go_wp2
              go_ret
              refine ⟨ret_bool ?_, HW9.out⟩
              rw [HQ.out, HD.out]
              rfl
            | true =>
              go_wp2
              go_roundw
              case rel => exact ⟨k + 1, by omega, by go_num, Lib.hid (by rw [HQ.out, HD.out]; rfl), HW9.out⟩
              case measure => simp [intOf]; omega
    · obtain rfl : k = m := by omega
      go_wp2
      go_ret
      refine ⟨ret_bool ?_, HB.out⟩
      rw [HQ.out, List.drop_of_length_le (by rw [← HM.out]; exact Nat.le_refl _)]
      rfl
end Go.Proofs.Ytpliofhphijdkaa
