/-
  The document's reader of tokens in memory, and what its small calls do: fail, now, is, step, take, must, named, name.
  Condition: no more than four hundred tokens, and a place among them.
-/
import Derived.Handy
import Derived.Test.YthdjkagodccdbaaM14
import Derived.Test.YthdjkagodccdbaaM19
import Derived.Test.YthdjkagodccdbaaM20
namespace Go.Proofs.Ythdjkagodccdbaa
open Go.RowKit

/-- Of what was there, block g alone may have changed. -/
def OnlyR (g : Nat) (w w' : World) : Prop := Below 0 w w' ∧ ∀ k, k < w.heap.size → k ≠ g → w'.heap[k]? = w.heap[k]?
theorem OnlyR.refl (g : Nat) (w : World) : OnlyR g w w := ⟨Below.refl _ _, fun _ _ _ => rfl⟩
theorem OnlyR.of {g : Nat} {w w' : World} (hb : Below w.heap.size w w') : OnlyR g w w' := ⟨hb.mono (Nat.zero_le _), fun k hk _ => hb.block k hk⟩
theorem OnlyR.trans {g : Nat} {w w1 w2 : World} (h1 : OnlyR g w w1) (h2 : OnlyR g w1 w2) : OnlyR g w w2 :=
  ⟨h1.1.trans h2.1, fun k hk hg => (h2.2 k (Nat.lt_of_lt_of_le hk h1.1.size) hg).trans (h1.2 k hk hg)⟩
theorem OnlyR.below {g h : Nat} {w w' : World} (ho : OnlyR g w w') (hg : h ≤ g) (hw : h ≤ w.heap.size) : Below h w w' := by
  obtain ⟨h1, h2⟩ := ho
  exact ⟨h1.os, h1.tape, h1.output, h1.size, fun k hk => h2 k (by omega) (by omega)⟩
theorem OnlyR.size {g : Nat} {w w' : World} (h : OnlyR g w w') : w.heap.size ≤ w'.heap.size := h.1.size
theorem OnlyR.drew {g : Nat} {w w' : World} (h : OnlyR g w w') : OnlyR g w w'.drew := ⟨h.1.drew, h.2⟩
theorem OnlyR.set (g i : Nat) (w : World) (v : Value) : OnlyR g w (w.setCell ⟨g, i, none⟩ v) :=
  ⟨(Below.refl 0 w).setCell (p := ⟨g, i, none⟩) (Nat.zero_le _) v, fun k _ hn => Below.heap_setCell w ⟨g, i, none⟩ v k hn⟩
theorem OnlyR.cell {g : Nat} {w w' : World} (h : OnlyR g w w') {a : Addr} {u : Value} (hc : w.cell? a = some u) (hg : a.block ≠ g) : w'.cell? a = some u :=
  (World.cell?_of_block (w := w) (a := a) (h.2 a.block (World.block_lt_of_cell? w a hc) hg)).trans hc

/-- The reader lies at block g, its tokens at block t. -/
def RdP (w : World) (g t c : Nat) (ls : List Tok) (s : Rst) : Prop :=
  w.heap[g]? = some (.cells #[.slice (some ⟨t, 0, none⟩) ls.length c, .int .i64 s.i, .int .i64 s.why, .int .i64 s.pos] 55 (0, 0)) ∧ ToksAt w (some ⟨t, 0, none⟩) ls ∧ t ≠ g ∧ s.i < ls.length ∧ ls.length ≤ 400
theorem RdP.lt {w : World} {g t c : Nat} {ls : List Tok} {s : Rst} (h : RdP w g t c ls s) : g < w.heap.size := (Array.getElem?_eq_some_iff.1 h.1).1
theorem RdP.cell {w : World} {g t c : Nat} {ls : List Tok} {s : Rst} (h : RdP w g t c ls s) : w.cell? ⟨g, 0, none⟩ = some (.slice (some ⟨t, 0, none⟩) ls.length c) ∧ w.cell? ⟨g, 1, none⟩ = some (.int .i64 s.i) ∧ w.cell? ⟨g, 2, none⟩ = some (.int .i64 s.why) ∧ w.cell? ⟨g, 3, none⟩ = some (.int .i64 s.pos) :=
  ⟨cell_of_row _ g 0 _ _ (0, 0) h.1, cell_of_row _ g 1 _ _ (0, 0) h.1, cell_of_row _ g 2 _ _ (0, 0) h.1, cell_of_row _ g 3 _ _ (0, 0) h.1⟩
theorem RdP.frozen {w : World} {g t c : Nat} {ls : List Tok} {s : Rst} (h : RdP w g t c ls s) (i : Nat) : w.frozen? ⟨g, i, none⟩ = false := by
  have := h.1
  simp [World.frozen?, this]
theorem ToksAt.block {w w' : World} {t : Nat} {ls : List Tok} (h : ToksAt w (some ⟨t, 0, none⟩) ls) (hk : t < w.heap.size → w'.heap[t]? = w.heap[t]?) : ToksAt w' (some ⟨t, 0, none⟩) ls := by
  intro j u hj
  obtain ⟨a, ha, hc⟩ := h j u hj
  injection ha with ha
  subst ha
  refine ⟨_, rfl, ?_⟩
  have e : (⟨t, 0, none⟩ : Addr).add j = ⟨t, j, none⟩ := by unfold Addr.add; split <;> simp_all
  rw [e] at hc ⊢
  exact (World.cell?_of_block (w := w) (a := ⟨t, j, none⟩) (hk (World.block_lt_of_cell? w _ hc))).trans hc
theorem RdP.below {w w' : World} {g t c : Nat} {ls : List Tok} {s : Rst} (h : RdP w g t c ls s) (hb : Below w.heap.size w w') : RdP w' g t c ls s :=
  ⟨(hb.block g h.lt).trans h.1, h.2.1.block (fun hk => hb.block t hk), h.2.2⟩
theorem RdP.other {w w' : World} {g t c h : Nat} {ls : List Tok} {s : Rst} (hr : RdP w g t c ls s) (ho : OnlyR h w w') (hg : g ≠ h) (ht : t ≠ h) : RdP w' g t c ls s :=
  ⟨(ho.2 g hr.lt hg).trans hr.1, hr.2.1.block (fun hk => ho.2 t hk ht), hr.2.2⟩
theorem RdP.setI {w : World} {g t c : Nat} {ls : List Tok} {s : Rst} (h : RdP w g t c ls s) (i : Nat) (hi : i < ls.length) : RdP (w.setCell ⟨g, 1, none⟩ (.int .i64 i)) g t c ls { s with i := i } :=
  ⟨heap_setCell_same w g 1 _ _ _ h.1, h.2.1.block (fun _ => Below.heap_setCell w ⟨g, 1, none⟩ _ t h.2.2.1), h.2.2.1, hi, h.2.2.2.2⟩
theorem RdP.setF {w : World} {g t c : Nat} {ls : List Tok} {s : Rst} (h : RdP w g t c ls s) (y p : Int) : RdP ((w.setCell ⟨g, 2, none⟩ (.int .i64 y)).setCell ⟨g, 3, none⟩ (.int .i64 p)) g t c ls { s with why := y, pos := p } :=
  ⟨heap_setCell_same _ g 3 _ _ _ (heap_setCell_same w g 2 _ _ _ h.1), (h.2.1.block (fun _ => Below.heap_setCell w ⟨g, 2, none⟩ _ t h.2.2.1)).block (fun _ => Below.heap_setCell _ ⟨g, 3, none⟩ _ t h.2.2.1), h.2.2.1, h.2.2.2.1, h.2.2.2.2⟩

set_option maxHeartbeats 1000000 in
theorem rp_fail {w : World} {g t c : Nat} {ls : List Tok} {s : Rst} (h : RdP w g t c ls s) (y p : Int) :
    Calls Try.prog 19 #[.pointer (some ⟨g, 0, none⟩), .int .i64 y, .int .i64 p] w fun e w' => e = .returned (.tuple #[]) ∧ RdP w' g t c ls (failR s y p) ∧ OnlyR g w w' := by
  obtain ⟨_, _, c2, c3⟩ := h.cell
  have f2 := h.frozen 2
  have f3 := h.frozen 3
  have H := Lib.hid h
  by_cases hz : s.why = 0
  · have e : failR s y p = { s with why := y, pos := p } := by unfold failR; rw [if_pos hz]
    have HE := Lib.hid e
    rw [hz] at c2
    clear h e hz
    go_enter Try.func19, Try.ntmps19
    go_wp2
    go_end0
    exact ⟨rfl, by rw [HE.out]; exact H.out.setF y p, (OnlyR.set _ _ _ _).trans (OnlyR.set _ _ _ _)⟩
  · have e : failR s y p = s := by unfold failR; rw [if_neg hz]
    have HE := Lib.hid e
    have b1 : (s.why == 0) = false := by simpa using hz
    clear h e
    go_enter Try.func19, Try.ntmps19
    go_wp2
    go_end0
    exact ⟨rfl, by rw [HE.out]; exact H.out, OnlyR.refl _ _⟩

theorem RdP.tok {w : World} {g t c : Nat} {ls : List Tok} {s : Rst} (h : RdP w g t c ls s) {j : Nat} {k : Int} {b : ByteArray} {vk : Int} {vf : Bool} {vn : Int} {vt : ByteArray} {a : Int} (hx : ls[j]? = some ⟨k, b, ⟨vk, vf, vn, vt⟩, a⟩) :
    w.cell? ⟨t, j * 7, none⟩ = some (.int .i64 k) ∧ w.cell? ⟨t, j * 7 + 1, none⟩ = some (.string b) ∧ w.cell? ⟨t, j * 7 + 2, none⟩ = some (.int .i64 vk) ∧ w.cell? ⟨t, j * 7 + 3, none⟩ = some (.bool vf) ∧ w.cell? ⟨t, j * 7 + 4, none⟩ = some (.int .i64 vn) ∧ w.cell? ⟨t, j * 7 + 5, none⟩ = some (.string vt) ∧ w.cell? ⟨t, j * 7 + 6, none⟩ = some (.int .i64 a) :=
  ⟨h.2.1.at _ 0 _ _ hx (by omega) rfl, h.2.1.at _ 1 _ _ hx (by omega) rfl, h.2.1.at _ 2 _ _ hx (by omega) rfl, h.2.1.at _ 3 _ _ hx (by omega) rfl, h.2.1.at _ 4 _ _ hx (by omega) rfl, h.2.1.at _ 5 _ _ hx (by omega) rfl, h.2.1.at _ 6 _ _ hx (by omega) rfl⟩
abbrev zeroTok : Obj := .cells #[.int .i64 0, .string ⟨#[]⟩, .int .i64 0, .bool false, .int .i64 0, .string ⟨#[]⟩, .int .i64 0] 61
abbrev Tok.obj (k : Int) (b : ByteArray) (vk : Int) (vf : Bool) (vn : Int) (vt : ByteArray) (a : Int) : Obj := .cells #[.int .i64 k, .string b, .int .i64 vk, .bool vf, .int .i64 vn, .string vt, .int .i64 a] 61

set_option maxRecDepth 10000 in
set_option maxHeartbeats 1000000 in
theorem rp_now {w : World} {g t c : Nat} {ls : List Tok} {s : Rst} (h : RdP w g t c ls s) :
    Calls Try.prog 20 #[.pointer (some ⟨g, 0, none⟩)] w fun e w' => e = .returned (nowR ls s).val ∧ Below w.heap.size w w' := by
  have hon := one_new w zeroTok
  have h1 := h.below hon
  obtain ⟨c0, c1, _, _⟩ := h1.cell
  have hx := nowR_at h.2.2.2.1
  obtain ⟨⟨k, b, ⟨vk, vf, vn, vt⟩, a⟩, hX⟩ : ∃ x, nowR ls s = x := ⟨_, rfl⟩
  rw [hX] at hx ⊢
  obtain ⟨d0, d1, d2, d3, d4, d5, d6⟩ := h1.tok hx
  have hlt := h.2.2.2.1
  have hl4 := h.2.2.2.2
  have HON := Lib.hid hon
  clear h hX hx h1 hon
  generalize s.i = i at *
  go_enter Try.func20, Try.ntmps20
  go_wp2
  go_region
  all_goals
    go_wp2
    go_returns
    exact ⟨rfl, (one_new w _).drew⟩

theorem field_at3 (k : Int) (b : ByteArray) (vk : Int) (vf : Bool) (vn : Int) (vt : ByteArray) (a : Int) (W : World) : (Instr.field 61 (.agg #[.int .i64 k, .string b, .int .i64 vk, .bool vf, .int .i64 vn, .string vt, .int .i64 a]) 3).run Try.prog W = .ok (.int .i64 a) W := by kernel_rfl
theorem field_at1 (k : Int) (b : ByteArray) (vk : Int) (vf : Bool) (vn : Int) (vt : ByteArray) (a : Int) (W : World) : (Instr.field 61 (.agg #[.int .i64 k, .string b, .int .i64 vk, .bool vf, .int .i64 vn, .string vt, .int .i64 a]) 1).run Try.prog W = .ok (.string b) W := by kernel_rfl
theorem field_at0 (k : Int) (b : ByteArray) (vk : Int) (vf : Bool) (vn : Int) (vt : ByteArray) (a : Int) (W : World) : (Instr.field 61 (.agg #[.int .i64 k, .string b, .int .i64 vk, .bool vf, .int .i64 vn, .string vt, .int .i64 a]) 0).run Try.prog W = .ok (.int .i64 k) W := by kernel_rfl
theorem rp_now' {w : World} {g t c : Nat} {ls : List Tok} {s : Rst} (h : RdP w g t c ls s) {k : Int} {b : ByteArray} {vk : Int} {vf : Bool} {vn : Int} {vt : ByteArray} {a : Int} (hX : nowR ls s = ⟨k, b, ⟨vk, vf, vn, vt⟩, a⟩) :
    Calls Try.prog 20 #[.pointer (some ⟨g, 0, none⟩)] w fun e w' => e = .returned (.agg #[.int .i64 k, .string b, .int .i64 vk, .bool vf, .int .i64 vn, .string vt, .int .i64 a]) ∧ Below w.heap.size w w' := by
  have := rp_now h
  rw [hX] at this
  exact this

theorem new_cellG (w : World) (cs : Array Value) (t : TypeId) (i : Nat) : (w.alloc (.cells cs t)).cell? ⟨w.heap.size, i, none⟩ = cs[i]? := by
  unfold World.cell?
  rw [heap_alloc_new w (.cells cs t)]
  rfl
theorem isR_of {ls : List Tok} {s : Rst} {k : Int} {b : ByteArray} {v : V} {a : Int} (h : nowR ls s = ⟨k, b, v, a⟩) (u : List UInt8) : isR ls s u = (decide (s.why = 0) && ((decide (k = 1) || decide (k = 3)) && decide (b.data.toList = u))) := by
  unfold isR
  rw [h, Bool.and_assoc]
set_option maxHeartbeats 1000000 in
theorem rp_is {w : World} {g t c : Nat} {ls : List Tok} {s : Rst} (h : RdP w g t c ls s) (u : ByteArray) :
    Calls Try.prog 38 #[.pointer (some ⟨g, 0, none⟩), .string u] w fun e w' => e = .returned (.bool (isR ls s u.data.toList)) ∧ Below w.heap.size w w' := by
  obtain ⟨_, _, c2, _⟩ := h.cell
  obtain ⟨⟨k, b, ⟨vk, vf, vn, vt⟩, a⟩, hX⟩ : ∃ x, nowR ls s = x := ⟨_, rfl⟩
  have HI := Lib.hid (isR_of hX u.data.toList)
  have HN := Lib.hid (rp_now h)
  rw [hX] at HN
  have hg := h.lt
  have hub : u.toList = u.data.toList := ByteArray.toList_eq u
  have hbb : b.toList = b.data.toList := ByteArray.toList_eq b
  have HU := Lib.hid hub
  have HBB := Lib.hid hbb
  generalize s.why = y at *
  generalize isR ls s u.data.toList = q at *
  clear h hX hub hbb
  go_enter Try.func38, Try.ntmps38
  go_wp2_with fail
  refine HN.out.mono ?_
  rintro e w1 ⟨rfl, hb1⟩
  have HB1 := Lib.hid hb1
  have HB2 := Lib.hid (hb1.trans ((one_new w1 (Tok.obj k b vk vf vn vt a)).mono hb1.size))
  have c2 := (HB2.out.cell (p := ⟨g, 2, none⟩) hg).trans c2
  have n0 := new_cellG w1 #[.int .i64 k, .string b, .int .i64 vk, .bool vf, .int .i64 vn, .string vt, .int .i64 a] 61 0
  have n1 := new_cellG w1 #[.int .i64 k, .string b, .int .i64 vk, .bool vf, .int .i64 vn, .string vt, .int .i64 a] 61 1
  clear hb1
  by_cases hy : y = 0
  · by_cases he : b.data.toList = u.data.toList
    · have b1 : (b.toList == u.toList) = true := by rw [HU.out, HBB.out, he]; simp
      clear HN
      go_wp2
      all_goals
        go_ret
        refine ⟨?_, HB1.out.trans ((one_new w1 _).mono HB1.out.size)⟩
        rw [HI.out]
        simp_all
    · have b1 : (b.toList == u.toList) = false := by rw [HU.out, HBB.out]; simpa using he
      clear HN
      go_wp2
      all_goals
        go_ret
        refine ⟨?_, HB1.out.trans ((one_new w1 _).mono HB1.out.size)⟩
        rw [HI.out]
        simp_all
  · clear HN
    go_wp2
    go_ret
    refine ⟨?_, HB1.out.trans ((one_new w1 _).mono HB1.out.size)⟩
    rw [HI.out]
    simp_all

set_option maxHeartbeats 1000000 in
theorem rp_step {w : World} {g t c : Nat} {ls : List Tok} {s : Rst} (h : RdP w g t c ls s) :
    Calls Try.prog 24 #[.pointer (some ⟨g, 0, none⟩)] w fun e w' => e = .returned (.tuple #[]) ∧ RdP w' g t c ls (stepR ls s) ∧ OnlyR g w w' := by
  obtain ⟨c0, c1, _, _⟩ := h.cell
  have f1 := h.frozen 1
  have H := Lib.hid h
  have hlt := h.2.2.2.1
  have hl4 := h.2.2.2.2
  clear h
  by_cases hz : s.i + 1 < ls.length
  · have HE : Hid (stepR ls s = { s with i := s.i + 1 }) := Lib.hid (by unfold stepR; rw [if_pos hz])
    have b1 : decide (((s.i : Int) + 1) < (ls.length : Int)) = true := by rw [decide_eq_true_eq]; omega
    go_enter Try.func24, Try.ntmps24
    go_wp2
    go_region
    all_goals
      go_wp2
      go_end0
      exact ⟨rfl, by rw [HE.out]; exact H.out.setI (s.i + 1) hz, (OnlyR.set g 1 w _).drew⟩
  · have HE : Hid (stepR ls s = s) := Lib.hid (by unfold stepR; rw [if_neg hz])
    have b1 : decide (((s.i : Int) + 1) < (ls.length : Int)) = false := by rw [decide_eq_false_iff_not]; omega
    go_enter Try.func24, Try.ntmps24
    go_wp2
    go_region
    all_goals
      go_wp2
      go_end0
      exact ⟨rfl, by rw [HE.out]; exact H.out, (OnlyR.refl g w).drew⟩

set_option maxHeartbeats 1000000 in
theorem rp_take {w : World} {g t c : Nat} {ls : List Tok} {s : Rst} (h : RdP w g t c ls s) (u : ByteArray) :
    Calls Try.prog 18 #[.pointer (some ⟨g, 0, none⟩), .string u] w fun e w' => e = .returned (.bool (isR ls s u.data.toList)) ∧ RdP w' g t c ls (takeR ls s u.data.toList) ∧ OnlyR g w w' := by
  have HI := Lib.hid (rp_is h u)
  have H := Lib.hid h
  have HT : Hid (takeR ls s u.data.toList = if isR ls s u.data.toList = true then stepR ls s else s) := Lib.hid rfl
  generalize takeR ls s u.data.toList = s2 at *
  generalize isR ls s u.data.toList = q at *
  clear h
  go_enter Try.func18, Try.ntmps18
  go_wp2_with fail
  refine HI.out.mono ?_
  rintro e w1 ⟨rfl, hb1⟩
  have HB1 := Lib.hid (OnlyR.of (g := g) hb1)
  have H1 := Lib.hid (H.out.below hb1)
  have HS := Lib.hid (rp_step H1.out)
  clear hb1 HI
  cases q with
  | true =>
    go_wp2_with fail
    refine HS.out.mono ?_
    rintro e w2 ⟨rfl, hr2, ho2⟩
    have H2 := Lib.hid hr2
    have HO := Lib.hid (HB1.out.trans ho2)
    clear hr2 ho2
    go_wp2
    go_ret
    exact ⟨rfl, by rw [HT.out]; exact H2.out, HO.out⟩
  | false =>
    go_wp2
    go_ret
    exact ⟨rfl, by rw [HT.out]; exact H1.out, HB1.out⟩

set_option maxHeartbeats 1000000 in
theorem rp_must {w : World} {g t c : Nat} {ls : List Tok} {s : Rst} (h : RdP w g t c ls s) (u : ByteArray) :
    Calls Try.prog 22 #[.pointer (some ⟨g, 0, none⟩), .string u] w fun e w' => e = .returned (.tuple #[]) ∧ RdP w' g t c ls (mustR ls s u.data.toList) ∧ OnlyR g w w' := by
  have HI := Lib.hid (rp_take h u)
  have HT : Hid (mustR ls s u.data.toList = if isR ls s u.data.toList = true then takeR ls s u.data.toList else failR s 7 (nowR ls s).a) := Lib.hid (by unfold mustR takeR; split <;> rfl)
  have HN : Hid (isR ls s u.data.toList = false → takeR ls s u.data.toList = s) := Lib.hid (fun h => by unfold takeR; rw [h]; rfl)
  generalize mustR ls s u.data.toList = s2 at *
  generalize takeR ls s u.data.toList = s1 at *
  generalize isR ls s u.data.toList = q at *
  clear h
  go_enter Try.func22, Try.ntmps22
  go_wp2_with fail
  refine HI.out.mono ?_
  rintro e w1 ⟨rfl, hr1, ho1⟩
  have H1 := Lib.hid hr1
  have HO1 := Lib.hid ho1
  clear hr1 ho1 HI
  cases q with
  | true =>
    go_wp2
    go_end0
    exact ⟨rfl, by rw [HT.out]; exact H1.out, HO1.out⟩
  | false =>
    have h1 := H1.out
    rw [HN.out rfl] at h1
    obtain ⟨⟨k, b, ⟨vk, vf, vn, vt⟩, a⟩, hX⟩ : ∃ x, nowR ls s = x := ⟨_, rfl⟩
    have HW := Lib.hid (rp_now' h1 hX)
    have HR := Lib.hid h1
    rw [hX] at HT
    clear h1 hX H1 HN
    go_wp2_with fail
    refine HW.out.mono ?_
    rintro e w2 ⟨rfl, hb2⟩
    have HF := Lib.hid (rp_fail (HR.out.below hb2) 7 a)
    have HO3 := Lib.hid (HO1.out.trans (OnlyR.of (g := g) hb2))
    have q1 := field_at1 k b vk vf vn vt a
    have q3 := field_at3 k b vk vf vn vt a
    clear hb2 HW
    go_wp2_with fail
    refine HF.out.mono ?_
    rintro e w4 ⟨rfl, hr4, ho4⟩
    have H4 := Lib.hid hr4
    have HO4 := Lib.hid (HO3.out.trans ho4)
    clear hr4 ho4
    go_wp2
    go_end0
    exact ⟨rfl, by rw [HT.out]; exact H4.out, HO4.out⟩

set_option maxRecDepth 10000 in
set_option maxHeartbeats 2000000 in
theorem rp_named {w : World} {g t c : Nat} {ls : List Tok} {s : Rst} (h : RdP w g t c ls s) :
    Calls Try.prog 39 #[.pointer (some ⟨g, 0, none⟩)] w fun e w' => e = .returned (.bool (namedR ls s)) ∧ Below w.heap.size w w' := by
  obtain ⟨_, _, c2, _⟩ := h.cell
  obtain ⟨⟨k, b, ⟨vk, vf, vn, vt⟩, a⟩, hX⟩ : ∃ x, nowR ls s = x := ⟨_, rfl⟩
  have hI : namedR ls s = (decide (s.why = 0) && (decide (k = 1) && nameR b.data.toList && !resB b.data.toList)) := by unfold namedR nmB; rw [hX]
  have HI := Lib.hid hI
  have HN := Lib.hid (rp_now' h hX)
  have hg := h.lt
  generalize s.why = y at *
  generalize namedR ls s = q at *
  clear h hX hI
  go_enter Try.func39, Try.ntmps39
  go_wp2_with fail
  refine HN.out.mono ?_
  rintro e w1 ⟨rfl, hb1⟩
  have HB1 := Lib.hid hb1
  have hb2 := hb1.trans ((one_new w1 (Tok.obj k b vk vf vn vt a)).mono hb1.size)
  have HB2 := Lib.hid hb2
  have c2 := (hb2.cell (p := ⟨g, 2, none⟩) hg).trans c2
  have n0 := new_cellG w1 #[.int .i64 k, .string b, .int .i64 vk, .bool vf, .int .i64 vn, .string vt, .int .i64 a] 61 0
  have n1 := new_cellG w1 #[.int .i64 k, .string b, .int .i64 vk, .bool vf, .int .i64 vn, .string vt, .int .i64 a] 61 1
  have HM : Hid (∀ W, Calls Try.prog 28 #[.string b] W fun e w' => e = .returned (.bool (nameR b.data.toList)) ∧ w' = W) := Lib.hid fun W => ref_name b W
  have HR : Hid (∀ W, Calls Try.prog 59 #[.string b] W fun e w' => e = .returned (.bool (resB b.data.toList)) ∧ w' = W.alloc (.cells (strs resW) 9)) := Lib.hid fun W => ref_reserved b W
  generalize nameR b.data.toList = p1 at *
  generalize resB b.data.toList = p2 at *
  clear hb1 hb2 HN
  by_cases hy : y = 0
  · by_cases hk : k = 1
    · subst hy hk
      cases p1 with
      | true =>
        go_wp2_with (first | (go_at_call 28; refine (HM.out _).mono ?_; rintro e w' ⟨rfl, rfl⟩) | (go_at_call 59; refine (HR.out _).mono ?_; rintro e w' ⟨rfl, rfl⟩))
        go_ret
        refine ⟨?_, (HB1.out.trans ((two_new w1 _ _).mono HB1.out.size))⟩
        rw [HI.out]
        cases p2 <;> rfl
      | false =>
        go_wp2_with (go_at_call 28; refine (HM.out _).mono ?_; rintro e w' ⟨rfl, rfl⟩)
        go_ret
        exact ⟨by rw [HI.out]; rfl, HB1.out.trans ((one_new w1 _).mono HB1.out.size)⟩
    · go_wp2
      go_ret
      exact ⟨by rw [HI.out]; simp_all, HB1.out.trans ((one_new w1 _).mono HB1.out.size)⟩
  · go_wp2
    go_ret
    exact ⟨by rw [HI.out]; simp_all, HB1.out.trans ((one_new w1 _).mono HB1.out.size)⟩

set_option maxRecDepth 10000 in
set_option maxHeartbeats 1000000 in
theorem rp_name {w : World} {g t c : Nat} {ls : List Tok} {s : Rst} (h : RdP w g t c ls s) :
    Calls Try.prog 21 #[.pointer (some ⟨g, 0, none⟩)] w fun e w' => e = .returned (.string (nmV ls s)) ∧ RdP w' g t c ls (nmS ls s) ∧ OnlyR g w w' := by
  have HN := Lib.hid (rp_named h)
  have H := Lib.hid h
  have HS : Hid (nmS ls s = if namedR ls s = true then stepR ls s else failR s 7 (nowR ls s).a) := Lib.hid rfl
  have HV : Hid (nmV ls s = if namedR ls s = true then (nowR ls s).t else ⟨#[]⟩) := Lib.hid rfl
  obtain ⟨⟨k, b, ⟨vk, vf, vn, vt⟩, a⟩, hX⟩ : ∃ x, nowR ls s = x := ⟨_, rfl⟩
  rw [hX] at HS HV
  have HX := Lib.hid hX
  generalize nmS ls s = s2 at *
  generalize nmV ls s = v at *
  generalize namedR ls s = q at *
  clear h hX
  go_enter Try.func21, Try.ntmps21
  go_wp2_with fail
  refine HN.out.mono ?_
  rintro e w1 ⟨rfl, hb1⟩
  have HO1 := Lib.hid (OnlyR.of (g := g) hb1)
  have H1 := Lib.hid (H.out.below hb1)
  have HW := Lib.hid (rp_now' H1.out HX.out)
  clear hb1 HN
  cases q with
  | true =>
    go_wp2_with fail
    refine HW.out.mono ?_
    rintro e w2 ⟨rfl, hb2⟩
    have HO2 := Lib.hid (HO1.out.trans (OnlyR.of (g := g) hb2))
    have HF := Lib.hid (rp_step (H1.out.below hb2))
    have q1 := field_at1 k b vk vf vn vt a
    have q3 := field_at3 k b vk vf vn vt a
    clear hb2 HW
    go_wp2_with fail
    refine HF.out.mono ?_
    rintro e w4 ⟨rfl, hr4, ho4⟩
    have H4 := Lib.hid hr4
    have HO4 := Lib.hid (HO2.out.trans ho4)
    clear hr4 ho4
    go_wp2
    go_ret
    exact ⟨by rw [HV.out]; rfl, by rw [HS.out]; exact H4.out, HO4.out⟩
  | false =>
    go_wp2_with fail
    refine HW.out.mono ?_
    rintro e w2 ⟨rfl, hb2⟩
    have HO2 := Lib.hid (HO1.out.trans (OnlyR.of (g := g) hb2))
    have HF := Lib.hid (rp_fail (H1.out.below hb2) 7 a)
    have q1 := field_at1 k b vk vf vn vt a
    have q3 := field_at3 k b vk vf vn vt a
    clear hb2 HW
    go_wp2_with fail
    refine HF.out.mono ?_
    rintro e w4 ⟨rfl, hr4, ho4⟩
    have H4 := Lib.hid hr4
    have HO4 := Lib.hid (HO2.out.trans ho4)
    clear hr4 ho4
    go_wp2
    go_ret
    exact ⟨by rw [HV.out]; rfl, by rw [HS.out]; exact H4.out, HO4.out⟩
end Go.Proofs.Ythdjkagodccdbaa
