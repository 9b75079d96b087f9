/-
  Terms and literals in memory: six cells a term, four a literal; lists of one's own of them, and of texts.
  No condition.
  The document's term: a constant, or a variable.
  Condition: no more than four hundred tokens, and a place among them.
  The program's parser, its small calls: take, has, need, name, number, term, arg; which aggregate a token tells.
  Condition: no more than four hundred tokens, and one that is left.
-/
import Derived.Test.YtmkejlhkipngnaaGreatDoorM15
import Derived.Test.YtmkejlhkipngnaaGreatDoorM26
import Derived.Test.YtmkejlhkipngnaaGreatDoorM27
namespace Go.Proofs.YtmkejlhkipngnaaGreatDoor
section
open Go.RowKit

abbrev TmP.cells (x : TmP) : List Value := [.string x.s, .bool x.a, .int .i64 x.v.k, .bool x.v.f, .int .i64 x.v.n, .string x.v.t]
abbrev TmP.val (x : TmP) : Value := .agg #[.string x.s, .bool x.a, .int .i64 x.v.k, .bool x.v.f, .int .i64 x.v.n, .string x.v.t]
/-- A literal as it lies: its terms lie elsewhere. -/
structure LmP where
  n : Bool
  s : ByteArray
  v : Value
  o : Int
abbrev LmP.cells (x : LmP) : List Value := [.bool x.n, .string x.s, x.v, .int .i64 x.o]
abbrev strC (s : ByteArray) : List Value := [.string s]
theorem el_Tm : IsEl 50 49 TmP.cells 6 64 where
  under := Tryz.underlying50
  info := ⟨.agg #[.string ⟨#[]⟩, .bool false, .int .i64 0, .bool false, .int .i64 0, .string ⟨#[]⟩], by kernel_rfl, rfl⟩
  pos := by omega
  len := fun _ => rfl
  one := fun x u hu => by
    simp only [List.mem_cons, List.not_mem_nil, or_false] at hu
    rcases hu with rfl | rfl | rfl | rfl | rfl | rfl <;> rfl
  few := by omega
theorem el_Str : IsEl 22 9 strC 1 16 where
  under := Tryz.underlying22
  info := ⟨.string ⟨#[]⟩, by kernel_rfl, rfl⟩
  pos := by omega
  len := fun _ => rfl
  one := fun x u hu => by
    simp only [strC, List.mem_cons, List.not_mem_nil, or_false] at hu
    rcases hu with rfl
    rfl
  few := by omega
/-- A literal whose terms' list is one cell. -/
def LmQ := { x : LmP // x.v.oneCell' = true }
def LmQ.cells (x : LmQ) : List Value := x.1.cells
theorem el_Lm : IsEl 23 52 LmQ.cells 4 56 where
  under := Tryz.underlying23
  info := ⟨.agg #[.bool false, .string ⟨#[]⟩, .slice none 0 0, .int .i64 0], by kernel_rfl, rfl⟩
  pos := by omega
  len := fun _ => rfl
  one := fun x u hu => by
    obtain ⟨x, hx⟩ := x
    simp only [LmQ.cells, List.mem_cons, List.not_mem_nil, or_false] at hu
    rcases hu with rfl | rfl | rfl | rfl
    · rfl
    · rfl
    · exact hx
    · rfl
  few := by omega
abbrev OwnTm (w : World) (base : Nat) (v : Value) (ls : List TmP) : Prop := OwnF 49 TmP.cells 6 w base v ls
abbrev OwnSt (w : World) (base : Nat) (v : Value) (ls : List ByteArray) : Prop := OwnF 9 strC 1 w base v ls
abbrev OwnLq (w : World) (base : Nat) (v : Value) (ls : List LmQ) : Prop := OwnF 52 LmQ.cells 4 w base v ls
/-- A block of its own whose cells were just laid. -/
theorem lit_F {α : Type} (f : α → List Value) (w : World) (x : α) (cs : Array Value) (T : TypeId) (h : cs.toList = f x) : ∀ j u, (f x)[j]? = some u → (w.alloc (.cells cs T)).cell? ((⟨w.heap.size, 0, none⟩ : Addr).add j) = some u := by
  intro j u hj
  have hn := heap_alloc_new w (.cells cs T)
  have e : (⟨w.heap.size, 0, none⟩ : Addr).add j = ⟨w.heap.size, j, none⟩ := by unfold Addr.add; split <;> simp_all
  rw [e, cell_of_row _ w.heap.size j _ T (0, 0) hn, ← hj, ← h, Array.getElem?_toList]
end
end Go.Proofs.YtmkejlhkipngnaaGreatDoor
namespace Go.Proofs.YtmkejlhkipngnaaGreatDoor
section
open Go.RowKit

theorem box6_of {W : World} {g : Nat} {a b c d e f : Value} {T : TypeId} (h : W.heap[g]? = some (.cells #[a, b, c, d, e, f] T (0, 0))) :
    W.cell? ⟨g, 0, none⟩ = some a ∧ W.cell? ⟨g, 1, none⟩ = some b ∧ W.cell? ⟨g, 2, none⟩ = some c ∧ W.cell? ⟨g, 3, none⟩ = some d ∧ W.cell? ⟨g, 4, none⟩ = some e ∧ W.cell? ⟨g, 5, none⟩ = some f ∧ (∀ i, W.frozen? ⟨g, i, none⟩ = false) :=
  ⟨cell_of_row _ g 0 _ _ (0, 0) h, cell_of_row _ g 1 _ _ (0, 0) h, cell_of_row _ g 2 _ _ (0, 0) h, cell_of_row _ g 3 _ _ (0, 0) h, cell_of_row _ g 4 _ _ (0, 0) h, cell_of_row _ g 5 _ _ (0, 0) h, fun i => by simp [World.frozen?, h]⟩
theorem box4_of {W : World} {g : Nat} {a b c d : Value} {T : TypeId} (h : W.heap[g]? = some (.cells #[a, b, c, d] T (0, 0))) :
    W.cell? ⟨g, 0, none⟩ = some a ∧ W.cell? ⟨g, 1, none⟩ = some b ∧ W.cell? ⟨g, 2, none⟩ = some c ∧ W.cell? ⟨g, 3, none⟩ = some d ∧ (∀ i, W.frozen? ⟨g, i, none⟩ = false) :=
  ⟨cell_of_row _ g 0 _ _ (0, 0) h, cell_of_row _ g 1 _ _ (0, 0) h, cell_of_row _ g 2 _ _ (0, 0) h, cell_of_row _ g 3 _ _ (0, 0) h, fun i => by simp [World.frozen?, h]⟩
/-- A store into a block that is new keeps what was there. -/
theorem OnlyR.new {g b i : Nat} {w w' : World} (h : OnlyR g w w') (hb : w.heap.size ≤ b) (v : Value) : OnlyR g w (w'.setCell ⟨b, i, none⟩ v) := by
  refine ⟨h.1.setCell (p := ⟨b, i, none⟩) (Nat.zero_le _) v, fun k hk hg => ?_⟩
  rw [Below.heap_setCell w' ⟨b, i, none⟩ v k (by show k ≠ b; omega)]
  exact h.2 k hk hg
theorem RdP.new {w : World} {g t c b i : Nat} {ls : List Tok} {s : Rst} (h : RdP w g t c ls s) (hg : g ≠ b) (ht : t ≠ b) (v : Value) : RdP (w.setCell ⟨b, i, none⟩ v) g t c ls s :=
  h.other (h := b) (OnlyR.set b i w v) hg ht
theorem RdP.tlt {w : World} {g t c : Nat} {ls : List Tok} {s : Rst} (h : RdP w g t c ls s) : t < w.heap.size := by
  obtain ⟨⟨k, b, ⟨vk, vf, vn, vt⟩, a⟩, hX⟩ : ∃ x, nowR ls s = x := ⟨_, rfl⟩
  have := nowR_at h.2.2.2.1
  rw [hX] at this
  exact World.block_lt_of_cell? w _ (h.tok this).1
abbrev zeroTm : Obj := .cells #[.string ⟨#[]⟩, .bool false, .int .i64 0, .bool false, .int .i64 0, .string ⟨#[]⟩] 49

set_option maxRecDepth 10000 in
set_option maxHeartbeats 2000000 in
theorem rp_term {w : World} {g t c : Nat} {ls : List Tok} {s : Rst} (h : RdP w g t c ls s) :
    Calls Tryz.prog 62 #[.pointer (some ⟨g, 0, none⟩)] w fun e w' => e = .returned (tmV ls s).val ∧ RdP w' g t c ls (tmS ls s) ∧ OnlyR g w w' := by
  have hon := one_new w zeroTm
  have h1 := h.below hon
  obtain ⟨⟨k, b, ⟨vk, vf, vn, vt⟩, a⟩, hX⟩ : ∃ x, nowR ls s = x := ⟨_, rfl⟩
  have hC : conB ls s = (decide (s.why = 0) && decide (k = 2)) := by unfold conB; rw [hX]
  have hS : tmS ls s = if conB ls s = true then stepR ls s else nmS ls s := rfl
  have hV : tmV ls s = if conB ls s = true then ⟨⟨#[]⟩, false, ⟨vk, vf, vn, vt⟩⟩ else ⟨nmV ls s, false, noV⟩ := by unfold tmV; rw [hX]
  obtain ⟨_, _, c2, _⟩ := h.cell
  have HC := Lib.hid hC
  have HS := Lib.hid hS
  have HV := Lib.hid hV
  have HN := Lib.hid (rp_now' h1 hX)
  have HON := Lib.hid hon
  have H1 := Lib.hid h1
  have hg := h.lt
  have ht := h.tlt
  have hk0 := heap_alloc_new w zeroTm
  have HK0 := Lib.hid hk0
  generalize tmS ls s = s2 at *
  generalize tmV ls s = v2 at *
  generalize conB ls s = q at *
  clear h hX h1 hon hC hS hV hk0
  go_enter Tryz.func62, Tryz.ntmps62
  go_wp2_with fail
  refine HN.out.mono ?_
  rintro e w1 ⟨rfl, hb1⟩
  have hz1 : w.heap.size + 1 ≤ w1.heap.size := by have := hb1.size; simpa using this
  have hb2 : Below (w.heap.size + 1) (w.alloc zeroTm) (w1.alloc (Tok.obj k b vk vf vn vt a)) := (hb1.mono (by simp)).trans ((one_new w1 _).mono hz1)
  have hB2 := HON.out.trans (hb2.mono (by omega))
  have HB2 := Lib.hid hB2
  have R2 := Lib.hid (H1.out.below (by rw [World.size_alloc]; exact hb2))
  have hbx := (hb2.block w.heap.size (by omega)).trans HK0.out
  have HBX := Lib.hid hbx
  have hby := heap_alloc_new w1 (Tok.obj k b vk vf vn vt a)
  have HBY := Lib.hid hby
  have c2 := (hB2.cell (p := ⟨g, 2, none⟩) hg).trans c2
  have n0 := cell_of_row _ w1.heap.size 0 _ _ (0, 0) hby
  clear hb1 hb2 hB2 HN hbx hby
  by_cases hcon : s.why = 0 ∧ k = 2
  · obtain ⟨hy, rfl⟩ := hcon
    have hq : q = true := by rw [HC.out, hy]; rfl
    subst hq
    rw [hy] at c2
    have HST := Lib.hid (rp_step R2.out)
    clear HC hy
    go_wp2_with fail
    refine HST.out.mono ?_
    rintro e w3 ⟨rfl, hr3, ho3⟩
    have hsz3 := ho3.size
    rw [World.size_alloc] at hsz3
    have k1 := (ho3.2 w.heap.size (by rw [World.size_alloc]; omega) (by omega)).trans HBX.out
    have k2 := (ho3.2 w1.heap.size (by rw [World.size_alloc]; omega) (by omega)).trans HBY.out
    have R3 := Lib.hid hr3
    have HO3 := Lib.hid ((OnlyR.of (g := g) HB2.out).trans ho3)
    obtain ⟨d0, d1, d2, d3, d4, d5, df⟩ := box6_of k1
    have f0 := df 0
    have f1 := df 1
    have f2 := df 2
    have f3 := df 3
    have f4 := df 4
    have f5 := df 5
    have e2 := cell_of_row _ w1.heap.size 2 _ _ (0, 0) k2
    have e3 := cell_of_row _ w1.heap.size 3 _ _ (0, 0) k2
    have e4 := cell_of_row _ w1.heap.size 4 _ _ (0, 0) k2
    have e5 := cell_of_row _ w1.heap.size 5 _ _ (0, 0) k2
    clear hr3 ho3 k1 k2 df n0 c2 HST
    go_wp2
    exact bodyPost_ret (v := .agg #[.string ⟨#[]⟩, .bool false, .int .i64 vk, .bool vf, .int .i64 vn, .string vt]) (by simp [results, Tryz.results62, go_sem, d0, d1, d2, d3, d4, d5]) rfl
      ⟨by rw [HV.out]; rfl, by rw [HS.out, if_pos trivial]; repeat (first | (with_reducible exact R3.out) | (with_reducible refine RdP.new ?_ (by omega) (by omega) _)), by repeat (first | (with_reducible exact HO3.out) | (with_reducible refine OnlyR.new ?_ (Nat.le_refl _) _))⟩
  · have hq : q = false := by
      rw [HC.out, Bool.and_eq_false_iff, decide_eq_false_iff_not, decide_eq_false_iff_not]
      by_cases h1 : s.why = 0
      · exact .inr fun h => hcon ⟨h1, h⟩
      · exact .inl h1
    subst hq
    have HNM := Lib.hid (rp_name R2.out)
    have HQ := Lib.hid HC.out
    clear HC
    by_cases hy : s.why = 0
    · have hk : (k == 2) = false := by simpa using fun h => hcon ⟨hy, h⟩
      rw [hy] at c2
      clear hcon hy
      go_wp2_with fail
      refine HNM.out.mono ?_
      rintro e w3 ⟨rfl, hr3, ho3⟩
      have hsz3 := ho3.size
      rw [World.size_alloc] at hsz3
      have k1 := (ho3.2 w.heap.size (by rw [World.size_alloc]; omega) (by omega)).trans HBX.out
      have R3 := Lib.hid hr3
      have HO3 := Lib.hid ((OnlyR.of (g := g) HB2.out).trans ho3)
      obtain ⟨d0, d1, d2, d3, d4, d5, df⟩ := box6_of k1
      have f0 := df 0
      have f1 := df 1
      have f2 := df 2
      have f3 := df 3
      have f4 := df 4
      have f5 := df 5
      clear hr3 ho3 k1 df n0 c2 HNM
      go_wp2
      exact bodyPost_ret (v := .agg #[.string (nmV ls s), .bool false, .int .i64 0, .bool false, .int .i64 0, .string ⟨#[]⟩]) (by simp [results, Tryz.results62, go_sem, d0, d1, d2, d3, d4, d5]) rfl
        ⟨by rw [HV.out]; rfl, by rw [HS.out, if_neg Bool.false_ne_true]; repeat (first | (with_reducible exact R3.out) | (with_reducible refine RdP.new ?_ (by omega) (by omega) _)), by repeat (first | (with_reducible exact HO3.out) | (with_reducible refine OnlyR.new ?_ (Nat.le_refl _) _))⟩
    · have hy' : (s.why == 0) = false := by simpa using hy
      clear hcon
      go_wp2_with fail
      refine HNM.out.mono ?_
      rintro e w3 ⟨rfl, hr3, ho3⟩
      have hsz3 := ho3.size
      rw [World.size_alloc] at hsz3
      have k1 := (ho3.2 w.heap.size (by rw [World.size_alloc]; omega) (by omega)).trans HBX.out
      have R3 := Lib.hid hr3
      have HO3 := Lib.hid ((OnlyR.of (g := g) HB2.out).trans ho3)
      obtain ⟨d0, d1, d2, d3, d4, d5, df⟩ := box6_of k1
      have f0 := df 0
      have f1 := df 1
      have f2 := df 2
      have f3 := df 3
      have f4 := df 4
      have f5 := df 5
      clear hr3 ho3 k1 df n0 c2 HNM
      go_wp2
      exact bodyPost_ret (v := .agg #[.string (nmV ls s), .bool false, .int .i64 0, .bool false, .int .i64 0, .string ⟨#[]⟩]) (by simp [results, Tryz.results62, go_sem, d0, d1, d2, d3, d4, d5]) rfl
        ⟨by rw [HV.out]; rfl, by rw [HS.out, if_neg Bool.false_ne_true]; repeat (first | (with_reducible exact R3.out) | (with_reducible refine RdP.new ?_ (by omega) (by omega) _)), by repeat (first | (with_reducible exact HO3.out) | (with_reducible refine OnlyR.new ?_ (Nat.le_refl _) _))⟩
end
end Go.Proofs.YtmkejlhkipngnaaGreatDoor
namespace Go.Proofs.YtmkejlhkipngnaaGreatDoor
section
open Go.RowKit

set_option maxRecDepth 10000 in
set_option maxHeartbeats 2000000 in
theorem k_take {w : World} {g t i : Nat} {ls : List Tok} (h : RdK w g t ls i) (hi : i < ls.length) {k : Int} {b : ByteArray} {vk : Int} {vf : Bool} {vn : Int} {vt : ByteArray} {a : Int} (hX : hdT (ls.drop i) = ⟨k, b, ⟨vk, vf, vn, vt⟩, a⟩) :
    Calls Tryz.prog 44 #[.pointer (some ⟨g, 0, none⟩)] w fun e w' => e = .returned (.agg #[.int .i64 k, .string b, .int .i64 vk, .bool vf, .int .i64 vn, .string vt, .int .i64 a]) ∧ RdK w' g t ls (i + 1) ∧ OnlyR g w w' := by
  have hon := two_new w zeroTk (tkO k b vk vf vn vt a)
  have hon1 := one_new w zeroTk
  have h1 := h.below hon1
  have h2 := h.below hon
  have hg := h.lt
  have hx := hd_at hi
  rw [hX] at hx
  obtain ⟨d0, d1, d2, d3, d4, d5, d6⟩ := h1.tok hx
  have HS := Lib.hid (fun o c => h.set hi o c)
  have hf := h.frozen
  obtain ⟨o, c, hb, ho, hc, _⟩ := h1
  have c0 := cell_of_row _ g 0 _ _ (0, 0) hb
  have ho := ho hi
  subst ho
  have c1 := cell_of_row _ g 0 _ _ (0, 0) (((one_new (w.alloc zeroTk) (tkO k b vk vf vn vt a)).block g (by simp; omega)).trans hb)
  have hl : (0 : Int) < ((ls.length - i : Nat) : Int) := by omega
  have hlc : ls.length - i ≤ c := hc
  have hc1 : ls.length - i - 1 ≤ c - 1 := by omega
  obtain ⟨n, hn⟩ : ∃ n, ls.length - i = n + 1 := ⟨ls.length - i - 1, by omega⟩
  have hn1 : ls.length - (i + 1) = n := by omega
  have HN1 := Lib.hid hn1
  have HON := Lib.hid hon
  rw [hn] at c0 c1 hlc hl
  have HI : Hid (i + 1 < ls.length → 0 < n) := Lib.hid (by omega)
  rw [hn1] at HS
  clear h h2 hX hx hon hon1 hb hc hc1 hn hn1
  go_enter Tryz.func44, Tryz.ntmps44
  go_wp2
  · go_returns
    refine ⟨rfl, ?_, (OnlyR.set _ _ _ _).trans (OnlyR.of (two_new _ _ _))⟩
    exact (HS.out (i * 7) 0 (fun e => by have := HI.out e; omega) (by omega)).below (two_new _ _ _)
  · go_returns
    refine ⟨rfl, ?_, (OnlyR.set _ _ _ _).trans (OnlyR.of (two_new _ _ _))⟩
    exact (HS.out (i * 7 + 7) (c - 1) (fun _ => by omega) (by omega)).below (two_new _ _ _)

theorem field_k1 (k : Int) (b : ByteArray) (vk : Int) (vf : Bool) (vn : Int) (vt : ByteArray) (a : Int) (W : World) : (Instr.field 40 (.agg #[.int .i64 k, .string b, .int .i64 vk, .bool vf, .int .i64 vn, .string vt, .int .i64 a]) 1).run Tryz.prog W = .ok (.string b) W := by kernel_rfl
set_option maxHeartbeats 1000000 in
theorem k_has {w : World} {g t i : Nat} {ls : List Tok} (h : RdK w g t ls i) (hA : AtI ls i) (u : ByteArray) (hu : u.data.toList ≠ []) :
    Calls Tryz.prog 48 #[.pointer (some ⟨g, 0, none⟩), .string u] w fun e w' => e = .returned (.bool (hasP (ls.drop i) u.data.toList)) ∧ OnlyR g w w' ∧ (hasP (ls.drop i) u.data.toList = true → AtI ls (i + 1) ∧ RdK w' g t ls (i + 1)) ∧ (hasP (ls.drop i) u.data.toList = false → RdK w' g t ls i) := by
  obtain ⟨⟨k, b, ⟨vk, vf, vn, vt⟩, a⟩, hX⟩ : ∃ x, hdT (ls.drop i) = x := ⟨_, rfl⟩
  have HL := Lib.hid (k_look h hA.i hX)
  have H := Lib.hid h
  have HX := Lib.hid hX
  have HIT := Lib.hid (hA.hit (t := u.data.toList) hu)
  have hq : hasP (ls.drop i) u.data.toList = decide (b.data.toList = u.data.toList) := by unfold hasP; rw [hX]
  have HI := Lib.hid hA.i
  have hub : u.toList = u.data.toList := ByteArray.toList_eq u
  have hbb : b.toList = b.data.toList := ByteArray.toList_eq b
  have HUB := Lib.hid hub
  have HBB := Lib.hid hbb
  have HQ := Lib.hid hq
  have q1 := field_k1 k b vk vf vn vt a
  generalize hasP (ls.drop i) u.data.toList = q at *
  clear h hX hq hub hbb
  go_enter Tryz.func48, Tryz.ntmps48
  go_wp2_with fail
  refine HL.out.mono ?_
  rintro e w1 ⟨rfl, hb1⟩
  have H1 := Lib.hid (H.out.below hb1)
  have HO1 := Lib.hid (OnlyR.of (g := g) hb1)
  clear hb1 HL H
  by_cases he : b.data.toList = u.data.toList
  · have b1 : (b.toList == u.toList) = true := by rw [HUB.out, HBB.out, he]; simp
    have HQT : Hid (q = true) := Lib.hid (by rw [HQ.out]; exact decide_eq_true he)
    have HT := Lib.hid (k_take H1.out HI.out HX.out)
    clear he
    go_wp2_with fail
    refine HT.out.mono ?_
    rintro e w2 ⟨rfl, hr2, ho2⟩
    have H2 := Lib.hid hr2
    have HO2 := Lib.hid (HO1.out.trans ho2)
    clear hr2 ho2 HT
    go_wp2
    go_ret
    exact ⟨by rw [HQT.out]; rfl, HO2.out, fun _ => ⟨HIT.out HQT.out, H2.out⟩, fun e => by rw [HQT.out] at e; cases e⟩
  · have b1 : (b.toList == u.toList) = false := by rw [HUB.out, HBB.out]; exact beq_eq_false_iff_ne.2 he
    have HQT : Hid (q = false) := Lib.hid (by rw [HQ.out]; exact decide_eq_false he)
    clear he
    go_wp2
    go_ret
    exact ⟨by rw [HQT.out]; rfl, HO1.out, (fun e => by rw [HQT.out] at e; cases e), fun _ => H1.out⟩

set_option maxHeartbeats 1000000 in
theorem k_need {w : World} {g t i : Nat} {ls : List Tok} (h : RdK w g t ls i) (hA : AtI ls i) (u : ByteArray) (hu : u.data.toList ≠ []) :
    Calls Tryz.prog 30 #[.pointer (some ⟨g, 0, none⟩), .string u] w (ResP w g t ls (fun _ v _ => v = .tuple #[]) (needP (ls.drop i) u.data.toList)) := by
  obtain ⟨⟨k, b, ⟨vk, vf, vn, vt⟩, a⟩, hX⟩ : ∃ x, hdT (ls.drop i) = x := ⟨_, rfl⟩
  have HT := Lib.hid (k_take h hA.i hX)
  have hp : needP (ls.drop i) u.data.toList = if b.data.toList = u.data.toList then .ok () (ls.drop (i + 1)) else .bad a 7 := by
    unfold needP hasP
    rw [hX, List.tail_drop]
    simp only [decide_eq_true_eq]
  have HIT : Hid (b.data.toList = u.data.toList → AtI ls (i + 1)) := Lib.hid (fun e => hA.hit (t := u.data.toList) hu (by unfold hasP; rw [hX]; exact decide_eq_true e))
  have hub : u.toList = u.data.toList := ByteArray.toList_eq u
  have hbb : b.toList = b.data.toList := ByteArray.toList_eq b
  have HUB := Lib.hid hub
  have HBB := Lib.hid hbb
  have HP := Lib.hid hp
  generalize needP (ls.drop i) u.data.toList = p at *
  clear h hX hp hub hbb hA
  go_enter Tryz.func30, Tryz.ntmps30
  go_wp2_with fail
  refine HT.out.mono ?_
  rintro e w1 ⟨rfl, hr1, ho1⟩
  have H1 := Lib.hid hr1
  have HO1 := Lib.hid ho1
  clear hr1 ho1 HT
  have n1 := new_cellG w1 #[.int .i64 k, .string b, .int .i64 vk, .bool vf, .int .i64 vn, .string vt, .int .i64 a] 40 1
  have n6 := new_cellG w1 #[.int .i64 k, .string b, .int .i64 vk, .bool vf, .int .i64 vn, .string vt, .int .i64 a] 40 6
  have HO2 := Lib.hid (HO1.out.trans (OnlyR.of (g := g) (one_new w1 (tkO k b vk vf vn vt a))))
  have H2 := Lib.hid (H1.out.below (one_new w1 (tkO k b vk vf vn vt a)))
  by_cases he : b.data.toList = u.data.toList
  · have b1 : (b.toList == u.toList) = true := by rw [HUB.out, HBB.out, he]; simp
    have hp := HP.out
    rw [if_pos he] at hp
    have hi := HIT.out he
    have HP2 := Lib.hid hp
    have HI2 := Lib.hid hi
    clear he hp hi
    go_wp2
    go_end0
    exact ResP.ok HO2.out HP2.out rfl HI2.out H2.out
  · have b1 : (b.toList == u.toList) = false := by rw [HUB.out, HBB.out]; exact beq_eq_false_iff_ne.2 he
    have hp := HP.out
    rw [if_neg he] at hp
    have HP2 := Lib.hid hp
    clear he hp
    go_wp2
    exact ⟨rfl, ResP.bad HO2.out HP2.out⟩

theorem k_isName (k : Int) (b : ByteArray) (vk : Int) (vf : Bool) (vn : Int) (vt : ByteArray) (a : Int) (w : World) :
    Calls Tryz.prog 45 #[.agg #[.int .i64 k, .string b, .int .i64 vk, .bool vf, .int .i64 vn, .string vt, .int .i64 a]] w fun e w' => e = .returned (.bool (nmB ⟨k, b, ⟨vk, vf, vn, vt⟩, a⟩)) ∧ Below w.heap.size w w' := by
  have HI : Hid (nmB ⟨k, b, ⟨vk, vf, vn, vt⟩, a⟩ = (decide (k = 1) && nameR b.data.toList && !resB b.data.toList)) := Lib.hid rfl
  have HM : Hid (∀ W, Calls Tryz.prog 74 #[.string b] W fun e w' => e = .returned (.bool (nameR b.data.toList)) ∧ w' = W) := Lib.hid fun W => s_name b W
  have HR : Hid (∀ W, Calls Tryz.prog 75 #[.string b] W fun e w' => e = .returned (.bool (resB b.data.toList)) ∧ W = w') := Lib.hid fun W => lx_reserved b W
  have n0 := new_cellG w #[.int .i64 k, .string b, .int .i64 vk, .bool vf, .int .i64 vn, .string vt, .int .i64 a] 40 0
  have n1 := new_cellG w #[.int .i64 k, .string b, .int .i64 vk, .bool vf, .int .i64 vn, .string vt, .int .i64 a] 40 1
  generalize nmB ⟨k, b, ⟨vk, vf, vn, vt⟩, a⟩ = q at *
  generalize nameR b.data.toList = p1 at *
  generalize resB b.data.toList = p2 at *
  go_enter Tryz.func45, Tryz.ntmps45
  by_cases hk : k = 1
  · subst hk
    cases p1 with
    | true =>
      go_wp2_with (first | (go_at_call 74; refine (HM.out _).mono ?_; rintro e w' ⟨rfl, rfl⟩) | (go_at_call 75; refine (HR.out _).mono ?_; rintro e w' ⟨rfl, rfl⟩))
      go_ret
      refine ⟨?_, one_new w _⟩
      rw [HI.out]
      cases p2 <;> rfl
    | false =>
      go_wp2_with (go_at_call 74; refine (HM.out _).mono ?_; rintro e w' ⟨rfl, rfl⟩)
      go_ret
      exact ⟨by rw [HI.out]; rfl, one_new w _⟩
  · have b1 : (k == 1) = false := by simpa using hk
    have HK : Hid (decide (k = 1) = false) := Lib.hid (decide_eq_false hk)
    clear hk
    go_wp2
    go_ret
    exact ⟨by rw [HI.out, HK.out]; rfl, one_new w _⟩
theorem k_isTerm (k : Int) (b : ByteArray) (vk : Int) (vf : Bool) (vn : Int) (vt : ByteArray) (a : Int) (w : World) :
    Calls Tryz.prog 76 #[.agg #[.int .i64 k, .string b, .int .i64 vk, .bool vf, .int .i64 vn, .string vt, .int .i64 a]] w fun e w' => e = .returned (.bool (isTm ⟨k, b, ⟨vk, vf, vn, vt⟩, a⟩)) ∧ Below w.heap.size w w' := by
  have HI : Hid (isTm ⟨k, b, ⟨vk, vf, vn, vt⟩, a⟩ = (decide (k = 2) || nmB ⟨k, b, ⟨vk, vf, vn, vt⟩, a⟩)) := Lib.hid rfl
  have HN := Lib.hid (k_isName k b vk vf vn vt a (w.alloc (tkO k b vk vf vn vt a)))
  have n0 := new_cellG w #[.int .i64 k, .string b, .int .i64 vk, .bool vf, .int .i64 vn, .string vt, .int .i64 a] 40 0
  have n1 := new_cellG w #[.int .i64 k, .string b, .int .i64 vk, .bool vf, .int .i64 vn, .string vt, .int .i64 a] 40 1
  have n2 := new_cellG w #[.int .i64 k, .string b, .int .i64 vk, .bool vf, .int .i64 vn, .string vt, .int .i64 a] 40 2
  have n3 := new_cellG w #[.int .i64 k, .string b, .int .i64 vk, .bool vf, .int .i64 vn, .string vt, .int .i64 a] 40 3
  have n4 := new_cellG w #[.int .i64 k, .string b, .int .i64 vk, .bool vf, .int .i64 vn, .string vt, .int .i64 a] 40 4
  have n5 := new_cellG w #[.int .i64 k, .string b, .int .i64 vk, .bool vf, .int .i64 vn, .string vt, .int .i64 a] 40 5
  have n6 := new_cellG w #[.int .i64 k, .string b, .int .i64 vk, .bool vf, .int .i64 vn, .string vt, .int .i64 a] 40 6
  generalize isTm ⟨k, b, ⟨vk, vf, vn, vt⟩, a⟩ = q at *
  generalize nmB ⟨k, b, ⟨vk, vf, vn, vt⟩, a⟩ = p1 at *
  go_enter Tryz.func76, Tryz.ntmps76
  by_cases hk : k = 2
  · subst hk
    go_wp2
    go_ret
    exact ⟨by rw [HI.out]; rfl, one_new w _⟩
  · have b1 : (k == 2) = false := by simpa using hk
    have HK : Hid (decide (k = 2) = false) := Lib.hid (decide_eq_false hk)
    clear hk
    go_wp2_with (go_at_call 45; refine HN.out.mono ?_; rintro e w' ⟨rfl, hb⟩; have HB := Lib.hid hb; clear hb)
    go_ret
    refine ⟨?_, (one_new w (tkO k b vk vf vn vt a)).trans (HB.out.mono (by simp))⟩
    rw [HI.out, HK.out]
    cases p1 <;> rfl

set_option maxHeartbeats 1000000 in
theorem k_name {w : World} {g t i : Nat} {ls : List Tok} (h : RdK w g t ls i) (hA : AtI ls i) :
    Calls Tryz.prog 29 #[.pointer (some ⟨g, 0, none⟩)] w (ResP w g t ls (fun b v _ => v = .string b) (nameP (ls.drop i))) := by
  obtain ⟨⟨k, b, ⟨vk, vf, vn, vt⟩, a⟩, hX⟩ : ∃ x, hdT (ls.drop i) = x := ⟨_, rfl⟩
  have HT := Lib.hid (k_take h hA.i hX)
  have hp : nameP (ls.drop i) = if nmB ⟨k, b, ⟨vk, vf, vn, vt⟩, a⟩ = true then .ok b (ls.drop (i + 1)) else .bad a 7 := by
    unfold nameP
    rw [hX, List.tail_drop]
  have HIT : Hid (nmB ⟨k, b, ⟨vk, vf, vn, vt⟩, a⟩ = true → AtI ls (i + 1)) := Lib.hid (fun e => (hA.next (by rw [hX, nmB_k e]; decide)).1)
  have HP := Lib.hid hp
  have HN := Lib.hid (k_isName k b vk vf vn vt a)
  generalize nameP (ls.drop i) = p at *
  generalize nmB ⟨k, b, ⟨vk, vf, vn, vt⟩, a⟩ = q at *
  clear h hX hp hA
  go_enter Tryz.func29, Tryz.ntmps29
  go_wp2_with fail
  refine HT.out.mono ?_
  rintro e w1 ⟨rfl, hr1, ho1⟩
  have HO2 := Lib.hid (ho1.trans (OnlyR.of (g := g) (one_new w1 (tkO k b vk vf vn vt a))))
  have H2 := Lib.hid (hr1.below (one_new w1 (tkO k b vk vf vn vt a)))
  have hh := heap_alloc_new w1 (tkO k b vk vf vn vt a)
  have HH := Lib.hid hh
  obtain ⟨n0, n1, n2, n3, n4, n5, n6⟩ := tok_cells hh
  clear hr1 ho1 HT hh
  go_wp2_with fail
  refine (HN.out _).mono ?_
  rintro e w3 ⟨rfl, hb3⟩
  have HO3 := Lib.hid (HO2.out.trans (OnlyR.of (g := g) hb3))
  have H3 := Lib.hid (H2.out.below hb3)
  have hh3 := (hb3.block w1.heap.size (by simp)).trans HH.out
  obtain ⟨m0, m1, m2, m3, m4, m5, m6⟩ := tok_cells hh3
  clear hb3 hh3 n0 n1 n2 n3 n4 n5 n6 HN
  cases q with
  | true =>
    go_wp2
    go_ret
    exact ResP.ok HO3.out (by rw [HP.out]; rfl) rfl (HIT.out (by trivial)) H3.out
  | false =>
    go_wp2
    exact ⟨rfl, ResP.bad HO3.out (by rw [HP.out]; rfl)⟩
end
end Go.Proofs.YtmkejlhkipngnaaGreatDoor
