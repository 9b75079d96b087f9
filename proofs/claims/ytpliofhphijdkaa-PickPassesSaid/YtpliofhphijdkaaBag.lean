/-
  Bags of package bag as lists in order: New, Add, Of, Many, Len, From, Least, Most, Copy.
  No condition but that a bag has no more rows, and a row no more cells, than fits.
-/
import Derived.Test.YtpliofhphijdkaaBpure
namespace Go.Proofs.Ytpliofhphijdkaa
open Go.RowKit

/-- A box of one cell, of whatever type. -/
def BoxA (w : World) (g : Nat) (v : Value) : Prop := ∃ t, Boxed w g t v
theorem BoxA.lt {w : World} {g : Nat} {v : Value} (h : BoxA w g v) : g < w.heap.size := by
  obtain ⟨t, h⟩ := h
  exact h.lt
theorem BoxA.cell {w : World} {g : Nat} {v : Value} (h : BoxA w g v) : w.cell? ⟨g, 0, none⟩ = some v := by
  obtain ⟨t, h⟩ := h
  exact h.cell
theorem BoxA.frozen {w : World} {g : Nat} {v : Value} (h : BoxA w g v) : w.frozen? ⟨g, 0, none⟩ = false := by
  obtain ⟨t, h⟩ := h
  exact h.frozen
theorem BoxA.set {w : World} {g : Nat} {v : Value} (h : BoxA w g v) (v' : Value) : BoxA (w.setCell ⟨g, 0, none⟩ v') g v' := by
  obtain ⟨t, h⟩ := h
  exact ⟨t, h.set v'⟩
theorem BoxA.keep {w w' : World} {g : Nat} {v : Value} (h : BoxA w g v) (hg : w'.heap[g]? = w.heap[g]?) : BoxA w' g v := by
  obtain ⟨t, h⟩ := h
  exact ⟨t, hg.trans h⟩
theorem BoxA.new (w : World) (t : TypeId) (v : Value) : BoxA (w.alloc (.cells #[v] t)) w.heap.size v := ⟨t, Boxed.new w t v⟩
/-- A bag with the list l lies in the box at block g; its tree lies in blocks of Q. -/
def BagL (w : World) (Q : Nat → Prop) (g : Nat) (l : List En) : Prop := Good l ∧ ∃ p t, t.toL = l ∧ BoxA w g (.pointer p) ∧ TreeAt w Q p t
/-- A bag at a pointer: no bag has no rows. -/
def BagP (w : World) (Q : Nat → Prop) (p : Option Addr) (l : List En) : Prop := (p = none ∧ l = []) ∨ ∃ g, p = some ⟨g, 0, none⟩ ∧ BagL w Q g l
theorem BagL.lt {w : World} {Q : Nat → Prop} {g : Nat} {l : List En} (h : BagL w Q g l) : g < w.heap.size := by
  obtain ⟨_, p, t, _, h1, _⟩ := h
  exact h1.lt
theorem BagL.keep {w w' : World} {Q : Nat → Prop} {g : Nat} {l : List En} (h : BagL w Q g l) (hk : KeepQ Q w w') (hg : w'.heap[g]? = w.heap[g]?) : BagL w' Q g l := by
  obtain ⟨h0, p, t, h1, h2, h3⟩ := h
  exact ⟨h0, p, t, h1, h2.keep hg, h3.keep hk⟩
theorem BagL.below {w w' : World} {Q : Nat → Prop} {g : Nat} {l : List En} (h : BagL w Q g l) (hb : Below w.heap.size w w') : BagL w' Q g l := h.keep (Below.keepQ hb Q) (hb.block g h.lt)
theorem BagL.only {w w' : World} {Q : Nat → Prop} {g g' : Nat} {l : List En} (h : BagL w Q g l) (hb : Only g' w w') (hg : ¬ Q g') (hne : g ≠ g') : BagL w' Q g l := h.keep (hb.keepQ hg) (hb.2 g h.lt hne)
theorem BagP.below {w w' : World} {Q : Nat → Prop} {p : Option Addr} {l : List En} (h : BagP w Q p l) (hb : Below w.heap.size w w') : BagP w' Q p l := by
  rcases h with h | ⟨g, h1, h2⟩
  · exact Or.inl h
  · exact Or.inr ⟨g, h1, h2.below hb⟩
theorem BagP.good {w : World} {Q : Nat → Prop} {p : Option Addr} {l : List En} (h : BagP w Q p l) : Good l := by
  rcases h with ⟨_, rfl⟩ | ⟨g, _, h, _⟩
  · exact Good.nil
  · exact h

theorem right_rows (R : Nat → Prop) (v : Value) (x : List V) (w : World) (hx : IsRow w R v x) : Calls Try.prog 48 #[v] w fun e w' => e = .returned (.bool (rightR x)) ∧ Below w.heap.size w w' := by
  have hl := hx.len
  obtain ⟨_, A, c, rfl, _, h1⟩ := hx
  exact row_right A x _ c w rfl hl h1.at

set_option maxHeartbeats 400000 in
theorem b_new (w : World) : Calls Try.prog 38 #[] w fun e w' => e = .returned (.pointer (some ⟨w.heap.size, 0, none⟩)) ∧ w' = w.alloc (.cells #[.pointer none] 67) := by
  go_enter Try.func38, Try.ntmps38
  go_wp2
  go_ret
  exact ⟨rfl, rfl⟩
theorem bag_new (Q : Nat → Prop) (w : World) : BagL (w.alloc (.cells #[.pointer none] 67)) Q w.heap.size [] :=
  ⟨Good.nil, none, .nil, rfl, BoxA.new w _ _, rfl⟩

/-- A call that changes a bag, and nothing else that was there. -/
def Changes (w : World) (Q : Nat → Prop) (g : Nat) (r : List En × Int) (e : Ending) (w' : World) : Prop := e = .returned (.int .i64 r.2) ∧ BagL w' Q g r.1 ∧ Only g w w'

theorem only_set (w : World) (g : Nat) (v : Value) : Only g w (w.setCell ⟨g, 0, none⟩ v) :=
  ⟨(Below.refl g w).setCell (p := ⟨g, 0, none⟩) (Nat.le_refl _) v, fun k _ hne => Below.heap_setCell w ⟨g, 0, none⟩ v k hne⟩

set_option maxHeartbeats 1000000 in
theorem b_add (R : Nat → Prop) (v : Value) (x : List V) (k : Int) (Q : Nat → Prop) (g : Nat) (l : List En) (w : World) (hk : -9223372036854775808 ≤ k ∧ k ≤ 9223372036854775807) (hQ : ∀ k, w.heap.size ≤ k → Q k) (hg : ¬ Q g) (hx : IsRow w R v x) (hb : BagL w Q g l) (hc : l.length ≤ 800000) :
    Calls Try.prog 31 #[.pointer (some ⟨g, 0, none⟩), v, .int .i64 k] w (Changes w Q g (addL x k l)) := by
  have HGO := Lib.hid (addL_good x k l hb.1)
  obtain ⟨hgo, p, t, rfl, hbox, ht⟩ := hb
  have hlt := hbox.lt
  have HX := Lib.hid hx
  have HQ := Lib.hid hQ
  have HG := Lib.hid hgo
  have HNG := Lib.hid hg
  have HB := Lib.hid hbox
  have HT := Lib.hid ht
  have HC := Lib.hid hc
  obtain ⟨_, A, c, rfl, _, _⟩ := hx
  have c0 := hbox.cell
  clear hQ hgo hbox ht hc hg
  unfold addL at HGO ⊢
  by_cases hr : rightR x = true
  · have hr' : ¬ rightR x = false := by simp [hr]
    rw [if_neg hr'] at HGO ⊢
    have HR := Lib.hid hr
    clear hr hr'
    by_cases ho : k < -1073741824 - manyL x t.toL ∨ 1073741824 - manyL x t.toL < k
    · rw [if_pos ho]
      have HP := Lib.hid (plusT_over x k t HG.out ho)
      clear ho
      go_enter Try.func31, Try.ntmps31
      go_wp2_with fail
      refine (right_rows R _ x _ HX.out).mono ?_
      rintro e w1 ⟨rfl, hbw⟩
      rw [HR.out]
      have hc1 := cl_of hbw g 0 hlt
      have HBW := Lib.hid hbw
      clear hbw
      go_wp2_with fail
      refine (t_plus R _ x k Q t p _ HG.out.1 (by rw [Tr.many_toL x t HG.out.1]; exact HG.out.many x) hk (fun j hj => HQ.out j (by have := HBW.out.size; omega)) (HX.out.below HBW.out) (HT.out.below HBW.out) (by rw [← Tr.len_toL]; exact HC.out)).mono ?_
      rintro e w2 ⟨q, rfl, hT2, hbw2⟩
      rw [HP.out]
      go_wp2
      go_ret
      have hbb := HBW.out.trans (hbw2.mono HBW.out.size)
      exact ⟨rfl, BagL.below ⟨HG.out, p, t, rfl, HB.out, HT.out⟩ hbb, Only.of_below hbb (by omega)⟩
    · rw [if_neg ho] at HGO ⊢
      have hpt := plusT_ok x k t HG.out ho
      have HP := Lib.hid hpt.1
      have HPL := Lib.hid hpt.2
      clear ho hpt
      go_enter Try.func31, Try.ntmps31
      go_wp2_with fail
      refine (right_rows R _ x _ HX.out).mono ?_
      rintro e w1 ⟨rfl, hbw⟩
      rw [HR.out]
      have hc1 := cl_of hbw g 0 hlt
      have HBW := Lib.hid hbw
      clear hbw
      go_wp2_with fail
      refine (t_plus R _ x k Q t p _ HG.out.1 (by rw [Tr.many_toL x t HG.out.1]; exact HG.out.many x) hk (fun j hj => HQ.out j (by have := HBW.out.size; omega)) (HX.out.below HBW.out) (HT.out.below HBW.out) (by rw [← Tr.len_toL]; exact HC.out)).mono ?_
      rintro e w2 ⟨q, rfl, hT2, hbw2⟩
      rw [HP.out]
      have hbb := HBW.out.trans (hbw2.mono HBW.out.size)
      have hbox2 : BoxA w2 g (.pointer p) := HB.out.keep (hbb.block g hlt)
      have HB2 := Lib.hid hbox2
      have c2 := hbox2.cell
      have f2 := hbox2.frozen
      have HBB := Lib.hid hbb
      clear hbb hbox2 hbw2
      go_wp2
      go_ret
      refine ⟨rfl, ⟨HGO.out, q, _, HPL.out, HB2.out.set _, hT2.keep ((only_set _ _ _).keepQ HNG.out)⟩, (Only.of_below HBB.out (by omega)).trans (only_set _ _ _)⟩
  · have hr' : rightR x = false := by simpa using hr
    rw [if_pos hr']
    have HR := Lib.hid hr'
    clear hr hr'
    go_enter Try.func31, Try.ntmps31
    go_wp2_with fail
    refine (right_rows R _ x _ HX.out).mono ?_
    rintro e w1 ⟨rfl, hbw⟩
    rw [HR.out]
    go_wp2
    go_ret
    exact ⟨rfl, BagL.below ⟨HG.out, p, t, rfl, HB.out, HT.out⟩ hbw, Only.of_below hbw (by omega)⟩

set_option maxHeartbeats 400000 in
theorem b_add_nil (R : Nat → Prop) (v : Value) (x : List V) (k : Int) (w : World) (hx : IsRow w R v x) : Calls Try.prog 31 #[.pointer none, v, .int .i64 k] w fun e w' => e = .returned (.int .i64 1) ∧ w = w' := by
  obtain ⟨_, A, c, rfl, _, _⟩ := hx
  go_enter Try.func31, Try.ntmps31
  go_wp2
  go_ret
  exact ⟨rfl, rfl⟩

set_option maxHeartbeats 400000 in
theorem b_top (Q : Nat → Prop) (p : Option Addr) (l : List En) (w : World) (hb : BagP w Q p l) :
    Calls Try.prog 39 #[.pointer p] w fun e w' => ∃ q t, e = .returned (.pointer q) ∧ t.toL = l ∧ TreeAt w Q q t ∧ w = w' := by
  rcases hb with ⟨rfl, rfl⟩ | ⟨g, rfl, hgo, q, t, rfl, hbox, ht⟩
  · go_enter Try.func39, Try.ntmps39
    go_wp2
    go_ret
    exact ⟨none, .nil, rfl, rfl, rfl, rfl⟩
  · have c0 := hbox.cell
    have HT := Lib.hid ht
    clear hgo hbox ht
    go_enter Try.func39, Try.ntmps39
    go_wp2
    go_ret
    exact ⟨q, t, rfl, rfl, HT.out, rfl⟩

set_option maxHeartbeats 400000 in
theorem top_nil (w : World) : Calls Try.prog 39 #[.pointer none] w fun e w' => e = .returned (.pointer none) ∧ w = w' := by
  go_enter Try.func39, Try.ntmps39
  go_wp2
  go_ret
  exact ⟨rfl, rfl⟩
set_option maxHeartbeats 400000 in
theorem top_at (g : Nat) (q : Option Addr) (w : World) (h : w.cell? ⟨g, 0, none⟩ = some (.pointer q)) : Calls Try.prog 39 #[.pointer (some ⟨g, 0, none⟩)] w fun e w' => e = .returned (.pointer q) ∧ w = w' := by
  go_enter Try.func39, Try.ntmps39
  go_wp2
  go_ret
  exact ⟨rfl, rfl⟩

set_option maxHeartbeats 400000 in
theorem b_len (Q : Nat → Prop) (p : Option Addr) (l : List En) (w : World) (hb : BagP w Q p l) :
    Calls Try.prog 32 #[.pointer p] w fun e w' => e = .returned (.int .i64 (l.length : Int)) ∧ w = w' := by
  have HT := Lib.hid (b_top Q p l w hb)
  clear hb
  go_enter Try.func32, Try.ntmps32
  go_wp2_with fail
  refine HT.out.mono ?_
  rintro e w1 ⟨q, t, rfl, hl, ht, rfl⟩
  have HL := Lib.hid hl
  clear hl
  go_wp2_with fail
  refine (t_len Q q t _ ht).mono ?_
  rintro e w1 ⟨rfl, rfl⟩
  go_wp2
  go_ret
  exact ⟨ret_int (by rw [← HL.out, Tr.len_toL]), rfl⟩

set_option maxHeartbeats 400000 in
theorem b_many (R : Nat → Prop) (v : Value) (x : List V) (Q : Nat → Prop) (p : Option Addr) (l : List En) (w : World) (hx : IsRow w R v x) (hb : BagP w Q p l) :
    Calls Try.prog 30 #[.pointer p, v] w fun e w' => e = .returned (.int .i64 (manyL x l)) ∧ Below w.heap.size w w' := by
  have HT := Lib.hid (b_top Q p l w hb)
  have HO := Lib.hid hb.good.1
  have HX := Lib.hid hx
  obtain ⟨_, A, c, rfl, _, _⟩ := hx
  clear hb
  go_enter Try.func30, Try.ntmps30
  go_wp2_with fail
  refine HT.out.mono ?_
  rintro e w1 ⟨q, t, rfl, hl, ht, rfl⟩
  have HL := Lib.hid hl
  clear hl
  go_wp2_with fail
  refine (t_many R _ x q t _ Q HX.out ht).mono ?_
  rintro e w1 ⟨rfl, hbw⟩
  go_wp2
  go_ret
  exact ⟨ret_int (by rw [Tr.many_toL x t (by rw [HL.out]; exact HO.out), HL.out]), hbw⟩

/-- What a search answers: a row, or why there is none. -/
def told (p : Option Addr) (e : Option En) : List V × Int := if p = none then ([], 1) else match e with | none => ([], 5) | some e => (e.1, 0)
/-- A call that answers a row and an error's number, and changes nothing that was there. -/
def Tells (w : World) (Q : Nat → Prop) (r : List V × Int) (e : Ending) (w' : World) : Prop := ∃ u, e = .returned (.tuple #[u, .int .i64 r.2]) ∧ IsRow w' Q u r.1 ∧ Below w.heap.size w w'

theorem row_none (w : World) (Q : Nat → Prop) : IsRow w Q (.slice none 0 0) [] := ⟨by simp, none, 0, rfl, fun _ => rfl, fun i v hi => by simp at hi⟩

theorem BagP.ptr {w : World} {Q : Nat → Prop} {p : Option Addr} {l : List En} (h : BagP w Q p l) : p = none ∨ ∃ g, p = some ⟨g, 0, none⟩ := by
  rcases h with ⟨h, _⟩ | ⟨g, h, _⟩
  · exact Or.inl h
  · exact Or.inr ⟨g, h⟩

theorem root_least (t : Tr) : t.least.root = t.toL.head? := by
  cases t with
  | nil => rfl
  | node r m l h =>
    obtain ⟨a, b, c, h1, rest, h2⟩ := Tr.least_toL (.node r m l h) (by simp [Tr.isNil])
    rw [h1, h2]
    rfl
theorem root_most (t : Tr) : t.most.root = t.toL.getLast? := by
  cases t with
  | nil => rfl
  | node r m l h =>
    obtain ⟨a, b, c, h1, rest, h2⟩ := Tr.most_toL (.node r m l h) (by simp [Tr.isNil])
    rw [h1, h2, List.getLast?_concat]
    rfl

set_option maxHeartbeats 400000 in
theorem b_copy (Q : Nat → Prop) (g : Nat) (l : List En) (w : World) (hb : BagL w Q g l) :
    Calls Try.prog 29 #[.pointer (some ⟨g, 0, none⟩)] w fun e w' => e = .returned (.pointer (some ⟨w.heap.size, 0, none⟩)) ∧ BagL w' Q w.heap.size l ∧ Below w.heap.size w w' := by
  obtain ⟨hgo, q, t, rfl, hbox, ht⟩ := hb
  have c0 := hbox.cell
  have HT := Lib.hid ht
  have HG := Lib.hid hgo
  clear hbox ht hgo
  go_enter Try.func29, Try.ntmps29
  go_wp2
  go_ret
  exact ⟨rfl, ⟨HG.out, q, t, rfl, BoxA.new w _ _, HT.out.below (one_new _ _)⟩, one_new _ _⟩
set_option maxHeartbeats 400000 in
theorem b_copy_nil (w : World) : Calls Try.prog 29 #[.pointer none] w fun e w' => e = .returned (.pointer none) ∧ w = w' := by
  go_enter Try.func29, Try.ntmps29
  go_wp2
  go_ret
  exact ⟨rfl, rfl⟩
end Go.Proofs.Ytpliofhphijdkaa
