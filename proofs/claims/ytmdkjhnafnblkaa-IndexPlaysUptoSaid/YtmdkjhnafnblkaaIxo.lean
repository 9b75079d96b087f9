/-
  Add, Find, Has and Keys of package index, at an index that is there and at none; nothing that was there is changed but by Add.
  Condition: rows and keys of no more than one million one hundred thousand cells, whose numbers have 64 bits.
-/
import Derived.Test.YtmdkjhnafnblkaaIxn
import Derived.Test.YtmdkjhnafnblkaaCq
import Derived.BigQuiet
namespace Go.Proofs.Ytmdkjhnafnblkaa
open Go.RowKit Go.Maps

/-- The worlds in which nothing below h has changed, under a name of their own. -/
theorem ext_class9 (h : Nat) (w : World) (hh : h ≤ w.heap.size) : ∃ (E : Type) (X : E → World), Nonempty E ∧ (∀ e, Below h w (X e)) ∧ (∀ W, Below h w W → ∃ e, W = X e) ∧ ∀ e W, Below (X e).heap.size (X e) W → ∃ e2, W = X e2 :=
  ⟨{W : World // Below h w W}, Subtype.val, ⟨⟨w, Below.refl _ _⟩⟩, fun e => e.2, fun W hW => ⟨⟨W, hW⟩, rfl⟩, fun e W hW => ⟨⟨W, e.2.trans (hW.mono (Nat.le_trans hh e.2.size))⟩, rfl⟩⟩
theorem cell_lift9 {w W : World} {p : Addr} {v : Value} (h : w.cell? p = some v) (hb : Below w.heap.size w W) : W.cell? p = some v := (hb.cell (World.block_lt_of_cell? w _ h)).trans h
theorem mark_size (xs : List V) (h : xs.length ≤ 1100000) : (markB xs).size ≤ maxLen := by
  have h1 : (markB xs).size = (rowB (xs.map toldV)).length := rfl
  have h2 := flat_valB_len (xs.map toldV)
  rw [List.length_map] at h2
  rw [h1]
  unfold rowB maxLen
  split
  · simp only [List.length_append, List.length_cons, List.length_nil]; omega
  · simp

/-! ### at no index -/
set_option maxHeartbeats 400000 in
theorem i_add_nil (v : Value) (k : Int) (w : World) (hv : ∃ A n c, v = .slice A n c) : Calls Try.prog 21 #[.pointer none, v, .int .i64 k] w fun e w' => e = .returned (.int .i64 1) ∧ w = w' := by
  obtain ⟨A, n, c, rfl⟩ := hv
  go_enter Try.func21, Try.ntmps21
  go_wp2
  go_ret
  exact ⟨rfl, rfl⟩
set_option maxHeartbeats 400000 in
theorem i_shelf_nil (v : Value) (w : World) (hv : ∃ A n c, v = .slice A n c) : Calls Try.prog 95 #[.pointer none, v] w fun e w' => e = .returned (.pointer none) ∧ w = w' := by
  obtain ⟨A, n, c, rfl⟩ := hv
  go_enter Try.func95, Try.ntmps95
  go_wp2
  go_ret
  exact ⟨rfl, rfl⟩
set_option maxHeartbeats 400000 in
theorem i_find_nil (v : Value) (w : World) (hv : ∃ A n c, v = .slice A n c) : Calls Try.prog 25 #[.pointer none, v] w fun e w' => e = .returned (.slice none 0 0) ∧ w = w' := by
  have HS := Lib.hid (i_shelf_nil v w hv)
  obtain ⟨A, n, c, rfl⟩ := hv
  go_enter Try.func25, Try.ntmps25
  go_wp2_with fail
  refine HS.out.mono ?_
  rintro e w' ⟨rfl, rfl⟩
  go_wp2
  go_ret
  exact ⟨rfl, rfl⟩
set_option maxHeartbeats 400000 in
theorem i_has_nil (v : Value) (w : World) (hv : ∃ A n c, v = .slice A n c) : Calls Try.prog 27 #[.pointer none, v] w fun e w' => e = .returned (.int .i64 0) ∧ w = w' := by
  have HS := Lib.hid (i_shelf_nil v w hv)
  obtain ⟨A, n, c, rfl⟩ := hv
  go_enter Try.func27, Try.ntmps27
  go_wp2_with fail
  refine HS.out.mono ?_
  rintro e w' ⟨rfl, rfl⟩
  go_wp2
  go_ret
  exact ⟨rfl, rfl⟩
set_option maxHeartbeats 400000 in
theorem i_keys_nil (w : World) : Calls Try.prog 29 #[.pointer none] w fun e w' => e = .returned (.int .i64 0) ∧ w = w' := by
  go_enter Try.func29, Try.ntmps29
  go_wp2
  go_ret
  exact ⟨rfl, rfl⟩
set_option maxHeartbeats 400000 in
theorem i_len_nil (w : World) : Calls Try.prog 23 #[.pointer none] w fun e w' => e = .returned (.int .i64 0) ∧ w = w' := by
  go_enter Try.func23, Try.ntmps23
  go_wp2
  go_ret
  exact ⟨rfl, rfl⟩

/-! ### at one that is there -/
set_option maxRecDepth 100000 in
set_option maxHeartbeats 2000000 in
/-- Add, as far as put: what put answers at the key's bytes. -/
theorem i_add (x b : Nat) (D : DataW Value) (A : Option Addr) (c : Nat) (cols : List Int) (S : List Sh) (R : Nat → Prop) (v : Value) (xs ks : List V) (k : Int) (w : World) (T : World → Ending → World → Prop) (hI : IdxB w x b D A c cols S) (hcl : cols.length ≤ 1100000) (hx : IsRow w R v xs) (hp : pickR xs cols = (ks, 0)) (hkl : ks.length ≤ 1100000) (hw : WideR ks)
    (hput : ∀ W, Below w.heap.size w W → Calls Try.prog 89 #[.pointer (some ⟨x, 0, none⟩), .string (markB ks), v, .int .i64 k] W fun e w' => ∃ r : Int, e = .returned (.int .i64 r) ∧ T W e w') :
    Calls Try.prog 21 #[.pointer (some ⟨x, 0, none⟩), v, .int .i64 k] w fun e w' => ∃ W, Below w.heap.size w W ∧ T W e w' := by
  have HI := Lib.hid hI
  have HP := Lib.hid hput
  obtain ⟨i1, i2, -, -, -, i6, -⟩ := hI
  have hxl : x < w.heap.size := i6 x (by simp [mus])
  have c0 : w.cell? ⟨x, 0, none⟩ = some (.slice A cols.length c) := cell_of_row w x 0 _ _ _ i1
  have HX := Lib.hid hx
  obtain ⟨-, Av, cv, hv, -, hr⟩ := id hx
  have HPK := Lib.hid (row_pick Av A xs cols xs.length cols.length cv c w rfl rfl (by omega) hr.at i2.at)
  rw [hp] at HPK
  have HW := Lib.hid hw
  subst hv
  clear i1 i2 i6 hx hr hput hp hw
  go_enter Try.func21, Try.ntmps21
  go_wp2_with fail
  refine HPK.out.mono ?_
  rintro e w1 ⟨kv, rfl, hown, hb1⟩
  dsimp only at hown
  obtain ⟨Ak, ck, rfl, _, hrk⟩ := hown.row
  have HMK := Lib.hid (i_mark Ak ks ks.length ck w1 rfl hkl HW.out hrk)
  have HB1 := Lib.hid hb1
  clear hown hrk hb1
  go_wp2_with fail
  refine HMK.out.mono ?_
  rintro e w2 ⟨rfl, hb2⟩
  have HB2 := Lib.hid (HB1.out.trans (hb2.mono HB1.out.size))
  clear hb2
  go_wp2_with fail
  refine (HP.out _ HB2.out).mono ?_
  rintro e w3 ⟨r, rfl, ht⟩
  have HT := Lib.hid ht
  clear ht
  go_wp2
  go_ret
  exact ⟨w2, HB2.out, HT.out⟩

set_option maxRecDepth 100000 in
set_option maxHeartbeats 2000000 in
theorem i_shelf (x b : Nat) (D : DataW Value) (A : Option Addr) (c : Nat) (cols : List Int) (S : List Sh) (Ak : Option Addr) (ks : List V) (n ck : Nat) (w : World) (hI : IdxB w x b D A c cols S) (hn : n = ks.length) (hkl : n ≤ 1100000) (hw : WideR ks) (hr : RowAt w w.heap.size Ak ks) :
    Calls Try.prog 95 #[.pointer (some ⟨x, 0, none⟩), .slice Ak n ck] w fun e w' => e = .returned (ptrOf (findK S (markB ks))) ∧ Below w.heap.size w w' := by
  have HI := Lib.hid hI
  have HMK := Lib.hid (fun (W : World) (hb : Below w.heap.size w W) => i_mark Ak ks n ck W hn hkl hw (hr.later hb))
  have HLK := Lib.hid (fun (W : World) (hb : Below w.heap.size w W) => look_S (hI.below hb) (markB ks) (mark_size ks (hn ▸ hkl)))
  obtain ⟨P, hP⟩ : ∃ P, ptrOf (findK S (markB ks)) = P := ⟨_, rfl⟩
  rw [hP] at HLK ⊢
  have hP2 : ∃ q, P = .pointer q := by
    rw [← hP]
    cases findK S (markB ks) with
    | none => exact ⟨none, rfl⟩
    | some h => exact ⟨_, rfl⟩
  obtain ⟨q, rfl⟩ := hP2
  obtain ⟨i1, -, -, -, -, i6, -⟩ := hI
  have hxl : x < w.heap.size := i6 x (by simp [mus])
  have c1 : w.cell? ⟨x, 1, none⟩ = some (.map (some b)) := cell_of_row w x 1 _ _ _ i1
  have C1 := Lib.hid c1
  obtain ⟨XE, xf, hXN, hX1, hX0, hX2⟩ := ext_class9 w.heap.size w (Nat.le_refl _)
  have HX1 := Lib.hid hX1
  have HX2 := Lib.hid hX2
  have hin := hX0 w.drew (Below.drew (Below.refl _ _))
  have b1 := fun e => cell_lift9 C1.out (HX1.out e)
  have hlk := fun e => HLK.out _ (HX1.out e)
  clear hP i1 i6 hX0 hX1 hX2 hw hr hn c1
  go_enter Try.func95, Try.ntmps95
  go_wp2
  refine wp_region_quiet (C := fun W => ∃ e, W = xf e) (by kernel_rfl) (by kernel_rfl) hin ?_
  clear hin
  dsimp only
  repeat (go_big_quiet_step ((go_at_call 90; refine (HMK.out _ (HX1.out _)).mono ?_; rintro e w5 ⟨rfl, hb5⟩; exact ⟨rfl, HX2.out _ _ hb5⟩)))
  refine wpQuiet_nil ?_
  intro w5 hW5
  obtain ⟨ee, hW5⟩ := hW5
  have hb5 : Below w.heap.size w w5 := by rw [hW5]; exact HX1.out ee
  clear hW5 b1 hlk
  go_wp2
  go_ret
  exact ⟨rfl, hb5⟩

set_option maxRecDepth 100000 in
set_option maxHeartbeats 1000000 in
theorem i_find_hit (x b : Nat) (D : DataW Value) (A : Option Addr) (c : Nat) (cols : List Int) (S : List Sh) (h : Sh) (Ak : Option Addr) (ks : List V) (n ck : Nat) (w : World) (hI : IdxB w x b D A c cols S) (hf : findK S (markB ks) = some h) (hn : n = ks.length) (hkl : n ≤ 1100000) (hw : WideR ks) (hr : RowAt w w.heap.size Ak ks) (hll : h.l.length ≤ 700000) :
    Calls Try.prog 25 #[.pointer (some ⟨x, 0, none⟩), .slice Ak n ck] w fun e w' => ∃ L c2, e = .returned (.slice L h.l.length c2) ∧ (L = none → c2 = 0) ∧ EntsQ w' (Qm x b S) L h.l ∧ Below w.heap.size w w' := by
  have HS := Lib.hid (i_shelf x b D A c cols S Ak ks n ck w hI hn hkl hw hr)
  rw [hf] at HS
  obtain ⟨hm, _⟩ := find_mem hf
  obtain ⟨hsh, hbag⟩ := hI.2.2.2.2.2.2 _ hm
  have hq : ∀ j, w.heap.size ≤ j → Qm x b S j := fun j hj hmm => by have := hI.2.2.2.2.2.1 j hmm; omega
  have HQ := Lib.hid hq
  have HSH := Lib.hid hsh
  have HBAG := Lib.hid hbag
  obtain ⟨key, s, g, tog, l⟩ := h
  have HS2 : Hid (Calls Try.prog 95 #[.pointer (some ⟨x, 0, none⟩), .slice Ak n ck] w fun e w' => e = .returned (.pointer (some ⟨s, 0, none⟩)) ∧ Below w.heap.size w w') := HS
  have HSH2 : Hid (w.cell? ⟨s, 0, none⟩ = some (.pointer (some ⟨g, 0, none⟩))) := Lib.hid (cell_of_row w s 0 _ _ _ hsh)
  dsimp only at hll ⊢
  clear hf hm hsh hbag hq hn hkl hw hr HS
  go_enter Try.func25, Try.ntmps25
  go_wp2_with fail
  refine HS2.out.mono ?_
  rintro e w1 ⟨rfl, hb1⟩
  have s0 := cell_lift9 HSH2.out hb1
  have HB1 := Lib.hid hb1
  have hz := hb1.size
  clear hb1
  go_wp2_with fail
  refine (b_rows (Qm x b S) (some ⟨g, 0, none⟩) l w1 (fun j hj => HQ.out j (by omega)) (.inr ⟨g, rfl, HBAG.out.below HB1.out⟩) hll).mono ?_
  rintro e w2 ⟨L, c2, rfl, hL, hE, hb2⟩
  have HL := Lib.hid hL
  have HE := Lib.hid hE
  have HB2 := Lib.hid (HB1.out.trans (hb2.mono hz))
  clear hL hE hb2
  go_wp2
  go_ret
  exact ⟨L, c2, rfl, HL.out, HE.out, HB2.out⟩

set_option maxRecDepth 100000 in
set_option maxHeartbeats 1000000 in
theorem i_has_hit (x b : Nat) (D : DataW Value) (A : Option Addr) (c : Nat) (cols : List Int) (S : List Sh) (h : Sh) (Ak : Option Addr) (ks : List V) (n ck : Nat) (w : World) (hI : IdxB w x b D A c cols S) (hf : findK S (markB ks) = some h) (hn : n = ks.length) (hkl : n ≤ 1100000) (hw : WideR ks) (hr : RowAt w w.heap.size Ak ks) :
    Calls Try.prog 27 #[.pointer (some ⟨x, 0, none⟩), .slice Ak n ck] w fun e w' => e = .returned (.int .i64 h.tog) ∧ Below w.heap.size w w' := by
  have HS := Lib.hid (i_shelf x b D A c cols S Ak ks n ck w hI hn hkl hw hr)
  rw [hf] at HS
  obtain ⟨hm, _⟩ := find_mem hf
  obtain ⟨hsh, _⟩ := hI.2.2.2.2.2.2 _ hm
  obtain ⟨key, s, g, tog, l⟩ := h
  have HS2 : Hid (Calls Try.prog 95 #[.pointer (some ⟨x, 0, none⟩), .slice Ak n ck] w fun e w' => e = .returned (.pointer (some ⟨s, 0, none⟩)) ∧ Below w.heap.size w w') := HS
  have HSH2 : Hid (w.cell? ⟨s, 1, none⟩ = some (.int .i64 tog)) := Lib.hid (cell_of_row w s 1 _ _ _ hsh)
  dsimp only
  clear hf hm hsh hn hkl hw hr HS
  go_enter Try.func27, Try.ntmps27
  go_wp2_with fail
  refine HS2.out.mono ?_
  rintro e w1 ⟨rfl, hb1⟩
  have s0 := cell_lift9 HSH2.out hb1
  have HB1 := Lib.hid hb1
  clear hb1
  go_wp2
  go_ret
  exact ⟨rfl, HB1.out⟩

set_option maxRecDepth 100000 in
set_option maxHeartbeats 1000000 in
theorem i_keys (x b : Nat) (D : DataW Value) (A : Option Addr) (c : Nat) (cols : List Int) (S : List Sh) (w : World) (hI : IdxB w x b D A c cols S) :
    Calls Try.prog 29 #[.pointer (some ⟨x, 0, none⟩)] w fun e w' => e = .returned (.int .i64 (S.length : Int)) ∧ w = w' := by
  obtain ⟨i1, -, i3, i4, -, -, -⟩ := hI
  have c1 : w.cell? ⟨x, 1, none⟩ = some (.map (some b)) := cell_of_row w x 1 _ _ _ i1
  have hlen := fun ty => i3.len Try.underlying127 ty
  rw [i4.2.2.1] at hlen
  clear i1 i3 i4
  go_enter Try.func29, Try.ntmps29
  go_wp2
  go_ret
  exact ⟨rfl, rfl⟩
end Go.Proofs.Ytmdkjhnafnblkaa
