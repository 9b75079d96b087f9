/-
  What a tree that is not there answers.
  No condition.
-/
import Derived.Test.YtoeggpoeongnhaaTne
namespace Go.Proofs.Ytoeggpoeongnhaa
open Go.RowKit Go.Maps Go.Shelf

attribute [local go_sem] Oper.semAt_some

set_option maxHeartbeats 400000 in
theorem t_add_nil (n p : ByteArray) (w : World) : Calls Try.prog 47 #[.pointer none, .string n, .string p] w fun e w' => e = .returned (.int .i64 1) ∧ w = w' := by
  go_enter Try.func47, Try.ntmps47
  go_wp2
  go_ret
  exact ⟨rfl, rfl⟩
set_option maxHeartbeats 400000 in
theorem t_move_nil (n p : ByteArray) (w : World) : Calls Try.prog 48 #[.pointer none, .string n, .string p] w fun e w' => e = .returned (.int .i64 1) ∧ w = w' := by
  go_enter Try.func48, Try.ntmps48
  go_wp2
  go_ret
  exact ⟨rfl, rfl⟩
set_option maxHeartbeats 400000 in
theorem t_drop_nil (n : ByteArray) (w : World) : Calls Try.prog 49 #[.pointer none, .string n] w fun e w' => e = .returned (.int .i64 1) ∧ w = w' := by
  go_enter Try.func49, Try.ntmps49
  go_wp2
  go_ret
  exact ⟨rfl, rfl⟩
set_option maxHeartbeats 400000 in
theorem t_copy_nil (w : World) : Calls Try.prog 51 #[.pointer none] w fun e w' => e = .returned (.pointer none) ∧ w = w' := by
  go_enter Try.func51, Try.ntmps51
  go_wp2
  go_ret
  exact ⟨rfl, rfl⟩
set_option maxHeartbeats 400000 in
theorem t_all_nil (w : World) : Calls Try.prog 45 #[.pointer none] w fun e w' => e = .returned (.slice none 0 0) ∧ w = w' := by
  go_enter Try.func45, Try.ntmps45
  go_wp2
  go_ret
  exact ⟨rfl, rfl⟩
set_option maxHeartbeats 1000000 in
theorem t_under_nil (n : ByteArray) (w : World) : Calls Try.prog 42 #[.pointer none, .string n] w fun e w' => e = .returned (.slice none 0 0) ∧ w = w' := by
  go_enter Try.func42, Try.ntmps42
  go_wp2_with fail
  refine (t_all_nil w).mono ?_
  rintro e w1 ⟨rfl, rfl⟩
  go_wp2
  go_loopw [5, 11] (fun v i wr => v = .slice none 0 0 ∧ i = .int .i64 0 ∧ w = wr) (fun _ _ _ => 0)
  case atStart => exact ⟨rfl, rfl, rfl⟩
  case round =>
    obtain ⟨rfl, rfl, rfl⟩ := hrel
    go_wp2
    go_ret
    exact ⟨rfl, rfl⟩

set_option maxRecDepth 100000 in
set_option maxHeartbeats 2000000 in
theorem up_stops_nil (n Bt Bp : Nat) (w0 : World) (nm : ByteArray) (hBt : w0.cell? ⟨Bt, 0, none⟩ = some (.string nm)) (hBp : w0.cell? ⟨Bp, 0, none⟩ = some (.pointer none)) (W0 : World) (hb0 : Below w0.heap.size w0 W0) :
    SeqStopsK Fence.wide n Try.prog 105 #[.pointer (some ⟨Bt, 0, none⟩), .pointer (some ⟨Bp, 0, none⟩)] (fun x : ByteArray => #[.string x]) (Below w0.heap.size) (fun zs => zs = []) (fun pre => pre <+: []) 0 W0 := by
  intro l J Jx W hW hJ _ hY h0
  have hb := hb0.trans (hW.mono hb0.size)
  have cT := (hb.cell (p := ⟨Bt, 0, none⟩) (World.block_lt_of_cell? w0 _ hBt)).trans hBt
  have cP := (hb.cell (p := ⟨Bp, 0, none⟩) (World.block_lt_of_cell? w0 _ hBp)).trans hBp
  have hdd : ∀ k : Nat, (Fence.wide.depth.isSome = true → 1 ≤ k) := fun k h => by cases h
  have HJ := Lib.hid (fun (B : World) (hb : Below W.heap.size W B) => hJ [] W B none h0 ⟨hb.os, hb.tape, hb.output, hb.size, fun k hk _ => hb.block k hk⟩ (fun r e => by cases e))
  clear hJ hY h0 hW hb hb0 hBt hBp
  show CallsIn Fence.wide n Try.prog 105 #[.func (.yield l) #[] #[], .pointer (some ⟨Bt, 0, none⟩), .pointer (some ⟨Bp, 0, none⟩)] W _
  refine callsIn_of_wp Try.func105 rfl trivial ?_ rfl
  simp only [Try.ntmps105, List.size_toArray, List.length_cons, List.length_nil, Nat.reduceAdd, Nat.reduceSub, Array.replicate_succ, Array.replicate_zero, List.push_toArray, List.append_toArray, List.nil_append, List.cons_append]
  gi_wp2
  gi_loopw [4] (fun v wr => v = .string nm ∧ W = wr) (fun _ _ => 0)
  case atStart => exact ⟨rfl, rfl⟩
  case round =>
    obtain ⟨rfl, rfl⟩ := hrel
    gi_wp2_with (fail)
    refine ⟨trivial, hdd _, ?_⟩
    refine (callsIn_wide.2 (t_has_nil nm _)).mono ?_
    rintro e w1 ⟨rfl, hb1⟩
    have HB1 := Lib.hid hb1
    clear hb1
    gi_wp2
    refine ⟨fun _ h => (by cases h), ?_⟩
    gi_wp2
    go_end0
    exact ⟨⟨_, rfl⟩, .inl ⟨[], rfl, HJ.out _ HB1.out⟩⟩
set_option maxHeartbeats 1000000 in
theorem t_above_nil (nm : ByteArray) (w : World) : Calls Try.prog 40 #[.pointer none, .string nm] w fun e w' => ∃ v, e = .returned v ∧ OwnL w' w.heap.size v [] ∧ Below w.heap.size w w' := by
  have hb2 := two_new w (.cells #[.pointer none] 61) (.cells #[.string nm] 9)
  have hA : Calls Try.prog 76 #[.func (.func 105) #[] #[.pointer (some ⟨w.heap.size + 1, 0, none⟩), .pointer (some ⟨w.heap.size, 0, none⟩)]] ((w.alloc (.cells #[.pointer none] 61)).alloc (.cells #[.string nm] 9)) _ := t_collect_g (w.heap.size + 1) w.heap.size _ [] (fun n W0 hb => up_stops_nil n _ _ _ nm
    (by have h := new_cellT (w.alloc (.cells #[.pointer none] 61)) #[.string nm] 9 0; rw [World.size_alloc] at h; exact h)
    (((one_new _ _).cell (p := ⟨w.heap.size, 0, none⟩) (by simp)).trans (new_cellT _ _ _ 0)) W0 hb) (by simp)
  have HA := Lib.hid hA
  have HB2 := Lib.hid hb2
  clear hb2 hA
  go_enter Try.func40, Try.ntmps40
  go_wp2_with fail
  refine (t_up _ nm w).mono ?_
  rintro e w1 ⟨rfl, rfl⟩
  go_wp2_with fail
  refine HA.out.mono ?_
  rintro e w2 ⟨v, rfl, hown, hb⟩
  have HO := Lib.hid (OwnL.lower (b2 := w.heap.size) hown (by simp; omega))
  have HB := Lib.hid (HB2.out.trans (hb.mono (by simp; omega)))
  clear hown hb
  go_wp2
  go_ret
  exact ⟨v, rfl, HO.out, HB.out⟩
set_option maxHeartbeats 1000000 in
theorem t_depth_nil (nm : ByteArray) (w : World) : Calls Try.prog 37 #[.pointer none, .string nm] w fun e w' => e = .returned (.int .i64 0) ∧ Below w.heap.size w w' := by
  have HA := Lib.hid (t_above_nil nm w)
  go_enter Try.func37, Try.ntmps37
  go_wp2_with fail
  refine HA.out.mono ?_
  rintro e w2 ⟨v, rfl, hown, hb⟩
  obtain ⟨A, c, rfl⟩ := hown.form
  have HB := Lib.hid hb
  clear hown hb
  go_wp2
  go_ret
  exact ⟨rfl, HB.out⟩
end Go.Proofs.Ytoeggpoeongnhaa
