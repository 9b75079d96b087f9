/-
  The iterator over a tree: each, all and what all answers: all nodes in order, or as many as the loop's body lets come.
  Condition: the loop's body keeps what lay below a bound, and the tree lies below it.
-/
import Derived.RangeFuncNested
import Derived.RangeFuncBound
import Derived.RangeFuncCalls
import Derived.RangeFuncLeaves
import Derived.Shelf.Abstract
import Derived.Shelf.RegionOpen
import Derived.WalkKit
import Derived.OwnWalkIn
import Derived.TacticsInMore
import Derived.LoopNIn
import Derived.LoopIn
import Derived.Test.YtpliofhphijdkaaBag
namespace Go.Proofs.Ytpliofhphijdkaa
open Go.RowKit Go.Shelf

attribute [local go_sem] Oper.semAt_some

theorem room_of_none {F : Fence} (hd : F.depth = none) (k : Nat) : F.room k := fun d h => by rw [hd] at h; cases h
theorem RoundIn.anyDepth {F : Fence} (hd : F.depth = none) {m m' : Nat} {P : Program} {l : Nat} {f : FuncId} {tmps : Array Value} {assign body : Code} {w : World} {R : Ending → World → Prop}
    (h : RoundIn F m P l f tmps assign body w R) : RoundIn F m' P l f tmps assign body w R := ⟨h.1, fun c cs _ => h.2 c cs (room_of_none hd _)⟩
theorem YieldAt.anyDepth {F : Fence} (hd : F.depth = none) {m : Nat} (m' : Nat) {P : Program} {l : Nat} {args : Array Value} {W : World} {R : Ending → World → Prop} (h : YieldAt F m P l args W R) : YieldAt F m' P l args W R := by
  obtain ⟨fn, tmps, assign, body, hy, hR⟩ := h
  exact ⟨fn, tmps, assign, body, hy, RoundIn.anyDepth hd hR⟩

/-- A row that can be, so many times as can be. -/
def OkE (e : En) : Prop := rightR e.1 = true ∧ fewN e.2 = true
/-- A node of a tree: its block, its row and how often; it lies there in the world w0. -/
abbrev Nd (w0 : World) (Q : Nat → Prop) := { x : Nat × En // (∃ s pl ph, NodeIs w0 Q x.1 x.2.1 x.2.2 s pl ph) ∧ OkE x.2 }
theorem Good.ok {l : List En} (h : Good l) : ∀ e ∈ l, OkE e := fun e he => ⟨(h.2 e he).2.2, (h.2 e he).2.1⟩
/-- The nodes of a tree, in order. -/
def Nds (w0 : World) (Q : Nat → Prop) : Option Addr → Tr → List (Nd w0 Q) → Prop
  | p, .nil, xs => p = none ∧ xs = []
  | p, .node r m l h, xs => ∃ (b : Nat) (pl ph : Option Addr) (xl xh : List (Nd w0 Q)) (x : Nd w0 Q), p = some ⟨b, 0, none⟩ ∧ x.1 = (b, (r, m)) ∧ NodeIs w0 Q b r m (Tr.node r m l h).cnt pl ph ∧ Nds w0 Q pl l xl ∧ Nds w0 Q ph h xh ∧ xs = xl ++ x :: xh
theorem nds_of {w0 : World} {Q : Nat → Prop} : ∀ {t : Tr} {p : Option Addr}, (∀ e ∈ t.toL, OkE e) → TreeAt w0 Q p t → ∃ xs, Nds w0 Q p t xs ∧ xs.map (fun x => x.1.2) = t.toL
  | .nil, _, _, h => ⟨[], ⟨h, rfl⟩, rfl⟩
  | .node r m l h, p, hok, ⟨b, pl, ph, e, hn, hl, hh⟩ => by
    obtain ⟨xl, h1, h2⟩ := nds_of (fun e he => hok e (by simp [Tr.toL, he])) hl
    obtain ⟨xh, h3, h4⟩ := nds_of (fun e he => hok e (by simp [Tr.toL, he])) hh
    refine ⟨xl ++ ⟨(b, (r, m)), ⟨_, _, _, hn⟩, hok (r, m) (by simp [Tr.toL])⟩ :: xh, ⟨b, pl, ph, xl, xh, _, e, rfl, hn, h1, h3, rfl⟩, ?_⟩
    simp [h2, h4, Tr.toL]

set_option maxHeartbeats 400000 in
theorem each_nil (l : Nat) (w : World) : Calls Try.prog 55 #[.pointer none, .func (.yield l) #[] #[]] w fun e w' => e = .returned (.bool true) ∧ w = w' := by
  go_enter Try.func55, Try.ntmps55
  go_wp2
  go_ret
  exact ⟨rfl, rfl⟩

set_option maxRecDepth 100000 in
set_option maxHeartbeats 2000000 in
theorem each_in (F : Fence) (hF : Hid (F = Fence.wide)) (hd : F.depth = none) (h6 : F.fn 55) (hro : F.round = none) (w0 : World) (Q : Nat → Prop) (l N : Nat) (J Jx : List (Nd w0 Q) → World → Prop)
    (hY : ∀ m pre x W, J pre W → pre.length < N → YieldAt F m Try.prog l #[.pointer (some ⟨x.1.1, 0, none⟩)] W fun e W' =>
      (e = .returned (.bool true) ∧ J (pre ++ [x]) W' ∧ Below w0.heap.size W W') ∨ (e = .returned (.bool false) ∧ Jx (pre ++ [x]) W')) (t : Tr) :
    ∀ (n : Nat) (p : Option Addr) (xs pre : List (Nd w0 Q)) (W : World), Nds w0 Q p t xs → Below w0.heap.size w0 W → J pre W → pre.length + xs.length ≤ N →
      CallsIn F n Try.prog 55 #[.pointer p, .func (.yield l) #[] #[]] W fun e W' =>
        (e = .returned (.bool true) ∧ J (pre ++ xs) W' ∧ Below w0.heap.size W W') ∨ (e = .returned (.bool false) ∧ ∃ q, q <+: xs ∧ Jx (pre ++ q) W') := by
  induction t with
  | nil =>
    intro n p xs pre W ht hb hJ _
    obtain ⟨rfl, rfl⟩ := ht
    obtain rfl : F = Fence.wide := hF.out
    refine callsIn_wide.2 ((each_nil l W).mono ?_)
    rintro e w' ⟨rfl, rfl⟩
    exact .inl ⟨rfl, by simpa using hJ, Below.refl _ _⟩
  | node r m tl tr ihl ihr =>
    intro n p xs pre W ht hb hJ hN
    obtain ⟨b, pl, ph, xl, xh, x, rfl, hx, hnode, hl, hr, rfl⟩ := ht
    have hdd : ∀ k : Nat, (F.depth.isSome = true → 1 ≤ k) := fun k h => by rw [hd] at h; cases h
    simp only [List.length_append, List.length_cons] at hN
    have hxb : x.1.1 = b := by rw [hx]
    obtain ⟨_, hlt, _, _, _, k3, k4⟩ := hnode
    have c3 : W.cell? ⟨b, 3, none⟩ = some (.pointer pl) := (hb.cell (p := ⟨b, 3, none⟩) hlt).trans k3
    have hy2 : ∀ W1, J (pre ++ xl) W1 → Below w0.heap.size W W1 → YieldAt F (n - 1) Try.prog l #[.pointer (some ⟨b, 0, none⟩)] W1 fun e W2 =>
        (e = .returned (.bool true) ∧ J (pre ++ xl ++ [x]) W2 ∧ Below w0.heap.size W W2 ∧ W2.cell? ⟨b, 4, none⟩ = some (.pointer ph)) ∨ (e = .returned (.bool false) ∧ Jx (pre ++ xl ++ [x]) W2) := fun W1 hJ1 hb1 => by
      rw [← hxb]
      exact YieldAt.mono (hY (n - 1) _ x W1 hJ1 (by simp; omega)) fun e W2 h => h.elim
        (fun ⟨he, hj, hb2⟩ => .inl ⟨he, hj, hb1.trans hb2, by rw [hxb]; exact ((hb.trans (hb1.trans hb2)).cell (p := ⟨b, 4, none⟩) hlt).trans k4⟩) .inr
    have ih1 := (ihl (n - 1) pl xl pre W hl hb hJ (by omega)).mono (R' := fun e W1 =>
        (e = .returned (.bool true) ∧ YieldAt F (n - 1) Try.prog l #[.pointer (some ⟨b, 0, none⟩)] W1 fun e W2 =>
          (e = .returned (.bool true) ∧ J (pre ++ xl ++ [x]) W2 ∧ Below w0.heap.size W W2 ∧ W2.cell? ⟨b, 4, none⟩ = some (.pointer ph)) ∨ (e = .returned (.bool false) ∧ Jx (pre ++ xl ++ [x]) W2)) ∨
        (e = .returned (.bool false) ∧ ∃ q, q <+: xl ∧ Jx (pre ++ q) W1))
      (fun e W1 h => h.elim (fun ⟨he, hj, hb1⟩ => .inl ⟨he, hy2 W1 hj hb1⟩) .inr)
    clear hy2 ihl hx
    refine callsIn_of_wp Try.func55 rfl h6 ?_ hro
    simp only [Try.ntmps55, List.size_toArray, List.length_cons, List.length_nil, Nat.reduceAdd, Nat.reduceSub, Array.replicate_succ, Array.replicate_zero, List.push_toArray, List.append_toArray, List.nil_append, List.cons_append]
    gi_wp2_with (first
      | ((try refine ⟨hdd _, ?_⟩); gi_at_call 55; refine ih1.mono ?_; clear ih1; rintro e W1 (⟨rfl, fn, tmps, assign, body, hy, hR⟩ | ⟨rfl, q, hq, hx1⟩))
      | ((try refine ⟨hdd _, ?_⟩); refine hR.mono ?_; clear hR; rintro e W2 (⟨rfl, hJ2, hb2, c4'⟩ | ⟨rfl, hx2⟩))
      | ((try refine ⟨hdd _, ?_⟩); gi_at_call 55; refine (ihr (n - 1) ph xh _ _ hr (hb.trans hb2) hJ2 (by simp; omega)).mono ?_; rintro e W3 (⟨rfl, hJ3, hb3⟩ | ⟨rfl, q, hq, hx3⟩)))
    · go_ret
      exact .inl ⟨rfl, by simpa [List.append_assoc] using hJ3, hb2.trans hb3⟩
    · go_ret
      obtain ⟨r, hr'⟩ := hq
      exact .inr ⟨rfl, xl ++ x :: q, ⟨r, by simp [← hr']⟩, by simpa [List.append_assoc] using hx3⟩
    · go_ret
      exact .inr ⟨rfl, xl ++ [x], ⟨xh, by simp⟩, by simpa [List.append_assoc] using hx2⟩
    · refine ⟨fun _ h => (by cases h), ?_⟩
      gi_wp2
      go_ret
      exact .inr ⟨rfl, q, hq.trans (by simp), hx1⟩

set_option maxHeartbeats 1000000 in
theorem all1_in (F : Fence) (hF : Hid (F = Fence.wide)) (hd : F.depth = none) (n : Nat) (h5 : F.fn 54) (h6 : F.fn 55) (hro : F.round = none) (w0 : World) (Q : Nat → Prop) (l Bt : Nat) (p : Option Addr) (t : Tr) (xs : List (Nd w0 Q)) (J Jx : List (Nd w0 Q) → World → Prop)
    (hY : ∀ pre x W, J pre W → pre.length < xs.length → YieldAt F (n - 1) Try.prog l #[.pointer (some ⟨x.1.1, 0, none⟩)] W fun e W' =>
      (e = .returned (.bool true) ∧ J (pre ++ [x]) W' ∧ Below w0.heap.size W W') ∨ (e = .returned (.bool false) ∧ Jx (pre ++ [x]) W'))
    (W : World) (hBt : W.cell? ⟨Bt, 0, none⟩ = some (.pointer p)) (hT : Nds w0 Q p t xs) (hb : Below w0.heap.size w0 W) (h0 : J [] W) :
    CallsIn F n Try.prog 54 #[.func (.yield l) #[] #[], .pointer (some ⟨Bt, 0, none⟩)] W fun e W' => (∃ v, e = .returned v) ∧
      ((∃ ys, ys = xs ∧ J ys W') ∨ (∃ pre, pre <+: xs ∧ Jx pre W')) := by
  have hdd : ∀ k : Nat, (F.depth.isSome = true → 1 ≤ k) := fun k h => by rw [hd] at h; cases h
  have hp := each_in F hF hd h6 hro w0 Q l xs.length J Jx (fun m pre x W hj hl => YieldAt.anyDepth hd m (hY pre x W hj hl)) t (n - 1) p xs [] W hT hb h0 (by simp)
  refine callsIn_of_wp Try.func54 rfl h5 ?_ hro
  simp only [Try.ntmps54, List.size_toArray, List.length_cons, List.length_nil, Nat.reduceAdd, Nat.reduceSub, Array.replicate_succ, Array.replicate_zero, List.push_toArray, List.append_toArray, List.nil_append, List.cons_append]
  gi_wp2_with ((try refine ⟨hdd _, ?_⟩); gi_at_call 55; refine hp.mono ?_; clear hp; rintro e W1 (⟨rfl, hJ1, _⟩ | ⟨rfl, q, hq, hx⟩))
  · go_end0
    exact ⟨⟨_, rfl⟩, .inl ⟨_, rfl, by simpa using hJ1⟩⟩
  · go_end0
    exact ⟨⟨_, rfl⟩, .inr ⟨q, hq, by simpa using hx⟩⟩

set_option maxHeartbeats 1000000 in
theorem all_in (p : Option Addr) (w : World) :
    Calls Try.prog 40 #[.pointer p] w fun e w' => e = .returned (.func (.func 54) #[] #[.pointer (some ⟨w.heap.size, 0, none⟩)]) ∧ w' = w.alloc (.cells #[.pointer p] 65) := by
  go_enter Try.func40, Try.ntmps40
  go_wp2
  go_ret
  exact ⟨rfl, rfl⟩

theorem all_stops (F : Fence) (hF : Hid (F = Fence.wide)) (hd : F.depth = none) (n : Nat) (h5 : F.fn 54) (h6 : F.fn 55) (hro : F.round = none) (w0 : World) (Q : Nat → Prop) (Bt : Nat) (p : Option Addr) (t : Tr) (xs : List (Nd w0 Q)) (w : World) (hBt : Bt < w.heap.size)
    (hb : Below w0.heap.size w0 w) (hc : w.cell? ⟨Bt, 0, none⟩ = some (.pointer p)) (hT : Nds w0 Q p t xs) :
    SeqStopsK F n Try.prog 54 #[.pointer (some ⟨Bt, 0, none⟩)] (fun x : Nd w0 Q => #[Value.pointer (some ⟨x.1.1, 0, none⟩)]) (Below w0.heap.size) (fun ys => ys = xs) (fun pre => pre <+: xs) xs.length w := fun l J Jx W hW _ _ hY h0 =>
  all1_in F hF hd n h5 h6 hro w0 Q l Bt p t xs J Jx hY W ((hW.cell (p := ⟨Bt, 0, none⟩) hBt).trans hc) hT (hb.trans (hW.mono hb.size)) h0
end Go.Proofs.Ytpliofhphijdkaa
