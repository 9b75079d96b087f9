/-
  The iterator over a tree: each, all and what all answers: all nodes in order, or as many as the loop's body lets come.
  Condition: the loop's body keeps what lay below a bound, and the tree lies below it.
  A statement of a loop's body over an iterator whose operations may be carried out in more than one order: it may be walked as anywhere else, by the condition that every operation keeps.
  Condition: it defers nothing.
  One bag that comes into another one, row by row, as lists; and how a tree stays where blocks that hold no cells change.
  No Go in it.
  Same of package bag: have two bags the same rows, each as often?
  No condition.
  Merge of package bag: each row of another bag comes, so many times; where one would be there too often nothing is changed.
  No condition but that the bags have no more rows than fits.
-/
import Derived.RangeFuncNested
import Derived.RangeFuncBound
import Derived.RangeFuncCalls
import Derived.RangeFuncLeaves
import Derived.Shelf.Abstract
import Derived.Shelf.RegionOpen
import Derived.WalkKit
import Derived.OwnWalkIn
import Derived.TacticsInMore
import Derived.LoopNIn
import Derived.LoopIn
import Derived.Deep.RegionHeld3
import Derived.OrdersIn
import Derived.Test.YtdhpoaecedpbdaaGreatZ43
namespace Go.Proofs.YtdhpoaecedpbdaaGreat
section
open Go.RowKit Go.Shelf

attribute [local go_sem] Oper.semAt_some

theorem room_of_none {F : Fence} (hd : F.depth = none) (k : Nat) : F.room k := fun d h => by rw [hd] at h; cases h
theorem RoundIn.anyDepth {F : Fence} (hd : F.depth = none) {m m' : Nat} {P : Program} {l : Nat} {f : FuncId} {tmps : Array Value} {assign body : Code} {w : World} {R : Ending → World → Prop}
    (h : RoundIn F m P l f tmps assign body w R) : RoundIn F m' P l f tmps assign body w R := ⟨h.1, fun c cs _ => h.2 c cs (room_of_none hd _)⟩
theorem YieldAt.anyDepth {F : Fence} (hd : F.depth = none) {m : Nat} (m' : Nat) {P : Program} {l : Nat} {args : Array Value} {W : World} {R : Ending → World → Prop} (h : YieldAt F m P l args W R) : YieldAt F m' P l args W R := by
  obtain ⟨fn, tmps, assign, body, hy, hR⟩ := h
  exact ⟨fn, tmps, assign, body, hy, RoundIn.anyDepth hd hR⟩

/-- A row that can be, so many times as can be. -/
def OkE (e : En) : Prop := rightR e.1 = true ∧ fewN e.2 = true
/-- A node of a tree: its block, its row and how often; it lies there in the world w0. -/
abbrev Nd (w0 : World) (Q : Nat → Prop) := { x : Nat × En // (∃ s pl ph, NodeIs w0 Q x.1 x.2.1 x.2.2 s pl ph) ∧ OkE x.2 }
theorem Good.ok {l : List En} (h : Good l) : ∀ e ∈ l, OkE e := fun e he => ⟨(h.2 e he).2.2, (h.2 e he).2.1⟩
/-- The nodes of a tree, in order. -/
def Nds (w0 : World) (Q : Nat → Prop) : Option Addr → Tr → List (Nd w0 Q) → Prop
  | p, .nil, xs => p = none ∧ xs = []
  | p, .node r m l h, xs => ∃ (b : Nat) (pl ph : Option Addr) (xl xh : List (Nd w0 Q)) (x : Nd w0 Q), p = some ⟨b, 0, none⟩ ∧ x.1 = (b, (r, m)) ∧ NodeIs w0 Q b r m (Tr.node r m l h).cnt pl ph ∧ Nds w0 Q pl l xl ∧ Nds w0 Q ph h xh ∧ xs = xl ++ x :: xh
theorem nds_of {w0 : World} {Q : Nat → Prop} : ∀ {t : Tr} {p : Option Addr}, (∀ e ∈ t.toL, OkE e) → TreeAt w0 Q p t → ∃ xs, Nds w0 Q p t xs ∧ xs.map (fun x => x.1.2) = t.toL
  | .nil, _, _, h => ⟨[], ⟨h, rfl⟩, rfl⟩
  | .node r m l h, p, hok, ⟨b, pl, ph, e, hn, hl, hh⟩ => by
    obtain ⟨xl, h1, h2⟩ := nds_of (fun e he => hok e (by simp [Tr.toL, he])) hl
    obtain ⟨xh, h3, h4⟩ := nds_of (fun e he => hok e (by simp [Tr.toL, he])) hh
    refine ⟨xl ++ ⟨(b, (r, m)), ⟨_, _, _, hn⟩, hok (r, m) (by simp [Tr.toL])⟩ :: xh, ⟨b, pl, ph, xl, xh, _, e, rfl, hn, h1, h3, rfl⟩, ?_⟩
    simp [h2, h4, Tr.toL]

set_option maxHeartbeats 400000 in
theorem each_nil (l : Nat) (w : World) : Calls Tryz.prog 150 #[.pointer none, .func (.yield l) #[] #[]] w fun e w' => e = .returned (.bool true) ∧ w = w' := by
  go_enter Tryz.func150, Tryz.ntmps150
  go_wp2
  go_ret
  exact ⟨rfl, rfl⟩

set_option maxRecDepth 100000 in
set_option maxHeartbeats 2000000 in
theorem each_in (F : Fence) (hF : Hid (F = Fence.wide)) (hd : F.depth = none) (h6 : F.fn 150) (hro : F.round = none) (w0 : World) (Q : Nat → Prop) (l N : Nat) (J Jx : List (Nd w0 Q) → World → Prop)
    (hY : ∀ m pre x W, J pre W → pre.length < N → YieldAt F m Tryz.prog l #[.pointer (some ⟨x.1.1, 0, none⟩)] W fun e W' =>
      (e = .returned (.bool true) ∧ J (pre ++ [x]) W' ∧ Below w0.heap.size W W') ∨ (e = .returned (.bool false) ∧ Jx (pre ++ [x]) W')) (t : Tr) :
    ∀ (n : Nat) (p : Option Addr) (xs pre : List (Nd w0 Q)) (W : World), Nds w0 Q p t xs → Below w0.heap.size w0 W → J pre W → pre.length + xs.length ≤ N →
      CallsIn F n Tryz.prog 150 #[.pointer p, .func (.yield l) #[] #[]] W fun e W' =>
        (e = .returned (.bool true) ∧ J (pre ++ xs) W' ∧ Below w0.heap.size W W') ∨ (e = .returned (.bool false) ∧ ∃ q, q <+: xs ∧ Jx (pre ++ q) W') := by
  induction t with
  | nil =>
    intro n p xs pre W ht hb hJ _
    obtain ⟨rfl, rfl⟩ := ht
    obtain rfl : F = Fence.wide := hF.out
    refine callsIn_wide.2 ((each_nil l W).mono ?_)
    rintro e w' ⟨rfl, rfl⟩
    exact .inl ⟨rfl, by simpa using hJ, Below.refl _ _⟩
  | node r m tl tr ihl ihr =>
    intro n p xs pre W ht hb hJ hN
    obtain ⟨b, pl, ph, xl, xh, x, rfl, hx, hnode, hl, hr, rfl⟩ := ht
    have hdd : ∀ k : Nat, (F.depth.isSome = true → 1 ≤ k) := fun k h => by rw [hd] at h; cases h
    simp only [List.length_append, List.length_cons] at hN
    have hxb : x.1.1 = b := by rw [hx]
    obtain ⟨_, hlt, _, _, _, k3, k4⟩ := hnode
    have c3 : W.cell? ⟨b, 3, none⟩ = some (.pointer pl) := (hb.cell (p := ⟨b, 3, none⟩) hlt).trans k3
    have hy2 : ∀ W1, J (pre ++ xl) W1 → Below w0.heap.size W W1 → YieldAt F (n - 1) Tryz.prog l #[.pointer (some ⟨b, 0, none⟩)] W1 fun e W2 =>
        (e = .returned (.bool true) ∧ J (pre ++ xl ++ [x]) W2 ∧ Below w0.heap.size W W2 ∧ W2.cell? ⟨b, 4, none⟩ = some (.pointer ph)) ∨ (e = .returned (.bool false) ∧ Jx (pre ++ xl ++ [x]) W2) := fun W1 hJ1 hb1 => by
      rw [← hxb]
      exact YieldAt.mono (hY (n - 1) _ x W1 hJ1 (by simp; omega)) fun e W2 h => h.elim
        (fun ⟨he, hj, hb2⟩ => .inl ⟨he, hj, hb1.trans hb2, by rw [hxb]; exact ((hb.trans (hb1.trans hb2)).cell (p := ⟨b, 4, none⟩) hlt).trans k4⟩) .inr
    have ih1 := (ihl (n - 1) pl xl pre W hl hb hJ (by omega)).mono (R' := fun e W1 =>
        (e = .returned (.bool true) ∧ YieldAt F (n - 1) Tryz.prog l #[.pointer (some ⟨b, 0, none⟩)] W1 fun e W2 =>
          (e = .returned (.bool true) ∧ J (pre ++ xl ++ [x]) W2 ∧ Below w0.heap.size W W2 ∧ W2.cell? ⟨b, 4, none⟩ = some (.pointer ph)) ∨ (e = .returned (.bool false) ∧ Jx (pre ++ xl ++ [x]) W2)) ∨
        (e = .returned (.bool false) ∧ ∃ q, q <+: xl ∧ Jx (pre ++ q) W1))
      (fun e W1 h => h.elim (fun ⟨he, hj, hb1⟩ => .inl ⟨he, hy2 W1 hj hb1⟩) .inr)
    clear hy2 ihl hx
    refine callsIn_of_wp Tryz.func150 rfl h6 ?_ hro
    simp only [Tryz.ntmps150, List.size_toArray, List.length_cons, List.length_nil, Nat.reduceAdd, Nat.reduceSub, Array.replicate_succ, Array.replicate_zero, List.push_toArray, List.append_toArray, List.nil_append, List.cons_append]
    gi_wp2_with (first
      | ((try refine ⟨hdd _, ?_⟩); gi_at_call 150; refine ih1.mono ?_; clear ih1; rintro e W1 (⟨rfl, fn, tmps, assign, body, hy, hR⟩ | ⟨rfl, q, hq, hx1⟩))
      | ((try refine ⟨hdd _, ?_⟩); refine hR.mono ?_; clear hR; rintro e W2 (⟨rfl, hJ2, hb2, c4'⟩ | ⟨rfl, hx2⟩))
      | ((try refine ⟨hdd _, ?_⟩); gi_at_call 150; refine (ihr (n - 1) ph xh _ _ hr (hb.trans hb2) hJ2 (by simp; omega)).mono ?_; rintro e W3 (⟨rfl, hJ3, hb3⟩ | ⟨rfl, q, hq, hx3⟩)))
    · go_ret
      exact .inl ⟨rfl, by simpa [List.append_assoc] using hJ3, hb2.trans hb3⟩
    · go_ret
      obtain ⟨r, hr'⟩ := hq
      exact .inr ⟨rfl, xl ++ x :: q, ⟨r, by simp [← hr']⟩, by simpa [List.append_assoc] using hx3⟩
    · go_ret
      exact .inr ⟨rfl, xl ++ [x], ⟨xh, by simp⟩, by simpa [List.append_assoc] using hx2⟩
    · refine ⟨fun _ h => (by cases h), ?_⟩
      gi_wp2
      go_ret
      exact .inr ⟨rfl, q, hq.trans (by simp), hx1⟩

set_option maxHeartbeats 1000000 in
theorem all1_in (F : Fence) (hF : Hid (F = Fence.wide)) (hd : F.depth = none) (n : Nat) (h5 : F.fn 149) (h6 : F.fn 150) (hro : F.round = none) (w0 : World) (Q : Nat → Prop) (l Bt : Nat) (p : Option Addr) (t : Tr) (xs : List (Nd w0 Q)) (J Jx : List (Nd w0 Q) → World → Prop)
    (hY : ∀ pre x W, J pre W → pre.length < xs.length → YieldAt F (n - 1) Tryz.prog l #[.pointer (some ⟨x.1.1, 0, none⟩)] W fun e W' =>
      (e = .returned (.bool true) ∧ J (pre ++ [x]) W' ∧ Below w0.heap.size W W') ∨ (e = .returned (.bool false) ∧ Jx (pre ++ [x]) W'))
    (W : World) (hBt : W.cell? ⟨Bt, 0, none⟩ = some (.pointer p)) (hT : Nds w0 Q p t xs) (hb : Below w0.heap.size w0 W) (h0 : J [] W) :
    CallsIn F n Tryz.prog 149 #[.func (.yield l) #[] #[], .pointer (some ⟨Bt, 0, none⟩)] W fun e W' => (∃ v, e = .returned v) ∧
      ((∃ ys, ys = xs ∧ J ys W') ∨ (∃ pre, pre <+: xs ∧ Jx pre W')) := by
  have hdd : ∀ k : Nat, (F.depth.isSome = true → 1 ≤ k) := fun k h => by rw [hd] at h; cases h
  have hp := each_in F hF hd h6 hro w0 Q l xs.length J Jx (fun m pre x W hj hl => YieldAt.anyDepth hd m (hY pre x W hj hl)) t (n - 1) p xs [] W hT hb h0 (by simp)
  refine callsIn_of_wp Tryz.func149 rfl h5 ?_ hro
  simp only [Tryz.ntmps149, List.size_toArray, List.length_cons, List.length_nil, Nat.reduceAdd, Nat.reduceSub, Array.replicate_succ, Array.replicate_zero, List.push_toArray, List.append_toArray, List.nil_append, List.cons_append]
  gi_wp2_with ((try refine ⟨hdd _, ?_⟩); gi_at_call 150; refine hp.mono ?_; clear hp; rintro e W1 (⟨rfl, hJ1, _⟩ | ⟨rfl, q, hq, hx⟩))
  · go_end0
    exact ⟨⟨_, rfl⟩, .inl ⟨_, rfl, by simpa using hJ1⟩⟩
  · go_end0
    exact ⟨⟨_, rfl⟩, .inr ⟨q, hq, by simpa using hx⟩⟩

set_option maxHeartbeats 1000000 in
theorem all_in (p : Option Addr) (w : World) :
    Calls Tryz.prog 124 #[.pointer p] w fun e w' => e = .returned (.func (.func 149) #[] #[.pointer (some ⟨w.heap.size, 0, none⟩)]) ∧ w' = w.alloc (.cells #[.pointer p] 183) := by
  go_enter Tryz.func124, Tryz.ntmps124
  go_wp2
  go_ret
  exact ⟨rfl, rfl⟩

theorem all_stops (F : Fence) (hF : Hid (F = Fence.wide)) (hd : F.depth = none) (n : Nat) (h5 : F.fn 149) (h6 : F.fn 150) (hro : F.round = none) (w0 : World) (Q : Nat → Prop) (Bt : Nat) (p : Option Addr) (t : Tr) (xs : List (Nd w0 Q)) (w : World) (hBt : Bt < w.heap.size)
    (hb : Below w0.heap.size w0 w) (hc : w.cell? ⟨Bt, 0, none⟩ = some (.pointer p)) (hT : Nds w0 Q p t xs) :
    SeqStopsK F n Tryz.prog 149 #[.pointer (some ⟨Bt, 0, none⟩)] (fun x : Nd w0 Q => #[Value.pointer (some ⟨x.1.1, 0, none⟩)]) (Below w0.heap.size) (fun ys => ys = xs) (fun pre => pre <+: xs) xs.length w := fun l J Jx W hW _ _ hY h0 =>
  all1_in F hF hd n h5 h6 hro w0 Q l Bt p t xs J Jx hY W ((hW.cell (p := ⟨Bt, 0, none⟩) hBt).trans hc) hT (hb.trans (hW.mono hb.size)) h0
end
end Go.Proofs.YtdhpoaecedpbdaaGreat
namespace Go.Proofs.YtdhpoaecedpbdaaGreat
section
open Go.RowKit Go.Shelf

/-- What is asked behind a statement that ends as it should. -/
def Goes (Q : Exit → Act → World → Prop) (e : Exit) (a : Act) (w : World) : Prop := e = .normal ∧ Q .normal a w

theorem rows_wide {n : Nat} {P : Program} {row : String} {args : Array Value} {w : World} {R : Value → World → Prop} (l : Nat) (h : Rows P row args w R) : RowsIn (Fence.wide.inRound l) n P row args w R :=
  fun c cs _ => let ⟨v, w', r, s⟩ := h c cs; ⟨v, w', r, stepsIn_wide.2 s⟩

section
variable {P : Program} {ops : Array Oper} {Q : Exit → Act → World → Prop} {md : Region.Mode} {l n : Nat}

theorem upon_wide {o : Oper} {a : Act} {K : Act → World → Prop} {r : Result Next} (h : o.upon P a K (Goes Q) r) : o.uponIn (Fence.wide.inRound l) n P a K (Goes Q) r := by
  cases r with
  | ok x w' =>
    cases x with
    | value v => exact h
    | skip => exact h
    | defer d => exact h
    | enter f args => exact ⟨fun h => (by cases h), CallsIn.inRound l (callsIn_wide.2 h)⟩
    | row r args => exact ⟨fun h => (by cases h), rows_wide l h⟩
    | _ => exact h.elim
  | halt x w' =>
    cases x with
    | panic v => exact h
    | _ => exact h.elim

theorem op_wide {i : Nat} {K K' : Act → World → Prop} {a : Act} {w : World} (hnd : ∀ (o : Oper), ops[i]? = some o → ∀ c, o.op ≠ .defer c) (hK : ∀ a w, K a w → K' a w) (h : wpOp P ops (Goes Q) i K a w) : wpOpIn (Fence.wide.inRound l) n P ops (Goes Q) i K' a w := by
  unfold wpOp at h
  unfold wpOpIn
  cases ho : ops[i]? with
  | none =>
    rw [ho] at h
    exact hK _ _ h
  | some o =>
    rw [ho] at h
    by_cases hw : Region.wanted o (yielded ops a.tmps) = true
    · simp only [hw, if_true] at h ⊢
      rcases h with h | ⟨_, _, _, h⟩
      · refine ⟨fun _ _ => trivial, ?_⟩
        have hs : o.semAt (Fence.wide.inRound l).round a.eval = execOp a.eval o := Oper.semAt_eq _ _ _ (hnd o ho)
        rw [hs]
        exact upon_wide (show o.upon P a K' (Goes Q) _ from Oper.wp_mono hK h)
      · cases h.1
    · simp only [hw] at h ⊢
      exact ⟨fun _ _ => trivial, hK _ _ h⟩

theorem any_wide (hnd : ∀ (i : Nat) (o : Oper), ops[i]? = some o → ∀ c, o.op ≠ .defer c) : ∀ (fuel : Nat) (listed : Array Bool) (a : Act) (w : World), wpAny P md ops (Goes Q) fuel listed a w → wpAnyIn (Fence.wide.inRound l) n P md ops (Goes Q) fuel listed a w
  | 0, _, _, _, h => h
  | fuel + 1, _, _, _, h => ⟨h.1, fun i hi => op_wide (hnd i) (fun a' w' h' => any_wide hnd fuel _ a' w' h') (h.2 i hi)⟩

/-- Does no operation defer? -/
def noDefer (ops : Array Oper) : Bool := ops.all fun o => match o.op with | .defer _ => false | _ => true
theorem noDefer_spec (h : noDefer ops = true) (i : Nat) (o : Oper) (ho : ops[i]? = some o) (c : Call) : o.op ≠ .defer c := by
  intro e
  obtain ⟨hi, hio⟩ := Array.getElem?_eq_some_iff.1 ho
  have h2 := Array.all_eq_true.1 h i hi
  rw [hio, e] at h2
  cases h2

theorem region_round {S : World → Prop} {id : Nat} {a : Act} {w : World} (hm : P.follows .mixedOrders = true) (hnd : noDefer ops = true) (hS : S w.drew)
    (h : S w.drew → wpAnyH P .any ops (Goes Q) S ops.size (Array.replicate ops.size false) a w.drew) : (Code.region id ops true).wpIn (Fence.wide.inRound l) n P Q a w :=
  wpIn_mono (wpIn_region_any hm (any_wide (noDefer_spec hnd) _ _ _ _ (wpAny_of_held _ _ _ _ (h hS)))) fun e a w hq => by
    obtain ⟨rfl, hq⟩ := hq
    exact hq

/-- An operation that only reads is taken first. -/
theorem take_at {S : World → Prop} {i d : Nat} {oi : Oper} {v : Value} {fuel : Nat} {listed : Array Bool} {a : Act} {w : World} (hi : ops[i]? = some oi) (hd : oi.dst = some d) (hs : Region.noSelect ops = true) (hf : Region.free md ops listed i = true) (hr : (Region.ready md ops listed).contains i = true)
    (hw : Region.wanted oi (yielded ops a.tmps) = true) (hy : ∀ w, S w → (execOp a.eval oi).run P w = .ok (.value v) w) (hS : S w)
    (h : wpAnyH P md ops (Goes Q) S fuel (listed.setIfInBounds i true) { tmps := a.tmps.setIfInBounds d v, defers := a.defers } w) : wpAnyH P md ops (Goes Q) S (fuel + 1) listed a w := by
  refine wpAnyH_take hi hs hf hr (fun _ _ _ h => (by cases h.1)) (Or.inl ⟨hw, hy⟩) hS ?_
  rw [hd]
  exact h
/-- The one operation that may come next is carried out. -/
theorem next_at {S : World → Prop} {i : Nat} {oi : Oper} {fuel : Nat} {listed : Array Bool} {a : Act} {w : World} (hr : Region.ready md ops listed = [i]) (hi : ops[i]? = some oi) (hw : Region.wanted oi (yielded ops a.tmps) = true)
    (h : ∀ K' : Act → World → Prop, Shut (∀ a w, S w → (S w → wpAnyH P md ops (Goes Q) S fuel (listed.setIfInBounds i true) a w) → K' a w) → Oper.wp P oi a w K' (Goes Q)) : wpAnyH P md ops (Goes Q) S (fuel + 1) listed a w := by
  refine wpAnyH_ready hr (by simp) (AllReadyH.cons hi (fun K hK => ?_) AllReadyH.nil)
  rw [if_pos hw]
  exact h K hK
/-- One of two operations may come next. -/
theorem next_at2 {S : World → Prop} {i j : Nat} {oi oj : Oper} {fuel : Nat} {listed : Array Bool} {a : Act} {w : World} (hr : Region.ready md ops listed = [i, j]) (hi : ops[i]? = some oi) (hj : ops[j]? = some oj) (hw : Region.wanted oi (yielded ops a.tmps) = true) (hw2 : Region.wanted oj (yielded ops a.tmps) = true)
    (h : ∀ K' : Act → World → Prop, Shut (∀ a w, S w → (S w → wpAnyH P md ops (Goes Q) S fuel (listed.setIfInBounds i true) a w) → K' a w) → Oper.wp P oi a w K' (Goes Q))
    (h2 : ∀ K' : Act → World → Prop, Shut (∀ a w, S w → (S w → wpAnyH P md ops (Goes Q) S fuel (listed.setIfInBounds j true) a w) → K' a w) → Oper.wp P oj a w K' (Goes Q)) : wpAnyH P md ops (Goes Q) S (fuel + 1) listed a w := by
  refine wpAnyH_ready hr (by simp) (AllReadyH.cons hi (fun K hK => ?_) (AllReadyH.cons hj (fun K hK => ?_) AllReadyH.nil))
  · rw [if_pos hw]
    exact h K hK
  · rw [if_pos hw2]
    exact h2 K hK
theorem all_done {S : World → Prop} {fuel : Nat} {listed : Array Bool} {a : Act} {w : World} (hr : Region.ready md ops listed = []) (h : Q .normal a w) : wpAnyH P md ops (Goes Q) S fuel listed a w := wpAnyH_done hr ⟨rfl, h⟩ _
end
end
end Go.Proofs.YtdhpoaecedpbdaaGreat
namespace Go.Proofs.YtdhpoaecedpbdaaGreat
section
open Go.RowKit Go.Shelf

/-- One row comes, so many times; behind an error nothing does. -/
def mstep (times : Int) (s : List En × Int) (e : En) : List En × Int :=
  if s.2 = 0 then (if e.2 * times < -1073741824 - manyL e.1 s.1 ∨ 1073741824 - manyL e.1 s.1 < e.2 * times then (s.1, 10) else (setL e.1 (manyL e.1 s.1 + e.2 * times) s.1, 0)) else s
def mergeS (times : Int) (l o : List En) : List En × Int := o.foldl (mstep times) (l, 0)
theorem mergeS_nil (times : Int) (l : List En) : mergeS times l [] = (l, 0) := rfl
theorem mergeS_snoc (times : Int) (l o : List En) (e : En) : mergeS times l (o ++ [e]) = mstep times (mergeS times l o) e := by
  unfold mergeS
  rw [List.foldl_append]
  rfl
theorem mstep_err (times : Int) (s : List En × Int) (e : En) (h : ¬ s.2 = 0) : mstep times s e = s := if_neg h
theorem mfold_err (times : Int) : ∀ (o : List En) (s : List En × Int), ¬ s.2 = 0 → o.foldl (mstep times) s = s
  | [], _, _ => rfl
  | e :: o, s, h => by
    rw [List.foldl_cons, mstep_err times s e h]
    exact mfold_err times o s h
theorem mergeS_stuck (times : Int) (l a b : List En) (h : ¬ (mergeS times l a).2 = 0) : mergeS times l (a ++ b) = mergeS times l a := by
  unfold mergeS at h ⊢
  rw [List.foldl_append]
  exact mfold_err times b _ h
theorem mstep_two (times : Int) (s : List En × Int) (e : En) (h : s.2 = 0 ∨ s.2 = 10) : (mstep times s e).2 = 0 ∨ (mstep times s e).2 = 10 := by
  unfold mstep
  split
  · split
    · exact Or.inr rfl
    · exact Or.inl rfl
  · exact h
theorem mfold_two (times : Int) : ∀ (o : List En) (s : List En × Int), (s.2 = 0 ∨ s.2 = 10) → (o.foldl (mstep times) s).2 = 0 ∨ (o.foldl (mstep times) s).2 = 10
  | [], _, h => h
  | e :: o, s, h => mfold_two times o _ (mstep_two times s e h)
theorem mergeS_two (times : Int) (l o : List En) : (mergeS times l o).2 = 0 ∨ (mergeS times l o).2 = 10 := mfold_two times o _ (Or.inl rfl)
theorem mstep_good (times : Int) (s : List En × Int) (e : En) (h : Good s.1) (he : rightR e.1 = true) : Good (mstep times s e).1 := by
  unfold mstep
  split
  · split
    · exact h
    · exact setL_good _ _ _ h he ((fewN_iff _).2 (by omega))
  · exact h
theorem mfold_good (times : Int) : ∀ (o : List En) (s : List En × Int), Good s.1 → (∀ e ∈ o, rightR e.1 = true) → Good (o.foldl (mstep times) s).1
  | [], _, h, _ => h
  | e :: o, s, h, hr => mfold_good times o _ (mstep_good times s e h (hr e (by simp))) fun f hf => hr f (by simp [hf])
theorem mergeS_good (times : Int) (l o : List En) (h : Good l) (hr : ∀ e ∈ o, rightR e.1 = true) : Good (mergeS times l o).1 := mfold_good times o _ h hr
theorem setL_len1 (x : List V) (k : Int) : ∀ l : List En, (setL x k l).length ≤ l.length + 1
  | [] => by
    unfold setL
    split <;> simp
  | e :: l => by
    have ih := setL_len1 x k l
    rw [setL_cons]
    split
    · simp only [List.length_cons]; omega
    · split
      · split <;> simp only [List.length_cons] <;> omega
      · split <;> simp only [List.length_cons] <;> omega
theorem mfold_len (times : Int) : ∀ (o : List En) (s : List En × Int), (o.foldl (mstep times) s).1.length ≤ s.1.length + o.length
  | [], _ => by simp
  | e :: o, s => by
    have ih := mfold_len times o (mstep times s e)
    have h1 : (mstep times s e).1.length ≤ s.1.length + 1 := by
      unfold mstep
      split
      · split
        · simp
        · exact setL_len1 _ _ _
      · omega
    rw [List.foldl_cons, List.length_cons]
    omega
theorem mergeS_len (times : Int) (l o : List En) : (mergeS times l o).1.length ≤ l.length + o.length := mfold_len times o _
theorem prod_bound (a b : Int) (ha : -1073741824 ≤ a ∧ a ≤ 1073741824) (hb : -1073741824 ≤ b ∧ b ≤ 1073741824) : -1152921504606846976 ≤ a * b ∧ a * b ≤ 1152921504606846976 := by
  have h : (a * b).natAbs ≤ 1073741824 * 1073741824 := by
    rw [Int.natAbs_mul]
    exact Nat.mul_le_mul (by omega) (by omega)
  omega

/-- What Merge makes of a bag's list, and the error's number. -/
def mergeL (times : Int) (l o : List En) : List En × Int := if fewN times = false then (l, 2) else if (mergeS times l o).2 = 0 then ((mergeS times l o).1, 0) else (l, 10)

/-! ### Where blocks that hold no cells change -/
theorem RowQ.kept {w w' : World} {Q : Nat → Prop} {A : Option Addr} {xs : List V} {row : Option Nat} (h : RowQ w Q A xs) (hg : w.grownBy w' row) (hr : ∀ r, row = some r → ∃ o : Obj, w.heap[r]? = some o ∧ o.isCells = false) : RowQ w' Q A xs := by
  intro i v hi
  obtain ⟨a, ha, hb, h0, h1, h2, h3⟩ := h i v hi
  exact ⟨a, ha, hb, cell_kept h0 hg hr, cell_kept h1 hg hr, cell_kept h2 hg hr, cell_kept h3 hg hr⟩
theorem NodeIs.kept {w w' : World} {Q : Nat → Prop} {b : Nat} {r : List V} {m : Int} {s : Nat} {pl ph : Option Addr} {row : Option Nat} (h : NodeIs w Q b r m s pl ph) (hg : w.grownBy w' row) (hr : ∀ r, row = some r → ∃ o : Obj, w.heap[r]? = some o ∧ o.isCells = false) : NodeIs w' Q b r m s pl ph := by
  obtain ⟨h1, hl, ⟨v, ⟨h0, A, c, e, hA, h2⟩, h4⟩, h5, h6, h7, h8⟩ := h
  exact ⟨h1, Nat.lt_of_lt_of_le hl hg.size, ⟨v, ⟨h0, A, c, e, hA, h2.kept hg hr⟩, cell_kept h4 hg hr⟩, cell_kept h5 hg hr, cell_kept h6 hg hr, cell_kept h7 hg hr, cell_kept h8 hg hr⟩
theorem TreeAt.kept {w w' : World} {Q : Nat → Prop} {row : Option Nat} (hg : w.grownBy w' row) (hr : ∀ r, row = some r → ∃ o : Obj, w.heap[r]? = some o ∧ o.isCells = false) : ∀ {p : Option Addr} {t : Tr}, TreeAt w Q p t → TreeAt w' Q p t
  | _, .nil, h => h
  | _, .node _ _ _ _, ⟨b, pl, ph, e, hn, hl, hh⟩ => ⟨b, pl, ph, e, hn.kept hg hr, TreeAt.kept hg hr hl, TreeAt.kept hg hr hh⟩
end
end Go.Proofs.YtdhpoaecedpbdaaGreat
namespace Go.Proofs.YtdhpoaecedpbdaaGreat
section
open Go.RowKit Go.Shelf

attribute [local go_sem] Oper.semAt_some

/-- Have two lists equally many rows, and is each of the first in the second as often? -/
def sameL (a b : List En) : Bool := a.length == b.length && a.all fun e => manyL e.1 b == e.2

theorem keeps_below {B : Nat} {W W' : World} (h : Below W.heap.size W W') : KeepsFrom B W W' := ⟨h.size, fun k _ _ hk _ => (h.block k (Array.getElem?_eq_some_iff.1 hk).1).trans hk⟩
theorem Boxed.below {W W' : World} {B : Nat} {t : TypeId} {v : Value} (hv : Boxed W B t v) (h : Below W.heap.size W W') : Boxed W' B t v := (h.block B hv.lt).trans hv
theorem Boxed.drewQ {W : World} {B : Nat} {t : TypeId} {v : Value} (hv : Boxed W B t v) : Boxed W.drew B t v := hv
theorem nd_in {w W : World} {Q : Nat → Prop} (x : Nd w Q) (h : Below w.heap.size w W) : ∃ v, IsRow W Q v x.1.2.1 ∧ W.cell? ⟨x.1.1, 0, none⟩ = some v ∧ W.cell? ⟨x.1.1, 1, none⟩ = some (.int .i64 x.1.2.2) ∧ x.1.1 < w.heap.size := by
  obtain ⟨s, pl, ph, hn⟩ := x.2.1
  obtain ⟨_, h2, ⟨v, h3, h4⟩, h5, _⟩ := hn.keep (Below.keepQ h Q)
  obtain ⟨_, hlt, _⟩ := hn
  exact ⟨v, h3, h4, h5, hlt⟩

theorem all_snoc {α : Type} {p : α → Prop} {l : List α} {x : α} (h : ∀ y ∈ l, p y) (hx : p x) : ∀ y ∈ l ++ [x], p y := by
  intro y hy
  rcases List.mem_append.1 hy with hy | hy
  · exact h y hy
  · rw [List.mem_singleton] at hy
    rw [hy]
    exact hx
end
end Go.Proofs.YtdhpoaecedpbdaaGreat
namespace Go.Proofs.YtdhpoaecedpbdaaGreat
section
open Go.RowKit Go.Shelf

attribute [local go_sem] Oper.semAt_some

theorem far_cell (w : World) {b b' : Nat} (h : b ≠ b') (v : Value) (i : Nat) : (w.setCell ⟨b', 0, none⟩ v).cell? ⟨b, i, none⟩ = w.cell? ⟨b, i, none⟩ := World.cell?_of_block (w := w) (Below.heap_setCell w _ v b h)
theorem mstep_over (times : Int) (s : List En × Int) (e : En) (k : Int) (l : List En) (h0 : s.2 = 0) (hk : e.2 * times = k) (hl : l = s.1) (hov : k < -1073741824 - manyL e.1 l ∨ 1073741824 - manyL e.1 l < k) : mstep times s e = (s.1, 10) := by
  subst hk hl
  unfold mstep
  rw [if_pos h0, if_pos hov]
theorem mstep_ok (times : Int) (s : List En × Int) (e : En) (k : Int) (l : List En) (h0 : s.2 = 0) (hk : e.2 * times = k) (hl : l = s.1) (hov : ¬ (k < -1073741824 - manyL e.1 l ∨ 1073741824 - manyL e.1 l < k)) : mstep times s e = (setL e.1 (manyL e.1 l + k) l, 0) := by
  subst hk hl
  unfold mstep
  rw [if_pos h0, if_neg hov]
/-- What a Merge by times that can be makes. -/
def mres (times : Int) (l o : List En) : List En × Int := if (mergeS times l o).2 = 0 then ((mergeS times l o).1, 0) else (l, 10)
/-- Blocks of Q, less a loop's own boxes. -/
def Less (Q : Nat → Prop) (s k : Nat) : Prop := Q k ∧ (k < s ∨ s + 4 ≤ k)

/-- What a loop of Merge has behind the rows that have come: its boxes, and the tree so far. -/
def MI (w : World) (Q : Nat → Prop) (times : Int) (l : List En) (pre : List En) (W : World) : Prop :=
  ∃ p t, Boxed W (w.heap.size + 2) 183 (.pointer p) ∧ TreeAt W (Less Q w.heap.size) p t ∧ t.toL = (mergeS times l pre).1 ∧ (mergeS times l pre).2 = 0
theorem mi_own (w : World) (Q : Nat → Prop) (times : Int) (l : List En) {α : Type} (f : List α → List En) : Go.Own (fun (pre : List α) W => MI w Q times l (f pre) W) := by
  intro s X Y row hs hg hr
  obtain ⟨p, t, h1, h2, h3, h4⟩ := hs
  exact ⟨p, t, boxed_own (β := Unit) _ _ (fun _ => Value.pointer p) () X Y row h1 hg hr, TreeAt.kept hg hr h2, h3, h4⟩
end
end Go.Proofs.YtdhpoaecedpbdaaGreat
