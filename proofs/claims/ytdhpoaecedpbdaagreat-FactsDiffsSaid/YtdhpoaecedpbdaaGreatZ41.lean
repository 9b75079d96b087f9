/-
  The four things of layer 10's statements side by side: both stores with the same objects, both trees with the same tenants.
  No condition.
  begin of verdererlaw10: both stores and both trees, with nothing in them.
  No condition.
  do of verdererlaw10: an act to both stores, or to both trees.
  Condition: texts are no longer than texts can be; versions that fit.
-/
import Derived.Test.YtdhpoaecedpbdaaGreatZ2
import Derived.Test.YtdhpoaecedpbdaaGreatZ34
import Derived.Test.YtdhpoaecedpbdaaGreatZ40
namespace Go.Proofs.YtdhpoaecedpbdaaGreat
section
open Go.RowKit Go.Maps

/-- None of the one side's blocks is one of the other side's. -/
structure Apt (s b r t bt rt : Nat) (v : Value) : Prop where
  s1 : s ≠ t
  s2 : s ≠ bt
  s3 : s ≠ rt
  b1 : b ≠ t
  b2 : b ≠ bt
  b3 : b ≠ rt
  r1 : r ≠ t
  r2 : r ≠ bt
  r3 : r ≠ rt
  vs : v.ownBlock ≠ some s
  vb : v.ownBlock ≠ some b
  vr : v.ownBlock ≠ some r
/-- The blocks in which rows may lie. -/
def Q10 (s b r t bt rt : Nat) (v : Value) (k : Nat) : Prop := k ≠ s ∧ k ≠ b ∧ k ≠ r ∧ k ≠ t ∧ k ≠ bt ∧ k ≠ rt ∧ v.ownBlock ≠ some k
/-- Each object can be. -/
def May (os : List Ob) : Prop := ∀ o ∈ os, mayR KL8 o.key o.c = 0
theorem insO_may {os : List Ob} (h : May os) (k : Ky) (c : List V) (last : Int) : May (insO KL8 os k c last) := by
  unfold insO
  split
  · rename_i h0
    have h1 : mayR KL8 k c = 0 := by
      unfold insR at h0
      split at h0
      · rename_i h2; exact absurd h0 h2
      · rename_i h2; exact Decidable.not_not.1 h2
    intro x hx
    rcases List.mem_append.1 hx with hx | hx
    · exact h x (List.mem_of_mem_take hx)
    · rcases List.mem_cons.1 hx with rfl | hx
      · exact h1
      · exact h x (List.mem_of_mem_drop hx)
  · exact h
theorem updO_may {os : List Ob} (h : May os) (k : Ky) (v : Int) (c : List V) (last : Int) : May (updO KL8 os k v c last) := by
  unfold updO
  split
  · rename_i h0
    have h1 : mayR KL8 k c = 0 := by
      unfold updR at h0
      split at h0
      · rename_i h2; exact absurd h0 h2
      · rename_i h2; exact Decidable.not_not.1 h2
    intro x hx
    rcases List.mem_append.1 hx with hx | hx
    · exact h x (List.mem_of_mem_take hx)
    · rcases List.mem_cons.1 hx with rfl | hx
      · exact h1
      · exact h x (List.mem_of_mem_drop hx)
  · exact h
theorem delO_may {os : List Ob} (h : May os) (k : Ky) (v : Int) : May (delO KL8 os k v) := by
  unfold delO
  split
  · intro x hx
    rcases List.mem_append.1 hx with hx | hx
    · exact h x (List.mem_of_mem_take hx)
    · exact h x (List.mem_of_mem_drop hx)
  · exact h
theorem okCs_right : ∀ (cs : List Co) (xs : List V), xs.length = cs.length → okCs cs xs = true → xs.all rightV = true
  | [], [], _, _ => rfl
  | c :: cs, x :: xs, hl, h => by
    unfold okCs at h
    rw [Bool.and_eq_true] at h
    have h1 := okCs_right cs xs (by simpa using hl) h.2
    have h2 : rightV x = true := by
      have := h.1
      unfold okC at this
      rw [Bool.and_eq_true] at this
      exact this.1
    rw [List.all_cons, h1, h2]
    rfl
  | [], _ :: _, hl, _ => by simp at hl
  | _ :: _, [], hl, _ => by simp at hl
/-- What such an object is. -/
theorem May.one {os : List Ob} (h : May os) {o : Ob} (ho : o ∈ os) : o.c.length ≤ 3 ∧ o.c.all rightV = true ∧ nameR o.key.2.1.data.toList = true ∧ nameR o.key.2.2.data.toList = true := by
  have h0 := h o ho
  unfold mayR at h0
  have hn : ¬ ((findS KL8 o.key.1).isSome = true ∧ ¬ (nameR o.key.2.1.data.toList = true ∧ nameR o.key.2.2.data.toList = true)) := by
    intro hc
    rw [if_pos hc] at h0
    cases h0
  rw [if_neg hn] at h0
  cases hf : findS KL8 o.key.1 with
  | none =>
    rw [hf] at h0
    cases h0
  | some x =>
    rw [hf] at h0 hn
    have hmem : x ∈ KL8 := by
      unfold findS at hf
      exact List.mem_of_find?_eq_some hf
    have hcl : x.cols.length ≤ 3 := by
      unfold KL8 at hmem
      simp only [List.mem_cons, List.not_mem_nil, or_false] at hmem
      rcases hmem with rfl | rfl <;> decide
    unfold fitsR at h0
    simp only at h0
    split at h0
    · rename_i hl
      split at h0
      · rename_i hk
        refine ⟨by omega, okCs_right _ _ hl hk, ?_⟩
        exact Decidable.not_not.1 fun hc => hn ⟨rfl, hc⟩
      · cases h0
    · cases h0

structure Wd (w : World) (s b r q t bt rt : Nat) (os : List Ob) (last : Int) (v : Value) (L : List Tn) : Prop where
  bo : Bo w (Q10 s b r t bt rt v) s b r os last
  st : StT w q t bt rt v L
  ap : Apt s b r t bt rt v
  may : May os
  ge : q ≤ s ∧ q ≤ b ∧ q ≤ r ∧ q ≤ w.heap.size
theorem Wd.below {w w' : World} {s b r q t bt rt : Nat} {os : List Ob} {last : Int} {v : Value} {L : List Tn} (h : Wd w s b r q t bt rt os last v L) (hb : Below w.heap.size w w') : Wd w' s b r q t bt rt os last v L := ⟨h.bo.below hb, h.st.below hb, h.ap, h.may, ⟨h.ge.1, h.ge.2.1, h.ge.2.2.1, Nat.le_trans h.ge.2.2.2 hb.size⟩⟩
theorem RefO.imp {w : World} {Q Q' : Nat → Prop} {r : Nat} {A : Option Addr} {c : Nat} {os : List Ob} {last : Int} {KL : List Sc} (h : RefO w Q r A c os last KL) (hq : ∀ k, k < w.heap.size → Q k → Q' k) (hr : ¬ Q' r) : RefO w Q' r A c os last KL := by
  obtain ⟨kv, es, h1, h2, h3, h4, h5, h6, h7⟩ := h
  exact ⟨kv, es, h1, h2.imp hq, hr, h4.imp hq, h5.imp hq, h6, h7⟩
theorem Bo.imp {w : World} {Q Q' : Nat → Prop} {s b r : Nat} {os : List Ob} {last : Int} (h : Bo w Q s b r os last) (hq : ∀ k, k < w.heap.size → Q k → Q' k) (hs : ¬ Q' s) (hb : ¬ Q' b) (hr : ¬ Q' r) : Bo w Q' s b r os last :=
  ⟨h.good, h.sto.imp hq hs hb, by obtain ⟨A, c, hR⟩ := h.ref; exact ⟨A, c, hR.imp hq hr⟩, h.rs, h.rb⟩
theorem Wd.lts {w : World} {s b r q t bt rt : Nat} {os : List Ob} {last : Int} {v : Value} {L : List Tn} (h : Wd w s b r q t bt rt os last v L) : s < w.heap.size ∧ b < w.heap.size ∧ r < w.heap.size ∧ t < w.heap.size ∧ bt < w.heap.size ∧ rt < w.heap.size ∧ (∀ k, v.ownBlock = some k → q ≤ k ∧ k < w.heap.size) := by
  obtain ⟨⟨D, hT⟩, hR, _⟩ := h.st
  exact ⟨h.bo.sto.lt.1, h.bo.sto.lt.2, h.bo.rlt, hT.2.2.2.2.1, hT.2.2.2.2.2, hR.lt, fun k hk => World.ownsRow.lt hR.2 k hk⟩
/-- New blocks may hold rows. -/
theorem Wd.new {w : World} {s b r q t bt rt : Nat} {os : List Ob} {last : Int} {v : Value} {L : List Tn} (h : Wd w s b r q t bt rt os last v L) (k : Nat) (hk : w.heap.size ≤ k) : Q10 s b r t bt rt v k := by
  obtain ⟨l1, l2, l3, l4, l5, l6, l7⟩ := h.lts
  exact ⟨by omega, by omega, by omega, by omega, by omega, by omega, fun e => by have := (l7 k e).2; omega⟩
/-- An act to both stores. -/
theorem Wd.store {w w' : World} {s b r q t bt rt : Nat} {os os' : List Ob} {last last' : Int} {v : Value} {L : List Tn} (h : Wd w s b r q t bt rt os last v L) (hB : Bo w' (Q10 s b r t bt rt v) s b r os' last') (hO : O3 s b r w w') (hm : May os') : Wd w' s b r q t bt rt os' last' v L := by
  obtain ⟨l1, l2, l3, l4, l5, l6, l7⟩ := h.lts
  have hsz := hO.1.size
  refine ⟨hB, ?_, h.ap, hm, ⟨h.ge.1, h.ge.2.1, h.ge.2.2.1, Nat.le_trans h.ge.2.2.2 hsz⟩⟩
  obtain ⟨⟨D, a1, a2, a3, a4, a5, a6⟩, hR, hr⟩ := h.st
  refine ⟨⟨D, (hO.2 t l4 h.ap.s1.symm h.ap.b1.symm h.ap.r1.symm).trans a1, ownsMapT_block a2 (hO.2 bt l5 h.ap.s2.symm h.ap.b2.symm h.ap.r2.symm), a3, a4, by omega, by omega⟩, ⟨(hO.2 rt l6 h.ap.s3.symm h.ap.b3.symm h.ap.r3.symm).trans hR.1, OwnN.same hR.2 fun k hk => hO.2 k (l7 k hk).2 (fun e => h.ap.vs (e ▸ hk)) (fun e => h.ap.vb (e ▸ hk)) (fun e => h.ap.vr (e ▸ hk))⟩, hr⟩
/-- An act to both trees. -/
theorem Wd.tree {w w' : World} {s b r q t bt rt : Nat} {os : List Ob} {last : Int} {v v' : Value} {L L' : List Tn} (h : Wd w s b r q t bt rt os last v L) (hS : StT w' q t bt rt v' L') (hC : ChgT w bt rt v w' v') (hz : w.heap.size ≤ w'.heap.size) : Wd w' s b r q t bt rt os last v' L' := by
  obtain ⟨l1, l2, l3, l4, l5, l6, l7⟩ := h.lts
  have hv : ∀ k, k < w.heap.size → v.ownBlock ≠ some k → v'.ownBlock ≠ some k := by
    intro k hk h1 h2
    rcases hC.2 with rfl | hn
    · exact h1 h2
    · have := hn k h2
      omega
  obtain ⟨hk, _⟩ := hC
  have hB1 : Bo w (fun k => Q10 s b r t bt rt v k ∧ v'.ownBlock ≠ some k) s b r os last := h.bo.imp (fun k hk hq => ⟨hq, hv k hk hq.2.2.2.2.2.2⟩) (fun hc => hc.1.1 rfl) (fun hc => hc.1.2.1 rfl) (fun hc => hc.1.2.2.1 rfl)
  have hkq : KeepQ (fun k => Q10 s b r t bt rt v k ∧ v'.ownBlock ≠ some k) w w' := fun k hq hl => hk k hl hq.1.2.2.2.2.1 hq.1.2.2.2.2.2.1 hq.1.2.2.2.2.2.2
  have es := hk s l1 h.ap.s2 h.ap.s3 h.ap.vs
  have eb := hk b l2 h.ap.b2 h.ap.b3 h.ap.vb
  have er := hk r l3 h.ap.r2 h.ap.r3 h.ap.vr
  have hB2 : Bo w' (fun k => Q10 s b r t bt rt v k ∧ v'.ownBlock ≠ some k) s b r os last := ⟨hB1.good, hB1.sto.keep hkq es eb hz, by obtain ⟨A, c, hR⟩ := hB1.ref; exact ⟨A, c, hR.keep hkq er⟩, hB1.rs, hB1.rb⟩
  exact ⟨hB2.imp (fun k _ hq => ⟨hq.1.1, hq.1.2.1, hq.1.2.2.1, hq.1.2.2.2.1, hq.1.2.2.2.2.1, hq.1.2.2.2.2.2.1, hq.2⟩) (fun hc => hc.1 rfl) (fun hc => hc.2.1 rfl) (fun hc => hc.2.2.1 rfl), hS, ⟨h.ap.s1, h.ap.s2, h.ap.s3, h.ap.b1, h.ap.b2, h.ap.b3, h.ap.r1, h.ap.r2, h.ap.r3, hv s l1 h.ap.vs, hv b l2 h.ap.vb, hv r l3 h.ap.vr⟩, h.may, ⟨h.ge.1, h.ge.2.1, h.ge.2.2.1, Nat.le_trans h.ge.2.2.2 hz⟩⟩
end
end Go.Proofs.YtdhpoaecedpbdaaGreat
namespace Go.Proofs.YtdhpoaecedpbdaaGreat
section
open Go.RowKit Go.Maps

set_option maxRecDepth 100000 in
set_option maxHeartbeats 1000000 in
theorem o_new2 (R : Nat → Prop) (g : Nat) (KL : List Sc) (w : World) (hs : SetIs w R g KL) :
    Calls Tryz.prog 28 #[.pointer (some ⟨g, 0, none⟩)] w fun r w' => r = .returned (.tuple #[.pointer (some ⟨w.heap.size + 1, 0, none⟩), .int .i64 0]) ∧ StoB w' (fun k => R k ∧ k < w.heap.size) (w.heap.size + 1) w.heap.size [] 0 KL ∧ Below w.heap.size w w' := by
  obtain ⟨v, hc, _, hk⟩ := hs
  have HK := Lib.hid hk
  obtain ⟨_, A, c, rfl, _, _⟩ := hk
  have hmm := @run_makeMap Tryz.prog
  go_enter Tryz.func28, Tryz.ntmps28
  go_wp2
  go_ret2
  refine ⟨by simp, ⟨_, .map [], [], alloc2_new w _ _, (HK.out.imp (Q' := fun k => R k ∧ k < w.heap.size) (fun k hk hq => ⟨hq, hk⟩)).below (two_new w _ _), (World.ownsMap_made w Tryz.prog 103 RpO).alloc _, RelO.empty, trivial, by omega, by simp; omega, fun h => by have := h.2; omega, fun h => by have := h.2; omega⟩, two_new w _ _⟩

theorem four_set {W : World} {p : Nat} {T : TypeId} {z0 z1 z2 z3 : Value} (h : W.heap[p]? = some (.cells #[z0, z1, z2, z3] T (0, 0))) (a0 a1 a2 a3 : Value) :
    ((((W.setCell ⟨p, 0, none⟩ a0).setCell ⟨p, 1, none⟩ a1).setCell ⟨p, 2, none⟩ a2).setCell ⟨p, 3, none⟩ a3).heap[p]? = some (.cells #[a0, a1, a2, a3] T (0, 0)) := by
  have h0 := heap_setCell_same W p 0 _ _ a0 h
  have h1 := heap_setCell_same _ p 1 _ _ a1 h0
  have h2 := heap_setCell_same _ p 2 _ _ a2 h1
  exact heap_setCell_same _ p 3 _ _ a3 h2
theorem four_only (W : World) (p : Nat) (a0 a1 a2 a3 : Value) : Only p W ((((W.setCell ⟨p, 0, none⟩ a0).setCell ⟨p, 1, none⟩ a1).setCell ⟨p, 2, none⟩ a2).setCell ⟨p, 3, none⟩ a3) :=
  ⟨((((Below.refl p W).setCell (p := ⟨p, 0, none⟩) (Nat.le_refl _) a0).setCell (p := ⟨p, 1, none⟩) (Nat.le_refl _) a1).setCell (p := ⟨p, 2, none⟩) (Nat.le_refl _) a2).setCell (p := ⟨p, 3, none⟩) (Nat.le_refl _) a3, fun k _ hne => by
    rw [Below.heap_setCell _ ⟨p, 3, none⟩ _ k hne, Below.heap_setCell _ ⟨p, 2, none⟩ _ k hne, Below.heap_setCell _ ⟨p, 1, none⟩ _ k hne, Below.heap_setCell _ ⟨p, 0, none⟩ _ k hne]⟩
/-- Four numbers of blocks as one value. -/
def wdV (s t r rt : Nat) : Value := .agg #[.pointer (some ⟨s, 0, none⟩), .pointer (some ⟨t, 0, none⟩), .pointer (some ⟨r, 0, none⟩), .pointer (some ⟨rt, 0, none⟩)]

/-- What is there at the start. -/
theorem start10 {W W8 : World} {X s b r t bt rt q n1 n2 n4 : Nat} {D : DataW Value} {kv : Value} (hS : StoB W (fun k => n1 ≤ k ∧ k < n2) s b [] 0 KL8) (hT : TreeB W t bt D []) (hr : W.heap[r]? = some (.cells #[kv, .slice none 0 0, .int .i64 0] 77 (0, 0))) (hk : IsKinds W (fun k => n4 ≤ k ∧ k < r) kv KL8) (hrt : W.heap[rt]? = some (.cells #[.slice none 0 0] 80 (0, 0))) (ho : Only X W W8)
    (e1 : q ≤ X) (e2 : X < n1) (e3 : n1 ≤ n2) (e4 : b = n2) (e5 : s = n2 + 1) (e6 : s < bt) (e7 : t = bt + 1) (e8 : t < n4) (e9 : n4 ≤ r) (e10 : rt = r + 1) : Wd W8 s b r q t bt rt [] 0 (.slice none 0 0) [] := by
  have hz := ho.1.size
  have hlS := hS.lt
  have hlr := (Array.getElem?_eq_some_iff.1 hr).1
  have hlt := (Array.getElem?_eq_some_iff.1 hrt).1
  have hS8 := hS.keep (ho.keepQ (Q := fun k => n1 ≤ k ∧ k < n2) (fun h => by have := h.1; omega)) (ho.2 s hlS.1 (by omega)) (ho.2 b hlS.2 (by omega)) hz
  have hk8 := hk.keep (ho.keepQ (Q := fun k => n4 ≤ k ∧ k < r) (fun h => by have := h.1; omega))
  have hr8 := (ho.2 r hlr (by omega)).trans hr
  have hrt8 := (ho.2 rt hlt (by omega)).trans hrt
  have hT8 : TreeB W8 t bt D [] := hT.only ho (by omega) (by omega)
  have nov : ∀ k, (Value.slice none 0 0).ownBlock ≠ some k := fun k h => by cases h
  refine ⟨⟨GoodO.nil, hS8.imp (fun k _ h => ⟨by omega, by omega, by omega, by omega, by omega, by omega, nov k⟩) (fun h => h.1 rfl) (fun h => h.2.1 rfl), ⟨none, 0, kv, [], hr8, hk8.imp (fun k _ h => ⟨by omega, by omega, by omega, by omega, by omega, by omega, nov k⟩), fun h => h.2.2.1 rfl, trivial, fun j u hj => by simp [flatO] at hj, fun _ => rfl, Nat.le_refl _⟩, by omega, by omega⟩,
    ⟨⟨D, hT8⟩, ⟨hrt8, OwnN.nil _ _⟩, GoodT.empty, by omega, by omega, fun k hk => absurd hk (nov k), by omega, by omega⟩, ⟨by omega, by omega, by omega, by omega, by omega, by omega, by omega, by omega, by omega, nov _, nov _, nov _⟩, (fun o ho => by cases ho), ⟨by omega, by omega, by omega, by omega⟩⟩

set_option maxRecDepth 100000 in
set_option maxHeartbeats 4000000 in
theorem l_begin (w : World) : Calls Tryz.prog 5 #[] w fun e w' => ∃ s b r t bt rt, e = .returned (wdV s t r rt) ∧ Wd w' s b r w.heap.size t bt rt [] 0 (.slice none 0 0) [] ∧ Below w.heap.size w w' := by
  obtain ⟨W0, hW0⟩ : ∃ W0, W0 = w.alloc (.cells #[.pointer none, .pointer none, .pointer none, .pointer none] 33) := ⟨_, rfl⟩
  have HW0 := Lib.hid hW0
  have HBK := Lib.hid (show W0.heap[w.heap.size]? = some (.cells #[.pointer none, .pointer none, .pointer none, .pointer none] 33 (0, 0)) by rw [hW0]; exact World.alloc_heap_new w _)
  have HB0 := Lib.hid (show Below w.heap.size w W0 by rw [hW0]; exact one_new w _)
  have hs0 : w.heap.size < W0.heap.size := by rw [hW0, World.size_alloc]; omega
  clear hW0
  unfold wdV
  go_enter Tryz.func5, Tryz.ntmps5
  go_wp2_with fail
  rw [← HW0.out]
  refine (l_kinds W0).mono ?_
  rintro e w1 ⟨v1, rfl, hk1, hb1⟩
  have HB1 := Lib.hid hb1
  have hz1 := hb1.size
  have HNW := Lib.hid (s_new (Behind W0) v1 KL8 w1 hk1)
  clear hk1 hb1
  go_wp2_with fail
  refine HNW.out.mono ?_
  rintro e w2 ⟨hb2, ⟨_, g, rfl, hs2⟩ | ⟨hno, _⟩⟩
  · have HB2 := Lib.hid (HB1.out.trans (hb2.mono HB1.out.size))
    have hz2 := hb2.size
    have HS2 := Lib.hid hs2
    clear hs2 hb2
    go_wp2_with fail
    refine (o_new2 _ g KL8 w2 HS2.out).mono ?_
    rintro e w3 ⟨rfl, hS3, hb3⟩
    have HS3 := Lib.hid hS3
    have HB3 := Lib.hid (HB2.out.trans (hb3.mono HB2.out.size))
    have hl3 := hS3.lt
    clear hS3 hb3
    go_wp2_with fail
    refine (t_new w3).mono ?_
    rintro e w4 ⟨rfl, hb4, hT4⟩
    have HT4 := Lib.hid hT4
    have HS4 := Lib.hid (HS3.out.below hb4)
    have HB4 := Lib.hid (HB3.out.trans (hb4.mono HB3.out.size))
    have hsz4 := hb4.size
    have ht4 := hT4.2.2.2.2.1
    clear hb4 hT4
    go_wp2_with fail
    refine (l_kinds w4).mono ?_
    rintro e w5 ⟨v5, rfl, hk5, hb5⟩
    have HK5 := Lib.hid hk5
    have HS5 := Lib.hid (HS4.out.below hb5)
    have HT5 := Lib.hid (HT4.out.below hb5)
    have HB5 := Lib.hid (HB4.out.trans (hb5.mono HB4.out.size))
    have hsz5 := hb5.size
    have hw2 := HB2.out.size
    have hw3 := HB3.out.size
    obtain ⟨_, A5, c5, rfl, _, _⟩ := hk5
    clear hb5
    have hblk := fun W (hW : Below w5.heap.size w5 W) => ((hW.block w.heap.size (by have := HB5.out.size; omega)).trans ((HB5.out.block w.heap.size hs0).trans HBK.out))
    have HBL := Lib.hid hblk
    clear hblk
    obtain ⟨W7, hW7⟩ : ∃ W7, W7 = (w5.alloc (.cells #[.slice A5 KL8.length c5, .slice none 0 0, .int .i64 0] 77)).alloc (.cells #[.slice none 0 0] 80) := ⟨_, rfl⟩
    have hb7 : Below w5.heap.size w5 W7 := by rw [hW7]; exact two_new w5 _ _
    have HRT : Hid (W7.heap[w5.heap.size + 1]? = some (.cells #[.slice none 0 0] 80 (0, 0))) := Lib.hid (by rw [hW7]; exact alloc2_new w5 _ _)
    have HRS : Hid (W7.heap[w5.heap.size]? = some (.cells #[.slice A5 KL8.length c5, .slice none 0 0, .int .i64 0] 77 (0, 0))) := Lib.hid (by rw [hW7]; exact ((one_new (w5.alloc (.cells #[.slice A5 KL8.length c5, .slice none 0 0, .int .i64 0] 77)) (.cells #[.slice none 0 0] 80)).block w5.heap.size (by simp)).trans (World.alloc_heap_new w5 _))
    have hrow := HBL.out W7 hb7
    have x0 := cell_of_row W7 w.heap.size 0 _ _ _ hrow
    have x1 := cell_of_row W7 w.heap.size 1 _ _ _ hrow
    have x2 := cell_of_row W7 w.heap.size 2 _ _ _ hrow
    have x3 := cell_of_row W7 w.heap.size 3 _ _ _ hrow
    have y0 := frozen_of_row W7 w.heap.size 0 _ _ hrow
    have y1 := frozen_of_row W7 w.heap.size 1 _ _ hrow
    have y2 := frozen_of_row W7 w.heap.size 2 _ _ hrow
    have y3 := frozen_of_row W7 w.heap.size 3 _ _ hrow
    have HROW := Lib.hid hrow
    have HB7 := Lib.hid hb7
    rw [hW7] at x0 x1 x2 x3 y0 y1 y2 y3
    have HW7 := Lib.hid hW7
    clear hrow hb7 hW7
    go_wp2
    rw [← HW7.out]
    have h4 := four_set HROW.out (.pointer (some ⟨w2.heap.size + 1, 0, none⟩)) (.pointer (some ⟨w3.heap.size + 1, 0, none⟩)) (.pointer (some ⟨w5.heap.size, 0, none⟩)) (.pointer (some ⟨w5.heap.size + 1, 0, none⟩))
    have r0 := cell_of_row _ w.heap.size 0 _ _ _ h4
    have r1 := cell_of_row _ w.heap.size 1 _ _ _ h4
    have r2 := cell_of_row _ w.heap.size 2 _ _ _ h4
    have r3 := cell_of_row _ w.heap.size 3 _ _ _ h4
    refine bodyPost_ret (v := .agg #[.pointer (some ⟨w2.heap.size + 1, 0, none⟩), .pointer (some ⟨w3.heap.size + 1, 0, none⟩), .pointer (some ⟨w5.heap.size, 0, none⟩), .pointer (some ⟨w5.heap.size + 1, 0, none⟩)]) (by simp [results, Tryz.results5, r0, r1, r2, r3, go_sem]) rfl ?_
    have ho := four_only W7 w.heap.size (.pointer (some ⟨w2.heap.size + 1, 0, none⟩)) (.pointer (some ⟨w3.heap.size + 1, 0, none⟩)) (.pointer (some ⟨w5.heap.size, 0, none⟩)) (.pointer (some ⟨w5.heap.size + 1, 0, none⟩))
    have hz7 := HB7.out.size
    have hS7 := HS5.out.below HB7.out
    have hT7 := HT5.out.below HB7.out
    have hK7 := (HK5.out.imp (Q' := fun k => w4.heap.size ≤ k ∧ k < w5.heap.size) (fun k hk h => ⟨h, hk⟩)).below HB7.out
    exact ⟨w2.heap.size + 1, w2.heap.size, w5.heap.size, w3.heap.size + 1, w3.heap.size, w5.heap.size + 1, rfl, start10 (n1 := w1.heap.size) (n2 := w2.heap.size) (n4 := w4.heap.size) hS7 hT7 HRS.out hK7 HRT.out ho (Nat.le_refl _) (by omega) (by omega) rfl rfl (by omega) rfl (by omega) (by omega) rfl, Only.below (HB0.out.trans ((HB5.out.trans (HB7.out.mono HB5.out.size)).mono (Nat.le_of_lt hs0))) ho (Nat.le_refl _)⟩
  · exact absurd KL8_fault hno
end
end Go.Proofs.YtdhpoaecedpbdaaGreat
namespace Go.Proofs.YtdhpoaecedpbdaaGreat
section
open Go.RowKit Go.Maps

/-- The boxes of the receiver and of the object. -/
def Bxs (w W : World) (s t r rt : Nat) (k1 k2 k3 : ByteArray) (vn : Int) (u : Value) : Prop :=
  W.heap[w.heap.size]? = some (.cells #[.pointer (some ⟨s, 0, none⟩), .pointer (some ⟨t, 0, none⟩), .pointer (some ⟨r, 0, none⟩), .pointer (some ⟨rt, 0, none⟩)] 33 (0, 0)) ∧ W.heap[w.heap.size + 1 + 1]? = some (.cells #[.string k1, .string k2, .string k3, .int .i64 vn, u] 25 (0, 0))
theorem four_cells {W : World} {p : Nat} {T : TypeId} {z0 z1 z2 z3 : Value} (h : W.heap[p]? = some (.cells #[z0, z1, z2, z3] T (0, 0))) :
    W.cell? ⟨p, 0, none⟩ = some z0 ∧ W.cell? ⟨p, 1, none⟩ = some z1 ∧ W.cell? ⟨p, 2, none⟩ = some z2 ∧ W.cell? ⟨p, 3, none⟩ = some z3 :=
  ⟨cell_of_row W p 0 _ _ _ h, cell_of_row W p 1 _ _ _ h, cell_of_row W p 2 _ _ _ h, cell_of_row W p 3 _ _ _ h⟩
/-- What comes of an act. -/
def DoPost (w : World) (s b r q t bt rt : Nat) (last : Int) (v : Value) (e : Ending) (w' : World) : Prop := e = .returned (.tuple #[]) ∧ ∃ os' last' v' L', Wd w' s b r q t bt rt os' last' v' L' ∧ last ≤ last' ∧ last' ≤ last + 1 ∧ Below q w w' ∧ KeepQ (Q10 s b r t bt rt v) w w' ∧ (∀ k, k < w.heap.size → Q10 s b r t bt rt v k → Q10 s b r t bt rt v' k)
theorem DoPost.store {w W3 w2 w3 : World} {s b r q t bt rt : Nat} {os os' : List Ob} {last last' : Int} {v : Value} {L : List Tn} (h : Wd w s b r q t bt rt os last v L) (h3 : Below w.heap.size w W3) (hS : StoB w2 (Q10 s b r t bt rt v) s b os' last' KL8) (ho : OnlyS s b W3 w2) (hR : ∃ A c, RefO w3 (Q10 s b r t bt rt v) r A c os' last' KL8) (hr : Only r w2 w3) (hg : GoodO os') (hm : May os') (hl : last ≤ last' ∧ last' ≤ last + 1) : DoPost w s b r q t bt rt last v (.returned (.tuple #[])) w3 := by
  have hB := (h.below h3).bo.both hS ho hR hr hg
  have hO := ((O3.of (s := s) (b := b) (r := r) h3).trans (O3.ofS ho)).trans (O3.ofR hr)
  exact ⟨rfl, os', last', v, L, h.store hB hO hm, hl.1, hl.2, hO.below h.ge.1 h.ge.2.1 h.ge.2.2.1 h.ge.2.2.2, fun k hq hk => hO.2 k hk hq.1 hq.2.1 hq.2.2.1, fun _ _ hq => hq⟩
theorem DoPost.tree {w W3 w2 w3 : World} {s b r q t bt rt : Nat} {os : List Ob} {last : Int} {v : Value} {L L' : List Tn} {D' : DataW Value} (h : Wd w s b r q t bt rt os last v L) (h3 : Below w.heap.size w W3) (ho : Only bt W3 w2) (hT : TreeB w2 t bt D' L') (hR : RChg w2 q rt v L' w3) (hg : GoodT L') : DoPost w s b r q t bt rt last v (.returned (.tuple #[])) w3 := by
  obtain ⟨v', hS', hC', hB'⟩ := h.st.both h3 ho hT hR hg
  refine ⟨rfl, os, last, v', L', h.tree hS' hC' hB'.size, by omega, by omega, hB', fun k hq hk => hC'.1 k hk hq.2.2.2.2.1 hq.2.2.2.2.2.1 hq.2.2.2.2.2.2, fun k hk hq => ⟨hq.1, hq.2.1, hq.2.2.1, hq.2.2.2.1, hq.2.2.2.2.1, hq.2.2.2.2.2.1, fun e => ?_⟩⟩
  rcases hC'.2 with rfl | hn
  · exact hq.2.2.2.2.2.2 e
  · have := hn k e
    omega
theorem lastR_in (last er : Int) : last ≤ lastR last er ∧ lastR last er ≤ last + 1 := by
  unfold lastR
  split <;> omega

set_option maxRecDepth 100000 in
set_option maxHeartbeats 8000000 in
theorem l_do10 (R : Nat → Prop) (s b r q t bt rt : Nat) (os : List Ob) (last xk vn : Int) (v : Value) (L : List Tn) (k1 k2 k3 : ByteArray) (A2 : Option Addr) (cap2 nw : Nat) (row : List V) (w : World) (hW : Wd w s b r q t bt rt os last v L) (hnw : row.length = nw) (hr : IsRow w R (.slice A2 nw cap2) row) (hRs : ¬ R s) (hRb : ¬ R b) (hRr : ¬ R r) (hk : kOk (k1, k2, k3)) (hv1 : -1000000000 ≤ last) (hv2 : last ≤ 1000000000) :
    Calls Tryz.prog 8 #[wdV s t r rt, .agg #[.int .i64 xk, .string k1, .string k2, .string k3, .int .i64 vn, .slice A2 nw cap2]] w (DoPost w s b r q t bt rt last v) := by
  obtain ⟨W3, hW3⟩ : ∃ W3, W3 = ((w.alloc (.cells #[.pointer (some ⟨s, 0, none⟩), .pointer (some ⟨t, 0, none⟩), .pointer (some ⟨r, 0, none⟩), .pointer (some ⟨rt, 0, none⟩)] 33)).alloc (.cells #[.int .i64 xk, .string k1, .string k2, .string k3, .int .i64 vn, .slice A2 nw cap2] 37)).alloc (.cells #[.string k1, .string k2, .string k3, .int .i64 vn, .slice A2 nw cap2] 25) := ⟨_, rfl⟩
  have hb3 : Below w.heap.size w W3 := by rw [hW3]; exact (two_new w _ _).alloc (by simp; omega) _
  have hx0 : Bxs w W3 s t r rt k1 k2 k3 vn (.slice A2 nw cap2) := by
    rw [hW3]
    refine ⟨?_, ?_⟩
    · exact (((one_new (w.alloc (.cells #[.pointer (some ⟨s, 0, none⟩), .pointer (some ⟨t, 0, none⟩), .pointer (some ⟨r, 0, none⟩), .pointer (some ⟨rt, 0, none⟩)] 33)) _).alloc (by simp) _).block w.heap.size (by simp)).trans (World.alloc_heap_new w _)
    · have h := alloc2_new (w.alloc (.cells #[.pointer (some ⟨s, 0, none⟩), .pointer (some ⟨t, 0, none⟩), .pointer (some ⟨r, 0, none⟩), .pointer (some ⟨rt, 0, none⟩)] 33)) (.cells #[.int .i64 xk, .string k1, .string k2, .string k3, .int .i64 vn, .slice A2 nw cap2] 37) (.cells #[.string k1, .string k2, .string k3, .int .i64 vn, .slice A2 nw cap2] 25)
      rw [World.size_alloc] at h
      exact h
  have hz3 : W3.heap.size = w.heap.size + 3 := by rw [hW3]; simp
  obtain ⟨l1, l2, l3, l4, l5, l6, l7⟩ := hW.lts
  have hap := hW.ap
  have hW3' := hW.below hb3
  have HW := Lib.hid hW
  have HB3 := Lib.hid hb3
  have HX0 := Lib.hid hx0
  have HZ3 := Lib.hid hz3
  have HE3 := Lib.hid hW3
  have HK := Lib.hid hk
  have HGO := Lib.hid hW.bo.good
  have HGT := Lib.hid hW3'.st.2.2.1
  have HRW := Lib.hid (show IsRow W3 R (.slice A2 row.length cap2) row by rw [hnw]; exact hr.keep (Below.keepQ hb3 R))
  obtain ⟨⟨D, hT⟩, hR, _, hn1, hn2, hn3, hn4, hn5⟩ := hW3'.st
  have HT := Lib.hid hT
  have HR := Lib.hid hR
  have HBO := Lib.hid hW3'.bo
  have HQ : Hid (∀ k, W3.heap.size ≤ k → Q10 s b r t bt rt v k) := Lib.hid (fun k hk => hW3'.new k hk)
  have hqw := hW.ge.2.2.2
  have hov := hn3 
  have HL7 := Lib.hid l7
  have HNW := Lib.hid hnw
  have HTR : Hid (∀ w2, Only bt W3 w2 → RefB w2 q rt v L ∧ q ≤ w2.heap.size ∧ Bxs w w2 s t r rt k1 k2 k3 vn (.slice A2 nw cap2)) := Lib.hid (fun w2 ho => by
    have hz := ho.1.size
    exact ⟨HR.out.only ho (fun e => hn2 e.symm) (fun e => (hn3 _ e).2 rfl), by omega, (ho.2 _ (by omega) (by omega)).trans HX0.out.1, (ho.2 _ (by omega) (by omega)).trans HX0.out.2⟩)
  have HSR : Hid (∀ w2, OnlyS s b W3 w2 → (∃ A c, RefO w2 (Q10 s b r t bt rt v) r A c os last KL8) ∧ IsRow w2 R (.slice A2 row.length cap2) row ∧ (∀ k, w2.heap.size ≤ k → Q10 s b r t bt rt v k) ∧ Bxs w w2 s t r rt k1 k2 k3 vn (.slice A2 nw cap2)) := Lib.hid (fun w2 ho => by
    have hz := ho.1.size
    obtain ⟨A, c, hRf⟩ := HBO.out.ref
    obtain ⟨m1, m2, m3⟩ := HBO.out.notr
    exact ⟨⟨A, c, hRf.keep (ho.keepQ m1 m2) (ho.2 r (by omega) HBO.out.rs HBO.out.rb)⟩, HRW.out.keep (ho.keepQ hRs hRb), fun k hk => HQ.out k (by omega), (ho.2 _ (by omega) (by omega) (by omega)).trans HX0.out.1, (ho.2 _ (by omega) (by omega) (by omega)).trans HX0.out.2⟩)
  clear hW hW3 hb3 hx0 hz3 hW3' hk hr hT hR hap l7 hn3 hov
  by_cases h0 : xk.tmod 6 = 0
  · have hq0 : (xk.tmod 6 == 0) = true := by simpa using h0
    have HGG := Lib.hid (addTn2_good HGT.out k3 k2)
    have HC1 := Lib.hid (t_add2 t bt D L W3 k3 k2 HT.out HGT.out HK.out.2.2 HK.out.2.1)
    have HC2 := Lib.hid (fun W (h : RefB W q rt v L) (hq : q ≤ W.heap.size) => r_addT q rt v L k3 k2 W h hq HGT.out HK.out.2.2)
    generalize addTn2 L k3 k2 = L' at *
    generalize addRes L k3 k2 (chn L k2) = res at *
    clear h0
    unfold wdV
    go_enter Tryz.func8, Tryz.ntmps8
    go_wp2_with fail
    rw [← HE3.out]
    refine HC1.out.mono ?_
    rintro e w2 ⟨rfl, ho2, D2, hT2⟩
    obtain ⟨hR2, hq2, hx2⟩ := HTR.out w2 ho2
    have HT2 := Lib.hid hT2
    have HO2 := Lib.hid ho2
    have HC3 := Lib.hid (HC2.out w2 hR2 hq2)
    obtain ⟨m0, m1, m2, m3⟩ := four_cells hx2.1
    obtain ⟨n0, n1, n2, n3, n4⟩ := five_cells hx2.2
    clear hT2 ho2 hR2 hx2
    go_wp2_with fail
    refine HC3.out.mono ?_
    rintro e w3 ⟨rfl, hch⟩
    have HCH := Lib.hid hch
    clear hch m0 m1 m2 m3 n0 n1 n2 n3 n4
    go_wp2
    go_end0
    exact DoPost.tree HW.out HB3.out HO2.out HT2.out HCH.out HGG.out
  have hq0 : (xk.tmod 6 == 0) = false := by simpa using h0
  by_cases h1 : xk.tmod 6 = 1
  · have hq1 : (xk.tmod 6 == 1) = true := by simpa using h1
    have HGG := Lib.hid (movTn_good HGT.out k3 k2)
    have HC1 := Lib.hid (t_move t bt D L W3 k3 k2 HT.out HGT.out HK.out.2.2 HK.out.2.1)
    have HC2 := Lib.hid (fun W (h : RefB W q rt v L) (_hq : q ≤ W.heap.size) => r_moveT q rt v L k3 k2 W h HGT.out)
    generalize movTn L k3 k2 = L' at *
    generalize movRes L k3 k2 = res at *
    clear h0 h1
    unfold wdV
    go_enter Tryz.func8, Tryz.ntmps8
    go_wp2_with fail
    rw [← HE3.out]
    refine HC1.out.mono ?_
    rintro e w2 ⟨rfl, ho2, D2, hT2⟩
    obtain ⟨hR2, hq2, hx2⟩ := HTR.out w2 ho2
    have HT2 := Lib.hid hT2
    have HO2 := Lib.hid ho2
    have HC3 := Lib.hid (HC2.out w2 hR2 hq2)
    obtain ⟨m0, m1, m2, m3⟩ := four_cells hx2.1
    obtain ⟨n0, n1, n2, n3, n4⟩ := five_cells hx2.2
    clear hT2 ho2 hR2 hx2
    go_wp2_with fail
    refine HC3.out.mono ?_
    rintro e w3 ⟨rfl, hch⟩
    have HCH := Lib.hid hch
    clear hch m0 m1 m2 m3 n0 n1 n2 n3 n4
    go_wp2
    go_end0
    exact DoPost.tree HW.out HB3.out HO2.out HT2.out HCH.out HGG.out
  have hq1 : (xk.tmod 6 == 1) = false := by simpa using h1
  by_cases h2 : xk.tmod 6 = 2
  · have hq2 : (xk.tmod 6 == 2) = true := by simpa using h2
    have HGG := Lib.hid (drpTn_good HGT.out k3)
    have HC1 := Lib.hid (t_drop t bt D L W3 k3 HT.out HGT.out HK.out.2.2)
    have HC2 := Lib.hid (fun W (h : RefB W q rt v L) (hq : q ≤ W.heap.size) => r_dropT q rt v L k3 W h hq HGT.out)
    generalize drpTn L k3 = L' at *
    generalize drpRes L k3 = res at *
    clear h0 h1 h2
    unfold wdV
    go_enter Tryz.func8, Tryz.ntmps8
    go_wp2_with fail
    rw [← HE3.out]
    refine HC1.out.mono ?_
    rintro e w2 ⟨rfl, ho2, D2, hT2⟩
    obtain ⟨hR2, hq2, hx2⟩ := HTR.out w2 ho2
    have HT2 := Lib.hid hT2
    have HO2 := Lib.hid ho2
    have HC3 := Lib.hid (HC2.out w2 hR2 hq2)
    obtain ⟨m0, m1, m2, m3⟩ := four_cells hx2.1
    obtain ⟨n0, n1, n2, n3, n4⟩ := five_cells hx2.2
    clear hT2 ho2 hR2 hx2
    go_wp2_with fail
    refine HC3.out.mono ?_
    rintro e w3 ⟨rfl, hch⟩
    have HCH := Lib.hid hch
    clear hch m0 m1 m2 m3 n0 n1 n2 n3 n4
    go_wp2
    go_end0
    exact DoPost.tree HW.out HB3.out HO2.out HT2.out HCH.out HGG.out
  have hq2 : (xk.tmod 6 == 2) = false := by simpa using h2
  by_cases h3 : xk.tmod 6 = 3
  · have hq3 : (xk.tmod 6 == 3) = true := by simpa using h3
    have HGG := Lib.hid (insO_good (KL := KL8) HGO.out HK.out row last)
    have HMY := Lib.hid (insO_may HW.out.may (k1, k2, k3) row last)
    have HC1 := Lib.hid (o_insertD (Q10 s b r t bt rt v) R s b os last KL8 ⟨(k1, k2, k3), vn, .slice A2 row.length cap2⟩ row W3 HBO.out.sto HGO.out HQ.out HRW.out hRs HK.out hv1 hv2)
    have HC2 := Lib.hid (fun W hR hQ' hr' => r_insertD (Q10 s b r t bt rt v) R r os last KL8 ⟨(k1, k2, k3), vn, .slice A2 row.length cap2⟩ row W hR HGO.out hQ' hr' hRr hv1 hv2)
    unfold oV at HC1 HC2
    have HLR := Lib.hid (lastR_in last (insR KL8 os (k1, k2, k3) row))
    simp only at HC1 HC2
    generalize insO KL8 os (k1, k2, k3) row last = os' at *
    generalize insR KL8 os (k1, k2, k3) row = er at *
    generalize numR last er = nr at *
    generalize lastR last er = lr at *
    rw [HNW.out] at HC1 HC2 HSR
    clear h0 h1 h2 h3
    unfold wdV
    go_enter Tryz.func8, Tryz.ntmps8
    go_wp2_with fail
    rw [← HE3.out]
    refine HC1.out.mono ?_
    rintro e w2 ⟨rfl, hS2, ho2⟩
    obtain ⟨hR2, hr2, hq2, hx2⟩ := HSR.out w2 ho2
    have HS2 := Lib.hid hS2
    have HO2 := Lib.hid ho2
    have HC3 := Lib.hid (HC2.out w2 hR2 hq2 hr2)
    obtain ⟨m0, m1, m2, m3⟩ := four_cells hx2.1
    obtain ⟨n0, n1, n2, n3, n4⟩ := five_cells hx2.2
    clear hS2 ho2 hR2 hx2 hq2 hr2
    go_wp2_with fail
    refine HC3.out.mono ?_
    rintro e w3 ⟨rfl, hR3, ho3⟩
    have HR3 := Lib.hid hR3
    have HO3 := Lib.hid ho3
    clear hR3 ho3 m0 m1 m2 m3 n0 n1 n2 n3 n4
    go_wp2
    go_end0
    exact DoPost.store HW.out HB3.out HS2.out HO2.out HR3.out HO3.out HGG.out HMY.out HLR.out
  have hq3 : (xk.tmod 6 == 3) = false := by simpa using h3
  by_cases h4 : xk.tmod 6 = 4
  · have hq4 : (xk.tmod 6 == 4) = true := by simpa using h4
    have HGG := Lib.hid (updO_good (KL := KL8) HGO.out HK.out vn row last)
    have HMY := Lib.hid (updO_may HW.out.may (k1, k2, k3) vn row last)
    have HC1 := Lib.hid (o_updateD (Q10 s b r t bt rt v) R s b os last KL8 ⟨(k1, k2, k3), vn, .slice A2 row.length cap2⟩ row W3 HBO.out.sto HGO.out HQ.out HRW.out hRs HK.out hv1 hv2)
    have HC2 := Lib.hid (fun W hR hQ' hr' => r_updateD (Q10 s b r t bt rt v) R r os last KL8 ⟨(k1, k2, k3), vn, .slice A2 row.length cap2⟩ row W hR HGO.out hQ' hr' hRr hv1 hv2)
    unfold oV at HC1 HC2
    have HLR := Lib.hid (lastR_in last (updR KL8 os (k1, k2, k3) vn row))
    simp only at HC1 HC2
    generalize updO KL8 os (k1, k2, k3) vn row last = os' at *
    generalize updR KL8 os (k1, k2, k3) vn row = er at *
    generalize numR last er = nr at *
    generalize lastR last er = lr at *
    rw [HNW.out] at HC1 HC2 HSR
    clear h0 h1 h2 h3 h4
    unfold wdV
    go_enter Tryz.func8, Tryz.ntmps8
    go_wp2_with fail
    rw [← HE3.out]
    refine HC1.out.mono ?_
    rintro e w2 ⟨rfl, hS2, ho2⟩
    obtain ⟨hR2, hr2, hq2, hx2⟩ := HSR.out w2 ho2
    have HS2 := Lib.hid hS2
    have HO2 := Lib.hid ho2
    have HC3 := Lib.hid (HC2.out w2 hR2 hq2 hr2)
    obtain ⟨m0, m1, m2, m3⟩ := four_cells hx2.1
    obtain ⟨n0, n1, n2, n3, n4⟩ := five_cells hx2.2
    clear hS2 ho2 hR2 hx2 hq2 hr2
    go_wp2_with fail
    refine HC3.out.mono ?_
    rintro e w3 ⟨rfl, hR3, ho3⟩
    have HR3 := Lib.hid hR3
    have HO3 := Lib.hid ho3
    clear hR3 ho3 m0 m1 m2 m3 n0 n1 n2 n3 n4
    go_wp2
    go_end0
    exact DoPost.store HW.out HB3.out HS2.out HO2.out HR3.out HO3.out HGG.out HMY.out HLR.out
  have hq4 : (xk.tmod 6 == 4) = false := by simpa using h4
  have HGG := Lib.hid (delO_good (KL := KL8) HGO.out (k1, k2, k3) vn)
  have HMY := Lib.hid (delO_may HW.out.may (k1, k2, k3) vn)
  have HC1 := Lib.hid (o_deleteD (Q10 s b r t bt rt v) s b os last KL8 (k1, k2, k3) vn W3 HBO.out.sto HGO.out HK.out)
  have HC2 := Lib.hid (fun W hR hQ' => r_deleteD (Q10 s b r t bt rt v) r os last KL8 (k1, k2, k3) vn W hR HGO.out hQ')
  simp only at HC1 HC2
  generalize delO KL8 os (k1, k2, k3) vn = os' at *
  generalize delR KL8 os (k1, k2, k3) vn = er at *
  skip
  clear h0 h1 h2 h3 h4
  unfold wdV
  go_enter Tryz.func8, Tryz.ntmps8
  go_wp2_with fail
  rw [← HE3.out]
  refine HC1.out.mono ?_
  rintro e w2 ⟨rfl, hS2, ho2⟩
  obtain ⟨hR2, -, hq2, hx2⟩ := HSR.out w2 ho2
  have HS2 := Lib.hid hS2
  have HO2 := Lib.hid ho2
  have HC3 := Lib.hid (HC2.out w2 hR2 hq2)
  obtain ⟨m0, m1, m2, m3⟩ := four_cells hx2.1
  obtain ⟨n0, n1, n2, n3, n4⟩ := five_cells hx2.2
  clear hS2 ho2 hR2 hx2 hq2
  go_wp2_with fail
  refine HC3.out.mono ?_
  rintro e w3 ⟨rfl, hR3, ho3⟩
  have HR3 := Lib.hid hR3
  have HO3 := Lib.hid ho3
  clear hR3 ho3 m0 m1 m2 m3 n0 n1 n2 n3 n4
  go_wp2
  go_end0
  exact DoPost.store HW.out HB3.out HS2.out HO2.out HR3.out HO3.out HGG.out HMY.out ⟨by omega, by omega⟩
end
end Go.Proofs.YtdhpoaecedpbdaaGreat
