/-
  The program's copy of a tree: another one with the same tenants, in blocks of its own.
  No condition.
  Both copies of a state are a state of their own.
  No condition.
-/
import Derived.Shelf.SlMaps.Clone
import Derived.Test.YtdhpoaecedpbdaaGreatZ33
import Derived.Test.YtdhpoaecedpbdaaGreatZ40
import Derived.Test.YtdhpoaecedpbdaaGreatZ41
namespace Go.Proofs.YtdhpoaecedpbdaaGreat
section
open Go.RowKit Go.Maps Go.Shelf

set_option maxRecDepth 100000 in
set_option maxHeartbeats 1000000 in
theorem t_copy (t b : Nat) (D : DataW Value) (L : List Tn) (w : World) (hT : TreeB w t b D L) :
    Calls Tryz.prog 18 #[.pointer (some ⟨t, 0, none⟩)] w fun e w' => ∃ t2, e = .returned (.pointer (some ⟨t2, 0, none⟩)) ∧ TreeB w' t2 w.heap.size D L ∧ w.heap.size < t2 ∧ Below w.heap.size w w' := by
  obtain ⟨h1, h2, h3, h4, h5, h6⟩ := hT
  have c0 := cell_rowT w t _ _ h1
  have HC := Lib.hid (AnyW.maps_Clone_owns Tryz.clTn 9 RpT b L.length D w h2)
  have HR := Lib.hid h3
  clear h1 h2 h3
  go_enter Tryz.func18, Tryz.ntmps18
  go_wp2_with fail
  refine HC.out.mono ?_
  rintro e w1 ⟨rfl, ho, _, hb1⟩
  have hl := ho.lt
  have HO := Lib.hid ho
  have HB := Lib.hid hb1
  clear ho hb1
  go_wp2
  go_ret
  exact ⟨w1.heap.size, by simp, ⟨World.alloc_heap_new w1 _, ownsMapT_block HO.out ((one_new w1 _).block _ hl), HR.out, by omega, by simp, by simp; omega⟩, hl, HB.out.trans ((one_new w1 _).mono HB.out.size)⟩
/-- Both trees, copied. -/
theorem StT.copied {w w1 w2 : World} {q t b r t2 : Nat} {v v2 : Value} {L : List Tn} {D : DataW Value} (h : StT w q t b r v L) (hT : TreeB w1 t2 w.heap.size D L) (hb1 : Below w.heap.size w w1)
    (hR : RefB w2 w1.heap.size w1.heap.size v2 L) (hb2 : Below w1.heap.size w1 w2) : StT w2 w.heap.size t2 w.heap.size w1.heap.size v2 L := by
  have h1 := hT.2.2.2.2.1
  have h2 := hT.2.2.2.2.2
  refine ⟨⟨D, hT.below hb2⟩, ⟨hR.1, OwnN.lower hR.2 hb1.size⟩, h.2.2.1, by omega, by omega, fun k hk => ?_, Nat.le_refl _, hb1.size⟩
  have := OwnN.base_le hR.2 k hk
  omega
theorem StT.keep {w w' : World} {q t b r H : Nat} {v : Value} {L : List Tn} (h : StT w q t b r v L) (hH : H = w.heap.size) (hb : Below H w w') : StT w' q t b r v L := by
  subst hH
  exact h.below hb
end
end Go.Proofs.YtdhpoaecedpbdaaGreat
namespace Go.Proofs.YtdhpoaecedpbdaaGreat
section
open Go.RowKit Go.Maps

theorem copiedG {W W' w2 w2' w3 w3' w4 w4' w5 w5' w6 : World} {X2 s b r q t bt rt s2 t2 r2 : Nat} {os : List Ob} {last : Int} {v v' : Value} {L : List Tn} {D : DataW Value} (h : Wd W s b r q t bt rt os last v L)
    (hS : StoB w2 (fun k => (Q10 s b r t bt rt v k ∧ k < W.heap.size) ∧ k < W'.heap.size) s2 W'.heap.size os last KL8) (e1 : W'.heap.size < s2) (b1 : Below W'.heap.size W' w2)
    (hT : TreeB w3 t2 w2'.heap.size D L) (e2 : w2'.heap.size < t2) (b2 : Below w2'.heap.size w2' w3)
    (hR : ∃ A c, RefO w4 (fun k => ((Q10 s b r t bt rt v k ∧ k < W.heap.size) ∧ k < w3'.heap.size) ∨ (w3'.heap.size ≤ k ∧ k ≠ r2)) r2 A c os last KL8) (e3 : w3'.heap.size ≤ r2) (b3 : Below w3'.heap.size w3' w4)
    (hU : RefB w5 w4'.heap.size w4'.heap.size v' L) (b4 : Below w4'.heap.size w4' w5) (ho : Only X2 w5' w6)
    (g1 : Below W.heap.size W W') (g2 : Below w2.heap.size w2 w2') (g3 : Below w3.heap.size w3 w3') (g4 : Below w4.heap.size w4 w4') (g5 : Below w5.heap.size w5 w5')
    (x0 : W.heap.size ≤ X2) (x1 : X2 < W'.heap.size ∨ w2.heap.size ≤ X2) (x2 : X2 < w2'.heap.size ∨ w3.heap.size ≤ X2) (x3 : X2 < w3'.heap.size ∨ w4.heap.size ≤ X2) (x4 : X2 < w4'.heap.size ∨ w5.heap.size ≤ X2) : Wd w6 s2 W'.heap.size r2 W.heap.size t2 w2'.heap.size w4'.heap.size os last v' L ∧ Q10 s2 W'.heap.size r2 t2 w2'.heap.size w4'.heap.size v' X2 := by
  have y1 := g1.size
  have y2 := g2.size
  have y3 := g3.size
  have y4 := g4.size
  have y5 := g5.size
  have z1 := b1.size
  have z2 := b2.size
  have z3 := b3.size
  have z4 := b4.size
  have z5 := ho.1.size
  have l1 := hS.lt
  have l2 := hT.2.2.2.2.1
  have l4 := hU.lt
  have l3 : r2 < w4.heap.size := by
    obtain ⟨A, c, hR⟩ := hR
    exact hR.lt
  have lv : ∀ k, v'.ownBlock = some k → w4'.heap.size ≤ k ∧ k < w5.heap.size := fun k hk => World.ownsRow.lt hU.2 k hk
  have b45 : Below w4.heap.size w4 w5' := g4.trans ((b4.trans (g5.mono z4)).mono y4)
  have b35 : Below w3.heap.size w3 w5' := g3.trans ((b3.trans (b45.mono z3)).mono y3)
  have b25 : Below w2.heap.size w2 w5' := g2.trans ((b2.trans (b35.mono z2)).mono y2)
  have hnv : ∀ k, k < w4'.heap.size → v'.ownBlock ≠ some k := fun k hk e => by have := lv k e; omega
  have hxv : v'.ownBlock ≠ some X2 := fun e => by have := lv X2 e; omega
  have hS5 := ((hS.below b25).keep (ho.keepQ (fun hc => by have := hc.1.2; omega)) (ho.2 s2 (by omega) (by omega)) (ho.2 _ (by omega) (by omega)) z5).imp (Q' := Q10 s2 W'.heap.size r2 t2 w2'.heap.size w4'.heap.size v') (fun k _ hk => by have := hk.1.2; exact ⟨by omega, by omega, by omega, by omega, by omega, by omega, hnv k (by omega)⟩) (fun hc => hc.1 rfl) (fun hc => hc.2.1 rfl)
  have hR5 : ∃ A c, RefO w6 (Q10 s2 W'.heap.size r2 t2 w2'.heap.size w4'.heap.size v') r2 A c os last KL8 := by
    obtain ⟨A, c, hR⟩ := hR
    have hR1 := (hR.imp (Q' := fun k => (((Q10 s b r t bt rt v k ∧ k < W.heap.size) ∧ k < w3'.heap.size) ∨ (w3'.heap.size ≤ k ∧ k ≠ r2)) ∧ k < w4.heap.size) (fun k hk hq => ⟨hq, hk⟩) (fun hc => by
      rcases hc.1 with h1 | h1
      · have := h1.2; omega
      · exact h1.2 rfl)).below b45
    refine ⟨A, c, (hR1.keep (ho.keepQ (fun hc => ?_)) (ho.2 r2 (by omega) (by omega))).imp (fun k hk hq => ?_) (fun hc => hc.2.2.1 rfl)⟩
    · obtain ⟨h1 | h1, h2⟩ := hc
      · have := h1.1.2; omega
      · omega
    · obtain ⟨hq, hk4⟩ := hq
      have hlv := hnv k (by omega)
      rcases hq with ⟨⟨_, h1⟩, h2⟩ | ⟨h1, h2⟩
      · exact ⟨by omega, by omega, by omega, by omega, by omega, by omega, hlv⟩
      · exact ⟨by omega, by omega, by omega, by omega, by omega, by omega, hlv⟩
  have hU5 : RefB w6 W.heap.size w4'.heap.size v' L := RefB.only (RefB.below ⟨hU.1, hU.2.lower (by omega)⟩ g5) ho (by omega) hxv
  exact ⟨⟨⟨h.bo.good, hS5, hR5, by omega, by omega⟩, ⟨⟨D, (hT.below b35).only ho (by omega) (by omega)⟩, hU5, h.st.2.2.1, by omega, by omega, fun _ hk => by have := lv _ hk; exact ⟨by omega, by omega⟩, by omega, by omega⟩,
    ⟨by omega, by omega, by omega, by omega, by omega, by omega, by omega, by omega, by omega, hnv _ (by omega), hnv _ (by omega), hnv _ (by omega)⟩, h.may, ⟨by omega, by omega, by omega, by omega⟩⟩,
    ⟨by omega, by omega, by omega, by omega, by omega, by omega, hxv⟩⟩
theorem Wd.stoOld {w : World} {s b r q t bt rt : Nat} {os : List Ob} {last : Int} {v : Value} {L : List Tn} (h : Wd w s b r q t bt rt os last v L) : StoB w (fun k => Q10 s b r t bt rt v k ∧ k < w.heap.size) s b os last KL8 :=
  h.bo.sto.imp (fun _ hk hq => ⟨hq, hk⟩) (fun hc => hc.1.1 rfl) (fun hc => hc.1.2.1 rfl)
theorem Wd.refOld {w : World} {s b r q t bt rt : Nat} {os : List Ob} {last : Int} {v : Value} {L : List Tn} (h : Wd w s b r q t bt rt os last v L) : ∃ A c, RefO w (fun k => Q10 s b r t bt rt v k ∧ k < w.heap.size) r A c os last KL8 := by
  obtain ⟨A, c, hR⟩ := h.bo.ref
  exact ⟨A, c, hR.imp (fun k hk hq => ⟨hq, hk⟩) (fun hc => hc.1.2.2.1 rfl)⟩
end
end Go.Proofs.YtdhpoaecedpbdaaGreat
