/-
  The program's tree and the document's, side by side: one act is done to both with the same answer, and both have the same tenants behind it.
  Condition: names are no longer than texts can be.
-/
import Derived.Test.YtoeggpoeongnhaaTny
import Derived.Test.YtoeggpoeongnhaaTnr
namespace Go.Proofs.Ytoeggpoeongnhaa
open Go.RowKit Go.Maps

/-- Both trees have the tenants L; none lies in the other's blocks. -/
def StT (w : World) (q t b r : Nat) (v : Value) (L : List Tn) : Prop :=
  (∃ D, TreeB w t b D L) ∧ RefB w q r v L ∧ GoodT L ∧ r ≠ t ∧ r ≠ b ∧ (∀ k, v.ownBlock = some k → k ≠ t ∧ k ≠ b) ∧ q ≤ b ∧ q ≤ r
/-- What may have changed. -/
def ChgT (w : World) (b r : Nat) (v : Value) (w' : World) (v' : Value) : Prop :=
  (∀ k, k < w.heap.size → k ≠ b → k ≠ r → v.ownBlock ≠ some k → w'.heap[k]? = w.heap[k]?) ∧ (v' = v ∨ ∀ k, v'.ownBlock = some k → w.heap.size ≤ k)
theorem TreeB.only {w w' : World} {t b g : Nat} {D : DataW Value} {L : List Tn} (h : TreeB w t b D L) (ho : Only g w w') (h1 : g ≠ t) (h2 : g ≠ b) : TreeB w' t b D L := by
  obtain ⟨a1, a2, a3, a4, a5, a6⟩ := h
  exact ⟨(ho.2 t a5 (fun e => h1 e.symm)).trans a1, ownsMapT_block a2 (ho.2 b a6 (fun e => h2 e.symm)), a3, a4, Nat.lt_of_lt_of_le a5 ho.1.size, Nat.lt_of_lt_of_le a6 ho.1.size⟩
theorem RefB.only {w w' : World} {q r g : Nat} {v : Value} {L : List Tn} (h : RefB w q r v L) (ho : Only g w w') (h1 : g ≠ r) (h2 : v.ownBlock ≠ some g) : RefB w' q r v L :=
  ⟨(ho.2 r h.lt (fun e => h1 e.symm)).trans h.1, OwnN.same h.2 fun k hk => ho.2 k (World.ownsRow.lt h.2 k hk).2 (fun e => h2 (by rw [← e]; exact hk))⟩
theorem StT.below {w w' : World} {q t b r : Nat} {v : Value} {L : List Tn} (h : StT w q t b r v L) (hb : Below w.heap.size w w') : StT w' q t b r v L := by
  obtain ⟨⟨D, h1⟩, h2, h3⟩ := h
  exact ⟨⟨D, h1.below hb⟩, h2.below hb, h3⟩
/-- Behind a call to each. -/
theorem StT.both {w w1 w2 w3 : World} {q t b r : Nat} {v : Value} {L L' : List Tn} {D' : DataW Value} (h : StT w q t b r v L) (h1 : Below w.heap.size w w1) (h2 : Only b w1 w2) (hT : TreeB w2 t b D' L') (h3 : RChg w2 q r v L' w3) (hg : GoodT L') :
    ∃ v', StT w3 q t b r v' L' ∧ ChgT w b r v w3 v' ∧ Below q w w3 := by
  obtain ⟨⟨D, a1⟩, a2, _, a4, a5, a6, a7, a8⟩ := h
  obtain ⟨v', g, b1, b2, b3, b4⟩ := h3
  have hgt : g ≠ t ∧ g ≠ b := by
    rcases b3 with rfl | hv
    · exact ⟨a4, a5⟩
    · exact a6 g hv
  have hqg : q ≤ g := by
    rcases b3 with rfl | hv
    · exact a8
    · exact OwnN.base_le a2.2 g hv
  have hs1 := h1.size
  have hs2 := h2.1.size
  refine ⟨v', ⟨⟨D', hT.only b2 hgt.1 hgt.2⟩, b1, hg, a4, a5, fun k hk => ?_, a7, a8⟩, ⟨fun k hk hkb hkr hkv => ?_, ?_⟩, ((h1.mono ?_).trans (h2.1.mono a7)).trans (b2.1.mono hqg)⟩
  · rcases b4 with rfl | hn
    · exact a6 k hk
    · have := hn k hk
      have t1 := a1.2.2.2.2.1
      have t2 := a1.2.2.2.2.2
      omega
  · have hkg : k ≠ g := by
      rcases b3 with rfl | hv
      · exact hkr
      · intro e
        exact hkv (by rw [e]; exact hv)
    rw [b2.2 k (by omega) hkg, h2.2 k (by omega) hkb, h1.block k hk]
  · rcases b4 with rfl | hn
    · exact .inl rfl
    · exact .inr fun k hk => by have := hn k hk; omega
  · have := a2.lt
    omega

def actL (L : List Tn) (x : Ta) : List Tn := if x.k.tmod 3 = 0 then addTn2 L x.n x.p else if x.k.tmod 3 = 1 then movTn L x.n x.p else drpTn L x.n

set_option maxRecDepth 100000 in
set_option maxHeartbeats 4000000 in
theorem l_do (q t b r : Nat) (v : Value) (L : List Tn) (xk : Int) (xn xp : ByteArray) (w : World) (hS : StT w q t b r v L) (z1 : xn.size ≤ maxLen) (z2 : xp.size ≤ maxLen) :
    Calls Try.prog 32 #[.pointer (some ⟨t, 0, none⟩), .pointer (some ⟨r, 0, none⟩), .agg #[.int .i64 xk, .string xn, .string xp]] w fun e w' => e = .returned (.bool true) ∧ ∃ v', StT w' q t b r v' (actL L ⟨xk, xn, xp⟩) ∧ ChgT w b r v w' v' ∧ Below q w w' := by
  have HS := Lib.hid hS
  obtain ⟨⟨D, hT⟩, hR, hg, n1, n2, n3, n4, n5⟩ := hS
  have HR := Lib.hid hR
  have HG := Lib.hid hg
  have hrl := hR.lt
  have hbl := hT.2.2.2.2.2
  have N3 := Lib.hid n3
  have hown : ∀ k, v.ownBlock = some k → k < w.heap.size := fun k hk => (World.ownsRow.lt hR.2 k hk).2
  have HOW := Lib.hid hown
  have hba := one_new w (.cells #[.int .i64 xk, .string xn, .string xp] 69)
  have HBA := Lib.hid hba
  have HT := Lib.hid (hT.below (hba.drew))
  have hbw : w.heap.size < (w.alloc (.cells #[.int .i64 xk, .string xn, .string xp] 69)).heap.size := by simp
  have c0 : _ = some (Value.int .i64 xk) := new_cellT w #[.int .i64 xk, .string xn, .string xp] 69 0
  have c1 : _ = some (Value.string xn) := new_cellT w #[.int .i64 xk, .string xn, .string xp] 69 1
  have c2 : _ = some (Value.string xp) := new_cellT w #[.int .i64 xk, .string xn, .string xp] 69 2
  have C1 := Lib.hid c1
  have C2 := Lib.hid c2
  clear hT hR hg n3 hown hba
  by_cases h0 : xk.tmod 3 = 0
  · have hq : (xk.tmod 3 == 0) = true := by simpa using h0
    have hA : actL L ⟨xk, xn, xp⟩ = addTn2 L xn xp := by unfold actL; rw [if_pos h0]
    rw [hA]
    have HGG := Lib.hid (addTn2_good HG.out xn xp)
    have HTC := Lib.hid (fun W (h : TreeB W t b D L) => t_add2 t b D L W xn xp h HG.out z1 z2)
    have HRC := Lib.hid (fun W (h : RefB W q r v L) (hq : q ≤ W.heap.size) => r_addT q r v L xn xp W h hq HG.out z1)
    generalize addTn2 L xn xp = L' at *
    generalize addRes L xn xp (chn L xp) = res at *
    clear hA
    go_enter Try.func32, Try.ntmps32
    go_wp2_with fail
    go_region_held3 (fun W : World => W.cell? ⟨w.heap.size, 1, none⟩ = some (.string xn) ∧ W.cell? ⟨w.heap.size, 2, none⟩ = some (.string xp)) (go_keep)
      (first
        | (go_at_call 47; refine (HTC.out _ (by exact HT.out)).mono ?_; rintro e w2 ⟨rfl, ho, D2, hT2⟩; have HT2 := Lib.hid hT2; have HO2 := Lib.hid ho; have HR2 := Lib.hid ((HR.out.below (HBA.out.drew)).only ho (fun e => n2 e.symm) (fun e => (N3.out _ e).2 rfl)); have hs2 := ho.1.size; have hkeep2 := (ho.2 w.heap.size hbw (Nat.ne_of_gt hbl)); have k1 := (World.cell?_of_block (a := ⟨w.heap.size, 1, none⟩) hkeep2).trans C1.out; have k2 := (World.cell?_of_block (a := ⟨w.heap.size, 2, none⟩) hkeep2).trans C2.out; clear ho hT2)
        | (go_at_call 72; refine (HRC.out _ HR2.out (by have := HBA.out.size; simp at hs2; omega)).mono ?_; rintro e w3 ⟨rfl, hch⟩; have HCH := Lib.hid hch; obtain ⟨v', g, _, ho3, hg3, _⟩ := hch; have hgw : w.heap.size ≠ g := (Or.elim hg3 (fun e => by omega) (fun hv => by have := HOW.out _ hv; omega)); have hkeep3 := (ho3.2 w.heap.size (by simp at hs2; omega) hgw).trans hkeep2; have l1 := (World.cell?_of_block (a := ⟨w.heap.size, 1, none⟩) hkeep3).trans C1.out; have l2 := (World.cell?_of_block (a := ⟨w.heap.size, 2, none⟩) hkeep3).trans C2.out; clear ho3 hg3))
    go_wp2
    go_ret
    exact ⟨by simp, HS.out.both (HBA.out.drew) HO2.out HT2.out HCH.out HGG.out⟩
  · have hq0 : (xk.tmod 3 == 0) = false := by simpa using h0
    by_cases h1 : xk.tmod 3 = 1
    · have hq1 : (xk.tmod 3 == 1) = true := by simpa using h1
      have hA : actL L ⟨xk, xn, xp⟩ = movTn L xn xp := by unfold actL; rw [if_neg h0, if_pos h1]
      rw [hA]
      have HGG := Lib.hid (movTn_good HG.out xn xp)
      have HTC := Lib.hid (fun W (h : TreeB W t b D L) => t_move t b D L W xn xp h HG.out z1 z2)
      have HRC := Lib.hid (fun W (h : RefB W q r v L) (_hq : q ≤ W.heap.size) => r_moveT q r v L xn xp W h HG.out)
      generalize movTn L xn xp = L' at *
      generalize movRes L xn xp = res at *
      clear hA
      go_enter Try.func32, Try.ntmps32
      go_wp2_with fail
      go_region_held3 (fun W : World => W.cell? ⟨w.heap.size, 1, none⟩ = some (.string xn) ∧ W.cell? ⟨w.heap.size, 2, none⟩ = some (.string xp)) (go_keep)
        (first
          | (go_at_call 48; refine (HTC.out _ (by exact HT.out)).mono ?_; rintro e w2 ⟨rfl, ho, D2, hT2⟩; have HT2 := Lib.hid hT2; have HO2 := Lib.hid ho; have HR2 := Lib.hid ((HR.out.below (HBA.out.drew)).only ho (fun e => n2 e.symm) (fun e => (N3.out _ e).2 rfl)); have hs2 := ho.1.size; have hkeep2 := (ho.2 w.heap.size hbw (Nat.ne_of_gt hbl)); have k1 := (World.cell?_of_block (a := ⟨w.heap.size, 1, none⟩) hkeep2).trans C1.out; have k2 := (World.cell?_of_block (a := ⟨w.heap.size, 2, none⟩) hkeep2).trans C2.out; clear ho hT2)
          | (go_at_call 73; refine (HRC.out _ HR2.out (by have := HBA.out.size; simp at hs2; omega)).mono ?_; rintro e w3 ⟨rfl, hch⟩; have HCH := Lib.hid hch; obtain ⟨v', g, _, ho3, hg3, _⟩ := hch; have hgw : w.heap.size ≠ g := (Or.elim hg3 (fun e => by omega) (fun hv => by have := HOW.out _ hv; omega)); have hkeep3 := (ho3.2 w.heap.size (by simp at hs2; omega) hgw).trans hkeep2; have l1 := (World.cell?_of_block (a := ⟨w.heap.size, 1, none⟩) hkeep3).trans C1.out; have l2 := (World.cell?_of_block (a := ⟨w.heap.size, 2, none⟩) hkeep3).trans C2.out; clear ho3 hg3))
      go_wp2
      go_ret
      exact ⟨by simp, HS.out.both (HBA.out.drew) HO2.out HT2.out HCH.out HGG.out⟩
    · have hq1 : (xk.tmod 3 == 1) = false := by simpa using h1
      have hA : actL L ⟨xk, xn, xp⟩ = drpTn L xn := by unfold actL; rw [if_neg h0, if_neg h1]
      rw [hA]
      have HGG := Lib.hid (drpTn_good HG.out xn)
      have HTC := Lib.hid (fun W (h : TreeB W t b D L) => t_drop t b D L W xn h HG.out z1)
      have HRC := Lib.hid (fun W (h : RefB W q r v L) (hq : q ≤ W.heap.size) => r_dropT q r v L xn W h hq HG.out)
      generalize drpTn L xn = L' at *
      generalize drpRes L xn = res at *
      clear hA
      go_enter Try.func32, Try.ntmps32
      go_wp2_with fail
      go_region_held3 (fun W : World => W.cell? ⟨w.heap.size, 1, none⟩ = some (.string xn)) (go_keep)
        (first
          | (go_at_call 49; refine (HTC.out _ (by exact HT.out)).mono ?_; rintro e w2 ⟨rfl, ho, D2, hT2⟩; have HT2 := Lib.hid hT2; have HO2 := Lib.hid ho; have HR2 := Lib.hid ((HR.out.below (HBA.out.drew)).only ho (fun e => n2 e.symm) (fun e => (N3.out _ e).2 rfl)); have hs2 := ho.1.size; have hkeep2 := (ho.2 w.heap.size hbw (Nat.ne_of_gt hbl)); have k1 := (World.cell?_of_block (a := ⟨w.heap.size, 1, none⟩) hkeep2).trans C1.out; clear ho hT2)
          | (go_at_call 74; refine (HRC.out _ HR2.out (by have := HBA.out.size; simp at hs2; omega)).mono ?_; rintro e w3 ⟨rfl, hch⟩; have HCH := Lib.hid hch; obtain ⟨v', g, _, ho3, hg3, _⟩ := hch; have hgw : w.heap.size ≠ g := (Or.elim hg3 (fun e => by omega) (fun hv => by have := HOW.out _ hv; omega)); have hkeep3 := (ho3.2 w.heap.size (by simp at hs2; omega) hgw).trans hkeep2; have l1 := (World.cell?_of_block (a := ⟨w.heap.size, 1, none⟩) hkeep3).trans C1.out; clear ho3 hg3))
      go_wp2
      go_ret
      exact ⟨by simp, HS.out.both (HBA.out.drew) HO2.out HT2.out HCH.out HGG.out⟩
end Go.Proofs.Ytoeggpoeongnhaa
