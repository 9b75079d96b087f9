/-
  PickPasses of verdererlaw20 answers true at every list of changes, conditions and columns, in every world, and changes nothing that was there.
  No condition but that lists are no longer than they can be, and texts too.
-/
import Derived.Test.YtpliofhphijdkaaPki
namespace Go.Proofs.Ytpliofhphijdkaa
open Go.RowKit

theorem ents_fit {es : List WE} (h : ∀ e ∈ es, Fit e.row) : ∀ e ∈ ents es, Fit e.1 := fun e he => by
  unfold ents at he
  obtain ⟨x, hx, rfl⟩ := List.mem_map.1 he
  exact h x hx

set_option maxRecDepth 100000 in
set_option maxHeartbeats 4000000 in
theorem pickPasses_main (w : World) (A B C : Option Addr) (c d c2 : Nat) (es : List WE) (cs : List Cn) (zs : List Int) (n m p : Nat) (hn : es.length = n) (hm : cs.length = m) (hp : zs.length = p) (hf : fewW20 es = true) (hm50 : m ≤ 50) (hp60 : p ≤ 60) (hW : WeakE w A es) (hfit : ∀ e ∈ es, Fit e.row) (hC : CnsAt w B cs) (hZ : IntsAt w w.heap.size C zs) :
    Calls Try.prog 3 #[.slice A n c, .slice B m d, .slice C p c2] w fun e w' => e = .returned (.bool true) ∧ Below w.heap.size w w' := by
  obtain ⟨hf1, hf2⟩ := (fewW20_iff es).1 hf
  have hn60 : n ≤ 60 := by rw [← hn]; exact hf1
  have HFEW := Lib.hid (l_few20 A es n c w hn (by omega) hW)
  have hE := hW.ents hf2
  have HE := Lib.hid hE
  have HMN := Lib.hid (entsp_many hW)
  have HEL : Hid ((ents es).length = n) := Lib.hid (by rw [ents_len]; exact hn)
  have HFT := Lib.hid (ents_fit hfit)
  have HC := Lib.hid hC
  have HZ := Lib.hid hZ
  have HM := Lib.hid hm
  have HP := Lib.hid hp
  have HF := Lib.hid hf
  clear hf hf1 hf2 hE hW hfit hC hZ hn hm hp
  generalize ents es = ks at *
  go_enter Try.func3, Try.ntmps3
  go_wp2_with fail
  refine HFEW.out.mono ?_
  rintro e w' ⟨rfl, rfl⟩
  rw [HF.out]
  go_wp2_with fail
  refine (p_Take _ A C n c p c2 ks zs w HEL.out (by omega) HE.out HMN.out HP.out.symm (by omega) HZ.out).mono ?_
  rintro e w1 ⟨L1, c1, rfl, _, hE1, hb1⟩
  have HB1 := Lib.hid hb1
  have HE1 := Lib.hid hE1
  clear hb1 hE1
  go_wp2_with fail
  refine (r_Take _ A C n c p c2 ks zs w1 HEL.out (by omega) (HE.out.below HB1.out) HMN.out HP.out.symm (by omega) (ints_later HZ.out HB1.out)).mono ?_
  rintro e w2 ⟨L2, c3, rfl, _, hE2, hb2⟩
  have HB2 := Lib.hid (HB1.out.trans (hb2.mono HB1.out.size))
  have HE12 := Lib.hid (HE1.out.below hb2)
  have HE2 := Lib.hid hE2
  clear hb2 hE2 HE1
  go_wp2_with fail
  refine (p_net _ A n c ks w2 HEL.out (by omega) (HE.out.below HB2.out) HMN.out).mono ?_
  rintro e w3 ⟨L3, c4, rfl, _, hE3, hb3⟩
  have HB3 := Lib.hid (HB2.out.trans (hb3.mono HB2.out.size))
  have HE13 := Lib.hid (HE12.out.below hb3)
  have HE23 := Lib.hid (HE2.out.below hb3)
  have HE3 := Lib.hid hE3
  clear hb3 hE3 HE12 HE2
  go_wp2_with fail
  refine (r_net _ A n c ks w3 HEL.out (by omega) (HE.out.below HB3.out) HMN.out).mono ?_
  rintro e w4 ⟨L4, c5, rfl, _, hE4, hb4⟩
  have HB4 := Lib.hid (HB3.out.trans (hb4.mono HB3.out.size))
  have HE14 := Lib.hid (HE13.out.below hb4)
  have HE24 := Lib.hid (HE23.out.below hb4)
  have HE34 := Lib.hid (HE3.out.below hb4)
  have HE4 := Lib.hid hE4
  clear hb4 hE4 HE13 HE23 HE3
  go_wp2_with fail
  refine (p_Where _ A B n c m d ks cs w4 HEL.out (by omega) (HE.out.below HB4.out) HM.out.symm (by omega) (HC.out.below HB4.out)).mono ?_
  rintro e w5 ⟨L5, c6, rfl, _, hE5, hb5⟩
  have HB5 := Lib.hid (HB4.out.trans (hb5.mono HB4.out.size))
  have HE15 := Lib.hid (HE14.out.below hb5)
  have HE25 := Lib.hid (HE24.out.below hb5)
  have HE35 := Lib.hid (HE34.out.below hb5)
  have HE45 := Lib.hid (HE4.out.below hb5)
  have HE5 := Lib.hid hE5
  clear hb5 hE5 HE14 HE24 HE34 HE4
  go_wp2_with fail
  refine (r_Where _ A B n c m d ks cs w5 HEL.out (by omega) (HE.out.below HB5.out) HFT.out HM.out.symm (by omega) (HC.out.below HB5.out)).mono ?_
  rintro e w6 ⟨L6, c7, rfl, _, hE6, hb6⟩
  have HB6 := Lib.hid (HB5.out.trans (hb6.mono HB5.out.size))
  have hfl : (ks.filter fun e => holdsL e.1 cs).length ≤ n := by rw [← HEL.out]; exact List.length_filter_le _ _
  have HAW := Lib.hid (r_alike _ _ L5 L6 (ks.filter fun e => holdsL e.1 cs) (ks.filter fun e => holdsL e.1 cs) _ _ c6 c7 w6 rfl rfl (by omega) (HE5.out.below hb6) hE6)
  have hE16 := HE15.out.below hb6
  have hE26 := HE25.out.below hb6
  have hE36 := HE35.out.below hb6
  have hE46 := HE45.out.below hb6
  have htl : (takeP ks zs).1.length ≤ n := by rw [← HEL.out]; exact takeP_len ks zs
  have hnl : (netP ks).length ≤ n := by rw [← HEL.out]; exact netP_len ks
  have HAT := Lib.hid (fun (X : World) (h : Below w6.heap.size w6 X) => r_alike _ _ L1 L2 (takeP ks zs).1 (takeP ks zs).1 _ _ c1 c3 X rfl rfl (by omega) (hE16.below h) (hE26.below h))
  have HAN := Lib.hid (fun (X : World) (h : Below w6.heap.size w6 X) => r_alike _ _ L3 L4 (netP ks) (netP ks) _ _ c4 c5 X rfl rfl (by omega) (hE36.below h) (hE46.below h))
  clear hb6 hE6 hE16 hE26 hE36 hE46 htl hnl HE15 HE25 HE35 HE45 HE5 hfl
  generalize (ks.filter fun e => holdsL e.1 cs) = fl at *
  generalize (takeP ks zs) = tk at *
  generalize netP ks = nt at *
  generalize (ofL ks).2 = ne at *
  go_wp2_with fail
  refine HAW.out.mono ?_
  rintro e w7 ⟨rfl, nd, rfl⟩
  rw [alikeL_self]
  have hb7 : Below w6.heap.size w6 (w6.drewN nd) := below_drewN' (Below.refl _ _) nd
  have HB7 := Lib.hid hb7
  generalize w6.drewN nd = w7 at *
  clear hb7
  go_wp2_with fail
  refine (HAT.out _ HB7.out).mono ?_
  rintro e w8 ⟨rfl, nd, rfl⟩
  rw [alikeL_self]
  have HB8 := Lib.hid (below_drewN' HB7.out nd)
  generalize w7.drewN nd = w8 at *
  go_wp2_with fail
  refine (HAN.out _ HB8.out).mono ?_
  rintro e w9 ⟨rfl, nd, rfl⟩
  rw [alikeL_self]
  have HB9 := Lib.hid (below_drewN' HB8.out nd)
  generalize w8.drewN nd = w9 at *
  go_wp2_with fail
  refine (known20 _).mono ?_
  rintro e wa ⟨rfl, hba⟩
  have HBA := Lib.hid ((HB6.out.trans (HB9.out.mono HB6.out.size)).trans (hba.mono (Nat.le_trans HB6.out.size HB9.out.size)))
  clear hba
  go_wp2
  go_ret
  exact ⟨rfl, HBA.out⟩

set_option maxRecDepth 100000 in
set_option maxHeartbeats 1000000 in
theorem pickPasses_not (w : World) (A B C : Option Addr) (c d c2 : Nat) (es : List WE) (n m p : Nat) (hn : es.length = n) (hl : n ≤ 9223372036854775807) (hW : WeakE w A es) (hno : fewW20 es = false ∨ 50 < m ∨ 60 < p) :
    Calls Try.prog 3 #[.slice A n c, .slice B m d, .slice C p c2] w fun e w' => e = .returned (.bool true) ∧ Below w.heap.size w w' := by
  have HFEW := Lib.hid (l_few20 A es n c w hn hl hW)
  clear hW hn
  cases hf : fewW20 es with
  | false =>
    have HF := Lib.hid hf
    clear hf hno
    go_enter Try.func3, Try.ntmps3
    go_wp2_with fail
    refine HFEW.out.mono ?_
    rintro e w' ⟨rfl, rfl⟩
    rw [HF.out]
    go_wp2_with fail
    refine (known20 _).mono ?_
    rintro e w1 ⟨rfl, hb1⟩
    go_wp2
    go_ret
    exact ⟨rfl, hb1⟩
  | true =>
    have HF := Lib.hid hf
    have hor : 50 < m ∨ 60 < p := by
      rcases hno with h | h
      · rw [h] at hf
        cases hf
      · exact h
    clear hf hno
    by_cases h1 : 50 < m
    · have d1 : decide ((50 : Int) < (m : Int)) = true := decide_eq_true (by omega)
      go_enter Try.func3, Try.ntmps3
      go_wp2_with fail
      refine HFEW.out.mono ?_
      rintro e w' ⟨rfl, rfl⟩
      rw [HF.out]
      go_wp2_with fail
      refine (known20 _).mono ?_
      rintro e w1 ⟨rfl, hb1⟩
      go_wp2
      go_ret
      exact ⟨rfl, hb1⟩
    · have d1 : decide ((50 : Int) < (m : Int)) = false := decide_eq_false (by omega)
      have h2 : 60 < p := by omega
      have d2 : decide ((60 : Int) < (p : Int)) = true := decide_eq_true (by omega)
      go_enter Try.func3, Try.ntmps3
      go_wp2_with fail
      refine HFEW.out.mono ?_
      rintro e w' ⟨rfl, rfl⟩
      rw [HF.out]
      go_wp2_with fail
      refine (known20 _).mono ?_
      rintro e w1 ⟨rfl, hb1⟩
      go_wp2
      go_ret
      exact ⟨rfl, hb1⟩

theorem pickPasses_all (w : World) (A B C : Option Addr) (c d c2 : Nat) (es : List WE) (cs : List Cn) (zs : List Int) (hl : es.length ≤ maxLen) (hW : WeakE w A es) (hfit : ∀ e ∈ es, Fit e.row) (hC : CnsAt w B cs) (hZ : IntsAt w w.heap.size C zs) :
    Calls Try.prog 3 #[.slice A es.length c, .slice B cs.length d, .slice C zs.length c2] w fun e w' => e = .returned (.bool true) ∧ Below w.heap.size w w' := by
  unfold maxLen at hl
  by_cases h : fewW20 es = false ∨ 50 < cs.length ∨ 60 < zs.length
  · exact pickPasses_not w A B C c d c2 es _ _ _ rfl (by omega) hW h
  · refine pickPasses_main w A B C c d c2 es cs zs _ _ _ rfl rfl rfl ?_ ?_ ?_ hW hfit hC hZ
    · cases hf : fewW20 es with
      | true => rfl
      | false => exact absurd (Or.inl hf) h
    · exact Nat.le_of_not_lt fun h1 => h (Or.inr (Or.inl h1))
    · exact Nat.le_of_not_lt fun h1 => h (Or.inr (Or.inr h1))
end Go.Proofs.Ytpliofhphijdkaa
