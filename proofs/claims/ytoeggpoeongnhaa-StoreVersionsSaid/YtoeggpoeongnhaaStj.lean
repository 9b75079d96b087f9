/-
  Update of package store: other cells in the place of some, or why not. New, Len, Last.
  Condition: no more than a thousand objects; versions that fit.
-/
import Derived.Test.YtoeggpoeongnhaaSti
namespace Go.Proofs.Ytoeggpoeongnhaa
open Go.RowKit Go.Maps

/-- Why Update refuses. -/
def updR (KL : List Sc) (os : List Ob) (k : Ky) (v : Int) (c : List V) : Int := if mayR KL k c ≠ 0 then mayR KL k c else match findB os k with
  | none => 5
  | some x => if v = x.v then 0 else 15
theorem mayR_kind {KL : List Sc} {k : Ky} {c : List V} (h : mayR KL k c = 0) : (findS KL k.1).isSome = true := by
  cases hf : findS KL k.1 with
  | some x => rfl
  | none =>
    unfold mayR at h
    rw [hf] at h
    simp [fitsR] at h

set_option maxRecDepth 100000 in
set_option maxHeartbeats 4000000 in
theorem o_update (Q R : Nat → Prop) (s b : Nat) (os : List Ob) (last : Int) (KL : List Sc) (e : OE) (c : List V) (p : Nat) (w : World) (hS : StoB w Q s b os last KL) (hQ : ∀ k, w.heap.size ≤ k → Q k) (hr : IsRow w R e.u c) (hRs : ¬ R s) (hk : kOk e.key) (hp : ∀ x, findB os e.key = some x → p ≤ os.length ∧ ∃ y, os[p]? = some y ∧ y.key = e.key) (hl : os.length ≤ 1000) (hv1 : -1000000000 ≤ last) (hv2 : last ≤ 1000000000) :
    Calls Try.prog 25 #[.pointer (some ⟨s, 0, none⟩), oV e] w (PutIs w Q s b (os.take p ++ ⟨e.key, last + 1, c⟩ :: os.drop (p + 1)) last KL (updR KL os e.key e.v c)) := by
  obtain ⟨⟨k1, k2, k3⟩, v, u⟩ := e
  have HS := Lib.hid hS
  have HRW := Lib.hid hr
  obtain ⟨hcl, A, cu, rfl, hA, hrow⟩ := hr
  have HQ := Lib.hid hQ
  have HK := Lib.hid hk
  have HP := Lib.hid hp
  have hon := one_new w (.cells #[.string k1, .string k2, .string k3, .int .i64 v, .slice A c.length cu] 30)
  have hxa := World.alloc_heap_new w (.cells #[.string k1, .string k2, .string k3, .int .i64 v, .slice A c.length cu] 30)
  have HFA := Lib.hid (o_fault Q R s b os last KL ⟨(k1, k2, k3), v, .slice A c.length cu⟩ c _ (hS.below hon) (HRW.out.keep (Below.keepQ hon R)))
  have HON := Lib.hid hon
  have HXA := Lib.hid hxa
  obtain ⟨a0, a1, a2, a3, a4⟩ := five_cells hxa
  unfold oV at HFA ⊢
  simp only at HFA ⊢
  clear hS hQ hk hon hxa hrow hA hp
  by_cases hm : mayR KL (k1, k2, k3) c = 0
  · have HKI := Lib.hid (mayR_kind hm)
    have HUPD := Lib.hid (show updR KL os (k1, k2, k3) v c = match findB os (k1, k2, k3) with | none => 5 | some x => if v = x.v then 0 else 15 by unfold updR; rw [if_neg (by rw [hm]; simp)])
    rw [hm] at HFA
    clear hm
    go_enter Try.func25, Try.ntmps25
    go_wp2_with fail
    refine HFA.out.mono ?_
    rintro r w1 ⟨rfl, hb1⟩
    have HB1 := Lib.hid (HON.out.trans (hb1.mono (by simp)))
    have x1 := (hb1.block w.heap.size (by simp)).trans HXA.out
    have HX1 := Lib.hid x1
    have HPC := Lib.hid (o_place ⟨(k1, k2, k3), v, .slice A c.length cu⟩ w1)
    unfold oV kV at HPC
    simp only at HPC
    obtain ⟨d0, d1, d2, d3, d4⟩ := five_cells x1
    clear hb1 x1 a0 a1 a2 a3 a4 HON HXA HFA
    go_wp2_with fail
    refine HPC.out.mono ?_
    rintro r w2 ⟨rfl, hb2⟩
    have HB2 := Lib.hid (HB1.out.trans (hb2.mono HB1.out.size))
    have HX2 := Lib.hid ((hb2.block w.heap.size (Array.getElem?_eq_some_iff.1 HX1.out).1).trans HX1.out)
    have HFD := Lib.hid (o_find Q s b os last KL (k1, k2, k3) w2 (HS.out.below HB2.out) HK.out)
    have HKI2 : Hid ((findS KL ((k1, k2, k3) : Ky).1).isSome = true) := HKI
    unfold kV fndR at HFD
    rw [HKI2.out] at HFD
    simp only [if_true] at HFD
    clear hb2 d0 d1 d2 d3 d4 HX1 HPC
    cases hf : findB os (k1, k2, k3) with
    | none =>
      rw [hf] at HFD HUPD
      simp only [Option.isSome_none, Bool.false_eq_true, if_false] at HFD
      clear hf
      go_wp2_with fail
      refine HFD.out.mono ?_
      rintro r w3 ⟨e, rfl, hfe, hb3⟩
      have he : e = ⟨(⟨#[]⟩, ⟨#[]⟩, ⟨#[]⟩), 0, .slice none 0 0⟩ := hfe
      subst he
      have HB3 := Lib.hid (HB2.out.trans (hb3.mono HB2.out.size))
      have HBW := Lib.hid (HB3.out.trans ((one_new w3 (.cells #[.string ⟨#[]⟩, .string ⟨#[]⟩, .string ⟨#[]⟩, .int .i64 0, .slice none 0 0] 30)).mono HB3.out.size))
      clear hb3 hfe
      unfold oV
      simp only
      go_wp2
      go_ret2
      exact PutIs.no 5 HUPD.out (by decide) HBW.out
    | some x =>
      obtain ⟨hpl, y, hy, hyk⟩ := HP.out x hf
      have HGA : Hid (GoesAt os (k1, k2, k3) p (p + 1)) := Lib.hid ⟨hpl, .inr ⟨rfl, y, hy, hyk⟩⟩
      rw [hf] at HFD HUPD
      simp only [Option.isSome_some, if_true] at HFD
      clear hf hpl hy hyk
      go_wp2_with fail
      refine HFD.out.mono ?_
      rintro r w3 ⟨e, rfl, hfe, hb3⟩
      obtain ⟨⟨n1, n2, n3⟩, ev, eu⟩ := e
      obtain ⟨_, hev, _, A6, c6, hu6, _, _⟩ := hfe
      simp only at hev hu6
      subst hu6
      subst hev
      generalize x.c.length = n6 at *
      have HB3 := Lib.hid (HB2.out.trans (hb3.mono HB2.out.size))
      have HX3 := Lib.hid ((hb3.block w.heap.size (Array.getElem?_eq_some_iff.1 HX2.out).1).trans HX2.out)
      have hon3 := one_new w3 (.cells #[.string n1, .string n2, .string n3, .int .i64 x.v, .slice A6 n6 c6] 30)
      have HBW := Lib.hid (HB3.out.trans (hon3.mono HB3.out.size))
      obtain ⟨d0, d1, d2, d3, d4⟩ := five_cells ((hon3.block w.heap.size (Array.getElem?_eq_some_iff.1 HX3.out).1).trans HX3.out)
      obtain ⟨y0, y1, y2, y3, y4⟩ := five_cells (World.alloc_heap_new w3 (.cells #[.string n1, .string n2, .string n3, .int .i64 x.v, .slice A6 n6 c6] 30))
      clear hb3 hon3 HX2 HX3
      unfold oV
      simp only at HUPD ⊢
      by_cases hv : v = x.v
      · have hvb : (v != x.v) = false := by rw [hv]; simp
        have HI := Lib.hid (show updR KL os (k1, k2, k3) v c = 0 by rw [HUPD.out, if_pos hv])
        have HPT := Lib.hid (o_put Q R s b os last KL ⟨(k1, k2, k3), v, .slice A c.length cu⟩ c p (p + 1) _ (HS.out.below HBW.out) (fun k hk => HQ.out k (Nat.le_trans HBW.out.size hk)) (HRW.out.keep (Below.keepQ HBW.out R)) hRs HK.out HGA.out hl hv1 hv2)
        unfold oV at HPT
        simp only at HPT
        clear hv
        go_wp2_with fail
        refine HPT.out.mono ?_
        rintro r w9 ⟨rfl, hS9, ho9⟩
        have HS9 := Lib.hid hS9
        have HO9 := Lib.hid ((OnlyS.of (s := s) (b := b) HBW.out).trans ho9)
        clear hS9 ho9
        go_wp2
        go_ret2
        exact .inr ⟨HI.out, rfl, HS9.out, HO9.out⟩
      · have hvb : (v != x.v) = true := by simpa using hv
        have HI := Lib.hid (show updR KL os (k1, k2, k3) v c = 15 by rw [HUPD.out, if_neg hv])
        clear hv
        go_wp2
        go_ret2
        exact PutIs.no 15 HI.out (by decide) HBW.out
  · have HINS := Lib.hid (show updR KL os (k1, k2, k3) v c = mayR KL (k1, k2, k3) c by unfold updR; rw [if_pos hm])
    have hmb : (mayR KL (k1, k2, k3) c != 0) = true := by simpa using hm
    have HM := Lib.hid hm
    generalize mayR KL (k1, k2, k3) c = m at *
    clear hm
    go_enter Try.func25, Try.ntmps25
    go_wp2_with fail
    refine HFA.out.mono ?_
    rintro r w1 ⟨rfl, hb1⟩
    have HB1 := Lib.hid (HON.out.trans (hb1.mono (by simp)))
    clear hb1
    go_wp2
    go_ret2
    exact PutIs.no m HINS.out HM.out HB1.out

set_option maxHeartbeats 1000000 in
theorem o_len (Q : Nat → Prop) (s b : Nat) (os : List Ob) (last : Int) (KL : List Sc) (w : World) (hS : StoB w Q s b os last KL) :
    Calls Try.prog 30 #[.pointer (some ⟨s, 0, none⟩)] w fun r w' => r = .returned (.int .i64 (os.length : Int)) ∧ Below w.heap.size w w' := by
  obtain ⟨kv, D, es, h1, -, h3, h4, h5, -, -, -, -⟩ := hS
  have cs1 : _ = some (Value.map (some b)) := cell_of_row w s 1 _ _ _ h1
  have hle := fun ty => h3.len Try.underlying99 ty
  rw [h4.2.2.1, h5.len] at hle
  clear h1 h3 h4 h5
  go_enter Try.func30, Try.ntmps30
  go_wp2
  go_ret
  exact ⟨rfl, Below.refl _ _⟩
set_option maxHeartbeats 1000000 in
theorem o_last (Q : Nat → Prop) (s b : Nat) (os : List Ob) (last : Int) (KL : List Sc) (w : World) (hS : StoB w Q s b os last KL) :
    Calls Try.prog 23 #[.pointer (some ⟨s, 0, none⟩)] w fun r w' => r = .returned (.int .i64 last) ∧ Below w.heap.size w w' := by
  obtain ⟨kv, D, es, h1, -, h3, h4, h5, -, -, -, -⟩ := hS
  have cs2 : _ = some (Value.int .i64 last) := cell_of_row w s 2 _ _ _ h1
  clear h1 h3 h4 h5
  go_enter Try.func23, Try.ntmps23
  go_wp2
  go_ret
  exact ⟨rfl, Below.refl _ _⟩
set_option maxHeartbeats 1000000 in
theorem o_new_nil (w : World) : Calls Try.prog 54 #[.pointer none] w fun r w' => r = .returned (.tuple #[.pointer none, .int .i64 1]) ∧ Below w.heap.size w w' := by
  go_enter Try.func54, Try.ntmps54
  go_wp2
  go_ret2
  exact ⟨rfl, Below.refl _ _⟩
set_option maxRecDepth 100000 in
set_option maxHeartbeats 1000000 in
theorem o_new (R : Nat → Prop) (g : Nat) (KL : List Sc) (w : World) (hs : SetIs w R g KL) :
    Calls Try.prog 54 #[.pointer (some ⟨g, 0, none⟩)] w fun r w' => r = .returned (.tuple #[.pointer (some ⟨w.heap.size + 1, 0, none⟩), .int .i64 0]) ∧ StoB w' (fun k => k ≠ w.heap.size ∧ k ≠ w.heap.size + 1) (w.heap.size + 1) w.heap.size [] 0 KL ∧ Below w.heap.size w w' := by
  obtain ⟨v, hc, _, hk⟩ := hs
  have HK := Lib.hid hk
  obtain ⟨_, A, c, rfl, _, _⟩ := hk
  have hmm := @run_makeMap Try.prog
  go_enter Try.func54, Try.ntmps54
  go_wp2
  go_ret2
  refine ⟨by simp, ⟨_, .map [], [], alloc2_new w _ _, (HK.out.imp (Q' := fun k => k ≠ w.heap.size ∧ k ≠ w.heap.size + 1) (fun k hk _ => ⟨by omega, by omega⟩)).below (two_new w _ _), (World.ownsMap_made w Try.prog 103 RpO).alloc _, RelO.empty, trivial, by omega, by simp; omega, by simp, by simp⟩, two_new w _ _⟩
end Go.Proofs.Ytoeggpoeongnhaa
