/-
  Insert of package store: one object more, or why not.
  Condition: no more than a thousand objects; versions that fit.
-/
import Derived.Test.YtoeggpoeongnhaaSth
namespace Go.Proofs.Ytoeggpoeongnhaa
open Go.RowKit Go.Maps

/-- Why Insert refuses. -/
def insR (KL : List Sc) (os : List Ob) (k : Ky) (c : List V) : Int := if mayR KL k c ≠ 0 then mayR KL k c else if (findB os k).isSome = true then 4 else if 120 ≤ os.length then 6 else 0
/-- What Insert and Update leave. -/
def PutIs (w : World) (Q : Nat → Prop) (s b : Nat) (os' : List Ob) (last : Int) (KL : List Sc) (err : Int) (r : Ending) (w' : World) : Prop :=
  (err ≠ 0 ∧ r = .returned (.tuple #[.int .i64 0, .int .i64 err]) ∧ Below w.heap.size w w') ∨ (err = 0 ∧ r = .returned (.tuple #[.int .i64 (last + 1), .int .i64 0]) ∧ StoB w' Q s b os' (last + 1) KL ∧ OnlyS s b w w')
theorem PutIs.no {w w' : World} {Q : Nat → Prop} {s b : Nat} {os' : List Ob} {last : Int} {KL : List Sc} {err : Int} (e : Int) (h : err = e) (h0 : e ≠ 0) (hb : Below w.heap.size w w') : PutIs w Q s b os' last KL err (.returned (.tuple #[.int .i64 0, .int .i64 e])) w' :=
  .inl ⟨by rw [h]; exact h0, by rw [h], hb⟩
theorem findB_none {os : List Ob} {k : Ky} (h : findB os k = none) : (findB os k).isSome = false := by rw [h]; rfl

set_option maxRecDepth 100000 in
set_option maxHeartbeats 4000000 in
theorem o_insert (Q R : Nat → Prop) (s b : Nat) (os : List Ob) (last : Int) (KL : List Sc) (e : OE) (c : List V) (p : Nat) (w : World) (hS : StoB w Q s b os last KL) (hQ : ∀ k, w.heap.size ≤ k → Q k) (hr : IsRow w R e.u c) (hRs : ¬ R s) (hk : kOk e.key) (hp : p ≤ os.length) (hl : os.length ≤ 1000) (hv1 : -1000000000 ≤ last) (hv2 : last ≤ 1000000000) :
    Calls Try.prog 24 #[.pointer (some ⟨s, 0, none⟩), oV e] w (PutIs w Q s b (os.take p ++ ⟨e.key, last + 1, c⟩ :: os.drop p) last KL (insR KL os e.key c)) := by
  obtain ⟨⟨k1, k2, k3⟩, v, u⟩ := e
  have HS := Lib.hid hS
  have HRW := Lib.hid hr
  obtain ⟨hcl, A, cu, rfl, hA, hrow⟩ := hr
  have HQ := Lib.hid hQ
  have HK := Lib.hid hk
  have hon := one_new w (.cells #[.string k1, .string k2, .string k3, .int .i64 v, .slice A c.length cu] 30)
  have hxa := World.alloc_heap_new w (.cells #[.string k1, .string k2, .string k3, .int .i64 v, .slice A c.length cu] 30)
  have HFA := Lib.hid (o_fault Q R s b os last KL ⟨(k1, k2, k3), v, .slice A c.length cu⟩ c _ (hS.below hon) (HRW.out.keep (Below.keepQ hon R)))
  have HON := Lib.hid hon
  have HXA := Lib.hid hxa
  obtain ⟨a0, a1, a2, a3, a4⟩ := five_cells hxa
  unfold oV at HFA ⊢
  simp only at HFA ⊢
  clear hS hQ hk hon hxa hrow hA
  by_cases hm : mayR KL (k1, k2, k3) c = 0
  · have HINS := Lib.hid (show insR KL os (k1, k2, k3) c = if (findB os (k1, k2, k3)).isSome = true then 4 else if 120 ≤ os.length then 6 else 0 by unfold insR; rw [if_neg (by rw [hm]; simp)])
    rw [hm] at HFA
    clear hm
    go_enter Try.func24, Try.ntmps24
    go_wp2_with fail
    refine HFA.out.mono ?_
    rintro r w1 ⟨rfl, hb1⟩
    have hb1w := HON.out.trans (hb1.mono (by simp))
    have HB1 := Lib.hid hb1w
    have x1 := (hb1.block w.heap.size (by simp)).trans HXA.out
    have HX1 := Lib.hid x1
    have hl1 := (Array.getElem?_eq_some_iff.1 x1).1
    obtain ⟨kv, D, es, h1, -, h3, h4, h5, -, hbl, -, -⟩ := HS.out.below hb1w
    have HCS := Lib.hid (show w1.cell? ⟨s, 1, none⟩ = some (.map (some b)) from cell_of_row w1 s 1 _ _ _ h1)
    have cs1 := HCS.out
    have hsl : s < w1.heap.size := (Array.getElem?_eq_some_iff.1 h1).1
    have HPC : Hid (∀ W, Below w1.heap.size w1 W → Calls Try.prog 67 #[.agg #[.string k1, .string k2, .string k3, .int .i64 v, .slice A c.length cu]] W fun r w' => r = .returned (.agg #[.string k1, .string k2, .string k3]) ∧ Below w1.heap.size w1 w' ∧ Below W.heap.size W w') := Lib.hid (fun W hW => (o_place ⟨(k1, k2, k3), v, .slice A c.length cu⟩ W).mono fun r w' ⟨g1, g2⟩ => ⟨g1, hW.trans (g2.mono hW.size), g2⟩)
    have HPD : Hid (∀ W, Below w1.heap.size w1 W → W.cell? ⟨w.heap.size, 0, none⟩ = some (.string k1) ∧ W.cell? ⟨w.heap.size, 1, none⟩ = some (.string k2) ∧ W.cell? ⟨w.heap.size, 2, none⟩ = some (.string k3) ∧ W.cell? ⟨w.heap.size, 3, none⟩ = some (.int .i64 v) ∧ W.cell? ⟨w.heap.size, 4, none⟩ = some (.slice A c.length cu) ∧ W.cell? ⟨s, 1, none⟩ = some (.map (some b))) := Lib.hid (fun W hW => by
      obtain ⟨d0, d1, d2, d3, d4⟩ := five_cells ((hW.block w.heap.size hl1).trans HX1.out)
      exact ⟨d0, d1, d2, d3, d4, (hW.cell (p := ⟨s, 1, none⟩) hsl).trans HCS.out⟩)
    have HLK : Hid (∀ W, Below w1.heap.size w1 W → (Instr.lookup 99 (.map (some b)) (.agg #[.string k1, .string k2, .string k3]) true).run Try.prog W = .ok (.tuple #[orO (findO es (k1, k2, k3)), .bool (findO es (k1, k2, k3)).isSome]) W) := Lib.hid (fun W hW => look_O W b D es (k1, k2, k3) (ownsMapO_block h3 (hW.block b hbl)) h4 HK.out)
    have HLE : Hid (∀ W, Below w1.heap.size w1 W → ∀ ty, (Builtin.len_ #[99] ty #[.map (some b)]).run Try.prog W = .ok (.int .i64 (os.length : Int)) W) := Lib.hid (fun W hW ty => by
      have h := (ownsMapO_block (w' := W) h3 (hW.block b hbl)).len Try.underlying99 ty
      rw [h4.2.2.1, h5.len] at h
      exact h)
    obtain ⟨d0, d1, d2, d3, d4⟩ := five_cells x1
    clear hb1 hb1w x1 h1 h3 h4 HFA a0 a1 a2 a3 a4 HON
    rcases h5.find (k1, k2, k3) with ⟨f1, f2⟩ | ⟨e, o, f1, f2, f3, f4, f5, f6⟩
    · rw [f1] at HLK
      unfold orO noO at HLK
      have HF := Lib.hid (findB_none f2)
      have HF2 := Lib.hid f2
      clear f1 f2 h5
      go_wp2_with fail
      go_region_law (first
        | (go_simp; go_at_call 67; refine (HPC.out _ (Below.drew (Below.refl _ _))).mono ?_; rintro r w6 ⟨rfl, hb6, -⟩; have HB6 := Lib.hid hb6; have q1 := HLK.out w6 HB6.out; have q2 := HLK.out (w6.alloc (.cells #[.string ⟨#[]⟩, .string ⟨#[]⟩, .string ⟨#[]⟩, .int .i64 0, .slice none 0 0] 30)) (HB6.out.trans ((one_new _ _).mono HB6.out.size)); obtain ⟨e0, e1, e2, e3, e4, e5⟩ := HPD.out w6 HB6.out; obtain ⟨f0, f1, f2, f3, f4, f5⟩ := HPD.out (w6.alloc (.cells #[.string ⟨#[]⟩, .string ⟨#[]⟩, .string ⟨#[]⟩, .int .i64 0, .slice none 0 0] 30)) (HB6.out.trans ((one_new _ _).mono HB6.out.size)); have HBZ := Lib.hid (HB6.out.trans ((one_new w6 (.cells #[.string ⟨#[]⟩, .string ⟨#[]⟩, .string ⟨#[]⟩, .int .i64 0, .slice none 0 0] 30)).mono HB6.out.size)); have HZ : Hid True := Lib.hid trivial; clear hb6)
        | (go_simp; go_at_call 67; refine (HPC.out _ ((one_new _ _).drew)).mono ?_; rintro r w6 ⟨rfl, hb6', hb6⟩; have HB6 := Lib.hid hb6'; have q1 := HLK.out w6 HB6.out; obtain ⟨e0, e1, e2, e3, e4, e5⟩ := HPD.out w6 HB6.out; have x7 := (hb6.block w1.heap.size (by simp)).trans (World.alloc_heap_new w1 (.cells #[.string ⟨#[]⟩, .string ⟨#[]⟩, .string ⟨#[]⟩, .int .i64 0, .slice none 0 0] 30)); obtain ⟨y0, y1, y2, y3, y4⟩ := five_cells x7; obtain ⟨z0, z1, z2, z3, z4⟩ := five_thaw x7; have HBZ := Lib.hid (set5_below (w := w1) HB6.out (Nat.le_refl _) (.string ⟨#[]⟩) (.string ⟨#[]⟩) (.string ⟨#[]⟩) (.int .i64 0) (.slice none 0 0)); clear hb6 hb6' x7))
      all_goals
        first
          | (clear HZ
             generalize (w6.alloc (.cells #[.string ⟨#[]⟩, .string ⟨#[]⟩, .string ⟨#[]⟩, .int .i64 0, .slice none 0 0] 30)) = wz at *)
          | (unfold set5 at HBZ
             generalize (((((w6.setCell ⟨w1.heap.size, 0, none⟩ (.string ⟨#[]⟩)).setCell ⟨w1.heap.size, 1, none⟩ (.string ⟨#[]⟩)).setCell ⟨w1.heap.size, 2, none⟩ (.string ⟨#[]⟩)).setCell ⟨w1.heap.size, 3, none⟩ (.int .i64 0)).setCell ⟨w1.heap.size, 4, none⟩ (.slice none 0 0)) = wz at *)
      all_goals
        clear q1 e0 e1 e2 e3 e4 e5
        try clear q2 f0 f1 f2 f3 f4 f5
        try clear y0 y1 y2 y3 y4 z0 z1 z2 z3 z4
        clear d0 d1 d2 d3 d4 cs1
        obtain ⟨d0, d1, d2, d3, d4, d5⟩ := HPD.out wz HBZ.out
        have hle := HLE.out wz HBZ.out
        have HBW := Lib.hid (HB1.out.trans (HBZ.out.mono HB1.out.size))
        by_cases h120 : 120 ≤ os.length
        · have hg1 : decide ((120 : Int) ≤ (os.length : Int)) = true := by simp; omega
          have HI := Lib.hid (show insR KL os (k1, k2, k3) c = 6 by rw [HINS.out, if_neg (by rw [HF.out]; simp), if_pos h120])
          go_wp2
          go_ret2
          exact PutIs.no 6 HI.out (by decide) HBW.out
        · have hg1 : decide ((120 : Int) ≤ (os.length : Int)) = false := by simp; omega
          have HI := Lib.hid (show insR KL os (k1, k2, k3) c = 0 by rw [HINS.out, if_neg (by rw [HF.out]; simp), if_neg h120])
          have HPT := Lib.hid (o_put Q R s b os last KL ⟨(k1, k2, k3), v, .slice A c.length cu⟩ c p p wz (HS.out.below HBW.out) (fun k hk => HQ.out k (Nat.le_trans HBW.out.size hk)) (HRW.out.keep (Below.keepQ HBW.out R)) hRs HK.out ⟨hp, .inl ⟨rfl, HF2.out⟩⟩ hl hv1 hv2)
          unfold oV at HPT
          simp only at HPT
          go_wp2_with fail
          refine HPT.out.mono ?_
          rintro r w9 ⟨rfl, hS9, ho9⟩
          have HS9 := Lib.hid hS9
          have HO9 := Lib.hid ((OnlyS.of (s := s) (b := b) HBW.out).trans ho9)
          clear hS9 ho9
          go_wp2
          go_ret2
          exact .inr ⟨HI.out, rfl, HS9.out, HO9.out⟩
    · obtain ⟨⟨n1, n2, n3⟩, ev, eu⟩ := e
      obtain ⟨_, A6, c6, hu6, _, _⟩ := f6
      simp only at hu6
      subst hu6
      rw [f1] at HLK
      unfold orO oV at HLK
      simp only at HLK
      have HF := Lib.hid (show (findB os (k1, k2, k3)).isSome = true by rw [f2]; rfl)
      clear f1 f2 f3 f4 f5 h5
      generalize o.c.length = n6 at *
      go_wp2_with fail
      go_region_law (first
        | (go_simp; go_at_call 67; refine (HPC.out _ (Below.drew (Below.refl _ _))).mono ?_; rintro r w6 ⟨rfl, hb6, -⟩; have HB6 := Lib.hid hb6; have q1 := HLK.out w6 HB6.out; have q2 := HLK.out (w6.alloc (.cells #[.string ⟨#[]⟩, .string ⟨#[]⟩, .string ⟨#[]⟩, .int .i64 0, .slice none 0 0] 30)) (HB6.out.trans ((one_new _ _).mono HB6.out.size)); obtain ⟨e0, e1, e2, e3, e4, e5⟩ := HPD.out w6 HB6.out; obtain ⟨f0, f1, f2, f3, f4, f5⟩ := HPD.out (w6.alloc (.cells #[.string ⟨#[]⟩, .string ⟨#[]⟩, .string ⟨#[]⟩, .int .i64 0, .slice none 0 0] 30)) (HB6.out.trans ((one_new _ _).mono HB6.out.size)); have HBZ := Lib.hid (HB6.out.trans ((one_new w6 (.cells #[.string n1, .string n2, .string n3, .int .i64 ev, .slice A6 n6 c6] 30)).mono HB6.out.size)); have HZ : Hid True := Lib.hid trivial; clear hb6)
        | (go_simp; go_at_call 67; refine (HPC.out _ ((one_new _ _).drew)).mono ?_; rintro r w6 ⟨rfl, hb6', hb6⟩; have HB6 := Lib.hid hb6'; have q1 := HLK.out w6 HB6.out; obtain ⟨e0, e1, e2, e3, e4, e5⟩ := HPD.out w6 HB6.out; have x7 := (hb6.block w1.heap.size (by simp)).trans (World.alloc_heap_new w1 (.cells #[.string ⟨#[]⟩, .string ⟨#[]⟩, .string ⟨#[]⟩, .int .i64 0, .slice none 0 0] 30)); obtain ⟨y0, y1, y2, y3, y4⟩ := five_cells x7; obtain ⟨z0, z1, z2, z3, z4⟩ := five_thaw x7; have HBZ := Lib.hid (set5_below (w := w1) HB6.out (Nat.le_refl _) (.string n1) (.string n2) (.string n3) (.int .i64 ev) (.slice A6 n6 c6)); clear hb6 hb6' x7))
      all_goals
        first
          | (clear HZ
             generalize (w6.alloc (.cells #[.string n1, .string n2, .string n3, .int .i64 ev, .slice A6 n6 c6] 30)) = wz at *)
          | (unfold set5 at HBZ
             generalize (((((w6.setCell ⟨w1.heap.size, 0, none⟩ (.string n1)).setCell ⟨w1.heap.size, 1, none⟩ (.string n2)).setCell ⟨w1.heap.size, 2, none⟩ (.string n3)).setCell ⟨w1.heap.size, 3, none⟩ (.int .i64 ev)).setCell ⟨w1.heap.size, 4, none⟩ (.slice A6 n6 c6)) = wz at *)
      all_goals
        clear q1 e0 e1 e2 e3 e4 e5
        try clear q2 f0 f1 f2 f3 f4 f5
        try clear y0 y1 y2 y3 y4 z0 z1 z2 z3 z4
        clear d0 d1 d2 d3 d4 cs1
        obtain ⟨d0, d1, d2, d3, d4, d5⟩ := HPD.out wz HBZ.out
        have HBW := Lib.hid (HB1.out.trans (HBZ.out.mono HB1.out.size))
        have HI := Lib.hid (show insR KL os (k1, k2, k3) c = 4 by rw [HINS.out, if_pos HF.out])
        go_wp2
        go_ret2
        exact PutIs.no 4 HI.out (by decide) HBW.out
  · have HINS := Lib.hid (show insR KL os (k1, k2, k3) c = mayR KL (k1, k2, k3) c by unfold insR; rw [if_pos hm])
    have hmb : (mayR KL (k1, k2, k3) c != 0) = true := by simpa using hm
    have HM := Lib.hid hm
    generalize mayR KL (k1, k2, k3) c = m at *
    clear hm
    go_enter Try.func24, Try.ntmps24
    go_wp2_with fail
    refine HFA.out.mono ?_
    rintro r w1 ⟨rfl, hb1⟩
    have HB1 := Lib.hid (HON.out.trans (hb1.mono (by simp)))
    clear hb1
    go_wp2
    go_ret2
    exact PutIs.no m HINS.out HM.out HB1.out
end Go.Proofs.Ytoeggpoeongnhaa
