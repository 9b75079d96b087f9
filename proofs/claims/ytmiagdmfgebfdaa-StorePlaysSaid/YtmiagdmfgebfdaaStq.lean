/-
  Delete of package store: one object less, or why not.
  No condition but that texts are no longer than texts can be.
  Get of package store: a copy of the object that is there, or why there is none.
  No condition but that texts are no longer than texts can be.
-/
import Derived.Test.YtmiagdmfgebfdaaStj
namespace Go.Proofs.Ytmiagdmfgebfdaa
section
open Go.RowKit Go.Maps

theorem find_del {α : Type} {key : α → Ky} (L : List α) (p : Nat) (k : Ky) (hn : L.Pairwise fun a b => key a ≠ key b) {y : α} (hy : L[p]? = some y) (hyk : key y = k) (b : Ky) :
    (L.take p ++ L.drop (p + 1)).find? (fun y => decide (key y = b)) = if b = k then none else L.find? (fun y => decide (key y = b)) := by
  have hlt := (List.getElem?_eq_some_iff.1 hy).1
  have hye := (List.getElem?_eq_some_iff.1 hy).2
  have hd : L.drop p = y :: L.drop (p + 1) := by rw [List.drop_eq_getElem_cons hlt, hye]
  have hsplit : L.find? (fun y => decide (key y = b)) = (L.take p ++ L.drop p).find? (fun y => decide (key y = b)) := by rw [List.take_append_drop]
  by_cases hb : b = k
  · subst hb
    rw [if_pos rfl, List.find?_eq_none]
    intro z hz
    have hzk : key z ≠ b := by
      rcases List.mem_append.1 hz with hz | hz
      · obtain ⟨i, hi, he⟩ := List.mem_iff_getElem.1 hz
        rw [List.length_take] at hi
        rw [List.getElem_take] at he
        have h2 := List.pairwise_iff_getElem.1 hn i p (by omega) hlt (by omega)
        rw [he, hye, hyk] at h2
        exact h2
      · obtain ⟨i, hi, he⟩ := List.mem_iff_getElem.1 hz
        rw [List.length_drop] at hi
        rw [List.getElem_drop] at he
        have h2 := List.pairwise_iff_getElem.1 hn p (p + 1 + i) hlt (by omega) (by omega)
        rw [he, hye, hyk] at h2
        exact Ne.symm h2
    simpa using hzk
  · rw [if_neg hb, hsplit, List.find?_append, List.find?_append, hd, List.find?_cons]
    have h2 : decide (key y = b) = false := by rw [hyk]; simpa using fun e => hb e.symm
    rw [h2]
theorem StoB.cut {w w' : World} {Q : Nat → Prop} {s b : Nat} {kv : Value} {KL : List Sc} {D : DataW Value} {es : List OE} {os : List Ob} {k : Ky} {p : Nat} {last : Int} {n : Nat} {y : Ob}
    (h1 : w'.heap[s]? = some (.cells #[kv, .map (some b), .int .i64 last] 84 (0, 0))) (h2 : IsKinds w' Q kv KL) (h3 : w'.ownsMap Try.prog 86 RpO b n (D.del (ko k))) (h4 : RelO D es) (ht : Tidy D) (h5 : ObR w Q es os) (h5' : ObR w' Q es os)
    (h6 : s ≠ b) (h7 : b < w'.heap.size) (h8 : ¬ Q s) (h9 : ¬ Q b) (hk : kOk k) (hy : os[p]? = some y) (hyk : y.key = k) : StoB w' Q s b (os.take p ++ os.drop (p + 1)) last KL := by
  obtain ⟨e, he, hek, _⟩ := h5.get p y hy
  rw [hyk] at hek
  have hlt := (List.getElem?_eq_some_iff.1 he).1
  have hrel : RelO (D.del (ko k)) (es.take p ++ es.drop (p + 1)) := by
    refine RelO.del h4 ht hk (fun b => find_del es p k h4.2.2.2.1 he hek b) ?_ ?_ ?_ ?_
    · rw [List.length_append, List.length_take, List.length_drop]
      omega
    · unfold findO
      rw [List.find?_isSome]
      exact ⟨e, List.mem_of_getElem? he, by simpa using hek⟩
    · have hsub : (es.take p ++ es.drop (p + 1)).Sublist es := by
        have h := (List.Sublist.refl (es.take p)).append (List.drop_sublist_drop_left es (Nat.le_succ p))
        rw [List.take_append_drop] at h
        exact h
      exact h4.2.2.2.1.sublist hsub
    · intro x hx
      rcases List.mem_append.1 hx with hx | hx
      · exact h4.2.2.2.2 x (List.mem_of_mem_take hx)
      · exact h4.2.2.2.2 x (List.mem_of_mem_drop hx)
  refine ⟨kv, _, es.take p ++ es.drop (p + 1), h1, h2, ?_, hrel, (h5'.take p).append (h5'.drop (p + 1)), h6, h7, h8, h9⟩
  have := ownsMapO_tight h3
  rw [hrel.2.2.1] at this
  exact this

/-- Why Delete refuses. -/
def delR (KL : List Sc) (os : List Ob) (k : Ky) (v : Int) : Int := if fndR KL os k ≠ 0 then fndR KL os k else match findB os k with
  | none => 0
  | some x => if v ≠ 0 ∧ v ≠ x.v then 15 else 0
/-- What Delete leaves. -/
def DelIs (w : World) (Q : Nat → Prop) (s b : Nat) (os' : List Ob) (last : Int) (KL : List Sc) (err : Int) (r : Ending) (w' : World) : Prop :=
  r = .returned (.int .i64 err) ∧ ((err ≠ 0 ∧ Below w.heap.size w w') ∨ (err = 0 ∧ StoB w' Q s b os' last KL ∧ OnlyS s b w w'))
theorem fndR_zero {KL : List Sc} {os : List Ob} {k : Ky} (h : fndR KL os k = 0) : ∃ x, findB os k = some x ∧ (if (findS KL k.1).isSome = true then findB os k else none) = some x := by
  unfold fndR at h
  split at h
  · rename_i hs
    split at h
    · rename_i hf
      obtain ⟨x, hx⟩ := Option.isSome_iff_exists.1 hf
      exact ⟨x, hx, by rw [if_pos hs, hx]⟩
    · cases h
  · cases h
theorem fndR_else {KL : List Sc} {os : List Ob} {k : Ky} (h : fndR KL os k ≠ 0) : (if (findS KL k.1).isSome = true then findB os k else none) = none := by
  unfold fndR at h
  split
  · rename_i hs
    rw [if_pos hs] at h
    cases hf : findB os k with
    | none => rfl
    | some x => rw [hf] at h; simp at h
  · rfl

set_option maxRecDepth 100000 in
set_option maxHeartbeats 4000000 in
theorem o_delete (Q : Nat → Prop) (s b : Nat) (os : List Ob) (last : Int) (KL : List Sc) (k : Ky) (v : Int) (p : Nat) (w : World) (hS : StoB w Q s b os last KL) (hk : kOk k) (hp : ∀ x, findB os k = some x → ∃ y, os[p]? = some y ∧ y.key = k) :
    Calls Try.prog 44 #[.pointer (some ⟨s, 0, none⟩), .string k.1, .string k.2.1, .string k.2.2, .int .i64 v] w (DelIs w Q s b (os.take p ++ os.drop (p + 1)) last KL (delR KL os k v)) := by
  obtain ⟨k1, k2, k3⟩ := k
  have HS := Lib.hid hS
  have HK := Lib.hid hk
  have HP := Lib.hid hp
  have hon := one_new w (.cells #[.string k1, .string k2, .string k3] 86)
  have HX := Lib.hid (World.alloc_heap_new w (.cells #[.string k1, .string k2, .string k3] 86))
  have HFD := Lib.hid (o_find Q s b os last KL (k1, k2, k3) _ (hS.below hon) hk)
  have HON := Lib.hid hon
  have p0 : _ = some (Value.string k1) := cell_of_row _ w.heap.size 0 _ _ _ HX.out
  have p1 : _ = some (Value.string k2) := cell_of_row _ w.heap.size 1 _ _ _ HX.out
  have p2 : _ = some (Value.string k3) := cell_of_row _ w.heap.size 2 _ _ _ HX.out
  unfold kV at HFD
  simp only at HFD ⊢
  clear hS hk hp hon
  by_cases hz : fndR KL os (k1, k2, k3) = 0
  · obtain ⟨x, hx, hx2⟩ := fndR_zero hz
    obtain ⟨y, hy, hyk⟩ := HP.out x hx
    have HY := Lib.hid hy
    have HYK := Lib.hid hyk
    have HDEL := Lib.hid (show delR KL os (k1, k2, k3) v = if v ≠ 0 ∧ v ≠ x.v then 15 else 0 by unfold delR; rw [if_neg (by rw [hz]; simp), hx])
    have HFD2 : Hid (Calls Try.prog 68 #[.pointer (some ⟨s, 0, none⟩), .agg #[.string k1, .string k2, .string k3]] (w.alloc (.cells #[.string k1, .string k2, .string k3] 86)) fun r w' => ∃ e : OE, r = .returned (.tuple #[oV e, .int .i64 0]) ∧ e.v = x.v ∧ (∃ A n c, e.u = .slice A n c) ∧ Below (w.alloc (.cells #[.string k1, .string k2, .string k3] 86)).heap.size (w.alloc (.cells #[.string k1, .string k2, .string k3] 86)) w') := Lib.hid (HFD.out.mono fun r w' ⟨e, h1, h2, h3⟩ => by
      rw [hx2] at h2
      obtain ⟨_, h5, _, A6, c6, h6, _, _⟩ := h2
      exact ⟨e, by rw [h1, hz], h5, ⟨_, _, _, h6⟩, h3⟩)
    clear hz hx hx2 hy hyk HFD HP
    go_enter Try.func44, Try.ntmps44
    go_wp2_with fail
    refine HFD2.out.mono ?_
    rintro r w1 ⟨e, rfl, hev, ⟨A6, n6, c6, heu⟩, hb1⟩
    obtain ⟨⟨n1, n2, n3⟩, ev, eu⟩ := e
    simp only at hev heu
    subst hev heu
    have HX1 := Lib.hid ((hb1.block w.heap.size (by simp)).trans HX.out)
    have hon1 := one_new w1 (.cells #[.string n1, .string n2, .string n3, .int .i64 x.v, .slice A6 n6 c6] 36)
    have HB2 := Lib.hid ((HON.out.trans (hb1.mono (by simp))).trans (hon1.mono (HON.out.trans (hb1.mono (by simp))).size))
    have HX2 := Lib.hid ((hon1.block w.heap.size (Array.getElem?_eq_some_iff.1 HX1.out).1).trans HX1.out)
    obtain ⟨y0, y1, y2, y3, y4⟩ := five_cells (World.alloc_heap_new w1 (.cells #[.string n1, .string n2, .string n3, .int .i64 x.v, .slice A6 n6 c6] 36))
    clear hb1 hon1 HX1 HFD2 p0 p1 p2
    unfold oV
    simp only
    obtain ⟨w2, hw2⟩ : ∃ w2, w1.alloc (.cells #[.string n1, .string n2, .string n3, .int .i64 x.v, .slice A6 n6 c6] 36) = w2 := ⟨_, rfl⟩
    rw [hw2] at HB2 HX2
    obtain ⟨kv, D, es, h1, h2, h3, h4, h5, h6, h7, h8, h9⟩ := HS.out.below HB2.out
    have H2 := Lib.hid h2
    have H4 := Lib.hid h4
    have H5 := Lib.hid h5
    have H1 := Lib.hid h1
    have H3 := Lib.hid h3
    obtain ⟨w3, hrun, ho3, ht3⟩ := (show w2.drew.ownsMap Try.prog 86 RpO b es.length D from h3).drop (t := 82) lawO Try.underlying82 (keyOf_ky HK.out) 4
    have hrun2 : ∀ ty, (Builtin.delete_ #[82, 86] ty #[.map (some b), .agg #[.string k1, .string k2, .string k3]]).run Try.prog w2.drew = .ok (.tuple #[]) w3 := fun _ => hrun
    have HO3 := Lib.hid ho3
    have HG3 := Lib.hid ht3.grown
    have q0 : _ = some (Value.string k1) := cell_of_row w2 w.heap.size 0 _ _ _ HX2.out
    have q1 : _ = some (Value.string k2) := cell_of_row w2 w.heap.size 1 _ _ _ HX2.out
    have q2 : _ = some (Value.string k3) := cell_of_row w2 w.heap.size 2 _ _ _ HX2.out
    have q3 : _ = some (Value.map (some b)) := cell_of_row w2 s 1 _ _ _ h1
    rw [← hw2] at q0 q1 q2 q3 hrun2
    have HW2 := Lib.hid hw2
    clear hw2 h1 h2 h3 h4 h5 hrun ho3 ht3
    by_cases hv0 : v = 0
    · have hb0 : (v != 0) = false := by rw [hv0]; rfl
      have HI := Lib.hid (show delR KL os (k1, k2, k3) v = 0 by rw [HDEL.out, if_neg (fun h => h.1 hv0)])
      clear hv0
      go_wp2_with fail
      go_region
      all_goals
        have ho : OnlyS s b w w3 := (OnlyS.of (s := s) (b := b) HB2.out).trans ⟨⟨HG3.out.os, HG3.out.tape, HG3.out.output, HG3.out.size, fun k hk => absurd hk (Nat.not_lt_zero k)⟩, fun k hk _ hkb => HG3.out.block k hk (fun e => by injection e with e; exact hkb e)⟩
        have HOO := Lib.hid ho
        clear ho
        go_wp2
        go_ret
        refine ⟨by rw [HI.out]; rfl, .inr ⟨HI.out, ?_, HOO.out⟩⟩
        have hs3 : w3.heap[s]? = some (.cells #[kv, .map (some b), .int .i64 last] 84 (0, 0)) := (HG3.out.block s (show s < w2.heap.size from (Array.getElem?_eq_some_iff.1 H1.out).1) (fun e => by injection e with e; exact h6 e)).trans H1.out
        have hkq : KeepQ Q w2 w3 := fun k hq hkl => HG3.out.block k hkl (fun e => by injection e with e; exact h9 (e ▸ hq))
        exact StoB.cut (w := w2) hs3 (H2.out.keep hkq) HO3.out H4.out (H3.out.tidy lawO) H5.out (H5.out.keep hkq) h6 (Nat.lt_of_lt_of_le h7 HG3.out.size) h8 h9 HK.out HY.out HYK.out
    · have hb0 : (v != 0) = true := by simpa using hv0
      by_cases hvx : v = x.v
      · have hb1 : (v != x.v) = false := by rw [hvx]; simp
        have HI := Lib.hid (show delR KL os (k1, k2, k3) v = 0 by rw [HDEL.out, if_neg (fun h => h.2 hvx)])
        clear hv0 hvx
        go_wp2_with fail
        go_region
        all_goals
          have ho : OnlyS s b w w3 := (OnlyS.of (s := s) (b := b) HB2.out).trans ⟨⟨HG3.out.os, HG3.out.tape, HG3.out.output, HG3.out.size, fun k hk => absurd hk (Nat.not_lt_zero k)⟩, fun k hk _ hkb => HG3.out.block k hk (fun e => by injection e with e; exact hkb e)⟩
          have HOO := Lib.hid ho
          clear ho
          go_wp2
          go_ret
          refine ⟨by rw [HI.out]; rfl, .inr ⟨HI.out, ?_, HOO.out⟩⟩
          have hs3 : w3.heap[s]? = some (.cells #[kv, .map (some b), .int .i64 last] 84 (0, 0)) := (HG3.out.block s (show s < w2.heap.size from (Array.getElem?_eq_some_iff.1 H1.out).1) (fun e => by injection e with e; exact h6 e)).trans H1.out
          have hkq : KeepQ Q w2 w3 := fun k hq hkl => HG3.out.block k hkl (fun e => by injection e with e; exact h9 (e ▸ hq))
          exact StoB.cut (w := w2) hs3 (H2.out.keep hkq) HO3.out H4.out (H3.out.tidy lawO) H5.out (H5.out.keep hkq) h6 (Nat.lt_of_lt_of_le h7 HG3.out.size) h8 h9 HK.out HY.out HYK.out
      · have hb1 : (v != x.v) = true := by simpa using hvx
        have HI := Lib.hid (show delR KL os (k1, k2, k3) v = 15 by rw [HDEL.out, if_pos ⟨hv0, hvx⟩])
        have HBF := Lib.hid (show Below w.heap.size w (w1.alloc (.cells #[.string n1, .string n2, .string n3, .int .i64 x.v, .slice A6 n6 c6] 36)) by rw [HW2.out]; exact HB2.out)
        clear hv0 hvx
        go_wp2
        go_ret
        exact ⟨by rw [HI.out]; rfl, .inl ⟨by rw [HI.out]; decide, HBF.out⟩⟩
  · have HE := Lib.hid (show delR KL os (k1, k2, k3) v = fndR KL os (k1, k2, k3) by unfold delR; rw [if_pos hz])
    rw [fndR_else hz] at HFD
    have HZ := Lib.hid hz
    have hne : (fndR KL os (k1, k2, k3) != 0) = true := by simpa using hz
    clear hz HP
    generalize fndR KL os (k1, k2, k3) = m at *
    go_enter Try.func44, Try.ntmps44
    go_wp2_with fail
    refine HFD.out.mono ?_
    rintro r w1 ⟨e, rfl, hev, hb1⟩
    have he : e = ⟨(⟨#[]⟩, ⟨#[]⟩, ⟨#[]⟩), 0, .slice none 0 0⟩ := hev
    subst he
    have HB2 := Lib.hid ((HON.out.trans (hb1.mono (by simp))).trans ((one_new w1 (.cells #[.string ⟨#[]⟩, .string ⟨#[]⟩, .string ⟨#[]⟩, .int .i64 0, .slice none 0 0] 36)).mono (HON.out.trans (hb1.mono (by simp))).size))
    clear hb1 hev HFD p0 p1 p2
    unfold oV
    simp only
    go_wp2
    go_ret
    exact ⟨by rw [HE.out]; rfl, .inl ⟨by rw [HE.out]; exact HZ.out, HB2.out⟩⟩
end
section
open Go.RowKit Go.Maps

/-- What Get hands back. -/
def gotO : Option Ob → Ob
  | some x => x
  | none => ⟨(⟨#[]⟩, ⟨#[]⟩, ⟨#[]⟩), 0, []⟩
theorem FndIs.got {w : World} {Q : Nat → Prop} {o : Option Ob} {e : OE} (h : FndIs w Q o e) : e.key = (gotO o).key ∧ e.v = (gotO o).v ∧ IsRow w Q e.u (gotO o).c := by
  cases o with
  | some x => exact h
  | none =>
    have h : e = ⟨(⟨#[]⟩, ⟨#[]⟩, ⟨#[]⟩), 0, .slice none 0 0⟩ := h
    subst h
    exact ⟨rfl, rfl, by decide, none, 0, rfl, fun _ => rfl, fun i v hi => by simp [gotO] at hi⟩
set_option maxRecDepth 100000 in
set_option maxHeartbeats 2000000 in
theorem o_get (Q : Nat → Prop) (s b : Nat) (os : List Ob) (last : Int) (KL : List Sc) (k : Ky) (w : World) (hS : StoB w Q s b os last KL) (hk : kOk k) :
    Calls Try.prog 46 #[.pointer (some ⟨s, 0, none⟩), .string k.1, .string k.2.1, .string k.2.2] w fun r w' => ∃ u, r = .returned (.tuple #[oV ⟨(gotO (if (findS KL k.1).isSome = true then findB os k else none)).key, (gotO (if (findS KL k.1).isSome = true then findB os k else none)).v, u⟩, .int .i64 (fndR KL os k)]) ∧ IsRow w' (fun j => w.heap.size ≤ j) u (gotO (if (findS KL k.1).isSome = true then findB os k else none)).c ∧ Below w.heap.size w w' := by
  obtain ⟨k1, k2, k3⟩ := k
  have HS := Lib.hid hS
  have hon := one_new w (.cells #[.string ⟨#[]⟩, .string ⟨#[]⟩, .string ⟨#[]⟩, .int .i64 0, .slice none 0 0] 36)
  have HX := Lib.hid (World.alloc_heap_new w (.cells #[.string ⟨#[]⟩, .string ⟨#[]⟩, .string ⟨#[]⟩, .int .i64 0, .slice none 0 0] 36))
  have HFD := Lib.hid (o_find Q s b os last KL (k1, k2, k3) _ (hS.below hon) hk)
  have HON := Lib.hid hon
  unfold kV at HFD
  simp only at HFD ⊢
  generalize (if (findS KL k1).isSome = true then findB os (k1, k2, k3) else none) = og at *
  generalize fndR KL os (k1, k2, k3) = er at *
  clear hS hk hon
  go_enter Try.func46, Try.ntmps46
  go_wp2_with fail
  refine HFD.out.mono ?_
  rintro r w1 ⟨e, rfl, hfe, hb1⟩
  obtain ⟨e1, e2, e3⟩ := hfe.got
  obtain ⟨⟨n1, n2, n3⟩, ev, eu⟩ := e
  simp only at e1 e2 e3
  have HB1 := Lib.hid (HON.out.trans (hb1.mono (by simp)))
  have HX1 := Lib.hid ((hb1.block w.heap.size (by simp)).trans HX.out)
  have hon1 := one_new w1 (.cells #[.string n1, .string n2, .string n3, .int .i64 ev, eu] 36)
  have HO := Lib.hid (o_own Q ⟨(n1, n2, n3), ev, eu⟩ (gotO og).c _ (e3.keep (Below.keepQ hon1 Q)))
  obtain ⟨_, A1, c1, rfl, _, _⟩ := e3
  have HK := Lib.hid e1
  have HV := Lib.hid e2
  have HON1 := Lib.hid hon1
  unfold oV at HO ⊢
  simp only at HO ⊢
  clear hb1 hfe HFD e1 e2 hon1
  go_wp2_with fail
  refine HO.out.mono ?_
  rintro r w2 ⟨u', rfl, hrow, hb2⟩
  have HR2 := Lib.hid hrow
  obtain ⟨_, A', c', rfl, _, _⟩ := hrow
  have hb12 := HON1.out.trans (hb2.mono (by simp))
  have HB2 := Lib.hid (HB1.out.trans (hb12.mono HB1.out.size))
  have hz1 := HB1.out.size
  obtain ⟨y0, y1, y2, y3, y4, hyz⟩ : ∃ y0 y1 y2 y3 y4, w2.heap[w.heap.size]? = some (.cells #[y0, y1, y2, y3, y4] 36 (0, 0)) := ⟨_, _, _, _, _, (hb12.block w.heap.size (Array.getElem?_eq_some_iff.1 HX1.out).1).trans HX1.out⟩
  obtain ⟨b0, b1, b2, b3, b4⟩ := five_cells hyz
  obtain ⟨g0, g1, g2, g3, g4⟩ := five_thaw hyz
  have HYZ := Lib.hid hyz
  have hl1 : w.heap.size < w1.heap.size := (Array.getElem?_eq_some_iff.1 HX1.out).1
  have HRF := Lib.hid (show IsRow (set5 w2 w.heap.size (.string n1) (.string n2) (.string n3) (.int .i64 ev) (.slice A' (gotO og).c.length c')) (fun j => w.heap.size ≤ j) (.slice A' (gotO og).c.length c') (gotO og).c from (HR2.out.keep (fun k hk _ => set5_far (by simp at hk; omega) _ _ _ _ _)).imp fun k _ hk => by simp at hk; omega)
  clear hyz hb2 hb12 HO HX1
  generalize (gotO og).c.length = nc at *
  go_wp2
  have hfb := set5_below HB2.out (Nat.le_refl w.heap.size) (.string n1) (.string n2) (.string n3) (.int .i64 ev) (.slice A' nc c')
  obtain ⟨r0, r1, r2, r3, r4⟩ := five_cells (set5_heap HYZ.out (.string n1) (.string n2) (.string n3) (.int .i64 ev) (.slice A' nc c'))
  have hrf := HRF.out
  unfold set5 at r0 r1 r2 r3 r4 hfb hrf
  refine bodyPost_ret (v := .tuple #[.agg #[.string n1, .string n2, .string n3, .int .i64 ev, .slice A' nc c'], .int .i64 er]) (by simp [results, Try.results46, r0, r1, r2, r3, r4, go_sem]) rfl ⟨.slice A' nc c', ?_, hrf, hfb⟩
  rw [← HK.out, ← HV.out]
  rfl
end
end Go.Proofs.Ytmiagdmfgebfdaa
