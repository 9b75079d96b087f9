/-
  Delete of package store: one object less, or why not.
  No condition but that texts are no longer than texts can be.
  Get of package store: a copy of the object that is there, or why there is none.
  No condition but that texts are no longer than texts can be.
  ahead of the document's store: which of two objects goes ahead.
  No condition but that texts are no longer than texts can be.
  The document's store in memory: objects in a list; Of: how many stand in a space.
  No condition but that a list has no more than a million.
  Of of the document's store: how many objects stand in a space.
  No condition but that there are no more than a thousand.
  find of the document's store: the place of an object, or where it would stand; whether it is there.
  No condition but that there are no more than a thousand and that texts are no longer than texts can be.
  may of the document's store: why an object can not be.
  No condition but that texts are no longer than texts can be.
-/
import Derived.BigQuiet
import Derived.Deep.RegionHeld3
import Derived.Test.YtdhpoaecedpbdaaGreatZ1
import Derived.Test.YtdhpoaecedpbdaaGreatZ10
import Derived.Test.YtdhpoaecedpbdaaGreatZ19
import Derived.Test.YtdhpoaecedpbdaaGreatZ20
import Derived.Test.YtdhpoaecedpbdaaGreatZ24
namespace Go.Proofs.YtdhpoaecedpbdaaGreat
section
section
open Go.RowKit Go.Maps

theorem find_del {α : Type} {key : α → Ky} (L : List α) (p : Nat) (k : Ky) (hn : L.Pairwise fun a b => key a ≠ key b) {y : α} (hy : L[p]? = some y) (hyk : key y = k) (b : Ky) :
    (L.take p ++ L.drop (p + 1)).find? (fun y => decide (key y = b)) = if b = k then none else L.find? (fun y => decide (key y = b)) := by
  have hlt := (List.getElem?_eq_some_iff.1 hy).1
  have hye := (List.getElem?_eq_some_iff.1 hy).2
  have hd : L.drop p = y :: L.drop (p + 1) := by rw [List.drop_eq_getElem_cons hlt, hye]
  have hsplit : L.find? (fun y => decide (key y = b)) = (L.take p ++ L.drop p).find? (fun y => decide (key y = b)) := by rw [List.take_append_drop]
  by_cases hb : b = k
  · subst hb
    rw [if_pos rfl, List.find?_eq_none]
    intro z hz
    have hzk : key z ≠ b := by
      rcases List.mem_append.1 hz with hz | hz
      · obtain ⟨i, hi, he⟩ := List.mem_iff_getElem.1 hz
        rw [List.length_take] at hi
        rw [List.getElem_take] at he
        have h2 := List.pairwise_iff_getElem.1 hn i p (by omega) hlt (by omega)
        rw [he, hye, hyk] at h2
        exact h2
      · obtain ⟨i, hi, he⟩ := List.mem_iff_getElem.1 hz
        rw [List.length_drop] at hi
        rw [List.getElem_drop] at he
        have h2 := List.pairwise_iff_getElem.1 hn p (p + 1 + i) hlt (by omega) (by omega)
        rw [he, hye, hyk] at h2
        exact Ne.symm h2
    simpa using hzk
  · rw [if_neg hb, hsplit, List.find?_append, List.find?_append, hd, List.find?_cons]
    have h2 : decide (key y = b) = false := by rw [hyk]; simpa using fun e => hb e.symm
    rw [h2]
theorem StoB.cut {w w' : World} {Q : Nat → Prop} {s b : Nat} {kv : Value} {KL : List Sc} {D : DataW Value} {es : List OE} {os : List Ob} {k : Ky} {p : Nat} {last : Int} {n : Nat} {y : Ob}
    (h1 : w'.heap[s]? = some (.cells #[kv, .map (some b), .int .i64 last] 100 (0, 0))) (h2 : IsKinds w' Q kv KL) (h3 : w'.ownsMap Tryz.prog 103 RpO b n (D.del (ko k))) (h4 : RelO D es) (ht : Tidy D) (h5 : ObR w Q es os) (h5' : ObR w' Q es os)
    (h6 : s ≠ b) (h7 : b < w'.heap.size) (h8 : ¬ Q s) (h9 : ¬ Q b) (hk : kOk k) (hy : os[p]? = some y) (hyk : y.key = k) : StoB w' Q s b (os.take p ++ os.drop (p + 1)) last KL := by
  obtain ⟨e, he, hek, _⟩ := h5.get p y hy
  rw [hyk] at hek
  have hlt := (List.getElem?_eq_some_iff.1 he).1
  have hrel : RelO (D.del (ko k)) (es.take p ++ es.drop (p + 1)) := by
    refine RelO.del h4 ht hk (fun b => find_del es p k h4.2.2.2.1 he hek b) ?_ ?_ ?_ ?_
    · rw [List.length_append, List.length_take, List.length_drop]
      omega
    · unfold findO
      rw [List.find?_isSome]
      exact ⟨e, List.mem_of_getElem? he, by simpa using hek⟩
    · have hsub : (es.take p ++ es.drop (p + 1)).Sublist es := by
        have h := (List.Sublist.refl (es.take p)).append (List.drop_sublist_drop_left es (Nat.le_succ p))
        rw [List.take_append_drop] at h
        exact h
      exact h4.2.2.2.1.sublist hsub
    · intro x hx
      rcases List.mem_append.1 hx with hx | hx
      · exact h4.2.2.2.2 x (List.mem_of_mem_take hx)
      · exact h4.2.2.2.2 x (List.mem_of_mem_drop hx)
  refine ⟨kv, _, es.take p ++ es.drop (p + 1), h1, h2, ?_, hrel, (h5'.take p).append (h5'.drop (p + 1)), h6, h7, h8, h9⟩
  have := ownsMapO_tight h3
  rw [hrel.2.2.1] at this
  exact this

/-- Why Delete refuses. -/
def delR (KL : List Sc) (os : List Ob) (k : Ky) (v : Int) : Int := if fndR KL os k ≠ 0 then fndR KL os k else match findB os k with
  | none => 0
  | some x => if v ≠ 0 ∧ v ≠ x.v then 15 else 0
/-- What Delete leaves. -/
def DelIs (w : World) (Q : Nat → Prop) (s b : Nat) (os' : List Ob) (last : Int) (KL : List Sc) (err : Int) (r : Ending) (w' : World) : Prop :=
  r = .returned (.int .i64 err) ∧ ((err ≠ 0 ∧ Below w.heap.size w w') ∨ (err = 0 ∧ StoB w' Q s b os' last KL ∧ OnlyS s b w w'))
theorem fndR_zero {KL : List Sc} {os : List Ob} {k : Ky} (h : fndR KL os k = 0) : ∃ x, findB os k = some x ∧ (if (findS KL k.1).isSome = true then findB os k else none) = some x := by
  unfold fndR at h
  split at h
  · rename_i hs
    split at h
    · rename_i hf
      obtain ⟨x, hx⟩ := Option.isSome_iff_exists.1 hf
      exact ⟨x, hx, by rw [if_pos hs, hx]⟩
    · cases h
  · cases h
theorem fndR_else {KL : List Sc} {os : List Ob} {k : Ky} (h : fndR KL os k ≠ 0) : (if (findS KL k.1).isSome = true then findB os k else none) = none := by
  unfold fndR at h
  split
  · rename_i hs
    rw [if_pos hs] at h
    cases hf : findB os k with
    | none => rfl
    | some x => rw [hf] at h; simp at h
  · rfl

set_option maxRecDepth 100000 in
set_option maxHeartbeats 4000000 in
theorem o_delete (Q : Nat → Prop) (s b : Nat) (os : List Ob) (last : Int) (KL : List Sc) (k : Ky) (v : Int) (p : Nat) (w : World) (hS : StoB w Q s b os last KL) (hk : kOk k) (hp : ∀ x, findB os k = some x → ∃ y, os[p]? = some y ∧ y.key = k) :
    Calls Tryz.prog 40 #[.pointer (some ⟨s, 0, none⟩), .string k.1, .string k.2.1, .string k.2.2, .int .i64 v] w (DelIs w Q s b (os.take p ++ os.drop (p + 1)) last KL (delR KL os k v)) := by
  obtain ⟨k1, k2, k3⟩ := k
  have HS := Lib.hid hS
  have HK := Lib.hid hk
  have HP := Lib.hid hp
  have hon := one_new w (.cells #[.string k1, .string k2, .string k3] 103)
  have HX := Lib.hid (World.alloc_heap_new w (.cells #[.string k1, .string k2, .string k3] 103))
  have HFD := Lib.hid (o_find Q s b os last KL (k1, k2, k3) _ (hS.below hon) hk)
  have HON := Lib.hid hon
  have p0 : _ = some (Value.string k1) := cell_of_row _ w.heap.size 0 _ _ _ HX.out
  have p1 : _ = some (Value.string k2) := cell_of_row _ w.heap.size 1 _ _ _ HX.out
  have p2 : _ = some (Value.string k3) := cell_of_row _ w.heap.size 2 _ _ _ HX.out
  unfold kV at HFD
  simp only at HFD ⊢
  clear hS hk hp hon
  by_cases hz : fndR KL os (k1, k2, k3) = 0
  · obtain ⟨x, hx, hx2⟩ := fndR_zero hz
    obtain ⟨y, hy, hyk⟩ := HP.out x hx
    have HY := Lib.hid hy
    have HYK := Lib.hid hyk
    have HDEL := Lib.hid (show delR KL os (k1, k2, k3) v = if v ≠ 0 ∧ v ≠ x.v then 15 else 0 by unfold delR; rw [if_neg (by rw [hz]; simp), hx])
    have HFD2 : Hid (Calls Tryz.prog 80 #[.pointer (some ⟨s, 0, none⟩), .agg #[.string k1, .string k2, .string k3]] (w.alloc (.cells #[.string k1, .string k2, .string k3] 103)) fun r w' => ∃ e : OE, r = .returned (.tuple #[oV e, .int .i64 0]) ∧ e.v = x.v ∧ (∃ A n c, e.u = .slice A n c) ∧ Below (w.alloc (.cells #[.string k1, .string k2, .string k3] 103)).heap.size (w.alloc (.cells #[.string k1, .string k2, .string k3] 103)) w') := Lib.hid (HFD.out.mono fun r w' ⟨e, h1, h2, h3⟩ => by
      rw [hx2] at h2
      obtain ⟨_, h5, _, A6, c6, h6, _, _⟩ := h2
      exact ⟨e, by rw [h1, hz], h5, ⟨_, _, _, h6⟩, h3⟩)
    clear hz hx hx2 hy hyk HFD HP
    go_enter Tryz.func40, Tryz.ntmps40
    go_wp2_with fail
    refine HFD2.out.mono ?_
    rintro r w1 ⟨e, rfl, hev, ⟨A6, n6, c6, heu⟩, hb1⟩
    obtain ⟨⟨n1, n2, n3⟩, ev, eu⟩ := e
    simp only at hev heu
    subst hev heu
    have HX1 := Lib.hid ((hb1.block w.heap.size (by simp)).trans HX.out)
    have hon1 := one_new w1 (.cells #[.string n1, .string n2, .string n3, .int .i64 x.v, .slice A6 n6 c6] 25)
    have HB2 := Lib.hid ((HON.out.trans (hb1.mono (by simp))).trans (hon1.mono (HON.out.trans (hb1.mono (by simp))).size))
    have HX2 := Lib.hid ((hon1.block w.heap.size (Array.getElem?_eq_some_iff.1 HX1.out).1).trans HX1.out)
    obtain ⟨y0, y1, y2, y3, y4⟩ := five_cells (World.alloc_heap_new w1 (.cells #[.string n1, .string n2, .string n3, .int .i64 x.v, .slice A6 n6 c6] 25))
    clear hb1 hon1 HX1 HFD2 p0 p1 p2
    unfold oV
    simp only
    obtain ⟨w2, hw2⟩ : ∃ w2, w1.alloc (.cells #[.string n1, .string n2, .string n3, .int .i64 x.v, .slice A6 n6 c6] 25) = w2 := ⟨_, rfl⟩
    rw [hw2] at HB2 HX2
    obtain ⟨kv, D, es, h1, h2, h3, h4, h5, h6, h7, h8, h9⟩ := HS.out.below HB2.out
    have H2 := Lib.hid h2
    have H4 := Lib.hid h4
    have H5 := Lib.hid h5
    have H1 := Lib.hid h1
    have H3 := Lib.hid h3
    obtain ⟨w3, hrun, ho3, ht3⟩ := (show w2.drew.ownsMap Tryz.prog 103 RpO b es.length D from h3).drop (t := 98) lawO Tryz.underlying98 (keyOf_ky HK.out) 4
    have hrun2 : ∀ ty, (Builtin.delete_ #[98, 103] ty #[.map (some b), .agg #[.string k1, .string k2, .string k3]]).run Tryz.prog w2.drew = .ok (.tuple #[]) w3 := fun _ => hrun
    have HO3 := Lib.hid ho3
    have HG3 := Lib.hid ht3.grown
    have q0 : _ = some (Value.string k1) := cell_of_row w2 w.heap.size 0 _ _ _ HX2.out
    have q1 : _ = some (Value.string k2) := cell_of_row w2 w.heap.size 1 _ _ _ HX2.out
    have q2 : _ = some (Value.string k3) := cell_of_row w2 w.heap.size 2 _ _ _ HX2.out
    have q3 : _ = some (Value.map (some b)) := cell_of_row w2 s 1 _ _ _ h1
    rw [← hw2] at q0 q1 q2 q3 hrun2
    have HW2 := Lib.hid hw2
    clear hw2 h1 h2 h3 h4 h5 hrun ho3 ht3
    by_cases hv0 : v = 0
    · have hb0 : (v != 0) = false := by rw [hv0]; rfl
      have HI := Lib.hid (show delR KL os (k1, k2, k3) v = 0 by rw [HDEL.out, if_neg (fun h => h.1 hv0)])
      clear hv0
      go_wp2_with fail
      go_region
      all_goals
        have ho : OnlyS s b w w3 := (OnlyS.of (s := s) (b := b) HB2.out).trans ⟨⟨HG3.out.os, HG3.out.tape, HG3.out.output, HG3.out.size, fun k hk => absurd hk (Nat.not_lt_zero k)⟩, fun k hk _ hkb => HG3.out.block k hk (fun e => by injection e with e; exact hkb e)⟩
        have HOO := Lib.hid ho
        clear ho
        go_wp2
        go_ret
        refine ⟨by rw [HI.out]; rfl, .inr ⟨HI.out, ?_, HOO.out⟩⟩
        have hs3 : w3.heap[s]? = some (.cells #[kv, .map (some b), .int .i64 last] 100 (0, 0)) := (HG3.out.block s (show s < w2.heap.size from (Array.getElem?_eq_some_iff.1 H1.out).1) (fun e => by injection e with e; exact h6 e)).trans H1.out
        have hkq : KeepQ Q w2 w3 := fun k hq hkl => HG3.out.block k hkl (fun e => by injection e with e; exact h9 (e ▸ hq))
        exact StoB.cut (w := w2) hs3 (H2.out.keep hkq) HO3.out H4.out (H3.out.tidy lawO) H5.out (H5.out.keep hkq) h6 (Nat.lt_of_lt_of_le h7 HG3.out.size) h8 h9 HK.out HY.out HYK.out
    · have hb0 : (v != 0) = true := by simpa using hv0
      by_cases hvx : v = x.v
      · have hb1 : (v != x.v) = false := by rw [hvx]; simp
        have HI := Lib.hid (show delR KL os (k1, k2, k3) v = 0 by rw [HDEL.out, if_neg (fun h => h.2 hvx)])
        clear hv0 hvx
        go_wp2_with fail
        go_region
        all_goals
          have ho : OnlyS s b w w3 := (OnlyS.of (s := s) (b := b) HB2.out).trans ⟨⟨HG3.out.os, HG3.out.tape, HG3.out.output, HG3.out.size, fun k hk => absurd hk (Nat.not_lt_zero k)⟩, fun k hk _ hkb => HG3.out.block k hk (fun e => by injection e with e; exact hkb e)⟩
          have HOO := Lib.hid ho
          clear ho
          go_wp2
          go_ret
          refine ⟨by rw [HI.out]; rfl, .inr ⟨HI.out, ?_, HOO.out⟩⟩
          have hs3 : w3.heap[s]? = some (.cells #[kv, .map (some b), .int .i64 last] 100 (0, 0)) := (HG3.out.block s (show s < w2.heap.size from (Array.getElem?_eq_some_iff.1 H1.out).1) (fun e => by injection e with e; exact h6 e)).trans H1.out
          have hkq : KeepQ Q w2 w3 := fun k hq hkl => HG3.out.block k hkl (fun e => by injection e with e; exact h9 (e ▸ hq))
          exact StoB.cut (w := w2) hs3 (H2.out.keep hkq) HO3.out H4.out (H3.out.tidy lawO) H5.out (H5.out.keep hkq) h6 (Nat.lt_of_lt_of_le h7 HG3.out.size) h8 h9 HK.out HY.out HYK.out
      · have hb1 : (v != x.v) = true := by simpa using hvx
        have HI := Lib.hid (show delR KL os (k1, k2, k3) v = 15 by rw [HDEL.out, if_pos ⟨hv0, hvx⟩])
        have HBF := Lib.hid (show Below w.heap.size w (w1.alloc (.cells #[.string n1, .string n2, .string n3, .int .i64 x.v, .slice A6 n6 c6] 25)) by rw [HW2.out]; exact HB2.out)
        clear hv0 hvx
        go_wp2
        go_ret
        exact ⟨by rw [HI.out]; rfl, .inl ⟨by rw [HI.out]; decide, HBF.out⟩⟩
  · have HE := Lib.hid (show delR KL os (k1, k2, k3) v = fndR KL os (k1, k2, k3) by unfold delR; rw [if_pos hz])
    rw [fndR_else hz] at HFD
    have HZ := Lib.hid hz
    have hne : (fndR KL os (k1, k2, k3) != 0) = true := by simpa using hz
    clear hz HP
    generalize fndR KL os (k1, k2, k3) = m at *
    go_enter Tryz.func40, Tryz.ntmps40
    go_wp2_with fail
    refine HFD.out.mono ?_
    rintro r w1 ⟨e, rfl, hev, hb1⟩
    have he : e = ⟨(⟨#[]⟩, ⟨#[]⟩, ⟨#[]⟩), 0, .slice none 0 0⟩ := hev
    subst he
    have HB2 := Lib.hid ((HON.out.trans (hb1.mono (by simp))).trans ((one_new w1 (.cells #[.string ⟨#[]⟩, .string ⟨#[]⟩, .string ⟨#[]⟩, .int .i64 0, .slice none 0 0] 25)).mono (HON.out.trans (hb1.mono (by simp))).size))
    clear hb1 hev HFD p0 p1 p2
    unfold oV
    simp only
    go_wp2
    go_ret
    exact ⟨by rw [HE.out]; rfl, .inl ⟨by rw [HE.out]; exact HZ.out, HB2.out⟩⟩
end
section
open Go.RowKit Go.Maps

/-- What Get hands back. -/
def gotO : Option Ob → Ob
  | some x => x
  | none => ⟨(⟨#[]⟩, ⟨#[]⟩, ⟨#[]⟩), 0, []⟩
theorem FndIs.got {w : World} {Q : Nat → Prop} {o : Option Ob} {e : OE} (h : FndIs w Q o e) : e.key = (gotO o).key ∧ e.v = (gotO o).v ∧ IsRow w Q e.u (gotO o).c := by
  cases o with
  | some x => exact h
  | none =>
    have h : e = ⟨(⟨#[]⟩, ⟨#[]⟩, ⟨#[]⟩), 0, .slice none 0 0⟩ := h
    subst h
    exact ⟨rfl, rfl, by decide, none, 0, rfl, fun _ => rfl, fun i v hi => by simp [gotO] at hi⟩
end
end
end Go.Proofs.YtdhpoaecedpbdaaGreat
namespace Go.Proofs.YtdhpoaecedpbdaaGreat
section
section
open Go.RowKit Go.Maps

/-- The order of what tells objects apart. -/
def cmpK (a b : Ky) : Int := if cmpS a.1 b.1 = 0 then (if cmpS a.2.1 b.2.1 = 0 then cmpS a.2.2 b.2.2 else cmpS a.2.1 b.2.1) else cmpS a.1 b.1
theorem ref_textB (a b : ByteArray) (w : World) (ha : a.size ≤ maxLen) : Calls Tryz.prog 68 #[.string a, .string b] w fun e w' => e = .returned (.int .i64 (cmpS a b)) ∧ Below w.heap.size w w' :=
  (ref_text a b w ha).mono fun e w' ⟨h, n, hw⟩ => ⟨h, by rw [hw]; exact below_drewN' (Below.refl _ _) n⟩
set_option maxRecDepth 100000 in
set_option maxHeartbeats 2000000 in
theorem r_ahead (a b : Ky) (va vb : Int) (Aa Ab : Option Addr) (na nb ca cb : Nat) (w : World) (ha : kOk a) :
    Calls Tryz.prog 111 #[.agg #[.string a.1, .string a.2.1, .string a.2.2, .int .i64 va, .slice Aa na ca], .agg #[.string b.1, .string b.2.1, .string b.2.2, .int .i64 vb, .slice Ab nb cb]] w fun e w' => e = .returned (.int .i64 (cmpK a b)) ∧ Below w.heap.size w w' := by
  obtain ⟨a1, a2, a3⟩ := a
  obtain ⟨b1, b2, b3⟩ := b
  obtain ⟨h1, h2, h3⟩ := ha
  simp only at h1 h2 h3 ⊢
  have hx := (one_new (w.alloc (.cells #[.string a1, .string a2, .string a3, .int .i64 va, .slice Aa na ca] 25)) (.cells #[.string b1, .string b2, .string b3, .int .i64 vb, .slice Ab nb cb] 25)).block w.heap.size (by simp) |>.trans (World.alloc_heap_new w _)
  have hy := alloc2_new w (.cells #[.string a1, .string a2, .string a3, .int .i64 va, .slice Aa na ca] 25) (.cells #[.string b1, .string b2, .string b3, .int .i64 vb, .slice Ab nb cb] 25)
  have HBA := Lib.hid (two_new w (.cells #[.string a1, .string a2, .string a3, .int .i64 va, .slice Aa na ca] 25) (.cells #[.string b1, .string b2, .string b3, .int .i64 vb, .slice Ab nb cb] 25))
  obtain ⟨x0, x1, x2, x3, x4⟩ := five_cells hx
  obtain ⟨y0, y1, y2, y3, y4⟩ := five_cells hy
  have HX := Lib.hid hx
  have HY := Lib.hid hy
  have H1 := Lib.hid (fun W => ref_textB a1 b1 W h1)
  have H2 := Lib.hid (fun W => ref_textB a2 b2 W h2)
  have H3 := Lib.hid (fun W => ref_textB a3 b3 W h3)
  have HC : Hid (cmpK (a1, a2, a3) (b1, b2, b3) = if cmpS a1 b1 = 0 then (if cmpS a2 b2 = 0 then cmpS a3 b3 else cmpS a2 b2) else cmpS a1 b1) := Lib.hid rfl
  generalize cmpK (a1, a2, a3) (b1, b2, b3) = ck at *
  generalize cmpS a1 b1 = d1 at *
  generalize cmpS a2 b2 = d2 at *
  generalize cmpS a3 b3 = d3 at *
  clear hx hy h1 h2 h3
  go_enter Tryz.func111, Tryz.ntmps111
  go_wp2_with fail
  refine (H1.out _).mono ?_
  rintro e w1 ⟨rfl, hb1⟩
  have HX1 := Lib.hid ((hb1.block w.heap.size (by simp; omega)).trans HX.out)
  have HY1 := Lib.hid ((hb1.block (w.heap.size + 1) (by simp)).trans HY.out)
  have HB1 := Lib.hid (HBA.out.trans (hb1.mono (by simp; omega)))
  clear hb1 x0 x1 x2 x3 x4 y0 y1 y2 y3 y4 H1 HX HY
  by_cases z1 : d1 = 0
  · subst z1
    obtain ⟨x0, x1, x2, x3, x4⟩ := five_cells HX1.out
    obtain ⟨y0, y1, y2, y3, y4⟩ := five_cells HY1.out
    go_wp2_with fail
    refine (H2.out _).mono ?_
    rintro e w2 ⟨rfl, hb2⟩
    have HX2 := Lib.hid ((hb2.block w.heap.size (Array.getElem?_eq_some_iff.1 HX1.out).1).trans HX1.out)
    have HY2 := Lib.hid ((hb2.block (w.heap.size + 1) (Array.getElem?_eq_some_iff.1 HY1.out).1).trans HY1.out)
    have HB2 := Lib.hid (HB1.out.trans (hb2.mono HB1.out.size))
    clear hb2 x0 x1 x2 x3 x4 y0 y1 y2 y3 y4 H2 HX1 HY1
    by_cases z2 : d2 = 0
    · subst z2
      obtain ⟨x0, x1, x2, x3, x4⟩ := five_cells HX2.out
      obtain ⟨y0, y1, y2, y3, y4⟩ := five_cells HY2.out
      go_wp2_with fail
      refine (H3.out _).mono ?_
      rintro e w3 ⟨rfl, hb3⟩
      have HB3 := Lib.hid (HB2.out.trans (hb3.mono HB2.out.size))
      clear hb3
      go_wp2
      go_ret
      exact ⟨by rw [HC.out]; rfl, HB3.out⟩
    · have g2 : (d2 == 0) = false := by simpa using z2
      have HZ := Lib.hid z2
      clear z2
      go_wp2
      go_ret
      have hc := HC.out
      simp [HZ.out] at hc
      exact ⟨by rw [hc]; rfl, HB2.out⟩
  · have g1 : (d1 == 0) = false := by simpa using z1
    have HZ := Lib.hid z1
    clear z1
    go_wp2
    go_ret
    exact ⟨by rw [HC.out, if_neg HZ.out]; rfl, HB1.out⟩
end
section
open Go.RowKit Go.Maps

/-- Objects as cells, five an object. -/
def flatO (es : List OE) : List Value := es.flatMap fun e => [.string e.key.1, .string e.key.2.1, .string e.key.2.2, .int .i64 e.v, e.u]
theorem flatO_get : ∀ (es : List OE) (i : Nat) (e : OE) (j : Nat), es[i]? = some e → j < 5 → (flatO es)[i * 5 + j]? = [Value.string e.key.1, .string e.key.2.1, .string e.key.2.2, .int .i64 e.v, e.u][j]?
  | [], i, e, j, h, _ => by simp at h
  | x :: es, 0, e, j, h, hj => by
    have hx : x = e := by simpa using h
    subst hx
    unfold flatO
    rw [List.flatMap_cons, List.getElem?_append_left (by simp; omega)]
    simp
  | x :: es, i + 1, e, j, h, hj => by
    have ih := flatO_get es i e j (by simpa using h) hj
    unfold flatO at ih ⊢
    rw [List.flatMap_cons, List.getElem?_append_right (by simp; omega)]
    rw [← ih]
    congr 1
    simp
    omega
/-- The document's store at block r: its list at A. -/
def RefO (w : World) (Q : Nat → Prop) (r : Nat) (A : Option Addr) (c : Nat) (os : List Ob) (last : Int) (KL : List Sc) : Prop :=
  ∃ kv es, w.heap[r]? = some (.cells #[kv, .slice A os.length c, .int .i64 last] 77 (0, 0)) ∧ IsKinds w Q kv KL ∧ ¬ Q r ∧ ObR w Q es os ∧ CellsQ w Q A (flatO es) ∧ (A = none → c = 0) ∧ os.length ≤ c
theorem RefO.keep {w w' : World} {Q : Nat → Prop} {r : Nat} {A : Option Addr} {c : Nat} {os : List Ob} {last : Int} {KL : List Sc} (h : RefO w Q r A c os last KL) (hk : KeepQ Q w w') (hr : w'.heap[r]? = w.heap[r]?) : RefO w' Q r A c os last KL := by
  obtain ⟨kv, es, h1, h2, h3, h4, h5, h6, h7⟩ := h
  exact ⟨kv, es, hr.trans h1, h2.keep hk, h3, h4.keep hk, h5.keep hk, h6, h7⟩
theorem RefO.lt {w : World} {Q : Nat → Prop} {r : Nat} {A : Option Addr} {c : Nat} {os : List Ob} {last : Int} {KL : List Sc} (h : RefO w Q r A c os last KL) : r < w.heap.size := by
  obtain ⟨kv, es, h1, _⟩ := h
  exact (Array.getElem?_eq_some_iff.1 h1).1
theorem RefO.below {w w' : World} {Q : Nat → Prop} {r : Nat} {A : Option Addr} {c : Nat} {os : List Ob} {last : Int} {KL : List Sc} (h : RefO w Q r A c os last KL) (hb : Below w.heap.size w w') : RefO w' Q r A c os last KL :=
  h.keep (Below.keepQ hb Q) (hb.block r h.lt)
/-- An object of the list, cell by cell. -/
theorem RefO.at {w : World} {Q : Nat → Prop} {r : Nat} {A : Option Addr} {c : Nat} {os : List Ob} {last : Int} {KL : List Sc} (h : RefO w Q r A c os last KL) (i : Nat) (o : Ob) (ho : os[i]? = some o) :
    ∃ (a : Addr) (u : Value), A = some a ∧ IsRow w Q u o.c ∧ w.cell? (a.add (i * 5)) = some (.string o.key.1) ∧ w.cell? { block := (a.add (i * 5)).block, off := (a.add (i * 5)).off + 1 } = some (.string o.key.2.1) ∧ w.cell? { block := (a.add (i * 5)).block, off := (a.add (i * 5)).off + 2 } = some (.string o.key.2.2) ∧ w.cell? { block := (a.add (i * 5)).block, off := (a.add (i * 5)).off + 3 } = some (.int .i64 o.v) ∧ w.cell? { block := (a.add (i * 5)).block, off := (a.add (i * 5)).off + 4 } = some u := by
  obtain ⟨kv, es, _, _, _, h4, h5, _, _⟩ := h
  obtain ⟨e, he, hk, hv, hr⟩ := h4.get i o ho
  have g : ∀ j u, j < 5 → [Value.string e.key.1, .string e.key.2.1, .string e.key.2.2, .int .i64 e.v, e.u][j]? = some u → ∃ a : Addr, A = some a ∧ w.cell? (a.add (i * 5 + j)) = some u := by
    intro j u hj hu
    obtain ⟨a, h1, _, h3⟩ := h5 (i * 5 + j) u ((flatO_get es i e j he hj).trans hu)
    exact ⟨a, h1, h3⟩
  obtain ⟨a, rfl, g0⟩ := g 0 _ (by omega) rfl
  have gg : ∀ j u, j < 4 → [Value.string e.key.2.1, .string e.key.2.2, .int .i64 e.v, e.u][j]? = some u → w.cell? { block := (a.add (i * 5)).block, off := (a.add (i * 5)).off + (j + 1) } = some u := by
    intro j u hj hu
    obtain ⟨a', h1, h3⟩ := g (j + 1) u (by omega) (by simpa using hu)
    injection h1 with h1
    subst h1
    have z : a.add (i * 5 + (j + 1)) = { block := (a.add (i * 5)).block, off := (a.add (i * 5)).off + (j + 1) } := by
      unfold Addr.add
      split
      · omega
      · split <;> simp_all <;> omega
    rw [← z]
    exact h3
  rw [hk, hv] at gg
  rw [hk] at g0
  exact ⟨a, e.u, rfl, hr, g0, gg 0 _ (by omega) rfl, gg 1 _ (by omega) rfl, gg 2 _ (by omega) rfl, gg 3 _ (by omega) rfl⟩

def cntB (os : List Ob) (sp : ByteArray) : Nat := (os.filter fun x => x.key.2.1.toList == sp.toList).length
theorem cntB_step (os : List Ob) (sp : ByteArray) (k : Nat) (o : Ob) (h : os[k]? = some o) : cntB (os.take (k + 1)) sp = cntB (os.take k) sp + (if (o.key.2.1.toList == sp.toList) = true then 1 else 0) := by
  unfold cntB
  rw [List.take_add_one, h, List.filter_append]
  by_cases hc : (o.key.2.1.toList == sp.toList) = true <;> simp [hc]
theorem cntB_le (os : List Ob) (sp : ByteArray) (k : Nat) : cntB (os.take k) sp ≤ k := by
  unfold cntB
  refine Nat.le_trans (List.length_filter_le _ _) ?_
  rw [List.length_take]
  omega
end
section
open Go.RowKit Go.Maps

end
section
open Go.RowKit Go.Maps

/-- Where an object would stand. -/
def fndK (os : List Ob) (k : Ky) : Nat := os.findIdx fun x => decide (0 ≤ cmpK x.key k)
/-- Whether it is there. -/
def isK (os : List Ob) (k : Ky) : Bool := match os[fndK os k]? with
  | some x => cmpK x.key k == 0
  | none => false
theorem fndK_at (os : List Ob) (k : Ky) (i : Nat) (o : Ob) (ho : os[i]? = some o) (hb : ∀ (j : Nat) (x : Ob), j < i → os[j]? = some x → cmpK x.key k < 0) (hc : ¬ cmpK o.key k < 0) : fndK os k = i ∧ isK os k = (cmpK o.key k == 0) := by
  have hi : fndK os k = i := by
    have hlt := (List.getElem?_eq_some_iff.1 ho).1
    have he := (List.getElem?_eq_some_iff.1 ho).2
    unfold fndK
    rw [List.findIdx_eq hlt]
    refine ⟨by rw [he]; simpa using hc, fun j hj => ?_⟩
    have := hb j _ hj (List.getElem?_eq_getElem (by omega))
    simpa using this
  refine ⟨hi, ?_⟩
  unfold isK
  rw [hi, ho]
theorem fndK_end (os : List Ob) (k : Ky) (hb : ∀ (j : Nat) (x : Ob), j < os.length → os[j]? = some x → cmpK x.key k < 0) : fndK os k = os.length ∧ isK os k = false := by
  have hi : fndK os k = os.length := by
    unfold fndK
    rw [List.findIdx_eq_length]
    intro x hx
    obtain ⟨j, hj, he⟩ := List.mem_iff_getElem.1 hx
    have := hb j x hj (by rw [List.getElem?_eq_getElem hj, he])
    simpa using this
  refine ⟨hi, ?_⟩
  unfold isK
  rw [hi, List.getElem?_eq_none (Nat.le_refl _)]
theorem cell_up {w W : World} {p : Addr} {v : Value} (h : w.cell? p = some v) (hb : Below w.heap.size w W) : W.cell? p = some v := (hb.cell (World.block_lt_of_cell? w _ h)).trans h

set_option maxRecDepth 100000 in
set_option maxHeartbeats 4000000 in
theorem r_findO (Q : Nat → Prop) (r : Nat) (A : Option Addr) (c : Nat) (os : List Ob) (last : Int) (KL : List Sc) (k1 k2 k3 : ByteArray) (v : Int) (A2 : Option Addr) (n2 c2 : Nat) (w : World) (hR : RefO w Q r A c os last KL) (hl : os.length ≤ 1000) (hok : ∀ x ∈ os, kOk x.key) :
    Calls Tryz.prog 78 #[.pointer (some ⟨r, 0, none⟩), .agg #[.string k1, .string k2, .string k3, .int .i64 v, .slice A2 n2 c2]] w fun e w' => e = .returned (.tuple #[.int .i64 (fndK os (k1, k2, k3) : Int), .bool (isK os (k1, k2, k3))]) ∧ Below w.heap.size w w' := by
  have hon := one_new w (.cells #[.string k1, .string k2, .string k3, .int .i64 v, .slice A2 n2 c2] 25)
  have HR := Lib.hid (hR.below hon)
  have HX := Lib.hid (World.alloc_heap_new w (.cells #[.string k1, .string k2, .string k3, .int .i64 v, .slice A2 n2 c2] 25))
  have HON := Lib.hid hon
  have HOK := Lib.hid hok
  clear hR hon hok
  go_enter Tryz.func78, Tryz.ntmps78
  go_wp2
  have hwl : w.heap.size < (w.alloc (.cells #[.string k1, .string k2, .string k3, .int .i64 v, .slice A2 n2 c2] 25)).heap.size := by simp
  generalize w.alloc (.cells #[.string k1, .string k2, .string k3, .int .i64 v, .slice A2 n2 c2] 25) = w1 at *
  have hzz := HON.out.size
  go_loopw [6] (fun i wr => ∃ (k : Nat), k ≤ os.length ∧ i = .int .i64 k ∧ Hid (∀ (j : Nat) (x : Ob), j < k → os[j]? = some x → cmpK x.key (k1, k2, k3) < 0) ∧ Below w1.heap.size w1 wr) (fun i _ => os.length - (intOf i).toNat)
  case atStart => exact ⟨0, Nat.zero_le _, rfl, Lib.hid (fun j x hj => by omega), Below.refl _ _⟩
  case round =>
    obtain ⟨k, hk, rfl, HLT, hb⟩ := hrel
    have HB := Lib.hid hb
    have HRr := Lib.hid (HR.out.below hb)
    have HXr := Lib.hid ((hb.block w.heap.size hwl).trans HX.out)
    have hsz := hb.size
    clear hb
    obtain ⟨XE, xf, hXN, hX1, hX0, hX2⟩ := ext_class wr.heap.size wr (Nat.le_refl _)
    have HX1 := Lib.hid hX1
    have HX2 := Lib.hid hX2
    have hin := hX0 wr.drew (Below.drew (Below.refl _ _))
    obtain ⟨b0, b1, b2, b3, b4⟩ := five_cells HXr.out
    have q1 : wr.cell? ⟨r, 1, none⟩ = some (.slice A os.length c) := by
      obtain ⟨kv, es, h1, _⟩ := HRr.out
      exact cell_of_row wr r 1 _ _ _ h1
    by_cases hlt : k < os.length
    · have hg : decide ((k : Int) < (os.length : Int)) = true := by simp; omega
      obtain ⟨o, ho⟩ : ∃ o, os[k]? = some o := ⟨_, List.getElem?_eq_getElem hlt⟩
      obtain ⟨a, u, rfl, hu, d0, d1, d2, d3, d4⟩ := HRr.out.at k o ho
      obtain ⟨_, Au, cu, rfl, _, _⟩ := hu
      have e0 := fun e => cell_up q1 (HX1.out e)
      have e1 := fun e => cell_up b0 (HX1.out e)
      have e2 := fun e => cell_up b1 (HX1.out e)
      have e3 := fun e => cell_up b2 (HX1.out e)
      have e4 := fun e => cell_up b3 (HX1.out e)
      have e5 := fun e => cell_up b4 (HX1.out e)
      have f0 := fun e => cell_up d0 (HX1.out e)
      have f1 := fun e => cell_up d1 (HX1.out e)
      have f2 := fun e => cell_up d2 (HX1.out e)
      have f3 := fun e => cell_up d3 (HX1.out e)
      have f4 := fun e => cell_up d4 (HX1.out e)
      have HAH := Lib.hid (fun W => r_ahead o.key (k1, k2, k3) o.v v Au A2 o.c.length n2 cu c2 W (HOK.out o (List.mem_of_getElem? ho)))
      simp only at HAH
      have HO := Lib.hid ho
      obtain ⟨d, hd⟩ : ∃ d, cmpK o.key (k1, k2, k3) = d := ⟨_, rfl⟩
      rw [hd] at HAH
      have HD := Lib.hid hd
      generalize o.c.length = nu at *
      clear hX0 hX1 hX2 hd ho d0 d1 d2 d3 d4 b0 b1 b2 b3 b4
      go_wp2
      refine wp_region_quiet (C := fun W => ∃ e, W = xf e) (by kernel_rfl) (by kernel_rfl) hin ?_
      clear hin
      dsimp only
      repeat (go_big_quiet_step ((go_at_call 111; refine (HAH.out _).mono ?_; rintro e w5 ⟨rfl, hb5⟩; exact ⟨rfl, HX2.out _ _ hb5⟩)))
      refine wpQuiet_nil ?_
      intro w5 hW5
      obtain ⟨ee, hW5⟩ := hW5
      have hb5 : Below wr.heap.size wr w5 := by rw [hW5]; exact HX1.out ee
      have HB5 := Lib.hid (HB.out.trans (hb5.mono hsz))
      have HB5r := Lib.hid hb5
      have hwr : w.heap.size < wr.heap.size := (Array.getElem?_eq_some_iff.1 HXr.out).1
      clear hW5 hb5 e0 e1 e2 e3 e4 e5 f0 f1 f2 f3 f4 q1 HX1 HX2
      by_cases hd0 : d < 0
      · have hdt : decide (d < 0) = true := by simpa using hd0
        have HLT2 : Hid (∀ (j : Nat) (x : Ob), j < k + 1 → os[j]? = some x → cmpK x.key (k1, k2, k3) < 0) := Lib.hid (fun j x hj hx => by
          by_cases hjk : j = k
          · subst hjk
            rw [HO.out] at hx
            injection hx with hx
            subst hx
            rw [HD.out]
            exact hd0
          · exact HLT.out j x (by omega) hx)
        go_wp2
        go_roundw
        case rel => exact ⟨k + 1, by omega, by go_num, HLT2, HB5.out⟩
        case measure => simp [intOf]; omega
      · have hdt : decide (d < 0) = false := by simpa using hd0
        have HFI := Lib.hid (fndK_at os (k1, k2, k3) k o HO.out HLT.out (by rw [HD.out]; exact hd0))
        have HR5 := Lib.hid (HRr.out.below HB5r.out)
        have HX5 := Lib.hid ((HB5r.out.block w.heap.size hwr).trans HXr.out)
        obtain ⟨XE, xf, hXN, hX1, hX0, hX2⟩ := ext_class w5.heap.size w5 (Nat.le_refl _)
        have HX1 := Lib.hid hX1
        have HX2 := Lib.hid hX2
        have hin := hX0 w5.drew (Below.drew (Below.refl _ _))
        obtain ⟨b0, b1, b2, b3, b4⟩ := five_cells HX5.out
        have q1 : w5.cell? ⟨r, 1, none⟩ = some (.slice (some a) os.length c) := by
          obtain ⟨kv, es, h1, _⟩ := HR5.out
          exact cell_of_row w5 r 1 _ _ _ h1
        obtain ⟨a', u', ha', hu', d0, d1, d2, d3, d4⟩ := HR5.out.at k o HO.out
        injection ha' with ha'
        subst ha'
        obtain ⟨_, Au', cu', rfl, _, _⟩ := hu'
        have HAH2 := Lib.hid (fun W => r_ahead o.key (k1, k2, k3) o.v v Au' A2 o.c.length n2 cu' c2 W (HOK.out o (List.mem_of_getElem? HO.out)))
        simp only at HAH2
        rw [HD.out] at HAH2 HFI
        generalize o.c.length = nu2 at *
        have e0 := fun e => cell_up q1 (HX1.out e)
        have e1 := fun e => cell_up b0 (HX1.out e)
        have e2 := fun e => cell_up b1 (HX1.out e)
        have e3 := fun e => cell_up b2 (HX1.out e)
        have e4 := fun e => cell_up b3 (HX1.out e)
        have e5 := fun e => cell_up b4 (HX1.out e)
        have f0 := fun e => cell_up d0 (HX1.out e)
        have f1 := fun e => cell_up d1 (HX1.out e)
        have f2 := fun e => cell_up d2 (HX1.out e)
        have f3 := fun e => cell_up d3 (HX1.out e)
        have f4 := fun e => cell_up d4 (HX1.out e)
        clear hX0 hX1 hX2 d0 d1 d2 d3 d4 b0 b1 b2 b3 b4 HAH
        go_wp2
        refine wp_region_quiet (C := fun W => ∃ e, W = xf e) (by kernel_rfl) (by kernel_rfl) hin ?_
        clear hin
        dsimp only
        repeat (go_big_quiet_step ((go_at_call 111; refine (HAH2.out _).mono ?_; rintro e w6 ⟨rfl, hb6⟩; exact ⟨rfl, HX2.out _ _ hb6⟩)))
        refine wpQuiet_nil ?_
        intro w6 hW6
        obtain ⟨ee2, hW6⟩ := hW6
        have hb6 : Below w5.heap.size w5 w6 := by rw [hW6]; exact HX1.out ee2
        have HB6 := Lib.hid (HON.out.trans ((HB5.out.trans (hb6.mono HB5.out.size)).mono hzz))
        clear hW6 hb6 e0 e1 e2 e3 e4 e5 f0 f1 f2 f3 f4 q1 HX1 HX2
        go_wp2
        go_ret2
        exact ⟨by rw [HFI.out.1, HFI.out.2]; rfl, HB6.out⟩
    · have hke : k = os.length := by omega
      subst hke
      have HFI := Lib.hid (fndK_end os (k1, k2, k3) HLT.out)
      have hgf : decide ((os.length : Int) < (os.length : Int)) = false := by simp
      have HBW := Lib.hid (HON.out.trans (HB.out.mono hzz))
      clear hX0 hX1 hX2 hin HX1 HX2 b0 b1 b2 b3 b4
      go_wp2_with fail
      go_quiet (fail)
      go_wp2_with fail
      go_quiet (fail)
      go_wp2
      go_ret2
      exact ⟨by rw [HFI.out.1, HFI.out.2]; rfl, below_drewN' (below_drewN' HBW.out _) _⟩
end
section
open Go.RowKit Go.Maps

theorem r_findK (Q : Nat → Prop) (kv : Value) (l : List Sc) (kind : ByteArray) (w : World) (hv : IsKinds w Q kv l) :
    Calls Tryz.prog 109 #[kv, .string kind] w fun e w' => ∃ nm A n c, e = .returned (.tuple #[.agg #[.string nm, .slice A n c], .int .i64 (codeS (findS l kind))]) ∧ Below w.heap.size w w' := by
  obtain ⟨hl, A, c, rfl, _, _, ls, hr, hc⟩ := hv
  refine (ref_findS Q A ls l l.length c kind w rfl hl hr hc).mono ?_
  rintro e w' ⟨hb, h⟩
  unfold codeS
  cases hf : findS l kind with
  | none =>
    rw [hf] at h
    exact ⟨_, _, _, _, h, hb⟩
  | some x =>
    rw [hf] at h
    obtain ⟨v, h1, h2⟩ := h
    obtain ⟨_, A', c', rfl, _⟩ := h2
    exact ⟨_, _, _, _, h1, hb⟩
theorem mayR_ok {KL : List Sc} {k : Ky} (c : List V) (h : codeS (findS KL k.1) = 0) : mayR KL k c = if ¬ (nameR k.2.1.data.toList = true ∧ nameR k.2.2.data.toList = true) then 3 else fitsR (findS KL k.1) c := by
  have hs : (findS KL k.1).isSome = true := by
    unfold codeS at h
    split at h
    · assumption
    · cases h
  unfold mayR
  simp only [hs, true_and]
theorem mayR_no {KL : List Sc} {k : Ky} (c : List V) (h : codeS (findS KL k.1) ≠ 0) : mayR KL k c = codeS (findS KL k.1) := by
  unfold codeS at h ⊢
  unfold mayR
  cases hf : findS KL k.1 with
  | none => rfl
  | some x => rw [hf] at h; simp at h
set_option maxRecDepth 100000 in
set_option maxHeartbeats 4000000 in
theorem r_mayO (Q R : Nat → Prop) (r : Nat) (A : Option Addr) (c : Nat) (os : List Ob) (last : Int) (KL : List Sc) (k1 k2 k3 : ByteArray) (v : Int) (u : Value) (xs : List V) (w : World) (hR : RefO w Q r A c os last KL) (hr : IsRow w R u xs) :
    Calls Tryz.prog 77 #[.pointer (some ⟨r, 0, none⟩), .agg #[.string k1, .string k2, .string k3, .int .i64 v, u]] w fun e w' => e = .returned (.int .i64 (mayR KL (k1, k2, k3) xs)) ∧ Below w.heap.size w w' := by
  obtain ⟨hl, Au, cu, rfl, hAu, hrow⟩ := hr
  have hon := one_new w (.cells #[.string k1, .string k2, .string k3, .int .i64 v, .slice Au xs.length cu] 25)
  have HX := Lib.hid (World.alloc_heap_new w (.cells #[.string k1, .string k2, .string k3, .int .i64 v, .slice Au xs.length cu] 25))
  have HON := Lib.hid hon
  obtain ⟨a0, a1, a2, a3, a4⟩ := five_cells HX.out
  have HR := Lib.hid (hR.below hon)
  obtain ⟨kv, es, h1, h2, _⟩ := hR
  have HFP := Lib.hid (fun W (h : Below w.heap.size w W) => r_findK Q kv KL k1 W (h2.below h))
  have HFT : Hid (∀ W, Below w.heap.size w W → Calls Tryz.prog 110 #[kv, .string k1, .slice Au xs.length cu] W fun e w' => e = .returned (.int .i64 (fitsR (findS KL k1) xs)) ∧ Below W.heap.size W w') := Lib.hid (fun W h => by
    obtain ⟨hl2, A2, c2, rfl, _, _, ls, hr2, hc2⟩ := h2.below h
    exact ref_fitsS Q A2 ls KL KL.length c2 k1 Au xs xs.length cu W rfl hl2 hr2 hc2 rfl hl (hrow.keep (Below.keepQ h R)).at)
  have hrl : r < w.heap.size := (Array.getElem?_eq_some_iff.1 h1).1
  have q0 : (w.alloc (.cells #[.string k1, .string k2, .string k3, .int .i64 v, .slice Au xs.length cu] 25)).cell? ⟨r, 0, none⟩ = some kv := cell_of_row _ r 0 _ _ _ ((hon.block r hrl).trans h1)
  have HQ0 := Lib.hid q0
  obtain ⟨cd, hcd0⟩ : ∃ cd, codeS (findS KL k1) = cd := ⟨_, rfl⟩
  have HCD : Hid (codeS (findS KL ((k1, k2, k3) : Ky).1) = cd) := Lib.hid hcd0
  rw [hcd0] at HFP
  clear h1 h2 hrow hon hAu hcd0
  go_enter Tryz.func77, Tryz.ntmps77
  go_wp2_with fail
  have hwl : w.heap.size < (w.alloc (.cells #[.string k1, .string k2, .string k3, .int .i64 v, .slice Au xs.length cu] 25)).heap.size := by simp
  generalize w.alloc (.cells #[.string k1, .string k2, .string k3, .int .i64 v, .slice Au xs.length cu] 25) = w1 at *
  have hzz := HON.out.size
  have hon2 := one_new w1 (.cells #[.string ⟨#[]⟩, .slice none 0 0] 126)
  have q0 := HQ0.out
  have q9 := (hon2.cell (p := ⟨r, 0, none⟩) (by show r < w1.heap.size; omega)).trans q0
  have a9 := (hon2.cell (p := ⟨w.heap.size, 0, none⟩) hwl).trans a0
  clear hon2
  go_region_law (first
    | (go_simp; go_at_call 109; refine (HFP.out _ (by exact HON.out.drew)).mono ?_; rintro e w2 ⟨nm, A1, n1, c1, rfl, hb2⟩; have HB2 := Lib.hid ((Below.refl w1.heap.size w1).drew.trans hb2))
    | (go_simp; go_at_call 109; refine (HFP.out _ (by exact (HON.out.trans ((one_new _ _).mono (by omega))).drew)).mono ?_; rintro e w2 ⟨nm, A1, n1, c1, rfl, hb2⟩; have HB2 := Lib.hid ((one_new w1 _).drew.trans (hb2.mono (by simp))); have x6 := (hb2.block w1.heap.size (by simp)).trans (World.alloc_heap_new w1 _); have e60 := cell_of_row w2 w1.heap.size 0 _ _ _ x6; have e61 := cell_of_row w2 w1.heap.size 1 _ _ _ x6; have f60 := frozen_of_row w2 w1.heap.size 0 _ _ x6; have f61 := frozen_of_row w2 w1.heap.size 1 _ _ x6; clear x6))
  all_goals
    first
      | (clear e60 e61 f60 f61
         have HBQ := Lib.hid ((HB2.out.setCell (p := ⟨w1.heap.size, 0, none⟩) (Nat.le_refl _) (.string nm)).setCell (p := ⟨w1.heap.size, 1, none⟩) (Nat.le_refl _) (.slice A1 n1 c1))
         generalize ((w2.setCell ⟨w1.heap.size, 0, none⟩ (.string nm)).setCell ⟨w1.heap.size, 1, none⟩ (.slice A1 n1 c1)) = wq at *)
      | (have HBQ := Lib.hid (HB2.out.trans ((one_new w2 (.cells #[.string nm, .slice A1 n1 c1] 126)).mono HB2.out.size))
         generalize (w2.alloc (.cells #[.string nm, .slice A1 n1 c1] 126)) = wq at *)
    have HBW := Lib.hid (HON.out.trans (HBQ.out.mono hzz))
    clear q0 q9 a9 a0 a1 a2 a3 a4
    by_cases hcd : cd = 0
    · have hg : (cd != 0) = false := by rw [hcd]; rfl
      have HM := Lib.hid (mayR_ok (k := (k1, k2, k3)) xs (HCD.out.trans hcd))
      obtain ⟨b0, b1, b2, b3, b4⟩ := five_cells ((HBQ.out.block w.heap.size hwl).trans HX.out)
      have q1 := (HBQ.out.cell (p := ⟨r, 0, none⟩) (by show r < w1.heap.size; omega)).trans HQ0.out
      clear hcd
      simp only at HM
      go_wp2_with fail
      refine (ref_name k2 wq).mono ?_
      rintro e w3 ⟨rfl, hw3⟩
      have hw3 := hw3.symm
      subst hw3
      rcases Bool.eq_false_or_eq_true (nameR k2.data.toList) with n2 | n2
      · rw [n2]
        go_wp2_with fail
        refine (ref_name k3 wq).mono ?_
        rintro e w3 ⟨rfl, hw3⟩
        have hw3 := hw3.symm
        subst hw3
        rcases Bool.eq_false_or_eq_true (nameR k3.data.toList) with n3 | n3
        · rw [n3]
          have HMM := Lib.hid (show mayR KL (k1, k2, k3) xs = fitsR (findS KL k1) xs by rw [HM.out, if_neg (by simp [n2, n3])])
          clear n2 n3
          go_wp2_with fail
          go_region_held3 (fun W : World => W.cell? ⟨r, 0, none⟩ = some kv ∧ W.cell? ⟨w.heap.size, 0, none⟩ = some (.string k1) ∧ W.cell? ⟨w.heap.size, 4, none⟩ = some (.slice Au xs.length cu)) (go_keep)
            (first | (go_at_call 110; refine (HFT.out _ (by exact HBW.out.drew)).mono ?_; rintro e w5 ⟨rfl, hb5⟩; have HB5 := Lib.hid (HBW.out.drew.trans (hb5.mono HBW.out.size)); have c0 := (hb5.cell (World.block_lt_of_cell? wq _ q1)).trans q1; have c1 := (hb5.cell (World.block_lt_of_cell? wq _ b0)).trans b0; have c4 := (hb5.cell (World.block_lt_of_cell? wq _ b4)).trans b4; clear hb5))
          go_wp2
          go_ret
          exact ⟨by rw [HMM.out]; rfl, HB5.out⟩
        · rw [n3]
          have HMM := Lib.hid (show mayR KL (k1, k2, k3) xs = 3 by rw [HM.out, if_pos (by simp [n3])])
          clear n2 n3
          go_wp2
          go_ret
          exact ⟨by rw [HMM.out]; rfl, HBW.out⟩
      · rw [n2]
        have HMM := Lib.hid (show mayR KL (k1, k2, k3) xs = 3 by rw [HM.out, if_pos (by simp [n2])])
        clear n2
        go_wp2
        go_ret
        exact ⟨by rw [HMM.out]; rfl, HBW.out⟩
    · have hg : (cd != 0) = true := by simpa using hcd
      have HMM := Lib.hid (show mayR KL (k1, k2, k3) xs = cd by rw [mayR_no (k := (k1, k2, k3)) xs (by rw [HCD.out]; exact hcd), HCD.out])
      clear hcd
      go_wp2
      go_ret
      exact ⟨by rw [HMM.out]; rfl, HBW.out⟩
end
end
end Go.Proofs.YtdhpoaecedpbdaaGreat
