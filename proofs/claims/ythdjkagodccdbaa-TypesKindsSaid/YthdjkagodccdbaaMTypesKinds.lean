/-
  TypesKinds' walk at any kinds and text in memory.
  Condition: what lies in memory as kinds of any columns.
  TypesKinds of verdererlaw14 answers true at every kinds and text, and the kinds read afterwards as they read before: the columns of a rule that any text is are what the document says.
  No condition.
-/
import Derived.Test.YthdjkagodccdbaaMSopen
import Derived.Test.YthdjkagodccdbaaMTkt
import Derived.Test.YthdjkagodccdbaaMTkv
namespace Go.Proofs.Ythdjkagodccdbaa
section
open Go.RowKit Go.Maps

def scK (e : WS) : Sc := ⟨e.nm, e.cols⟩
theorem WeakS.kindsW {w : World} {A : Option Addr} {es : List WS} (h : WeakS w A es) :
    ScW w (fun k => k < w.heap.size) (es.map fun e => (e.nm, e.v)) (es.map scK) ∧ CellsQ w (fun k => k < w.heap.size) A (flatS (es.map fun e => (e.nm, e.v))) := by
  refine ⟨?_, ?_⟩
  · have h1 : ∀ e ∈ es, WS.Ok w e := by
      intro e he
      obtain ⟨i, hi⟩ := List.mem_iff_getElem?.1 he
      exact (h i e hi).1
    clear h
    induction es with
    | nil => trivial
    | cons e es ih =>
      obtain ⟨o1, o2, o3, o4⟩ := h1 e (by simp)
      exact ⟨rfl, ⟨o1, e.at', e.cap, rfl, fun h6 => ⟨(show e.cols.length ≤ 1000000 by have h7 : e.cols.length ≤ 6 := h6; omega), e.at', e.cap, rfl, o2, o3, o4⟩⟩, ih (fun e he => h1 e (by simp [he]))⟩
  · intro j u hj
    obtain ⟨q, hq⟩ : ∃ q, q = j / 2 := ⟨_, rfl⟩
    have hql : q < es.length := by
      have := (List.getElem?_eq_some_iff.1 hj).1
      rw [flatS_len, List.length_map] at this
      omega
    have he := List.getElem?_eq_getElem hql
    obtain ⟨_, a, ha, hb, k0, k1⟩ := h _ _ he
    obtain ⟨f0, f1⟩ := flatS_at (es.map fun e => (e.nm, e.v)) q _ (by rw [List.getElem?_map, he]; rfl)
    refine ⟨a, ha, ?_⟩
    rcases (show j = q * 2 ∨ j = q * 2 + 1 by omega) with e | e
    · subst e
      rw [f0] at hj
      injection hj with hj
      subst hj
      exact ⟨hb, k0⟩
    · subst e
      rw [f1] at hj
      injection hj with hj
      subst hj
      rw [← add_off a (q * 2) 1 (by omega)]
      exact ⟨hb, k1⟩

theorem ScW.all {w : World} {Q : Nat → Prop} {ls : List RS} {l : List Sc} (h : ScW w Q ls l) (h0 : faultR l = 0) : ScR w Q ls l := by
  have hs := h.take_ok l.length (fun x hx => faultR_six h0 x (List.mem_of_mem_take hx))
  rw [List.take_of_length_le (Nat.le_refl _), List.take_of_length_le (by rw [h.len]; exact Nat.le_refl _)] at hs
  exact hs
set_option maxRecDepth 100000 in
set_option maxHeartbeats 8000000 in
theorem typesKinds_all (kn : ∀ W : World, Calls Try.prog 6 #[] W fun e w' => e = .returned (.bool true) ∧ Below W.heap.size W w') (A : Option Addr) (es : List WS) (c : Nat) (s : ByteArray) (w : World) (hA : A = none → c = 0) (hcap : es.length ≤ c) (hx : WeakS w A es) :
    Calls Try.prog 3 #[.slice A es.length c, .string s] w fun e w' => e = .returned (.bool true) ∧ Below w.heap.size w w' := by
  have KN := Lib.hid kn
  have BB0 : Hid (Below w.heap.size w w) := Lib.hid (Below.refl _ _)
  obtain ⟨hk1, hk2⟩ := hx.kindsW
  have hSl : (es.map scK).length = es.length := List.length_map _
  generalize (es.map fun e => (e.nm, e.v)) = ls at *
  generalize es.map scK = S at *
  obtain ⟨n, hn⟩ : ∃ n, es.length = n := ⟨_, rfl⟩
  rw [hn] at hSl hcap ⊢
  have HNW : Hid (n ≤ 20 → ∀ W, Below w.heap.size w W → Calls Try.prog 8 #[.slice A n c] W (NewIs W S)) := Lib.hid fun h W hW => by
    have h5 := s_newW _ A c ls S W (by omega) hA (by omega) (hk1.keep (Below.keepQ hW _)) (hk2.below hW)
    rw [hSl] at h5
    exact h5
  have HCK : Hid (n ≤ 20 → ∀ W, Below w.heap.size w W → Calls Try.prog 9 #[.slice A n c] W fun e w' => e = .returned (.int .i64 (faultR S)) ∧ Below W.heap.size W w') := Lib.hid fun h W hW => ref_checkW _ A ls S n c W hSl.symm (by omega) (hk1.keep (Below.keepQ hW _)) (hk2.below hW)
  have HED : Hid (faultR S = 0 → n ≤ 20 → ∀ (W : World) (r : RuG), Below w.heap.size w W → r.Ok W → SmlT r → Calls Try.prog 11 #[.agg r.cells, .slice A n c, .slice none 0 0] W (TypIs W (headT S [] r.pl))) := Lib.hid fun h0 h W r hW hr hs => by
    have h5 := e_Head r _ S A ls c W hr hs (fun x hx => Nat.le_trans (faultR_six h0 x hx) (by decide)) ((hk1.all h0).keep (Below.keepQ hW _)) (hk2.below hW) (by omega)
    rw [hSl] at h5
    exact h5
  have HPD : Hid (faultR S = 0 → ∀ (W : World) (r : RuG) (Q : Nat → Prop) (g : Nat), r.Ok W → SmlT r → SetIs W Q g S → Calls Try.prog 10 #[.agg r.cells, .pointer (some ⟨g, 0, none⟩), .slice none 0 0] W (TypIs W (headT S [] r.pl))) := Lib.hid fun h0 W r Q g hr hs hS => p_Head r g Q S [] none [] 0 W hr hs hS (fun x hx => Nat.le_trans (faultR_six h0 x hx) (by decide)) trivial (fun j u hj => by simp [flatS] at hj) (by simp) (fun _ h => absurd h List.not_mem_nil)
  have HRL : Hid (∀ W, Calls Try.prog 7 #[.string s] W fun e w' => ∃ (G : RuG) (k0 : Int) (nm : ByteArray) (hA : Option Addr) (hn hc : Nat) (ag : Int) (ofv : ByteArray) (lim : Int) (bA : Option Addr) (bl bc : Nat) (z1 z2 : Int), e = .returned (.tuple #[.agg #[.int .i64 k0, .string nm, .slice hA hn hc, .int .i64 ag, .string ofv, .int .i64 lim, .slice bA bl bc], .int .i64 z1, .int .i64 z2]) ∧ Hid (G.cells = #[.int .i64 k0, .string nm, .slice hA hn hc, .int .i64 ag, .string ofv, .int .i64 lim, .slice bA bl bc]) ∧ Hid (G.Ok w') ∧ Hid (SmlT G) ∧ Below W.heap.size W w') := Lib.hid fun W => (rf_rule s W).mono fun e w' h => by
    obtain ⟨⟨k, nm, hA, hc, head, ag, ofv, lim, bA, bc, body⟩, rfl, hp, hok, hb⟩ := h.rule
    exact ⟨⟨k, nm, hA, hc, head, ag, ofv, lim, bA, bc, body⟩, k, nm, hA, head.length, hc, ag, ofv, lim, bA, body.length, bc, _, _, rfl, Lib.hid rfl, Lib.hid hok, Lib.hid (SmlP.smlT hp (ruleR_sml _)), hb⟩
  obtain ⟨F, hF⟩ : ∃ F, faultR S = F := ⟨_, rfl⟩
  have HF := Lib.hid hF
  clear kn hk1 hk2 hSl hx hn hA hcap hF
  go_enter Try.func3, Try.ntmps3
  by_cases h20 : 20 < n
  · have BB := BB0
    go_wp2_with fail
    refine (KN.out _).mono ?_
    rintro e w9 ⟨rfl, hb9⟩
    have HB9 := Lib.hid (BB.out.trans (hb9.mono BB.out.size))
    clear hb9
    go_wp2
    go_ret
    exact ⟨rfl, HB9.out⟩
  by_cases h1000 : 1000 < s.size
  · have BB := BB0
    go_wp2_with fail
    refine (KN.out _).mono ?_
    rintro e w9 ⟨rfl, hb9⟩
    have HB9 := Lib.hid (BB.out.trans (hb9.mono BB.out.size))
    clear hb9
    go_wp2
    go_ret
    exact ⟨rfl, HB9.out⟩
  have HN20 := Lib.hid (show n ≤ 20 by omega)
  go_wp2_with fail
  refine (HRL.out _).mono ?_
  rintro e w1 ⟨G, k0, nm, hA, hn, hc, ag, ofv, lim, bA, bl, bc, z1, z2, rfl, HGC, HOK, HST, hb1⟩
  obtain ⟨H, hH⟩ : ∃ H, headT S [] G.pl = H := ⟨_, rfl⟩
  have HH := Lib.hid hH
  have HX1 := Lib.hid (heap_alloc_new w1 (.cells #[.int .i64 k0, .string nm, .slice hA hn hc, .int .i64 ag, .string ofv, .int .i64 lim, .slice bA bl bc] 27))
  have HON1 := Lib.hid (one_new w1 (.cells #[.int .i64 k0, .string nm, .slice hA hn hc, .int .i64 ag, .string ofv, .int .i64 lim, .slice bA bl bc] 27))
  have HZ1 : Hid ((w1.alloc (.cells #[.int .i64 k0, .string nm, .slice hA hn hc, .int .i64 ag, .string ofv, .int .i64 lim, .slice bA bl bc] 27)).heap.size = w1.heap.size + 1) := Lib.hid (World.size_alloc _ _)
  have HB1 := Lib.hid (hb1.trans ((one_new w1 (.cells #[.int .i64 k0, .string nm, .slice hA hn hc, .int .i64 ag, .string ofv, .int .i64 lim, .slice bA bl bc] 27)).mono hb1.size))
  have HNN := Lib.hid (HNW.out HN20.out _ HB1.out)
  clear hb1 hH HNW HRL
  go_wp2_with fail
  refine HNN.out.mono ?_
  rintro e w2 ⟨hb2, ⟨hz, g, rfl, hs⟩ | ⟨hz, rfl⟩⟩
  · have HB2 := Lib.hid (HB1.out.trans (hb2.mono HB1.out.size))
    have HB12 := Lib.hid (HON1.out.trans (hb2.mono HON1.out.size))
    have HBX2 := Lib.hid ((hb2.block w1.heap.size (by rw [HZ1.out]; omega)).trans HX1.out)
    have HLT : Hid (w1.heap.size < w2.heap.size) := Lib.hid (Array.getElem?_eq_some_iff.1 HBX2.out).1
    have HHD : Hid (Calls Try.prog 10 #[.agg #[.int .i64 k0, .string nm, .slice hA hn hc, .int .i64 ag, .string ofv, .int .i64 lim, .slice bA bl bc], .pointer (some ⟨g, 0, none⟩), .slice none 0 0] w2 (TypIs w2 H)) := Lib.hid (by
      have h5 := HPD.out hz w2 G _ g (HOK.out.below HB12.out) HST.out hs
      rw [HH.out, HGC.out] at h5
      exact h5)
    have HEE : Hid (∀ W, Below w2.heap.size w2 W → Calls Try.prog 11 #[.agg #[.int .i64 k0, .string nm, .slice hA hn hc, .int .i64 ag, .string ofv, .int .i64 lim, .slice bA bl bc], .slice A n c, .slice none 0 0] W (TypIs W H)) := Lib.hid fun W hW => by
      have h5 := HED.out hz HN20.out W G (HB2.out.trans (hW.mono HB2.out.size)) ((HOK.out.below HB12.out).below hW) HST.out
      rw [HH.out, HGC.out] at h5
      exact h5
    obtain ⟨Hc, Hp, Hq⟩ := H
    have hpp : (Hp == Hp) = true := by simp
    have hqq : (Hq == Hq) = true := by simp
    obtain ⟨m0, m1, m2, m3, m4, m5, m6⟩ := box7g_of HBX2.out
    clear hb2 hz hs
    go_wp2_with fail
    refine HHD.out.mono ?_
    rintro e w3 ⟨v3, rfl, hv3, hb3⟩
    have HV3 := Lib.hid hv3
    obtain ⟨_, A3, c3, rfl, -, -, -⟩ := hv3
    have HB3 := Lib.hid (HB2.out.trans (hb3.mono HB2.out.size))
    have HB3d := Lib.hid hb3
    have HE3 := Lib.hid (HEE.out w3 hb3)
    clear m0 m1 m2 m3 m4 m5 m6
    obtain ⟨m0, m1, m2, m3, m4, m5, m6⟩ := box7g_of ((hb3.block w1.heap.size HLT.out).trans HBX2.out)
    clear hb3
    go_wp2_with fail
    refine HE3.out.mono ?_
    rintro e w4 ⟨v4, rfl, hv4, hb4⟩
    have HSM := Lib.hid (r_same14 _ _ _ _ _ _ (HV3.out.below hb4) hv4)
    obtain ⟨_, A4, c4, rfl, -, -, -⟩ := hv4
    have HB4 := Lib.hid (HB3.out.trans (hb4.mono HB3.out.size))
    clear m0 m1 m2 m3 m4 m5 m6 hb4
    go_wp2_with fail
    refine HSM.out.mono ?_
    rintro e w5 ⟨rfl, hb5⟩
    have BB := Lib.hid (HB4.out.trans (hb5.mono HB4.out.size))
    clear hb5
    go_wp2_with fail
    refine (KN.out _).mono ?_
    rintro e w9 ⟨rfl, hb9⟩
    have HB9 := Lib.hid (BB.out.trans (hb9.mono BB.out.size))
    clear hb9
    go_wp2
    go_ret
    exact ⟨rfl, HB9.out⟩
  · have HB2 := Lib.hid (HB1.out.trans (hb2.mono HB1.out.size))
    have HC2 := Lib.hid (HCK.out HN20.out _ HB2.out)
    rw [HF.out] at hz HC2 ⊢
    have bF : (F != 0) = true := by simpa using hz
    have bFF : (F == F) = true := by simp
    clear hb2 hz
    go_wp2_with fail
    refine HC2.out.mono ?_
    rintro e w3 ⟨rfl, hb3⟩
    have BB := Lib.hid (HB2.out.trans (hb3.mono HB2.out.size))
    clear hb3
    go_wp2_with fail
    refine (KN.out _).mono ?_
    rintro e w9 ⟨rfl, hb9⟩
    have HB9 := Lib.hid (BB.out.trans (hb9.mono BB.out.size))
    clear hb9
    go_wp2
    go_ret
    exact ⟨rfl, HB9.out⟩
end
end Go.Proofs.Ythdjkagodccdbaa
namespace Go.Proofs.Ythdjkagodccdbaa
section
open Go.ChangeShapes Go.WideShapes Go.ChangeAt Go.RowKit Go.Deep
theorem readable_KS (t : TypeId) (h : t ∈ [22, 9]) : Try.prog.readableRec t = true ∧ t < Try.prog.types.size := by
  simp only [List.mem_cons, List.not_mem_nil, or_false] at h
  rcases h with rfl | rfl
  · exact ⟨by kernel_rfl, of_decide_eq_true (by kernel_rfl)⟩
  · exact ⟨by kernel_rfl, of_decide_eq_true (by kernel_rfl)⟩

set_option maxRecDepth 100000 in
theorem typesKinds_lifted (os : Os) (started : os.Started) (H : Type) (enc : TypeId × Value → H) :
    ReturnsInHanded {} Try.checked os 3 .any (Rows.typesKindsSpec.pre6 enc Try.prog Try.f3 Rows.typesKindsRow.domain false) (Rows.typesKindsSpec.post enc Try.prog Try.f3 false true false false) := by
  refine returnsInHanded_of_change (C := Try.checked) Try.own started (by kernel_rfl) Try.func3
    (ChangeSpec.witness6 (enc := enc) (C := Try.checked) false ⟨#[], #[.slice none 0 0, .string ⟨#[]⟩], []⟩ 8 (by kernel_rfl) (by kernel_rfl) (by kernel_rfl) (by kernel_rfl)) ?_
  intro W base args ds gs before hval0 hW hcnd _
  have hval : ∀ (j : Nat) t v, Try.f3.params[j]? = some t → args[j]? = some v → Value.okWide Try.prog W .any base t v := hval0
  have hW' := hW
  obtain ⟨p, q, hA0, hV, rfl, hfz, hnd⟩ := hW
  have hAA : DataW.TrodAll enc Try.prog W 0 (fun _ => true) true Try.f3.params.toList args.toList ds p := hA0
  rw [Try.params3] at hAA hval
  obtain ⟨v0, v1, d0, d1, p0, p1, rfl, rfl, rfl, h0, h1⟩ := trodAll_two hAA
  obtain ⟨rfl, rfl⟩ := trodVars_none hV
  obtain ⟨A, c, es, rfl, _, hAc, hcap, hX⟩ := open_scs h0 (hval 0 22 v0 rfl rfl)
  obtain ⟨s, rfl, _, _, _⟩ := Go.ChangeMaps.open_string Try.underlying9 (hval 1 9 v1 rfl rfl) h1
  refine (typesKinds_all lw_known14 A es c s W hAc hcap hX).mono fun e W' ⟨he, hb⟩ => ?_
  subst he
  exact ⟨_, rfl, law_post Try.laidOut rfl hW' (by rw [Try.params3]; intro t ht; exact readable_KS t (by simp at ht; rcases ht with rfl | rfl <;> simp)) (by kernel_rfl) Try.underlying4 rfl rfl rfl hb⟩

theorem typesKinds_holds : Rows.TypesKindsSaid :=
  OpenClaim.holds_of_wide 3 Try.f3 rfl rfl rfl rfl rfl rfl rfl ⟨rfl, rfl, rfl, rfl, rfl⟩ rfl rfl rfl rfl rfl (by kernel_rfl) Try.func3 (by kernel_rfl)
    (of_decide_eq_true (by kernel_rfl)) (by unfold Func.isWrapper; first | (rw [if_pos (by decide +kernel)]; kernel_rfl) | (rw [if_neg (by decide +kernel)]; exact ⟨rfl, rfl⟩))
    (fun os started H enc _ => typesKinds_lifted os started H enc)
end
end Go.Proofs.Ythdjkagodccdbaa
