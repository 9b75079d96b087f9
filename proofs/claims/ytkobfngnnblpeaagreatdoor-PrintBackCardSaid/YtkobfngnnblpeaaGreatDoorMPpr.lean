/-
  The program's Rule: the rule that a text is, or where, and why, it is none: what the document's Rule answers.
  Condition: the package-level errors of strconv stand.
-/
import Derived.Test.YtkobfngnnblpeaaGreatDoorM14
import Derived.Test.YtkobfngnnblpeaaGreatDoorM43
namespace Go.Proofs.YtkobfngnnblpeaaGreatDoor
open Go.RowKit

theorem lexR_ok {l : List UInt8} {ls : List Tok} {z : Int} (h : lexR l = (ls, z, 0)) : z = 0 := by
  unfold lexR at h
  split at h
  · injection h with _ h
    injection h with _ h
    exact absurd h (by decide)
  · split at h
    · injection h with _ h
      injection h with h _
      exact h.symm
    · injection h with _ h
      injection h with _ h
      exact absurd h (by decide)
theorem bsetk {w W : World} {b i : Nat} (h : Below w.heap.size w W) (hb : w.heap.size ≤ b) (v : Value) : Below w.heap.size w (W.setCell ⟨b, i, none⟩ v) := h.setCell (p := ⟨b, i, none⟩) hb v
abbrev bInt (k : Int) : Obj := .cells #[.int .i64 k] 3
abbrev bErr (k : Int) : Obj := .cells #[.int .i64 k] 24
/-- The world behind the three results' stores. -/
def fin (W : World) (p0 p1 p2 : Nat) (v0 v1 v2 v3 v4 v5 v6 : Value) (z e : Int) : World :=
  ((((((((W.setCell ⟨p0, 0, none⟩ v0).setCell ⟨p0, 1, none⟩ v1).setCell ⟨p0, 2, none⟩ v2).setCell ⟨p0, 3, none⟩ v3).setCell ⟨p0, 4, none⟩ v4).setCell ⟨p0, 5, none⟩ v5).setCell ⟨p0, 6, none⟩ v6).setCell ⟨p1, 0, none⟩ (.int .i64 z)).setCell ⟨p2, 0, none⟩ (.int .i64 e)
theorem heap_drewK (X : World) : X.drew.heap = X.heap := rfl
theorem fin_at {W : World} {p0 p1 p2 : Nat} {u1 u2 : Int} (v0 v1 v2 v3 v4 v5 v6 : Value) (z e : Int) (h0 : W.heap[p0]? = some zeroRu) (h1 : W.heap[p1]? = some (bInt u1)) (h2 : W.heap[p2]? = some (bErr u2)) (n1 : p1 ≠ p0) (n2 : p2 ≠ p0) (n3 : p2 ≠ p1) :
    (fin W p0 p1 p2 v0 v1 v2 v3 v4 v5 v6 z e).heap[p0]? = some (.cells #[v0, v1, v2, v3, v4, v5, v6] 35 (0, 0)) ∧ (fin W p0 p1 p2 v0 v1 v2 v3 v4 v5 v6 z e).heap[p1]? = some (bInt z) ∧ (fin W p0 p1 p2 v0 v1 v2 v3 v4 v5 v6 z e).heap[p2]? = some (bErr e) ∧
      (∀ k, k ≠ p0 → k ≠ p1 → k ≠ p2 → (fin W p0 p1 p2 v0 v1 v2 v3 v4 v5 v6 z e).heap[k]? = W.heap[k]?) := by
  have hs : ∀ (A : World) (b i : Nat) (v : Value) (k : Nat), k ≠ b → (A.setCell ⟨b, i, none⟩ v).heap[k]? = A.heap[k]? := fun A b i v k hk => Below.heap_setCell A ⟨b, i, none⟩ v k hk
  have k1 := heap_setCell_same W p0 0 _ _ v0 h0
  have k2 := heap_setCell_same _ p0 1 _ _ v1 k1
  have k3 := heap_setCell_same _ p0 2 _ _ v2 k2
  have k4 := heap_setCell_same _ p0 3 _ _ v3 k3
  have k5 := heap_setCell_same _ p0 4 _ _ v4 k4
  have k6 := heap_setCell_same _ p0 5 _ _ v5 k5
  have k7 := heap_setCell_same _ p0 6 _ _ v6 k6
  have hother : ∀ k, k ≠ p0 → (((((((W.setCell ⟨p0, 0, none⟩ v0).setCell ⟨p0, 1, none⟩ v1).setCell ⟨p0, 2, none⟩ v2).setCell ⟨p0, 3, none⟩ v3).setCell ⟨p0, 4, none⟩ v4).setCell ⟨p0, 5, none⟩ v5).setCell ⟨p0, 6, none⟩ v6).heap[k]? = W.heap[k]? := fun k hk => by
    rw [hs _ _ 6 v6 k hk, hs _ _ 5 v5 k hk, hs _ _ 4 v4 k hk, hs _ _ 3 v3 k hk, hs _ _ 2 v2 k hk, hs _ _ 1 v1 k hk, hs _ _ 0 v0 k hk]
  have m1 := heap_setCell_same _ p1 0 _ _ (.int .i64 z) ((hother p1 n1).trans h1)
  refine ⟨?_, ?_, ?_, fun k a b c => ?_⟩
  · exact (hs _ _ _ _ _ (Ne.symm n2)).trans ((hs _ _ _ _ _ (Ne.symm n1)).trans k7)
  · exact (hs _ _ _ _ _ (Ne.symm n3)).trans m1
  · exact heap_setCell_same _ p2 0 _ _ _ ((hs _ _ _ _ _ n3).trans ((hother p2 n2).trans h2))
  · exact (hs _ _ _ _ _ c).trans ((hs _ _ _ _ _ b).trans (hother k a))
theorem res_rule {W : World} {tm : Array Value} {p0 p1 p2 : Nat} {v0 v1 v2 v3 v4 v5 v6 : Value} {z e : Int} (t2 : tm.getD 2 undef = .pointer (some ⟨p0, 0, none⟩)) (t3 : tm.getD 3 undef = .pointer (some ⟨p1, 0, none⟩)) (t4 : tm.getD 4 undef = .pointer (some ⟨p2, 0, none⟩))
    (h0 : W.heap[p0]? = some (.cells #[v0, v1, v2, v3, v4, v5, v6] 35 (0, 0))) (h1 : W.heap[p1]? = some (bInt z)) (h2 : W.heap[p2]? = some (bErr e)) :
    (results Tryz.f7 tm).run Tryz.prog W = .ok (.tuple #[.agg #[v0, v1, v2, v3, v4, v5, v6], .int .i64 z, .int .i64 e]) W := by
  obtain ⟨c0, c1, c2, c3, c4, c5, c6, _⟩ := box7r_of h0
  have d1 := cell_of_row _ p1 0 _ _ (0, 0) h1
  have d2 := cell_of_row _ p2 0 _ _ (0, 0) h2
  have t2' : tm[2]?.getD undef = .pointer (some ⟨p0, 0, none⟩) := by rw [← Array.getD_eq_getD_getElem?]; exact t2
  have t3' : tm[3]?.getD undef = .pointer (some ⟨p1, 0, none⟩) := by rw [← Array.getD_eq_getD_getElem?]; exact t3
  have t4' : tm[4]?.getD undef = .pointer (some ⟨p2, 0, none⟩) := by rw [← Array.getD_eq_getD_getElem?]; exact t4
  simp [results, Tryz.results7, go_sem, t2', t3', t4', c0, c1, c2, c3, c4, c5, c6, d1, d2]
set_option maxRecDepth 100000 in
set_option maxHeartbeats 2000000 in
theorem p_rule (s : ByteArray) (w : World) (hv : Vars w) : Calls Tryz.prog 7 #[.string s] w fun e w' => RuRes w w' e (ruleR s.data.toList) := by
  have hmf : ∀ (fn : Fn) (first cap : Array Value) (w : World), (Instr.makeFunc fn first cap).run Tryz.prog w = .ok (.func fn first cap) w := fun _ _ _ _ => rfl
  have hb3 : Below w.heap.size w (((w.alloc zeroRu).alloc (bInt 0)).alloc (bErr 0)) := ((one_new w zeroRu).alloc (by simp) _).alloc (by simp; omega) _
  have HLX := Lib.hid (lx_read2 s (((w.alloc zeroRu).alloc (bInt 0)).alloc (bErr 0)) (hv.later hb3))
  obtain ⟨⟨ls, z, e0⟩, hR⟩ : ∃ q, lexR s.data.toList = q := ⟨_, rfl⟩
  rw [hR] at HLX
  have HRR : Hid (ruleR s.data.toList = if e0 ≠ 0 then (noRu, z, e0) else if (ruX ls).2.why = 0 then ((ruX ls).1, 0, 0) else (noRu, (ruX ls).2.pos, (ruX ls).2.why)) := Lib.hid (by unfold ruleR; rw [hR])
  have HTK : Hid (e0 = 0 → TkG ls ∧ ls.length ≤ 400 ∧ z = 0) := Lib.hid fun h => by
    subst h
    have h1 := lexR_tk (l := s.data.toList) (by rw [hR])
    have h2 := lexR_some (l := s.data.toList) (by rw [hR])
    rw [hR] at h1 h2
    exact ⟨h1, h2.2, lexR_ok hR⟩
  obtain ⟨RR, hRR⟩ : ∃ RR, RR = ruleR s.data.toList := ⟨_, rfl⟩
  rw [← hRR] at HRR ⊢
  have HB3 := Lib.hid hb3
  have hz3 : (((w.alloc zeroRu).alloc (bInt 0)).alloc (bErr 0)).heap.size = w.heap.size + 3 := by simp
  have HK0 := Lib.hid (show (((w.alloc zeroRu).alloc (bInt 0)).alloc (bErr 0)).heap[w.heap.size]? = some zeroRu from ((Below.heap_alloc _ _ _ (by simp; omega)).trans (Below.heap_alloc _ _ _ (by simp))).trans (heap_alloc_new w zeroRu))
  have HK1 := Lib.hid (show (((w.alloc zeroRu).alloc (bInt 0)).alloc (bErr 0)).heap[w.heap.size + 1]? = some (bInt 0) from (Below.heap_alloc _ _ _ (by simp)).trans (by have h := heap_alloc_new (w.alloc zeroRu) (bInt 0); rwa [World.size_alloc] at h))
  have HK2 := Lib.hid (show (((w.alloc zeroRu).alloc (bInt 0)).alloc (bErr 0)).heap[w.heap.size + 1 + 1]? = some (bErr 0) from by have h := heap_alloc_new ((w.alloc zeroRu).alloc (bInt 0)) (bErr 0); simpa using h)
  have HZ3 := Lib.hid hz3
  clear hR hRR hb3 hz3 hv
  go_enter_defers Tryz.func7, Tryz.ntmps7
  go_wp2_with fail
  refine HLX.out.mono ?_
  rintro e w4 ⟨A, c, rfl, hAc, hlc, hto, hag, hb4⟩
  have hs4 := hb4.size
  rw [HZ3.out] at hs4
  have k0 := (hb4.block w.heap.size (by rw [HZ3.out]; omega)).trans HK0.out
  have k1 := (hb4.block (w.heap.size + 1) (by rw [HZ3.out]; omega)).trans HK1.out
  have k2 := (hb4.block (w.heap.size + 1 + 1) (by rw [HZ3.out]; omega)).trans HK2.out
  have d1 := cell_of_row _ (w.heap.size + 1) 0 _ _ (0, 0) k1
  have d2 := cell_of_row _ (w.heap.size + 1 + 1) 0 _ _ (0, 0) k2
  have g1 : w4.frozen? ⟨w.heap.size + 1, 0, none⟩ = false := by simp [World.frozen?, k1]
  have g2 : w4.frozen? ⟨w.heap.size + 1 + 1, 0, none⟩ = false := by simp [World.frozen?, k2]
  have HB4 := Lib.hid (HB3.out.trans (hb4.mono (by rw [HZ3.out]; omega)))
  have HTO := Lib.hid hto
  have HAG := Lib.hid hag
  have HLC := Lib.hid hlc
  have K0 := Lib.hid k0
  have K1 := Lib.hid k1
  have K2 := Lib.hid k2
  clear hAc hlc hto hag hb4 HLX HB3 HK0 HK1 HK2 HZ3 k0 k1 k2
  by_cases he : e0 = 0
  · obtain ⟨htk, hl4, hz0⟩ := HTK.out he
    subst he hz0
    have hq : RR = if (ruX ls).2.why = 0 then ((ruX ls).1, 0, 0) else (noRu, (ruX ls).2.pos, (ruX ls).2.why) := by rw [HRR.out]; rfl
    have HQ := Lib.hid hq
    have hln : 0 < ls.length := by
      rcases ls with _ | ⟨x, r⟩
      · exact htk.elim
      · simp
    obtain ⟨t, rfl⟩ : ∃ t, A = some ⟨t, 0, none⟩ := by
      obtain ⟨x, hx⟩ : ∃ x, ls[0]? = some x := ⟨_, List.getElem?_eq_getElem hln⟩
      obtain ⟨a, ha, _⟩ := HTO.out (0 * 7 + 0) _ ((flatT_at ls 0 x 0 hx (by omega)).trans rfl)
      obtain ⟨g, rfl⟩ := HAG.out a ha
      exact ⟨g, ha⟩
    have htl : t < w4.heap.size := by
      obtain ⟨x, hx⟩ : ∃ x, ls[0]? = some x := ⟨_, List.getElem?_eq_getElem hln⟩
      exact World.block_lt_of_cell? w4 ⟨t, 0 * 7 + 0, none⟩ (HTO.out.at 0 0 x _ hx (by omega) rfl)
    have hts : t ≠ w.heap.size + 1 ∧ t ≠ w.heap.size + 1 + 1 := by
      obtain ⟨x, hx⟩ : ∃ x, ls[0]? = some x := ⟨_, List.getElem?_eq_getElem hln⟩
      have h6 := HTO.out.at 0 6 x _ hx (by omega) rfl
      constructor
      · intro e
        rw [e] at h6
        have := cell_of_row _ (w.heap.size + 1) (0 * 7 + 6) _ _ (0, 0) K1.out
        rw [h6] at this
        simp at this
      · intro e
        rw [e] at h6
        have := cell_of_row _ (w.heap.size + 1 + 1) (0 * 7 + 6) _ _ (0, 0) K2.out
        rw [h6] at this
        simp at this
    obtain ⟨W5, hW5⟩ : ∃ W5, W5 = (w4.setCell ⟨w.heap.size + 1, 0, none⟩ (.int .i64 0)).setCell ⟨w.heap.size + 1 + 1, 0, none⟩ (.int .i64 0) := ⟨_, rfl⟩
    have hz5 : W5.heap.size = w4.heap.size := by rw [hW5]; simp
    have hh5 : ∀ k, k ≠ w.heap.size + 1 → k ≠ w.heap.size + 1 + 1 → W5.heap[k]? = w4.heap[k]? := fun k h1 h2 => by
      rw [hW5]
      exact (Below.heap_setCell _ ⟨w.heap.size + 1 + 1, 0, none⟩ _ k h2).trans (Below.heap_setCell _ ⟨w.heap.size + 1, 0, none⟩ _ k h1)
    have hb5 : Below w.heap.size w W5 := by rw [hW5]; exact bsetk (bsetk HB4.out (by omega) _) (by omega) _
    have m0 := (hh5 w.heap.size (by omega) (by omega)).trans K0.out
    have m1 : W5.heap[w.heap.size + 1]? = some (bInt 0) := by
      rw [hW5]
      exact (Below.heap_setCell _ ⟨w.heap.size + 1 + 1, 0, none⟩ _ _ (by show w.heap.size + 1 ≠ w.heap.size + 1 + 1; omega)).trans (heap_setCell_same w4 (w.heap.size + 1) 0 _ _ _ K1.out)
    have m2 : W5.heap[w.heap.size + 1 + 1]? = some (bErr 0) := by
      rw [hW5]
      exact heap_setCell_same _ (w.heap.size + 1 + 1) 0 _ _ _ ((Below.heap_setCell _ ⟨w.heap.size + 1, 0, none⟩ _ _ (by show w.heap.size + 1 + 1 ≠ w.heap.size + 1; omega)).trans K2.out)
    have hon := one_new W5 (.cells #[.slice (some ⟨t, 0, none⟩) ls.length c] 55)
    have hrd : RdK (W5.alloc (.cells #[.slice (some ⟨t, 0, none⟩) ls.length c] 55)) W5.heap.size t ls 0 :=
      ⟨0, c, heap_alloc_new W5 _, fun _ => rfl, HLC.out, (HTO.out.block (fun _ => hh5 t hts.1 hts.2)).block (fun hk => hon.block t hk), by omega, by omega, hl4⟩
    have HRL := Lib.hid (k_rule hrd ⟨⟨htk, hl4⟩, hln⟩)
    have HPQ := Lib.hid (ruleP_eqv ⟨htk, hl4⟩)
    have hz6 : (W5.alloc (.cells #[.slice (some ⟨t, 0, none⟩) ls.length c] 55)).heap.size = w4.heap.size + 1 := by rw [World.size_alloc, hz5]
    rw [hz6, hz5] at HRL
    have HM0 := Lib.hid ((hon.block w.heap.size (by omega)).trans m0)
    have HM1 := Lib.hid ((hon.block (w.heap.size + 1) (by omega)).trans m1)
    have HM2 := Lib.hid ((hon.block (w.heap.size + 1 + 1) (by omega)).trans m2)
    have HB5 := Lib.hid (hb5.trans (hon.mono (by omega)))
    clear hq hts hz6 hz5 hh5 hb5 m0 m1 m2 hon hrd htk hl4 HTK HRR HTO HAG HLC
    subst hW5
    go_wp2_with fail
    refine HRL.out.mono ?_
    intro e w6 hres
    rcases ResE.cases hres with ⟨rx, v, r', hp, rfl, hrv, ho6⟩ | ⟨a', y, hp, rfl, ho6⟩
    · obtain ⟨rhv, rbv, rfl, hd6, hl6⟩ := hrv
      have hpq := HPQ.out
      rw [hp] at hpq
      have HPE : Hid (RR = (rx, 0, 0)) := Lib.hid (by rw [HQ.out, if_pos hpq.2, hpq.1])
      have hs6 := ho6.size
      simp only [World.size_alloc, World.size_setCell] at hs6
      have hm0 := (ho6.2 w.heap.size (by simp; omega) (by omega)).trans HM0.out
      have hm1 := (ho6.2 (w.heap.size + 1) (by simp; omega) (by omega)).trans HM1.out
      have hm2 := (ho6.2 (w.heap.size + 1 + 1) (by simp; omega) (by omega)).trans HM2.out
      have M0 := Lib.hid hm0
      have M1 := Lib.hid hm1
      have M2 := Lib.hid hm2
      have hW7 : w.heap.size + 1 + 1 < w6.heap.size := by omega
      have HSB : Hid (w.heap.size ≤ w4.heap.size + 1) := Lib.hid (by omega)
      have HB6 : Hid (Below w.heap.size w w6) := Lib.hid (HB5.out.trans (ho6.below (by omega) (by simp; omega)))
      obtain ⟨c0, c1, c2, c3, c4, c5, c6, cf⟩ := box7r_of hm0
      have f0 := cf 0
      have f1 := cf 1
      have f2 := cf 2
      have f3 := cf 3
      have f4 := cf 4
      have f5 := cf 5
      have f6 := cf 6
      have x1 := cell_of_row _ (w.heap.size + 1) 0 _ _ (0, 0) hm1
      have x2 := cell_of_row _ (w.heap.size + 1 + 1) 0 _ _ (0, 0) hm2
      have y1 : w6.frozen? ⟨w.heap.size + 1, 0, none⟩ = false := by simp [World.frozen?, hm1]
      have y2 : w6.frozen? ⟨w.heap.size + 1 + 1, 0, none⟩ = false := by simp [World.frozen?, hm2]
      obtain ⟨hA, hc, hhv⟩ := hd6.shape
      obtain ⟨_, bA, bc, hbv, _⟩ := hl6.atoms
      subst hhv hbv
      have HD6 := Lib.hid hd6
      have HL6 := Lib.hid hl6
      obtain ⟨rk, rnm, rhd, rag, rof, rlim, rbd⟩ := rx
      clear hp hpq ho6 hres hm0 hm1 hm2 cf hd6 hl6 HRL HPQ HQ HM0 HM1 HM2 HB5
      go_wp2
      refine leaves_cons (f := 13) (args := #[.pointer (some ⟨w.heap.size, 0, none⟩), .pointer (some ⟨w.heap.size + 1, 0, none⟩), .pointer (some ⟨w.heap.size + 1 + 1, 0, none⟩)]) (by simp) (by simp [go_sem]) ?_
      refine (k_idle _ _ _ _).mono ?_
      rintro e u' w7 ⟨rfl, rfl, rfl⟩
      obtain ⟨q0, q1, q2, q3⟩ := fin_at (.int .i64 rk) (.string rnm) (.slice hA rhd.length hc) (.int .i64 rag) (.string rof) (.int .i64 rlim) (.slice bA rbd.length bc) 0 0 M0.out M1.out M2.out (by omega) (by omega) (by omega)
      have hon7 := one_new (fin w6 w.heap.size (w.heap.size + 1) (w.heap.size + 1 + 1) (.int .i64 rk) (.string rnm) (.slice hA rhd.length hc) (.int .i64 rag) (.string rof) (.int .i64 rlim) (.slice bA rbd.length bc) 0 0) zeroFt
      have hfs : (fin w6 w.heap.size (w.heap.size + 1) (w.heap.size + 1 + 1) (.int .i64 rk) (.string rnm) (.slice hA rhd.length hc) (.int .i64 rag) (.string rof) (.int .i64 rlim) (.slice bA rbd.length bc) 0 0).heap.size = w6.heap.size := by simp [fin]
      refine ⟨_, res_rule rfl rfl rfl ((hon7.block w.heap.size (by omega)).trans q0) ((hon7.block (w.heap.size + 1) (by omega)).trans q1) ((hon7.block (w.heap.size + 1 + 1) (by omega)).trans q2), ?_⟩
      have hd7 := HD6.out.byBlock fun k hk => (hon7.block k (by have := (HD6.out.lt k hk).2; omega)).trans (q3 k (by have := (HD6.out.lt k hk).1; omega) (by have := (HD6.out.lt k hk).1; omega) (by have := (HD6.out.lt k hk).1; omega))
      have hl7 := HL6.out.byBlock fun k hk hlt => (hon7.block k (by omega)).trans (q3 k (by omega) (by omega) (by omega))
      have hbf : Below w.heap.size w (fin w6 w.heap.size (w.heap.size + 1) (w.heap.size + 1 + 1) (.int .i64 rk) (.string rnm) (.slice hA rhd.length hc) (.int .i64 rag) (.string rof) (.int .i64 rlim) (.slice bA rbd.length bc) 0 0) := by
        unfold fin
        repeat (first | (with_reducible exact HB6.out) | (with_reducible refine bsetk ?_ (by omega) _))
      exact ⟨_, _, by rw [HPE.out], by rw [HPE.out]; exact OwnF.lower hd7 HSB.out, by rw [HPE.out]; exact LisAt.lower hl7 HSB.out, hbf.trans (hon7.mono (by omega))⟩
    · have hpq := HPQ.out
      rw [hp] at hpq
      obtain ⟨hw, hpos, hy0⟩ := hpq
      have HPE : Hid (RR = (noRu, a', y)) := Lib.hid (by rw [HQ.out, hw, if_neg hy0, hpos])
      have hs6 := ho6.size
      simp only [World.size_alloc, World.size_setCell] at hs6
      have hm0 := (ho6.2 w.heap.size (by simp; omega) (by omega)).trans HM0.out
      have hm1 := (ho6.2 (w.heap.size + 1) (by simp; omega) (by omega)).trans HM1.out
      have hm2 := (ho6.2 (w.heap.size + 1 + 1) (by simp; omega) (by omega)).trans HM2.out
      have HB6 : Hid (Below w.heap.size w w6) := Lib.hid (HB5.out.trans (ho6.below (by omega) (by simp; omega)))
      have M0 := Lib.hid hm0
      have M1 := Lib.hid hm1
      have M2 := Lib.hid hm2
      have hW7 : w.heap.size + 1 + 1 < w6.heap.size := by omega
      clear hp hw hpos hy0 ho6 hres hm0 hm1 hm2 HRL HPQ HQ HM0 HM1 HM2 HB5
      go_wp2
      refine leaves_cons (f := 13) (args := #[.pointer (some ⟨w.heap.size, 0, none⟩), .pointer (some ⟨w.heap.size + 1, 0, none⟩), .pointer (some ⟨w.heap.size + 1 + 1, 0, none⟩)]) (by simp) (by simp [go_sem]) ?_
      refine (k_catch w.heap.size a' y [] w6 0 0 M0.out M1.out M2.out).mono ?_
      rintro e u' w7 ⟨rfl, rfl, rfl⟩
      obtain ⟨q0, q1, q2, q3⟩ := fin_at (.int .i64 0) (.string ⟨#[]⟩) (.slice none 0 0) (.int .i64 0) (.string ⟨#[]⟩) (.int .i64 0) (.slice none 0 0) a' y M0.out M1.out M2.out (by omega) (by omega) (by omega)
      have hon7 := one_new (caught w6 w.heap.size a' y) (.cells #[.int .i64 a', .int .i64 y] 52)
      have hfs : (caught w6 w.heap.size a' y).heap.size = w6.heap.size := by simp [caught]
      have q0d : (World.drew ((caught w6 w.heap.size a' y).alloc (.cells #[.int .i64 a', .int .i64 y] 52))).heap[w.heap.size]? = some (.cells #[.int .i64 0, .string ⟨#[]⟩, .slice none 0 0, .int .i64 0, .string ⟨#[]⟩, .int .i64 0, .slice none 0 0] 35 (0, 0)) := (hon7.block w.heap.size (by omega)).trans q0
      have q1d : (World.drew ((caught w6 w.heap.size a' y).alloc (.cells #[.int .i64 a', .int .i64 y] 52))).heap[w.heap.size + 1]? = some (bInt a') := (hon7.block (w.heap.size + 1) (by omega)).trans q1
      have q2d : (World.drew ((caught w6 w.heap.size a' y).alloc (.cells #[.int .i64 a', .int .i64 y] 52))).heap[w.heap.size + 1 + 1]? = some (bErr y) := (hon7.block (w.heap.size + 1 + 1) (by omega)).trans q2
      have hbf : Below w.heap.size w (caught w6 w.heap.size a' y) := by
        unfold caught
        repeat (first | (with_reducible exact HB6.out) | (with_reducible refine bsetk ?_ (by omega) _))
      refine ⟨_, res_rule (W := World.drew ((caught w6 w.heap.size a' y).alloc (.cells #[.int .i64 a', .int .i64 y] 52))) (p0 := w.heap.size) (p1 := w.heap.size + 1) (p2 := w.heap.size + 1 + 1) rfl rfl rfl q0d q1d q2d, ?_⟩
      exact ⟨.slice none 0 0, .slice none 0 0, by rw [HPE.out]; rfl, by rw [HPE.out]; exact OwnF.nil _ _, by rw [HPE.out]; exact LisAt.nil _ _, (hbf.trans (hon7.mono (by omega))).drew⟩
  · have he' : (e0 != 0) = true := by simpa using he
    have hq : RR = (noRu, z, e0) := by rw [HRR.out, if_pos he]
    have HQ := Lib.hid hq
    clear hq he HRR HTK HTO HAG HLC
    obtain ⟨c0, c1, c2, c3, c4, c5, c6, cf⟩ := box7r_of K0.out
    have f0 := cf 0
    have f1 := cf 1
    have f2 := cf 2
    have f3 := cf 3
    have f4 := cf 4
    have f5 := cf 5
    have f6 := cf 6
    clear cf
    go_wp2
    go_region
    all_goals
      go_wp2
      have K1b := heap_setCell_same w4 (w.heap.size + 1) 0 _ _ (.int .i64 z) K1.out
      have K2b := heap_setCell_same _ (w.heap.size + 1 + 1) 0 _ _ (.int .i64 e0) ((Below.heap_setCell w4 ⟨w.heap.size + 1, 0, none⟩ (.int .i64 z) (w.heap.size + 1 + 1) (by show w.heap.size + 1 + 1 ≠ w.heap.size + 1; omega)).trans K2.out)
      have K1c := (Below.heap_setCell (w4.setCell ⟨w.heap.size + 1, 0, none⟩ (.int .i64 z)) ⟨w.heap.size + 1 + 1, 0, none⟩ (.int .i64 e0) (w.heap.size + 1) (by show w.heap.size + 1 ≠ w.heap.size + 1 + 1; omega)).trans K1b
      have K0c := (Below.heap_setCell (w4.setCell ⟨w.heap.size + 1, 0, none⟩ (.int .i64 z)) ⟨w.heap.size + 1 + 1, 0, none⟩ (.int .i64 e0) w.heap.size (by show w.heap.size ≠ w.heap.size + 1 + 1; omega)).trans ((Below.heap_setCell w4 ⟨w.heap.size + 1, 0, none⟩ (.int .i64 z) w.heap.size (by show w.heap.size ≠ w.heap.size + 1; omega)).trans K0.out)
      obtain ⟨q0, q1, q2, _⟩ := fin_at (.int .i64 0) (.string ⟨#[]⟩) (.slice none 0 0) (.int .i64 0) (.string ⟨#[]⟩) (.int .i64 0) (.slice none 0 0) z e0 K0c K1c K2b (by omega) (by omega) (by omega)
      have q0d : (World.drew (fin ((w4.setCell ⟨w.heap.size + 1, 0, none⟩ (.int .i64 z)).setCell ⟨w.heap.size + 1 + 1, 0, none⟩ (.int .i64 e0)) w.heap.size (w.heap.size + 1) (w.heap.size + 1 + 1) (.int .i64 0) (.string ⟨#[]⟩) (.slice none 0 0) (.int .i64 0) (.string ⟨#[]⟩) (.int .i64 0) (.slice none 0 0) z e0)).heap[w.heap.size]? = some (.cells #[.int .i64 0, .string ⟨#[]⟩, .slice none 0 0, .int .i64 0, .string ⟨#[]⟩, .int .i64 0, .slice none 0 0] 35 (0, 0)) := by rw [heap_drewK]; exact q0
      have q1d : (World.drew (fin ((w4.setCell ⟨w.heap.size + 1, 0, none⟩ (.int .i64 z)).setCell ⟨w.heap.size + 1 + 1, 0, none⟩ (.int .i64 e0)) w.heap.size (w.heap.size + 1) (w.heap.size + 1 + 1) (.int .i64 0) (.string ⟨#[]⟩) (.slice none 0 0) (.int .i64 0) (.string ⟨#[]⟩) (.int .i64 0) (.slice none 0 0) z e0)).heap[w.heap.size + 1]? = some (bInt z) := by rw [heap_drewK]; exact q1
      have q2d : (World.drew (fin ((w4.setCell ⟨w.heap.size + 1, 0, none⟩ (.int .i64 z)).setCell ⟨w.heap.size + 1 + 1, 0, none⟩ (.int .i64 e0)) w.heap.size (w.heap.size + 1) (w.heap.size + 1 + 1) (.int .i64 0) (.string ⟨#[]⟩) (.slice none 0 0) (.int .i64 0) (.string ⟨#[]⟩) (.int .i64 0) (.slice none 0 0) z e0)).heap[w.heap.size + 1 + 1]? = some (bErr e0) := by rw [heap_drewK]; exact q2
      refine ⟨_, res_rule (W := World.drew (fin ((w4.setCell ⟨w.heap.size + 1, 0, none⟩ (.int .i64 z)).setCell ⟨w.heap.size + 1 + 1, 0, none⟩ (.int .i64 e0)) w.heap.size (w.heap.size + 1) (w.heap.size + 1 + 1) (.int .i64 0) (.string ⟨#[]⟩) (.slice none 0 0) (.int .i64 0) (.string ⟨#[]⟩) (.int .i64 0) (.slice none 0 0) z e0)) (p0 := w.heap.size) (p1 := w.heap.size + 1) (p2 := w.heap.size + 1 + 1) rfl rfl rfl q0d q1d q2d, ?_⟩
      exact ⟨.slice none 0 0, .slice none 0 0, by rw [HQ.out]; rfl, by rw [HQ.out]; exact OwnF.nil _ _, by rw [HQ.out]; exact LisAt.nil _ _, Below.drew (by repeat (first | (with_reducible exact HB4.out) | (with_reducible refine bsetk ?_ (by omega) _)))⟩
end Go.Proofs.YtkobfngnnblpeaaGreatDoor
