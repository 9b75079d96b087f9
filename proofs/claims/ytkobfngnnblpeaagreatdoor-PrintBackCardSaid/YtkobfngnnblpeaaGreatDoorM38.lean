/-
  The program's parser: a comparison; how many atoms are ahead.
  Condition: no more than four hundred tokens, and one that is left.
  The program's parser: how many atoms are ahead that are not negated.
  Condition: literals in memory, no more than a hundred.
-/
import Derived.Test.YtkobfngnnblpeaaGreatDoorM31
import Derived.Test.YtkobfngnnblpeaaGreatDoorM33
namespace Go.Proofs.YtkobfngnnblpeaaGreatDoor
section
open Go.RowKit

/-- A literal as it is answered. -/
def LitV (base : Nat) (x : LiP) (v : Value) (w : World) : Prop := ∃ u, v = .agg #[.bool x.n, .string x.s, u, .int .i64 x.o] ∧ ArgsAt w base u x.args
theorem six_of {W : World} {g : Nat} {a b c d e f : Value} {T : TypeId} (h : W.heap[g]? = some (.cells #[a, b, c, d, e, f] T (0, 0))) :
    W.cell? ⟨g, 0, none⟩ = some a ∧ W.cell? ⟨g, 1, none⟩ = some b ∧ W.cell? ⟨g, 2, none⟩ = some c ∧ W.cell? ⟨g, 3, none⟩ = some d ∧ W.cell? ⟨g, 4, none⟩ = some e ∧ W.cell? ⟨g, 5, none⟩ = some f := by
  obtain ⟨h0, h1, h2, h3, h4, h5, _⟩ := box6_of h
  exact ⟨h0, h1, h2, h3, h4, h5⟩
abbrev zeroLi : Obj := .cells #[.bool false, .string ⟨#[]⟩, .slice none 0 0, .int .i64 0] 50
theorem lx_op_any (b : ByteArray) (W : World) : Calls Tryz.prog 131 #[.string b] W fun e w' => e = .returned (.int .i64 (opF b.data.toList)) ∧ Below W.heap.size W w' := by
  first
    | exact (lx_op b W).mono fun e w' h => ⟨h.1, by rw [h.2]; exact Below.refl _ _⟩
    | exact (lx_op b W).mono fun e w' h => ⟨h.1, by rw [← h.2]; exact Below.refl _ _⟩
    | exact lx_op b W
set_option maxRecDepth 100000 in
set_option maxHeartbeats 4000000 in
theorem k_cmp {w : World} {g t i : Nat} {ls : List Tok} (h : RdK w g t ls i) (hA : AtI ls i) (y : TmP) :
    Calls Tryz.prog 105 #[.pointer (some ⟨g, 0, none⟩), y.val] w (ResP w g t ls (LitV w.heap.size) (cmpP y (ls.drop i))) := by
  obtain ⟨⟨k, b, ⟨vk, vf, vn, vt⟩, a⟩, hX⟩ : ∃ x, hdT (ls.drop i) = x := ⟨_, rfl⟩
  obtain ⟨ys, ya, ⟨yk, yf, yn, yt⟩⟩ := y
  have hon := two_new w (.cells #[.string ys, .bool ya, .int .i64 yk, .bool yf, .int .i64 yn, .string yt] 47) zeroLi
  have HT := Lib.hid (k_take (h.below hon) hA.i hX)
  have HO0 := Lib.hid (OnlyR.of (g := g) hon)
  have hl := h.lt
  have ht := h.tlt (by have := hA.i; omega)
  have HY0 := Lib.hid (first_of_two w (.cells #[.string ys, .bool ya, .int .i64 yk, .bool yf, .int .i64 yn, .string yt] 47) zeroLi)
  have HZ0 := Lib.hid (second_of_two w (.cells #[.string ys, .bool ya, .int .i64 yk, .bool yf, .int .i64 yn, .string yt] 47) zeroLi)
  have HP : Hid (cmpP ⟨ys, ya, ⟨yk, yf, yn, yt⟩⟩ (ls.drop i) = if opF b.data.toList = 0 then .bad a 7 else (termP (ls.drop (i + 1))).bind fun z r => .ok ⟨false, ⟨#[]⟩, [⟨ys, ya, ⟨yk, yf, yn, yt⟩⟩, z], opF b.data.toList⟩ r) := Lib.hid (by unfold cmpP opT; rw [hX, List.tail_drop])
  have HNX : Hid (opF b.data.toList ≠ 0 → AtI ls (i + 1)) := Lib.hid (fun ho => (hA.next (fun hk => by
    have e2 : hdT (ls.drop i) = nowR ls ⟨i, 0, 0⟩ := now_hd (s := ⟨i, 0, 0⟩) hA.i
    rcases hA.at.cases with he | ⟨hi, _⟩
    · rw [← e2, hX] at he
      apply ho
      have e3 : b = ⟨#[]⟩ := he.2.1
      rw [e3]
      rfl
    · rw [← e2] at hi
      rcases hi.k with h1 | h1 | h1 <;> rw [h1] at hk <;> exact absurd hk (by decide))).1)
  have HOP := Lib.hid (lx_op_any b)
  have HG := Lib.hid hA.g
  generalize cmpP ⟨ys, ya, ⟨yk, yf, yn, yt⟩⟩ (ls.drop i) = R at *
  generalize opF b.data.toList = op at *
  show Calls Tryz.prog 105 #[.pointer (some ⟨g, 0, none⟩), .agg #[.string ys, .bool ya, .int .i64 yk, .bool yf, .int .i64 yn, .string yt]] w (ResP w g t ls (LitV w.heap.size) R)
  clear h hX hA hon
  go_enter Tryz.func105, Tryz.ntmps105
  go_wp2_with fail
  refine HT.out.mono ?_
  rintro e w1 ⟨rfl, hr1, ho1⟩
  have hs1 := ho1.size
  simp only [World.size_alloc] at hs1
  have hy1 := (ho1.2 w.heap.size (by simp; omega) (by omega)).trans HY0.out
  have hz1 := (ho1.2 (w.heap.size + 1) (by simp) (by omega)).trans HZ0.out
  have hb1 := one_new w1 (tkO k b vk vf vn vt a)
  have HR2 := Lib.hid (hr1.below hb1)
  have HO2 := Lib.hid ((HO0.out.trans ho1).trans (OnlyR.of (g := g) hb1))
  have HY2 := Lib.hid ((hb1.block w.heap.size (by omega)).trans hy1)
  have HZ2 := Lib.hid ((hb1.block (w.heap.size + 1) (by omega)).trans hz1)
  have hh := heap_alloc_new w1 (tkO k b vk vf vn vt a)
  have HH := Lib.hid hh
  obtain ⟨n0, n1, n2, n3, n4, n5, n6⟩ := tok_cells hh
  clear hr1 ho1 hy1 hz1 hb1 hh HT HO0 HY0 HZ0
  go_wp2_with fail
  refine (HOP.out _).mono ?_
  rintro e w3 ⟨rfl, hb3⟩
  have HR3 := Lib.hid (HR2.out.below hb3)
  have HO3 := Lib.hid (HO2.out.trans (OnlyR.of (g := g) hb3))
  have hy3 := (hb3.block w.heap.size (by simp; omega)).trans HY2.out
  have hz3 := (hb3.block (w.heap.size + 1) (by simp; omega)).trans HZ2.out
  have hh3 := (hb3.block w1.heap.size (by simp)).trans HH.out
  have hs3 := hb3.size
  simp only [World.size_alloc] at hs3
  obtain ⟨m0, m1, m2, m3, m4, m5, m6⟩ := tok_cells hh3
  clear hb3 hh3 n0 n1 n2 n3 n4 n5 n6 HOP HR2 HO2 HY2 HZ2 HH
  by_cases ho : op = 0
  · have hp := HP.out
    rw [if_pos ho] at hp
    have HP := Lib.hid hp
    subst ho
    clear hp hy3 hz3
    go_wp2
    exact ⟨rfl, ResP.bad HO3.out HP.out⟩
  · have b1 : (op == 0) = false := by simpa using ho
    have hp := HP.out
    rw [if_neg ho] at hp
    have HP2 := Lib.hid hp
    have HI := Lib.hid (HNX.out ho)
    have HY3 := Lib.hid hy3
    have HZ3 := Lib.hid hz3
    obtain ⟨d0, d1, d2, d3, d4, d5, _⟩ := box6_of hy3
    cases hq : termP (ls.drop (i + 1)) with
    | ok z r =>
      obtain ⟨zs, za, ⟨zk, zf, zn, zt⟩⟩ := z
      have HTM : Hid (∀ W, Below w3.heap.size w3 W → Calls Tryz.prog 104 #[.pointer (some ⟨g, 0, none⟩)] W fun e w' => e = .returned (.agg #[.string zs, .bool za, .int .i64 zk, .bool zf, .int .i64 zn, .string zt]) ∧ (∃ j1, r = ls.drop j1 ∧ AtI ls j1 ∧ RdK w' g t ls j1) ∧ OnlyR g W w') := Lib.hid fun W hW => (k_term (HR3.out.below hW) HI.out).mono fun e w' hres => by
        rw [hq] at hres
        rcases ResP.cases HG.out hres with ⟨z', v, j1, hp, rfl, rfl, hj1, hr5, ho5⟩ | ⟨a', y', hp, rfl, ho5⟩
        · injection hp with h1 h2
          subst h1
          exact ⟨rfl, ⟨j1, h2, hj1, hr5⟩, ho5⟩
        · cases hp
      have HP3 : Hid (R = .ok ⟨false, ⟨#[]⟩, [⟨ys, ya, ⟨yk, yf, yn, yt⟩⟩, ⟨zs, za, ⟨zk, zf, zn, zt⟩⟩], op⟩ r) := Lib.hid (by rw [HP2.out, hq]; rfl)
      clear ho hp hy3 hz3 HP HNX HP2 hq
      go_wp2
      go_region_with
        (first
          | (go_at_call 104; refine (HTM.out _ ((Below.refl _ _).drew)).mono ?_; rintro e w5 ⟨rfl, hj5, ho5⟩; have HJ5 := Lib.hid hj5; have HO5 := Lib.hid ho5; have hs5 : w3.heap.size ≤ w5.heap.size := ho5.size; have hy5 := (ho5.2 w.heap.size (by show _ < w3.heap.size; omega) (by omega)).trans HY3.out; have HY5 := Lib.hid hy5; obtain ⟨e0, e1, e2, e3, e4, e5, _⟩ := box6_of hy5; have hz5 := (ho5.2 (w.heap.size + 1) (by show _ < w3.heap.size; omega) (by omega)).trans HZ3.out; have HZ5 := Lib.hid hz5; obtain ⟨z0, z1, z2, z3, zf'⟩ := box4_of hz5; have f0 := zf' 0; have f1 := zf' 1; have f2 := zf' 2; have f3 := zf' 3; have hz6 := (Below.heap_alloc w5 (.cells #[.string ys, .bool ya, .int .i64 yk, .bool yf, .int .i64 yn, .string yt, .string zs, .bool za, .int .i64 zk, .bool zf, .int .i64 zn, .string zt] 47) (w.heap.size + 1) (by omega)).trans hz5; obtain ⟨x0, x1, x2, x3, xf'⟩ := box4_of hz6; have g0 := xf' 0; have g1 := xf' 1; have g2 := xf' 2; have g3 := xf' 3; clear hj5 ho5 hy5 hz5 zf' hz6 xf'))
      all_goals
        obtain ⟨j1, hr, hj1, hk1⟩ := HJ5.out
        have hw5 : w.heap.size + 1 < w5.heap.size := by omega
        have hk6 := hk1.below (one_new w5 (.cells #[.string ys, .bool ya, .int .i64 yk, .bool yf, .int .i64 yn, .string yt, .string zs, .bool za, .int .i64 zk, .bool zf, .int .i64 zn, .string zt] 47))
        have ho6 := (HO3.out.drew.trans HO5.out).trans (OnlyR.of (g := g) (one_new w5 (.cells #[.string ys, .bool ya, .int .i64 yk, .bool yf, .int .i64 yn, .string yt, .string zs, .bool za, .int .i64 zk, .bool zf, .int .i64 zn, .string zt] 47)))
        have hA6 := heap_alloc_new w5 (.cells #[.string ys, .bool ya, .int .i64 yk, .bool yf, .int .i64 yn, .string yt, .string zs, .bool za, .int .i64 zk, .bool zf, .int .i64 zn, .string zt] 47)
        have HK6 := Lib.hid hk6
        have HO6 := Lib.hid ho6
        have HA6 := Lib.hid hA6
        have HJ1 := Lib.hid hj1
        have HRJ := Lib.hid hr
        clear hk6 ho6 hA6 hj1 hr hk1 HJ5 HO5
        go_wp2
        exact bodyPost_ret (v := .agg #[.bool false, .string ⟨#[]⟩, .slice (some ⟨w5.heap.size, 0, none⟩) 2 2, .int .i64 op]) (by simp [results, Tryz.results105, go_sem, x0, x1, x2, x3]) rfl
          (ResP.ok (a := ⟨false, ⟨#[]⟩, [⟨ys, ya, ⟨yk, yf, yn, yt⟩⟩, ⟨zs, za, ⟨zk, zf, zn, zt⟩⟩], op⟩) (i := j1) (by repeat (first | (with_reducible exact HO6.out) | (with_reducible refine OnlyR.new ?_ (Nat.le_succ _) _))) (by rw [HP3.out, HRJ.out])
            ⟨_, rfl, .inr ⟨w5.heap.size, 2, _, rfl, by omega, by repeat (first | (with_reducible exact HA6.out) | (refine (Below.heap_setCell _ _ _ _ (by show w5.heap.size ≠ w.heap.size + 1; omega)).trans ?_)), els_two (by repeat (first | (with_reducible exact HA6.out) | (refine (Below.heap_setCell _ _ _ _ (by show w5.heap.size ≠ w.heap.size + 1; omega)).trans ?_)))⟩⟩ HJ1.out
            (by repeat (first | (with_reducible exact HK6.out) | (with_reducible refine RdK.new ?_ (by omega) (by omega) _))))
    | bad a' y' =>
      have HTM : Hid (∀ W, Below w3.heap.size w3 W → Calls Tryz.prog 104 #[.pointer (some ⟨g, 0, none⟩)] W fun e w' => e = faultE a' y' ∧ OnlyR g W w') := Lib.hid fun W hW => (k_term (HR3.out.below hW) HI.out).mono fun e w' hres => by
        rw [hq] at hres
        rcases ResP.cases HG.out hres with ⟨z', v, j1, hp, rfl, rfl, hj1, hr5, ho5⟩ | ⟨a2, y2, hp, rfl, ho5⟩
        · cases hp
        · injection hp with h1 h2
          subst h1 h2
          exact ⟨rfl, ho5⟩
      have HP3 : Hid (R = .bad a' y') := Lib.hid (by rw [HP2.out, hq]; rfl)
      clear ho hp hy3 hz3 HP HNX HP2 hq
      go_wp2
      refine wp_region_any (by kernel_rfl) ?_
      try (change wpAny _ _ _ _ _ _ _ (World.drew _))
      refine wpAny_take (i := 1) (v := .pointer (some ⟨g, 0, none⟩)) rfl (by kernel_rfl) (by kernel_rfl) (by kernel_rfl) (fun _ _ _ h => h) (Or.inl ⟨by rfl, ?_⟩) ?_
      · intro W
        go_simp
        try with_reducible rfl
      refine wpAny_take (i := 4) (v := .int .i64 op) rfl (by kernel_rfl) (by kernel_rfl) (by kernel_rfl) (fun _ _ _ h => h) (Or.inl ⟨by rfl, ?_⟩) ?_
      · intro W
        go_simp
        try with_reducible rfl
      refine wpAny_ready (rs := [0, 2]) (by kernel_rfl) (by simp) ?_
      refine AllReady.cons rfl (fun K hK => ?_) ?_
      · go_simp
        refine hK _ _ ?_
        clear hK K
        refine wpAny_ready (rs := [2]) (by kernel_rfl) (by simp) ?_
        refine AllReady.cons rfl (fun K hK => ?_) AllReady.nil
        go_simp
        go_wp2_with (go_at_call 104; refine (HTM.out _ ((Below.refl _ _).drew)).mono ?_; rintro e w5 ⟨rfl, ho5⟩; have HO5 := Lib.hid ho5; clear ho5)
        exact ⟨rfl, ResP.bad (HO3.out.drew.trans HO5.out) HP3.out⟩
      · refine AllReady.cons rfl (fun K hK => ?_) AllReady.nil
        go_simp
        go_wp2_with (go_at_call 104; refine (HTM.out _ ((Below.refl _ _).drew)).mono ?_; rintro e w5 ⟨rfl, ho5⟩; have HO5 := Lib.hid ho5; clear ho5)
        exact ⟨rfl, ResP.bad (HO3.out.drew.trans HO5.out) HP3.out⟩
end
end Go.Proofs.YtkobfngnnblpeaaGreatDoor
namespace Go.Proofs.YtkobfngnnblpeaaGreatDoor
section
open Go.RowKit

theorem OwnF.elsK {α : Type} {S E : TypeId} {f : α → List Value} {n b : Nat} (hI : IsEl S E f n b) {w : World} {base : Nat} {v : Value} {l : List α} (h : OwnF E f n w base v l) : ∃ A c, v = .slice A l.length c ∧ ElsAt f n w A l := by
  rcases h.slice hI with ⟨rfl, rfl⟩ | ⟨g, c, rfl, _, _, _, he⟩
  · exact ⟨none, 0, rfl, fun i x hi => by simp at hi⟩
  · exact ⟨_, c, rfl, he⟩
theorem kat_add (a : Addr) (i : Nat) : a.add (i + 1) = { block := a.block, off := a.off + (i + 1) } := by simp [Addr.add]
/-- A literal's cells. -/
theorem els_K {W : World} {A : Option Addr} {l : List LmQ} {i : Nat} {x : LmQ} (h : ElsAt LmQ.cells 4 W A l) (hi : l[i]? = some x) :
    ∃ a : Addr, A = some a ∧ W.cell? (a.add (i * 4)) = some (.bool x.1.n) ∧ W.cell? { block := (a.add (i * 4)).block, off := (a.add (i * 4)).off + 1 } = some (.string x.1.s) ∧ W.cell? { block := (a.add (i * 4)).block, off := (a.add (i * 4)).off + 2 } = some x.1.v ∧ W.cell? { block := (a.add (i * 4)).block, off := (a.add (i * 4)).off + 3 } = some (.int .i64 x.1.o) := by
  obtain ⟨a, ha, hc⟩ := h i x hi
  have h0 := hc 0 _ rfl
  have h1 := hc 1 _ rfl
  have h2 := hc 2 _ rfl
  have h3 := hc 3 _ rfl
  rw [kat_add] at h1 h2 h3
  exact ⟨a, ha, by simpa [Addr.add] using h0, h1, h2, h3⟩
theorem atmN_next {l : List LiP} {k : Nat} {y : LiP} (h : l[k]? = some y) : atmN (l.take (k + 1)) = if atomB y = true then atmN (l.take k) + 1 else atmN (l.take k) := by
  rw [List.take_add_one, h, Option.toList, atmN_eq]
set_option maxRecDepth 10000 in
set_option maxHeartbeats 2000000 in
theorem k_atoms (l : List LiP) (qs : List LmQ) (A : Option Addr) (c : Nat) (w : World) (hql : qs.length = l.length) (hl : l.length ≤ 100) (hrel : ∀ (i : Nat) (q : LmQ) (y : LiP), qs[i]? = some q → l[i]? = some y → q.1.n = y.n ∧ q.1.o = y.o ∧ ∃ A n c, q.1.v = .slice A n c) (he : ElsAt LmQ.cells 4 w A qs) :
    Calls Tryz.prog 106 #[.slice A l.length c] w fun e w' => e = .returned (.int .i64 (atmN l : Nat)) ∧ Below w.heap.size w w' := by
  have HRL := Lib.hid hrel
  have HE := Lib.hid he
  have HN : Hid (∀ k, k ≤ l.length → atmN (l.take k) ≤ k) := Lib.hid fun k hk => by
    unfold atmN
    exact Nat.le_trans (List.length_filter_le _ _) (by rw [List.length_take]; omega)
  clear hrel he
  go_enter Tryz.func106, Tryz.ntmps106
  go_wp2
  go_loopw [3, 8] (fun n i wr => ∃ k : Nat, i = .int .i64 k ∧ k ≤ l.length ∧ n = .int .i64 ((atmN (l.take k) : Nat) : Int) ∧ Below w.heap.size w wr) (fun _ i _ => l.length - (intOf i).toNat)
  case atStart => exact ⟨0, rfl, Nat.zero_le _, rfl, Below.refl _ _⟩
  case round =>
    obtain ⟨k, rfl, hk, rfl, hb⟩ := hrel
    have HB := Lib.hid hb
    have hn := HN.out k hk
    by_cases hlt : k < l.length
    · obtain ⟨y, hy⟩ : ∃ y, l[k]? = some y := ⟨_, List.getElem?_eq_getElem hlt⟩
      obtain ⟨q, hq⟩ : ∃ q, qs[k]? = some q := ⟨_, List.getElem?_eq_getElem (by omega)⟩
      obtain ⟨e1, e2, qA, qk, qc, e3⟩ := HRL.out k q y hq hy
      have HNX := Lib.hid (atmN_next hy)
      have HAT : Hid (atomB y = (decide (y.o = 0) && !y.n)) := Lib.hid rfl
      obtain ⟨a, rfl, a0, a1, a2, a3⟩ := els_K (HE.out.below hb) hq
      obtain ⟨⟨qn, qsn, qv, qo⟩, hqv⟩ := q
      simp only at a0 a1 a2 a3 e1 e2 e3
      subst e3
      rw [← e1, ← e2] at HAT
      have hsz := hb.size
      have HBX := Lib.hid (hb.trans ((one_new wr (.cells #[.bool qn, .string qsn, .slice qA qk qc, .int .i64 qo] 50)).mono hb.size))
      have n0 := new_cellG wr #[.bool qn, .string qsn, .slice qA qk qc, .int .i64 qo] 50 0
      have n3 := new_cellG wr #[.bool qn, .string qsn, .slice qA qk qc, .int .i64 qo] 50 3
      generalize atmN (l.take k) = m at *
      obtain ⟨m2, hm2⟩ : ∃ m2, atmN (l.take (k + 1)) = m2 := ⟨_, rfl⟩
      rw [hm2] at HNX
      have HM2 := Lib.hid hm2
      clear hm2
      generalize atomB y = ab at *
      clear hb hy hq e1 e2
      by_cases ho : qo = 0
      · subst ho
        cases qn with
        | true =>
          have HM : Hid (m2 = m) := Lib.hid (by rw [HNX.out, HAT.out]; rfl)
          go_wp2
          go_roundw
          case rel => exact ⟨k + 1, by go_num, by omega, by rw [HM2.out, HM.out], HBX.out⟩
          case measure => simp [intOf]; omega
        | false =>
          have HM : Hid (m2 = m + 1) := Lib.hid (by rw [HNX.out, HAT.out]; rfl)
          go_wp2
          go_roundw
          case rel => exact ⟨k + 1, by go_num, by omega, by rw [HM2.out, HM.out]; go_num, HBX.out⟩
          case measure => simp [intOf]; omega
      · have b1 : (qo == 0) = false := by simpa using ho
        have HM : Hid (m2 = m) := Lib.hid (by rw [HNX.out, HAT.out, decide_eq_false ho]; rfl)
        clear ho
        go_wp2
        go_roundw
        case rel => exact ⟨k + 1, by go_num, by omega, by rw [HM2.out, HM.out], HBX.out⟩
        case measure => simp [intOf]; omega
    · have hkk : l.take k = l := List.take_of_length_le (by omega)
      rw [hkk]
      clear hb
      go_wp2
      go_ret
      exact ⟨rfl, HB.out⟩
end
end Go.Proofs.YtkobfngnnblpeaaGreatDoor
