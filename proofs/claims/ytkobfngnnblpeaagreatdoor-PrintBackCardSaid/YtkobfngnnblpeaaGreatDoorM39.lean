/-
  The program's parser: a literal behind those ahead.
  Condition: no more than four hundred tokens, and one that is left; no more than ten literals ahead.
-/
import Derived.Test.YtkobfngnnblpeaaGreatDoorM35
import Derived.Test.YtkobfngnnblpeaaGreatDoorM38
namespace Go.Proofs.YtkobfngnnblpeaaGreatDoor
open Go.RowKit

theorem add_block (a : Addr) (n : Nat) : (a.add n).block = a.block := by unfold Addr.add; split <;> rfl
theorem setArgs {W : World} {p base : Nat} {u v0 v1 v2 v3 x0 x1 x2 x3 : Value} {l : List TmP} (h : ArgsAt W base u l) (hz : W.heap[p]? = some (.cells #[v0, v1, v2, v3] 50 (0, 0))) :
    ArgsAt ((((W.setCell ⟨p, 0, none⟩ x0).setCell ⟨p, 1, none⟩ x1).setCell ⟨p, 2, none⟩ x2).setCell ⟨p, 3, none⟩ x3) base u l := by
  have k1 := heap_setCell_same W p 0 _ _ x0 hz
  have k2 := heap_setCell_same _ p 1 _ _ x1 k1
  have k3 := heap_setCell_same _ p 2 _ _ x2 k2
  exact (((h.setL hz).setL k1).setL k2).setL k3
theorem LisAt.atoms {w : World} {base : Nat} {v : Value} {l : List LiP} (h : LisAt w base v l) : ∃ qs A c, v = .slice A l.length c ∧ qs.length = l.length ∧ ElsAt LmQ.cells 4 w A qs ∧ ∀ (i : Nat) (q : LmQ) (y : LiP), qs[i]? = some q → l[i]? = some y → (q.1.n = y.n ∧ q.1.o = y.o ∧ ∃ A n c, q.1.v = .slice A n c) ∧ ∀ a, A = some a → base ≤ a.block := by
  obtain ⟨qs, h1, h2, h3⟩ := h
  obtain ⟨A, c, hv, he⟩ := h1.elsK el_Lm
  refine ⟨qs, A, c, by rw [hv, h2], h2, he, fun i q y hq hy => ⟨?_, fun a ha => (h1.lt a.block (by rw [hv, ha]; rfl)).1⟩⟩
  obtain ⟨a, _, b, d⟩ := h3 i q y hq hy
  refine ⟨a, b, ?_⟩
  rcases d with ⟨e, _⟩ | ⟨g, c, _, e, _⟩
  · exact ⟨_, _, _, e⟩
  · exact ⟨_, _, _, e⟩
set_option maxRecDepth 100000 in
set_option maxHeartbeats 8000000 in
theorem k_literal {w : World} {g t i base : Nat} {ls : List Tok} (h : RdK w g t ls i) (hA : AtI ls i) (l : List LiP) (A : Option Addr) (c : Nat) (hL : LisAt w base (.slice A l.length c) l) (hgb : g < base) (hl10 : l.length ≤ 10) :
    Calls Tryz.prog 72 #[.pointer (some ⟨g, 0, none⟩), .slice A l.length c] w (ResP w g t ls (LitV w.heap.size) (litP l (ls.drop i))) := by
  obtain ⟨⟨k, b, ⟨vk, vf, vn, vt⟩, a⟩, hX⟩ : ∃ x, hdT (ls.drop i) = x := ⟨_, rfl⟩
  have hon := one_new w zeroLi
  have HLK := Lib.hid (k_look (h.below hon) hA.i hX)
  have HR0 := Lib.hid (h.below hon)
  have HO0 := Lib.hid (OnlyR.of (g := g) hon)
  have hg := h.lt
  have ht := h.tlt (by have := hA.i; omega)
  have HZ0 := Lib.hid (heap_alloc_new w zeroLi)
  have HLI := Lib.hid hL
  have HG := Lib.hid hA.g
  have HA := Lib.hid hA
  have HHN : hasP (ls.drop i) wNot = decide (b.data.toList = wNot) := by unfold hasP; rw [hX]
  have HP : Hid (litP l (ls.drop i) = if hasP (ls.drop i) wNot = false ∧ isTm ⟨k, b, ⟨vk, vf, vn, vt⟩, a⟩ = false then .bad a 7
    else if l.length = 10 then .bad a 9
    else if hasP (ls.drop i) wNot = true then (nameP (ls.drop (i + 1))).bind fun nm r => (argsP r).bind fun z r => .ok ⟨true, nm, z, 0⟩ r
    else (termP (ls.drop i)).bind fun y r => if y.s.data.toList = [] ∨ hasP r wOpen = false then cmpP y r else if atmN l = 6 then .bad a 9 else (argsP r).bind fun z r => .ok ⟨false, y.s, z, 0⟩ r) := Lib.hid (by unfold litP; rw [hX, List.tail_drop])
  have HTM := Lib.hid (k_isTerm k b vk vf vn vt a)
  generalize litP l (ls.drop i) = R at *
  generalize isTm ⟨k, b, ⟨vk, vf, vn, vt⟩, a⟩ = q1 at *
  clear h hX hA hon hL
  go_enter Tryz.func72, Tryz.ntmps72
  go_wp2_with fail
  refine HLK.out.mono ?_
  rintro e w1 ⟨rfl, hb1⟩
  have hsz1 := hb1.size
  rw [World.size_alloc] at hsz1
  have hbt := hb1.trans ((one_new w1 (tkO k b vk vf vn vt a)).mono hb1.size)
  have HR2 := Lib.hid (HR0.out.below hbt)
  have HO2 := Lib.hid (HO0.out.trans (OnlyR.of (g := g) hbt))
  have HZ2 := Lib.hid ((hbt.block w.heap.size (by simp)).trans HZ0.out)
  have hh := heap_alloc_new w1 (tkO k b vk vf vn vt a)
  have HT2 := Lib.hid hh
  obtain ⟨n0, n1, n2, n3, n4, n5, n6⟩ := tok_cells hh
  clear hb1 hbt hh HLK HR0 HO0 HZ0
  by_cases hn : b.data.toList = wNot
  · have b1 : (b.toList == [110, 111, 116]) = true := strt hn
    have HNT : Hid (hasP (ls.drop i) wNot = true) := Lib.hid (by rw [HHN]; exact decide_eq_true hn)
    have hp := HP.out
    rw [HNT.out, if_neg (by simp)] at hp
    clear hn HHN HP
    by_cases h10 : l.length = 10
    · have hlb : ((l.length : Int) == 10) = true := by simp; omega
      rw [if_pos h10] at hp
      have HP := Lib.hid hp
      clear hp h10
      go_wp2
      exact ⟨rfl, ResP.bad HO2.out HP.out⟩
    · have hlb : ((l.length : Int) == 10) = false := by simp; omega
      rw [if_neg h10, if_pos rfl] at hp
      have HP := Lib.hid hp
      have HHS := Lib.hid (k_hasL HR2.out HA.out ⟨#[110, 111, 116]⟩ wNot (by decide) rfl)
      rw [HNT.out] at HHS
      clear hp h10
      go_wp2_with fail
      refine HHS.out.mono ?_
      rintro e w3 ⟨rfl, ho3, hr1, _⟩
      obtain ⟨hi3, hr3⟩ := hr1 (by trivial)
      have hs3 := ho3.size
      rw [World.size_alloc] at hs3
      have HI3 := Lib.hid hi3
      have HO3 := Lib.hid (HO2.out.trans ho3)
      have HZ3 := Lib.hid ((ho3.2 w.heap.size (by simp; omega) (by omega)).trans HZ2.out)
      have HNM := Lib.hid (k_name hr3 hi3)
      clear ho3 hr1 hi3 hr3 HHS HZ2 HO2
      go_wp2_with fail
      refine HNM.out.mono ?_
      intro e w4 hres
      rcases ResP.cases HG.out hres with ⟨nm, v, j, hp, rfl, rfl, hj, hr4, ho4⟩ | ⟨a', y, hp, rfl, ho4⟩
      · have HP4 : Hid (R = (argsP (ls.drop j)).bind fun z r => .ok ⟨true, nm, z, 0⟩ r) := Lib.hid (by rw [HP.out, bind_go hp])
        have hs4 := ho4.size
        have HO4 := Lib.hid (HO3.out.trans ho4)
        have HZ4 := Lib.hid ((ho4.2 w.heap.size (by omega) (by omega)).trans HZ3.out)
        have HAR := Lib.hid (k_args hr4 hj)
        clear hp hj hr4 ho4 hres HNM HP HZ3 HO3
        go_wp2_with fail
        refine HAR.out.mono ?_
        intro e w5 hres
        rcases ResP.cases HG.out hres with ⟨zs, v, j, hp, rfl, hv, hj, hr5, ho5⟩ | ⟨a', y, hp, rfl, ho5⟩
        · have HP5 : Hid (R = .ok ⟨true, nm, zs, 0⟩ (ls.drop j)) := Lib.hid (by rw [HP4.out, bind_go hp])
          have hs5 := ho5.size
          have HO5 := Lib.hid (HO4.out.trans ho5)
          have hz5 := (ho5.2 w.heap.size (by omega) (by omega)).trans HZ4.out
          have hv5 := ArgsAt.of (hv.lower (show w.heap.size ≤ w4.heap.size by omega))
          obtain ⟨vA, vl, vc, hvs⟩ : ∃ A n c, v = .slice A n c := by
            obtain ⟨A, c, e⟩ := hv.shape
            exact ⟨_, _, _, e⟩
          subst hvs
          have HV5 := Lib.hid hv5
          have HJ5 := Lib.hid hj
          have HR5 := Lib.hid hr5
          have HZ5 := Lib.hid hz5
          obtain ⟨z0, z1, z2, z3, zf⟩ := box4_of hz5
          have f0 := zf 0
          have f1 := zf 1
          have f2 := zf 2
          have f3 := zf 3
          clear hp hj hr5 ho5 hres HAR HP4 hv hv5 hz5 zf HZ4 HO4
          go_wp2
          exact bodyPost_ret (v := .agg #[.bool true, .string nm, .slice vA vl vc, .int .i64 0]) (by simp [results, Tryz.results72, go_sem, z0, z1, z2, z3]) rfl
            (ResP.ok (a := ⟨true, nm, zs, 0⟩) (i := j) (by repeat (first | (with_reducible exact HO5.out) | (with_reducible refine OnlyR.new ?_ (Nat.le_refl _) _))) HP5.out
              ⟨_, rfl, setArgs HV5.out HZ5.out⟩ HJ5.out (by repeat (first | (with_reducible exact HR5.out) | (with_reducible refine RdK.new ?_ (by omega) (by omega) _))))
        · have HP5 : Hid (R = .bad a' y) := Lib.hid (by rw [HP4.out, bind_bad hp])
          have HO5 := Lib.hid (HO4.out.trans ho5)
          clear hp ho5 hres HAR HP4
          go_wp2
          exact ⟨rfl, ResP.bad HO5.out HP5.out⟩
      · have HP4 : Hid (R = .bad a' y) := Lib.hid (by rw [HP.out, bind_bad hp])
        have HO4 := Lib.hid (HO3.out.trans ho4)
        clear hp ho4 hres HNM HP
        go_wp2
        exact ⟨rfl, ResP.bad HO4.out HP4.out⟩
  · have b1 : (b.toList == [110, 111, 116]) = false := strf hn
    have HNT : Hid (hasP (ls.drop i) wNot = false) := Lib.hid (by rw [HHN]; exact decide_eq_false hn)
    have hp := HP.out
    rw [HNT.out] at hp
    clear hn HHN HP
    cases q1 with
    | false =>
      rw [if_pos ⟨rfl, rfl⟩] at hp
      have HP := Lib.hid hp
      clear hp
      go_wp2_with (go_at_call 102; refine (HTM.out _).mono ?_; rintro e w3 ⟨rfl, hb3⟩; have HB3 := Lib.hid hb3; have hs3 := hb3.size; rw [World.size_alloc] at hs3; have HT3 := Lib.hid ((hb3.block w1.heap.size (by simp)).trans HT2.out); obtain ⟨m0, m1, m2, m3, m4, m5, m6⟩ := tok_cells HT3.out; clear hb3)
      exact ⟨rfl, ResP.bad (HO2.out.trans (OnlyR.of (g := g) HB3.out)) HP.out⟩
    | true =>
      rw [if_neg (by rintro ⟨_, e⟩; cases e)] at hp
      by_cases h10 : l.length = 10
      · have hlb : ((l.length : Int) == 10) = true := by simp; omega
        rw [if_pos h10] at hp
        have HP := Lib.hid hp
        clear hp h10
        go_wp2_with (go_at_call 102; refine (HTM.out _).mono ?_; rintro e w3 ⟨rfl, hb3⟩; have HB3 := Lib.hid hb3; have hs3 := hb3.size; rw [World.size_alloc] at hs3; have HT3 := Lib.hid ((hb3.block w1.heap.size (by simp)).trans HT2.out); obtain ⟨m0, m1, m2, m3, m4, m5, m6⟩ := tok_cells HT3.out; clear hb3)
        exact ⟨rfl, ResP.bad (HO2.out.trans (OnlyR.of (g := g) HB3.out)) HP.out⟩
      · have hlb : ((l.length : Int) == 10) = false := by simp; omega
        rw [if_neg h10, if_neg Bool.false_ne_true] at hp
        have HP := Lib.hid hp
        have HHQ : Hid (∀ W, Below (w1.alloc (tkO k b vk vf vn vt a)).heap.size (w1.alloc (tkO k b vk vf vn vt a)) W → Calls Tryz.prog 69 #[.pointer (some ⟨g, 0, none⟩), .string ⟨#[110, 111, 116]⟩] W fun e w' => e = .returned (.bool false) ∧ OnlyR g W w' ∧ RdK w' g t ls i) := Lib.hid fun W hW => (k_hasL (HR2.out.below hW) HA.out ⟨#[110, 111, 116]⟩ wNot (by decide) rfl).mono fun e w' ⟨h1, h2, _, h4⟩ => ⟨by rw [h1, HNT.out], h2, h4 HNT.out⟩
        clear hp h10
        go_wp2_with (go_at_call 102; refine (HTM.out _).mono ?_; rintro e w3 ⟨rfl, hb3⟩; have HB3 := Lib.hid hb3; have hs3 := hb3.size; rw [World.size_alloc] at hs3; have HT3 := Lib.hid ((hb3.block w1.heap.size (by simp)).trans HT2.out); obtain ⟨m0, m1, m2, m3, m4, m5, m6⟩ := tok_cells HT3.out; clear hb3)
        refine (HHQ.out _ HB3.out).mono ?_
        rintro e w4 ⟨rfl, ho4, hr4⟩
        have hs4 := ho4.size
        have HO4 := Lib.hid ((HO2.out.trans (OnlyR.of (g := g) HB3.out)).trans ho4)
        have HZ4 := Lib.hid ((ho4.2 w.heap.size (by omega) (by omega)).trans ((HB3.out.block w.heap.size (by simp; omega)).trans HZ2.out))
        have HT4 := Lib.hid ((ho4.2 w1.heap.size (by omega) (by omega)).trans HT3.out)
        have HTE := Lib.hid (k_term hr4 HA.out)
        clear ho4 hr4 HHQ m0 m1 m2 m3 m4 m5 m6 HT3 HB3 HZ2 HT2
        go_wp2_with fail
        refine HTE.out.mono ?_
        intro e w5 hres
        rcases ResP.cases HG.out hres with ⟨y, v, j, hp, rfl, rfl, hj, hr5, ho5⟩ | ⟨a', y, hp, rfl, ho5⟩
        · obtain ⟨ys, ya, ⟨yk, yf, yn, yt⟩⟩ := y
          have HP5 : Hid (R = if ys.data.toList = [] ∨ hasP (ls.drop j) wOpen = false then cmpP ⟨ys, ya, ⟨yk, yf, yn, yt⟩⟩ (ls.drop j) else if atmN l = 6 then .bad a 9 else (argsP (ls.drop j)).bind fun z r => .ok ⟨false, ys, z, 0⟩ r) := Lib.hid (by rw [HP.out, bind_go hp])
          have hs5 := ho5.size
          have hbn := one_new w5 (.cells #[.string ys, .bool ya, .int .i64 yk, .bool yf, .int .i64 yn, .string yt] 47)
          have HO5 := Lib.hid ((HO4.out.trans ho5).trans (OnlyR.of (g := g) hbn))
          have HZ5 := Lib.hid ((hbn.block w.heap.size (by omega)).trans ((ho5.2 w.heap.size (by omega) (by omega)).trans HZ4.out))
          have HT5 := Lib.hid ((hbn.block w1.heap.size (by omega)).trans ((ho5.2 w1.heap.size (by omega) (by omega)).trans HT4.out))
          have HR5 := Lib.hid (hr5.below hbn)
          have hy5 := heap_alloc_new w5 (.cells #[.string ys, .bool ya, .int .i64 yk, .bool yf, .int .i64 yn, .string yt] 47)
          have HY5 := Lib.hid hy5
          have HJ4 := Lib.hid hj
          obtain ⟨y0, y1, y2, y3, y4, y5, _⟩ := box6_of hy5
          clear hp hj hr5 ho5 hres HTE HP hbn hy5 HO4 HZ4 HT4
          by_cases hys : ys.data.toList = []
          · have by' : (ys.toList == []) = true := strt hys
            have HPC : Hid (R = cmpP ⟨ys, ya, ⟨yk, yf, yn, yt⟩⟩ (ls.drop j)) := Lib.hid (by rw [HP5.out, if_pos (Or.inl hys)])
            have HR6 := HR5
            have HO6 := HO5
            have HZ6 := HZ5
            clear hys HP5
            have HCM := Lib.hid (k_cmp HR6.out HJ4.out (⟨ys, ya, ⟨yk, yf, yn, yt⟩⟩ : TmP))
            have HCM : Hid (Calls Tryz.prog 105 #[.pointer (some ⟨g, 0, none⟩), .agg #[.string ys, .bool ya, .int .i64 yk, .bool yf, .int .i64 yn, .string yt]] (w5.alloc (.cells #[.string ys, .bool ya, .int .i64 yk, .bool yf, .int .i64 yn, .string yt] 47)) (ResP (w5.alloc (.cells #[.string ys, .bool ya, .int .i64 yk, .bool yf, .int .i64 yn, .string yt] 47)) g t ls (LitV (w5.alloc (.cells #[.string ys, .bool ya, .int .i64 yk, .bool yf, .int .i64 yn, .string yt] 47)).heap.size) (cmpP ⟨ys, ya, ⟨yk, yf, yn, yt⟩⟩ (ls.drop j)))) := HCM
            go_wp2_with fail
            refine HCM.out.mono ?_
            intro e w7 hres
            rcases ResP.cases HG.out hres with ⟨x, v, j, hp, rfl, hv, hj, hr7, ho7⟩ | ⟨a', y, hp, rfl, ho7⟩
            · have HP7 : Hid (R = .ok x (ls.drop j)) := Lib.hid (by rw [HPC.out, hp])
              obtain ⟨u, rfl, hu⟩ := hv
              obtain ⟨xn, xs, xargs, xo⟩ := x
              have HO7 := Lib.hid (HO6.out.trans ho7)
              have hz7 := (ho7.2 w.heap.size (by first | omega | (rw [World.size_alloc]; omega)) (by omega)).trans HZ6.out
              obtain ⟨vA, vl, vc, hvs⟩ : ∃ A n c, u = .slice A n c := by
                rcases hu with ⟨e, _⟩ | ⟨g', c', _, e, _⟩
                · exact ⟨_, _, _, e⟩
                · exact ⟨_, _, _, e⟩
              subst hvs
              have HV := Lib.hid (hu.lower (show w.heap.size ≤ (w5.alloc (.cells #[.string ys, .bool ya, .int .i64 yk, .bool yf, .int .i64 yn, .string yt] 47)).heap.size by rw [World.size_alloc]; omega))
              have HJ := Lib.hid hj
              have HRR := Lib.hid hr7
              have HZ := Lib.hid hz7
              obtain ⟨z0, z1, z2, z3, zf⟩ := box4_of hz7
              have f0 := zf 0
              have f1 := zf 1
              have f2 := zf 2
              have f3 := zf 3
              clear hp hj hr7 ho7 hres hu hz7 zf HCM
              go_wp2
              exact bodyPost_ret (v := .agg #[.bool xn, .string xs, .slice vA vl vc, .int .i64 xo]) (by simp [results, Tryz.results72, go_sem, z0, z1, z2, z3]) rfl
                (ResP.ok (a := ⟨xn, xs, xargs, xo⟩) (i := j) (by repeat (first | (with_reducible exact HO7.out) | (with_reducible refine OnlyR.new ?_ (Nat.le_refl _) _))) HP7.out
                  ⟨_, rfl, setArgs HV.out HZ.out⟩ HJ.out (by repeat (first | (with_reducible exact HRR.out) | (with_reducible refine RdK.new ?_ (by omega) (by omega) _))))
            · have HP7 : Hid (R = .bad a' y) := Lib.hid (by rw [HPC.out, hp])
              have HO7 := Lib.hid (HO6.out.trans ho7)
              clear hp ho7 hres HCM
              go_wp2
              exact ⟨rfl, ResP.bad HO7.out HP7.out⟩
          · have by' : (ys.toList == []) = false := strf hys
            obtain ⟨⟨k2, b2, ⟨vk2, vf2, vn2, vt2⟩, a2⟩, hX2⟩ : ∃ x, hdT (ls.drop j) = x := ⟨_, rfl⟩
            have HLK := Lib.hid (k_look HR5.out HJ4.out.i hX2)
            have hho : hasP (ls.drop j) wOpen = decide (b2.data.toList = wOpen) := by unfold hasP; rw [hX2]
            have q1 := field_k1 k2 b2 vk2 vf2 vn2 vt2 a2
            by_cases hop : b2.data.toList = wOpen
            · have bo : (b2.toList == [40]) = true := strt hop
              have hp6 := HP5.out
              rw [if_neg (by rintro (e | e); exact hys e; rw [hho, decide_eq_true hop] at e; cases e)] at hp6
              have HP6 := Lib.hid hp6
              clear hys HP5 hop hho hX2 hp6
              go_wp2_with fail
              refine HLK.out.mono ?_
              rintro e w6 ⟨rfl, hb6⟩
              have hs6 := hb6.size
              rw [World.size_alloc] at hs6
              have HR6 := Lib.hid (HR5.out.below hb6)
              have HO6 := Lib.hid (HO5.out.trans (OnlyR.of (g := g) hb6))
              have HZ6 := Lib.hid ((hb6.block w.heap.size (by rw [World.size_alloc]; omega)).trans HZ5.out)
              have HT6 := Lib.hid ((hb6.block w1.heap.size (by rw [World.size_alloc]; omega)).trans HT5.out)
              have hy6 := (hb6.block w5.heap.size (by rw [World.size_alloc]; omega)).trans HY5.out
              have HY6 := Lib.hid hy6
              obtain ⟨qs, A', c', hvA, hql, hels, hrel0⟩ := HLI.out.atoms
              have hrel := fun i q y h1 h2 => (hrel0 i q y h1 h2).1
              injection hvA with hvA _ hvc
              subst hvA hvc
              have hels6 : ElsAt LmQ.cells 4 w6 A qs := by
                have ho := HO6.out
                intro i q hq
                obtain ⟨ad, rfl, hc⟩ := hels i q hq
                refine ⟨ad, rfl, fun j' u hu => ?_⟩
                have h1 := hc j' u hu
                have hy' : ∃ y', l[i]? = some y' := ⟨_, List.getElem?_eq_getElem (by have := (List.getElem?_eq_some_iff.1 hq).1; omega)⟩
                obtain ⟨y', hy'⟩ := hy'
                have hbl := (hrel0 i q y' hq hy').2 ad rfl
                refine ho.cell h1 ?_
                rw [add_block, add_block]
                omega
              have HAT := Lib.hid (k_atoms l qs A c w6 hql (by omega) hrel hels6)
              obtain ⟨m0, m1, m2, m3, m4, m5, m6⟩ := tok_cells HT6.out
              clear hels hels6 hrel hrel0 hb6 HLK hy6
              go_wp2_with fail
              refine HAT.out.mono ?_
              rintro e w7 ⟨rfl, hb7⟩
              have hs7 := hb7.size
              have HR7 := Lib.hid (HR6.out.below hb7)
              have HO7 := Lib.hid (HO6.out.trans (OnlyR.of (g := g) hb7))
              have hz7 := (hb7.block w.heap.size (by omega)).trans HZ6.out
              have hy7 := (hb7.block w5.heap.size (by omega)).trans HY6.out
              have HT7 := Lib.hid ((hb7.block w1.heap.size (by omega)).trans HT6.out)
              have HZ7 := Lib.hid hz7
              have HY7 := Lib.hid hy7
              obtain ⟨y0, y1, y2, y3, y4, y5, _⟩ := box6_of hy7
              clear m0 m1 m2 m3 m4 m5 m6 hb7 hz7 hy7 HAT HT6 HZ6 HY6
              by_cases h6 : atmN l = 6
              · have b6 : (((atmN l : Nat) : Int) == 6) = true := by rw [h6]; rfl
                have HPB : Hid (R = .bad a 9) := Lib.hid (by rw [HP6.out, if_pos h6])
                obtain ⟨m0, m1, m2, m3, m4, m5, m6⟩ := tok_cells HT7.out
                clear h6 HP6
                go_wp2
                exact ⟨rfl, ResP.bad HO7.out HPB.out⟩
              · have b6 : (((atmN l : Nat) : Int) == 6) = false := by simp; omega
                have hp7 := HP6.out
                rw [if_neg h6] at hp7
                have HP7 := Lib.hid hp7
                clear h6 HP6 hp7
                cases hq : argsP (ls.drop j) with
                | ok zs r =>
                  have HTM : Hid (∀ W, Below w7.heap.size w7 W → Calls Tryz.prog 103 #[.pointer (some ⟨g, 0, none⟩)] W fun e w' => (∃ A n c, e = .returned (.slice A n c) ∧ OwnTm w' W.heap.size (.slice A n c) zs) ∧ (∃ j1, r = ls.drop j1 ∧ AtI ls j1 ∧ RdK w' g t ls j1) ∧ OnlyR g W w') := Lib.hid fun W hW => (k_args (HR7.out.below hW) HJ4.out).mono fun e w' hres => by
                    rw [hq] at hres
                    rcases ResP.cases HG.out hres with ⟨z', v, j1, hp, rfl, hv, hj1, hr5, ho5⟩ | ⟨a', y', hp, rfl, ho5⟩
                    · injection hp with h1 h2
                      subst h1
                      obtain ⟨A, c, e⟩ := hv.shape
                      subst e
                      exact ⟨⟨_, _, _, rfl, hv⟩, ⟨j1, h2, hj1, hr5⟩, ho5⟩
                    · cases hp
                  have HP8 : Hid (R = .ok ⟨false, ys, zs, 0⟩ r) := Lib.hid (by rw [HP7.out, hq]; rfl)
                  clear HP7 hq
                  go_wp2
                  go_region_with
                    (first
                      | (go_at_call 103; refine (HTM.out _ ((Below.refl _ _).drew)).mono ?_; rintro e w8 ⟨⟨vA, vl, vc, rfl, hv8⟩, hj8, ho8⟩; have HV8 := Lib.hid hv8; have HJ8 := Lib.hid hj8; have HO8 := Lib.hid ho8; have hs8 : w7.heap.size ≤ w8.heap.size := ho8.size; have hy8 := (ho8.2 w5.heap.size (by show _ < w7.heap.size; omega) (by omega)).trans HY7.out; obtain ⟨e0, e1, e2, e3, e4, e5, _⟩ := box6_of hy8; have hz8 := (ho8.2 w.heap.size (by show _ < w7.heap.size; omega) (by omega)).trans HZ7.out; have HZ8 := Lib.hid hz8; obtain ⟨z0, z1, z2, z3, zf'⟩ := box4_of hz8; have f0 := zf' 0; have f1 := zf' 1; have f2 := zf' 2; have f3 := zf' 3; clear hv8 hj8 ho8 hy8 hz8 zf'))
                  all_goals
                    obtain ⟨j1, hr, hj1, hk1⟩ := HJ8.out
                    have ho9 := HO7.out.drew.trans HO8.out
                    have HO9 := Lib.hid ho9
                    have HJ1 := Lib.hid hj1
                    have HRJ := Lib.hid hr
                    have HK1 := Lib.hid hk1
                    have HV := Lib.hid (ArgsAt.of (HV8.out.lower (show w.heap.size ≤ w7.heap.size by omega)))
                    clear ho9 hj1 hr hk1 HJ8 HO8
                    go_wp2
                    exact bodyPost_ret (v := .agg #[.bool false, .string ys, .slice vA vl vc, .int .i64 0]) (by simp [results, Tryz.results72, go_sem, z0, z1, z2, z3]) rfl
                      (ResP.ok (a := ⟨false, ys, zs, 0⟩) (i := j1) (by repeat (first | (with_reducible exact HO9.out) | (with_reducible refine OnlyR.new ?_ (Nat.le_refl _) _))) (by rw [HP8.out, HRJ.out])
                        ⟨_, rfl, setArgs HV.out HZ8.out⟩ HJ1.out (by repeat (first | (with_reducible exact HK1.out) | (with_reducible refine RdK.new ?_ (by omega) (by omega) _))))
                | bad a' y' =>
                  have HTM : Hid (∀ W, Below w7.heap.size w7 W → Calls Tryz.prog 103 #[.pointer (some ⟨g, 0, none⟩)] W fun e w' => e = faultE a' y' ∧ OnlyR g W w') := Lib.hid fun W hW => (k_args (HR7.out.below hW) HJ4.out).mono fun e w' hres => by
                    rw [hq] at hres
                    rcases ResP.cases HG.out hres with ⟨z', v, j1, hp, _, _, _, _, _⟩ | ⟨a2, y2, hp, rfl, ho5⟩
                    · cases hp
                    · injection hp with h1 h2
                      subst h1 h2
                      exact ⟨rfl, ho5⟩
                  have HP8 : Hid (R = .bad a' y') := Lib.hid (by rw [HP7.out, hq]; rfl)
                  clear HP7 hq
                  go_wp2
                  refine wp_region_any (by kernel_rfl) ?_
                  try (change wpAny _ _ _ _ _ _ _ (World.drew _))
                  refine wpAny_take (i := 0) (v := .pointer (some ⟨w5.heap.size, 0, none⟩)) rfl (by kernel_rfl) (by kernel_rfl) (by kernel_rfl) (fun _ _ _ h => h) (Or.inl ⟨by rfl, ?_⟩) ?_
                  · intro W
                    go_simp
                    try with_reducible rfl
                  refine wpAny_take (i := 2) (v := .pointer (some ⟨g, 0, none⟩)) rfl (by kernel_rfl) (by kernel_rfl) (by kernel_rfl) (fun _ _ _ h => h) (Or.inl ⟨by rfl, ?_⟩) ?_
                  · intro W
                    go_simp
                    try with_reducible rfl
                  refine wpAny_ready (rs := [1, 3]) (by kernel_rfl) (by simp) ?_
                  refine AllReady.cons rfl (fun K hK => ?_) ?_
                  · go_simp
                    refine hK _ _ ?_
                    clear hK K
                    refine wpAny_ready (rs := [3]) (by kernel_rfl) (by simp) ?_
                    refine AllReady.cons rfl (fun K hK => ?_) AllReady.nil
                    go_simp
                    go_wp2_with (go_at_call 103; refine (HTM.out _ ((Below.refl _ _).drew)).mono ?_; rintro e w8 ⟨rfl, ho8⟩; have HO8 := Lib.hid ho8; clear ho8)
                    exact ⟨rfl, ResP.bad (HO7.out.drew.trans HO8.out) HP8.out⟩
                  · refine AllReady.cons rfl (fun K hK => ?_) AllReady.nil
                    go_simp
                    go_wp2_with (go_at_call 103; refine (HTM.out _ ((Below.refl _ _).drew)).mono ?_; rintro e w8 ⟨rfl, ho8⟩; have HO8 := Lib.hid ho8; clear ho8)
                    exact ⟨rfl, ResP.bad (HO7.out.drew.trans HO8.out) HP8.out⟩
            · have bo : (b2.toList == [40]) = false := strf hop
              have HPC : Hid (R = cmpP ⟨ys, ya, ⟨yk, yf, yn, yt⟩⟩ (ls.drop j)) := Lib.hid (by rw [HP5.out, if_pos (Or.inr (by rw [hho]; exact decide_eq_false hop))])
              clear hys HP5 hop hho hX2
              go_wp2_with fail
              refine HLK.out.mono ?_
              rintro e w6 ⟨rfl, hb6⟩
              have hs6 := hb6.size
              rw [World.size_alloc] at hs6
              have HR6 := Lib.hid (HR5.out.below hb6)
              have HO6 := Lib.hid (HO5.out.trans (OnlyR.of (g := g) hb6))
              have HZ6 := Lib.hid ((hb6.block w.heap.size (by rw [World.size_alloc]; omega)).trans HZ5.out)
              have hy6 := (hb6.block w5.heap.size (by rw [World.size_alloc]; omega)).trans HY5.out
              obtain ⟨y0, y1, y2, y3, y4, y5, _⟩ := box6_of hy6
              clear hb6 HLK hy6
              have HCM := Lib.hid (k_cmp HR6.out HJ4.out (⟨ys, ya, ⟨yk, yf, yn, yt⟩⟩ : TmP))
              have HCM : Hid (Calls Tryz.prog 105 #[.pointer (some ⟨g, 0, none⟩), .agg #[.string ys, .bool ya, .int .i64 yk, .bool yf, .int .i64 yn, .string yt]] w6 (ResP w6 g t ls (LitV w6.heap.size) (cmpP ⟨ys, ya, ⟨yk, yf, yn, yt⟩⟩ (ls.drop j)))) := HCM
              go_wp2_with fail
              refine HCM.out.mono ?_
              intro e w7 hres
              rcases ResP.cases HG.out hres with ⟨x, v, j, hp, rfl, hv, hj, hr7, ho7⟩ | ⟨a', y, hp, rfl, ho7⟩
              · have HP7 : Hid (R = .ok x (ls.drop j)) := Lib.hid (by rw [HPC.out, hp])
                obtain ⟨u, rfl, hu⟩ := hv
                obtain ⟨xn, xs, xargs, xo⟩ := x
                have HO7 := Lib.hid (HO6.out.trans ho7)
                have hz7 := (ho7.2 w.heap.size (by omega) (by omega)).trans HZ6.out
                obtain ⟨vA, vl, vc, hvs⟩ : ∃ A n c, u = .slice A n c := by
                  rcases hu with ⟨e, _⟩ | ⟨g', c', _, e, _⟩
                  · exact ⟨_, _, _, e⟩
                  · exact ⟨_, _, _, e⟩
                subst hvs
                have HV := Lib.hid (hu.lower (show w.heap.size ≤ w6.heap.size by omega))
                have HJ := Lib.hid hj
                have HRR := Lib.hid hr7
                have HZ := Lib.hid hz7
                obtain ⟨z0, z1, z2, z3, zf⟩ := box4_of hz7
                have f0 := zf 0
                have f1 := zf 1
                have f2 := zf 2
                have f3 := zf 3
                clear hp hj hr7 ho7 hres hu hz7 zf HCM
                go_wp2
                exact bodyPost_ret (v := .agg #[.bool xn, .string xs, .slice vA vl vc, .int .i64 xo]) (by simp [results, Tryz.results72, go_sem, z0, z1, z2, z3]) rfl
                  (ResP.ok (a := ⟨xn, xs, xargs, xo⟩) (i := j) (by repeat (first | (with_reducible exact HO7.out) | (with_reducible refine OnlyR.new ?_ (Nat.le_refl _) _))) HP7.out
                    ⟨_, rfl, setArgs HV.out HZ.out⟩ HJ.out (by repeat (first | (with_reducible exact HRR.out) | (with_reducible refine RdK.new ?_ (by omega) (by omega) _))))
              · have HP7 : Hid (R = .bad a' y) := Lib.hid (by rw [HPC.out, hp])
                have HO7 := Lib.hid (HO6.out.trans ho7)
                clear hp ho7 hres HCM
                go_wp2
                exact ⟨rfl, ResP.bad HO7.out HP7.out⟩
        · have HP5 : Hid (R = .bad a' y) := Lib.hid (by rw [HP.out, bind_bad hp])
          have HO5 := Lib.hid (HO4.out.trans ho5)
          clear hp ho5 hres HTE HP
          go_wp2
          exact ⟨rfl, ResP.bad HO5.out HP5.out⟩
end Go.Proofs.YtkobfngnnblpeaaGreatDoor
