/-
  The program's parser: a whole rule.
  Condition: no more than four hundred tokens.
-/
import Derived.Test.YtkobfngnnblpeaaGreatDoorM41
namespace Go.Proofs.YtkobfngnnblpeaaGreatDoor
open Go.RowKit

/-- A rule as it is answered. -/
def RuV (base : Nat) (r : RuP) (v : Value) (w : World) : Prop := ∃ hv bv, v = .agg #[.int .i64 r.k, .string r.nm, hv, .int .i64 r.ag, .string r.ofv, .int .i64 r.lim, bv] ∧ OwnSt w base hv r.head ∧ LisAt w base bv r.body
theorem LisAt.lower {W : World} {base b2 : Nat} {v : Value} {l : List LiP} (h : LisAt W base v l) (hb : b2 ≤ base) : LisAt W b2 v l := by
  obtain ⟨qs, h1, h2, h3⟩ := h
  refine ⟨qs, h1.lower hb, h2, fun i q y a b => ?_⟩
  obtain ⟨c, d, e, f⟩ := h3 i q y a b
  exact ⟨c, d, e, f.lower hb⟩
theorem OnlyR.ofX {g x base : Nat} {w w1 w2 : World} (h : OnlyR g w w1) (hx : OnlyX g x base w1 w2) (h1 : w.heap.size ≤ x) (h2 : w.heap.size ≤ base) : OnlyR g w w2 :=
  ⟨h.1.trans hx.1, fun k hk hg => (hx.2 k (by omega) (Nat.lt_of_lt_of_le hk h.1.size) hg (by omega)).trans (h.2 k hk hg)⟩
theorem res7 {W : World} {p base : Nat} {hv bv : Value} {hd : List ByteArray} {bd : List LiP} (hp : p < base) (h1 : OwnSt W base hv hd) (h2 : LisAt W base bv bd) (v0 v1 v2 v3 v4 v5 v6 : Value) :
    let W' := ((((((W.setCell ⟨p, 0, none⟩ v0).setCell ⟨p, 1, none⟩ v1).setCell ⟨p, 2, none⟩ v2).setCell ⟨p, 3, none⟩ v3).setCell ⟨p, 4, none⟩ v4).setCell ⟨p, 5, none⟩ v5).setCell ⟨p, 6, none⟩ v6
    OwnSt W' p hv hd ∧ LisAt W' p bv bd := by
  have hs : ∀ (A : World) (i : Nat) (v : Value) (k : Nat), k ≠ p → (A.setCell ⟨p, i, none⟩ v).heap[k]? = A.heap[k]? := fun A i v k hk => Below.heap_setCell A ⟨p, i, none⟩ v k hk
  have hall : ∀ k, k ≠ p → (((((((W.setCell ⟨p, 0, none⟩ v0).setCell ⟨p, 1, none⟩ v1).setCell ⟨p, 2, none⟩ v2).setCell ⟨p, 3, none⟩ v3).setCell ⟨p, 4, none⟩ v4).setCell ⟨p, 5, none⟩ v5).setCell ⟨p, 6, none⟩ v6).heap[k]? = W.heap[k]? := fun k hk => by
    rw [hs _ 6 v6 k hk, hs _ 5 v5 k hk, hs _ 4 v4 k hk, hs _ 3 v3 k hk, hs _ 2 v2 k hk, hs _ 1 v1 k hk, hs _ 0 v0 k hk]
  exact ⟨(h1.byBlock fun k hk => hall k (by have := (h1.lt k hk).1; omega)).lower (by omega), (h2.byBlock fun b hb _ => hall b (by omega)).lower (by omega)⟩
set_option maxRecDepth 100000 in
set_option maxHeartbeats 8000000 in
theorem k_rule {w : World} {g t : Nat} {ls : List Tok} (h : RdK w g t ls 0) (hA : AtI ls 0) :
    Calls Tryz.prog 14 #[.pointer (some ⟨g, 0, none⟩)] w (ResE w g (RuV w.heap.size) (ruleP ls)) := by
  obtain ⟨R, hR⟩ : ∃ R, ruleP ls = R := ⟨_, rfl⟩
  have HP : Hid (R = (kindP (ls.drop 0)).bind fun k r => (nameP r).bind fun nm r => (needP r wOpen).bind fun _ r => (if k = 3 then quP r else heGo k 400 [] r).bind fun h r => (needP r wIf).bind fun _ r => (boGo 400 [] r).bind fun b r => .ok ⟨k, nm, h.h, h.ag, h.ofv, h.lim, b⟩ r) := Lib.hid (by rw [← hR]; rfl)
  rw [hR]
  have hon := one_new w zeroRu
  have hg := h.lt
  have ht := h.tlt (by have := hA.i; omega)
  have HG := Lib.hid hA.g
  have HO0 := Lib.hid (OnlyR.of (g := g) hon)
  have HZ0 := Lib.hid (heap_alloc_new w zeroRu)
  have HKD := Lib.hid (k_kind (h.below hon) hA)
  clear h hA hR hon
  go_enter Tryz.func14, Tryz.ntmps14
  go_wp2_with fail
  refine HKD.out.mono ?_
  intro e w1 hres
  rcases ResP.cases HG.out hres with ⟨k, v, j1, hp, rfl, rfl, hj1, hr1, ho1⟩ | ⟨a', y, hp, rfl, ho1⟩
  · have HP1 : Hid (R = (nameP (ls.drop j1)).bind fun nm r => (needP r wOpen).bind fun _ r => (if k = 3 then quP r else heGo k 400 [] r).bind fun h r => (needP r wIf).bind fun _ r => (boGo 400 [] r).bind fun b r => .ok ⟨k, nm, h.h, h.ag, h.ofv, h.lim, b⟩ r) := Lib.hid (by rw [HP.out, bind_go hp])
    have hs1 := ho1.size
    rw [World.size_alloc] at hs1
    have HO1 := Lib.hid (HO0.out.trans ho1)
    have HZ1 := Lib.hid ((ho1.2 w.heap.size (by simp) (by omega)).trans HZ0.out)
    have HNM := Lib.hid (k_name hr1 hj1)
    clear hp hj1 hr1 ho1 hres HP HKD HO0 HZ0
    go_wp2_with fail
    refine HNM.out.mono ?_
    intro e w2 hres
    rcases ResP.cases HG.out hres with ⟨nm, v, j2, hp, rfl, rfl, hj2, hr2, ho2⟩ | ⟨a', y, hp, rfl, ho2⟩
    · have HP2 : Hid (R = (needP (ls.drop j2) wOpen).bind fun _ r => (if k = 3 then quP r else heGo k 400 [] r).bind fun h r => (needP r wIf).bind fun _ r => (boGo 400 [] r).bind fun b r => .ok ⟨k, nm, h.h, h.ag, h.ofv, h.lim, b⟩ r) := Lib.hid (by rw [HP1.out, bind_go hp])
      have hs2 := ho2.size
      have hbb := one_new w2 (.cells #[.int .i64 k, .string nm, .slice none 0 0, .int .i64 0, .string ⟨#[]⟩, .int .i64 0, .slice none 0 0] 35)
      have hbx : BoxX (w2.alloc (.cells #[.int .i64 k, .string nm, .slice none 0 0, .int .i64 0, .string ⟨#[]⟩, .int .i64 0, .slice none 0 0] 35)) w2.heap.size ⟨k, nm, [], 0, ⟨#[]⟩, 0, []⟩ (.slice none 0 0) (.slice none 0 0) := heap_alloc_new w2 _
      have hk2 : KSt (w2.alloc (.cells #[.int .i64 k, .string nm, .slice none 0 0, .int .i64 0, .string ⟨#[]⟩, .int .i64 0, .slice none 0 0] 35)) g w2.heap.size t (w2.heap.size + 1) ls j2 ⟨k, nm, [], 0, ⟨#[]⟩, 0, []⟩ (.slice none 0 0) :=
        ⟨hr2.below hbb, hbx, OwnF.nil _ _, by omega, by omega, by omega, by omega, by omega, by simp⟩
      have HK2 := Lib.hid hk2
      have HO2 := Lib.hid ((HO1.out.trans ho2).trans (OnlyR.of (g := g) hbb))
      have HZ2 := Lib.hid ((hbb.block w.heap.size (by omega)).trans ((ho2.2 w.heap.size (by omega) (by omega)).trans HZ1.out))
      have HND := Lib.hid (k_needL hk2.rd hj2 ⟨#[40]⟩ wOpen (by decide) rfl)
      clear hp hj2 hr2 ho2 hres HP1 HNM HO1 HZ1 hbb hbx hk2
      go_wp2_with fail
      refine HND.out.mono ?_
      intro e w3 hres
      rcases ResP.cases HG.out hres with ⟨u, v, j3, hp, rfl, rfl, hj3, hr3, ho3⟩ | ⟨a', y, hp, rfl, ho3⟩
      · have HP3 : Hid (R = (if k = 3 then quP (ls.drop j3) else heGo k 400 [] (ls.drop j3)).bind fun h r => (needP r wIf).bind fun _ r => (boGo 400 [] r).bind fun b r => .ok ⟨k, nm, h.h, h.ag, h.ofv, h.lim, b⟩ r) := Lib.hid (by rw [HP2.out, bind_go hp])
        have hk3 := HK2.out.call hr3 ho3
        have HK3 := Lib.hid hk3
        have hs3 := ho3.size
        rw [World.size_alloc] at hs3
        have HO3 := Lib.hid (HO2.out.trans ho3)
        have HZ3 := Lib.hid ((ho3.2 w.heap.size (by simp; omega) (by omega)).trans HZ2.out)
        obtain ⟨p2, hp2⟩ : ∃ p2, w2.heap.size = p2 := ⟨_, rfl⟩
        have HJ3 := Lib.hid hj3
        rw [hp2] at hk3 HK3
        obtain ⟨c0, _, _, _, _, _, _⟩ := hk3.bx.cell
        have HHD : Hid (∃ pH : PR HeP, (R = pH.bind fun h r => (needP r wIf).bind fun _ r => (boGo 400 [] r).bind fun b r => .ok ⟨k, nm, h.h, h.ag, h.ofv, h.lim, b⟩ r) ∧ ((k = 3 ∧ Calls Tryz.prog 34 #[.pointer (some ⟨g, 0, none⟩), .pointer (some ⟨p2, 0, none⟩)] w3 (ResX w3 g p2 t (p2 + 1) ls (upH ⟨k, nm, [], 0, ⟨#[]⟩, 0, []⟩) pH)) ∨ (¬ k = 3 ∧ Calls Tryz.prog 35 #[.pointer (some ⟨g, 0, none⟩), .pointer (some ⟨p2, 0, none⟩)] w3 (ResX w3 g p2 t (p2 + 1) ls (upH ⟨k, nm, [], 0, ⟨#[]⟩, 0, []⟩) pH)))) := Lib.hid (by
          by_cases h3 : k = 3
          · exact ⟨_, by rw [HP3.out, if_pos h3], .inl ⟨h3, k_quota hk3 hj3 h3 rfl⟩⟩
          · exact ⟨_, by rw [HP3.out, if_neg h3], .inr ⟨h3, k_head hk3 hj3 rfl rfl rfl rfl⟩⟩)
        obtain ⟨pH, hRH, hHD⟩ := HHD.out
        have HRH := Lib.hid hRH
        clear hp hj3 hr3 ho3 hres HND HP2 HP3 HK2 HO2 HZ2 hk3 HHD hRH
        rcases hHD with ⟨h3, hC⟩ | ⟨h3, hC⟩
        · have b3 : (k == 3) = true := by simpa using h3
          have HC := Lib.hid hC
          clear hC h3
          try rw [hp2]
          go_wp2_with fail
          refine HC.out.mono ?_
          intro e w4 hres
          rcases ResX.cases hres with ⟨hy, j4, hv4, hp, rfl, hj4, hk4, ho4⟩ | ⟨a', y, hp, rfl, ho4⟩
          · have HP4 : Hid (R = (needP (ls.drop j4) wIf).bind fun _ r => (boGo 400 [] r).bind fun b r => .ok ⟨k, nm, hy.h, hy.ag, hy.ofv, hy.lim, b⟩ r) := Lib.hid (by rw [HRH.out]; exact bind_go hp)
            have HK4 := Lib.hid hk4
            have HO4 := Lib.hid (HO3.out.ofX ho4 (by omega) (by omega))
            have hs4 := ho4.1.size
            have HZ4 := Lib.hid ((ho4.2 w.heap.size (by omega) (by omega) (by omega) (by omega)).trans HZ3.out)
            have HND := Lib.hid (k_needL hk4.rd hj4 ⟨#[105, 102]⟩ wIf (by decide) rfl)
            clear hp hj4 hk4 ho4 hres HC HRH HO3 HZ3 HK3 c0
            go_wp2_with fail
            refine HND.out.mono ?_
            intro e w5 hres
            rcases ResP.cases HG.out hres with ⟨u, v, j5, hp, rfl, rfl, hj5, hr5, ho5⟩ | ⟨a', y, hp, rfl, ho5⟩
            · have HP5 : Hid (R = (boGo 400 [] (ls.drop j5)).bind fun b r => .ok ⟨k, nm, hy.h, hy.ag, hy.ofv, hy.lim, b⟩ r) := Lib.hid (by rw [HP4.out, bind_go hp])
              have HK5 := Lib.hid (HK4.out.call hr5 ho5)
              have HO5 := Lib.hid (HO4.out.trans ho5)
              have hs5 := ho5.size
              have HZ5 := Lib.hid ((ho5.2 w.heap.size (by omega) (by omega)).trans HZ4.out)
              have HBO := Lib.hid (k_body hr5 hj5)
              clear hp hj5 hr5 ho5 hres HND HP4 HK4 HO4 HZ4
              go_wp2_with fail
              refine HBO.out.mono ?_
              intro e w6 hres
              rcases ResE.cases hres with ⟨bd, v, r', hp, rfl, hli, ho6⟩ | ⟨a', y, hp, rfl, ho6⟩
              · have HP6 : Hid (R = .ok ⟨k, nm, hy.h, hy.ag, hy.ofv, hy.lim, bd⟩ r') := Lib.hid (by rw [HP5.out, bind_go hp])
                have hszb := HK5.out.sz
                have hxb := HK5.out.xb
                have hgx := HK5.out.gx
                have hbx6 : BoxX w6 p2 (upH ⟨k, nm, [], 0, ⟨#[]⟩, 0, []⟩ hy) hv4 (.slice none 0 0) := (ho6.2 p2 (by omega) (Ne.symm hgx)).trans HK5.out.bx
                have hd6 : OwnSt w6 (p2 + 1) hv4 hy.h := HK5.out.hd.byBlock fun k' hk' => ho6.2 k' (HK5.out.hd.lt k' hk').2 (by have := (HK5.out.hd.lt k' hk').1; omega)
                have hz6 := (ho6.2 w.heap.size (by omega) (by omega)).trans HZ5.out
                have ho6' := HO5.out.trans ho6
                obtain ⟨_, bA, bc, hbv, _⟩ := hli.atoms
                subst hbv
                obtain ⟨hA, hc, hhv⟩ := hd6.shape
                have hhv : hv4 = .slice hA hy.h.length hc := hhv
                subst hhv
                obtain ⟨_, _, _, _, _, _, e6⟩ := hbx6.cell
                have g6 := hbx6.frozen 6
                have hne : ∀ (k' : Nat), k' ≠ p2 → (w6.setCell ⟨p2, 6, none⟩ (.slice bA bd.length bc)).heap[k']? = w6.heap[k']? := fun k' hk' => Below.heap_setCell w6 ⟨p2, 6, none⟩ _ k' hk'
                have hbx7 : BoxX (w6.setCell ⟨p2, 6, none⟩ (.slice bA bd.length bc)) p2 (upH ⟨k, nm, [], 0, ⟨#[]⟩, 0, []⟩ hy) (.slice hA hy.h.length hc) (.slice bA bd.length bc) := heap_setCell_same w6 p2 6 _ _ _ hbx6
                obtain ⟨d0, d1, d2, d3, d4, d5, d6⟩ := hbx7.cell
                have hz7 := (hne w.heap.size (by omega)).trans hz6
                obtain ⟨z0, z1, z2, z3, z4, z5, z6, zf⟩ := box7r_of hz7
                have f0 := zf 0
                have f1 := zf 1
                have f2 := zf 2
                have f3 := zf 3
                have f4 := zf 4
                have f5 := zf 5
                have f6 := zf 6
                have hd7 : OwnSt (w6.setCell ⟨p2, 6, none⟩ (.slice bA bd.length bc)) (p2 + 1) (.slice hA hy.h.length hc) hy.h := hd6.byBlock fun k' hk' => hne k' (by have := (hd6.lt k' hk').1; omega)
                have hl7 : LisAt (w6.setCell ⟨p2, 6, none⟩ (.slice bA bd.length bc)) (p2 + 1) (.slice bA bd.length bc) bd := (hli.byBlock fun b hb _ => hne b (by omega)).lower (by omega)
                have HRS := Lib.hid (res7 (p := w.heap.size) (by omega) hd7 hl7 (.int .i64 k) (.string nm) (.slice hA hy.h.length hc) (.int .i64 hy.ag) (.string hy.ofv) (.int .i64 hy.lim) (.slice bA bd.length bc))
                have HO7 := Lib.hid (ho6'.new (show w.heap.size ≤ p2 by omega) (i := 6) (.slice bA bd.length bc))
                clear hp hli ho6 hres HBO HP5 HK5 HO5 HZ5 hbx6 hd6 hz6 ho6' hne hbx7 hz7 zf hd7 hl7
                go_wp2
                exact bodyPost_ret (v := .agg #[.int .i64 k, .string nm, .slice hA hy.h.length hc, .int .i64 hy.ag, .string hy.ofv, .int .i64 hy.lim, .slice bA bd.length bc]) (by simp [results, Tryz.results14, go_sem, z0, z1, z2, z3, z4, z5, z6]) rfl
                  (ResE.ok (by repeat (first | (with_reducible exact HO7.out) | (with_reducible refine OnlyR.new ?_ (Nat.le_refl _) _))) HP6.out ⟨_, _, rfl, HRS.out.1, HRS.out.2⟩)
              · have HPB : Hid (R = .bad a' y) := Lib.hid (by rw [HP5.out, bind_bad hp])
                have HO6 := Lib.hid (HO5.out.trans ho6)
                clear hp ho6 hres HBO HP5
                go_wp2
                exact ⟨rfl, ResE.bad HO6.out HPB.out⟩
            · have HPB : Hid (R = .bad a' y) := Lib.hid (by rw [HP4.out, bind_bad hp])
              have HO5 := Lib.hid (HO4.out.trans ho5)
              clear hp ho5 hres HND HP4
              go_wp2
              exact ⟨rfl, ResE.bad HO5.out HPB.out⟩
          · have HPB : Hid (R = .bad a' y) := Lib.hid (by rw [HRH.out]; exact bind_bad hp)
            have HO4 := Lib.hid (HO3.out.ofX ho4 (by omega) (by omega))
            clear hp ho4 hres HC HRH
            go_wp2
            exact ⟨rfl, ResE.bad HO4.out HPB.out⟩
        · have b3 : (k == 3) = false := by simpa using h3
          have HC := Lib.hid hC
          clear hC h3
          try rw [hp2]
          go_wp2_with fail
          refine HC.out.mono ?_
          intro e w4 hres
          rcases ResX.cases hres with ⟨hy, j4, hv4, hp, rfl, hj4, hk4, ho4⟩ | ⟨a', y, hp, rfl, ho4⟩
          · have HP4 : Hid (R = (needP (ls.drop j4) wIf).bind fun _ r => (boGo 400 [] r).bind fun b r => .ok ⟨k, nm, hy.h, hy.ag, hy.ofv, hy.lim, b⟩ r) := Lib.hid (by rw [HRH.out]; exact bind_go hp)
            have HK4 := Lib.hid hk4
            have HO4 := Lib.hid (HO3.out.ofX ho4 (by omega) (by omega))
            have hs4 := ho4.1.size
            have HZ4 := Lib.hid ((ho4.2 w.heap.size (by omega) (by omega) (by omega) (by omega)).trans HZ3.out)
            have HND := Lib.hid (k_needL hk4.rd hj4 ⟨#[105, 102]⟩ wIf (by decide) rfl)
            clear hp hj4 hk4 ho4 hres HC HRH HO3 HZ3 HK3 c0
            go_wp2_with fail
            refine HND.out.mono ?_
            intro e w5 hres
            rcases ResP.cases HG.out hres with ⟨u, v, j5, hp, rfl, rfl, hj5, hr5, ho5⟩ | ⟨a', y, hp, rfl, ho5⟩
            · have HP5 : Hid (R = (boGo 400 [] (ls.drop j5)).bind fun b r => .ok ⟨k, nm, hy.h, hy.ag, hy.ofv, hy.lim, b⟩ r) := Lib.hid (by rw [HP4.out, bind_go hp])
              have HK5 := Lib.hid (HK4.out.call hr5 ho5)
              have HO5 := Lib.hid (HO4.out.trans ho5)
              have hs5 := ho5.size
              have HZ5 := Lib.hid ((ho5.2 w.heap.size (by omega) (by omega)).trans HZ4.out)
              have HBO := Lib.hid (k_body hr5 hj5)
              clear hp hj5 hr5 ho5 hres HND HP4 HK4 HO4 HZ4
              go_wp2_with fail
              refine HBO.out.mono ?_
              intro e w6 hres
              rcases ResE.cases hres with ⟨bd, v, r', hp, rfl, hli, ho6⟩ | ⟨a', y, hp, rfl, ho6⟩
              · have HP6 : Hid (R = .ok ⟨k, nm, hy.h, hy.ag, hy.ofv, hy.lim, bd⟩ r') := Lib.hid (by rw [HP5.out, bind_go hp])
                have hszb := HK5.out.sz
                have hxb := HK5.out.xb
                have hgx := HK5.out.gx
                have hbx6 : BoxX w6 p2 (upH ⟨k, nm, [], 0, ⟨#[]⟩, 0, []⟩ hy) hv4 (.slice none 0 0) := (ho6.2 p2 (by omega) (Ne.symm hgx)).trans HK5.out.bx
                have hd6 : OwnSt w6 (p2 + 1) hv4 hy.h := HK5.out.hd.byBlock fun k' hk' => ho6.2 k' (HK5.out.hd.lt k' hk').2 (by have := (HK5.out.hd.lt k' hk').1; omega)
                have hz6 := (ho6.2 w.heap.size (by omega) (by omega)).trans HZ5.out
                have ho6' := HO5.out.trans ho6
                obtain ⟨_, bA, bc, hbv, _⟩ := hli.atoms
                subst hbv
                obtain ⟨hA, hc, hhv⟩ := hd6.shape
                have hhv : hv4 = .slice hA hy.h.length hc := hhv
                subst hhv
                obtain ⟨_, _, _, _, _, _, e6⟩ := hbx6.cell
                have g6 := hbx6.frozen 6
                have hne : ∀ (k' : Nat), k' ≠ p2 → (w6.setCell ⟨p2, 6, none⟩ (.slice bA bd.length bc)).heap[k']? = w6.heap[k']? := fun k' hk' => Below.heap_setCell w6 ⟨p2, 6, none⟩ _ k' hk'
                have hbx7 : BoxX (w6.setCell ⟨p2, 6, none⟩ (.slice bA bd.length bc)) p2 (upH ⟨k, nm, [], 0, ⟨#[]⟩, 0, []⟩ hy) (.slice hA hy.h.length hc) (.slice bA bd.length bc) := heap_setCell_same w6 p2 6 _ _ _ hbx6
                obtain ⟨d0, d1, d2, d3, d4, d5, d6⟩ := hbx7.cell
                have hz7 := (hne w.heap.size (by omega)).trans hz6
                obtain ⟨z0, z1, z2, z3, z4, z5, z6, zf⟩ := box7r_of hz7
                have f0 := zf 0
                have f1 := zf 1
                have f2 := zf 2
                have f3 := zf 3
                have f4 := zf 4
                have f5 := zf 5
                have f6 := zf 6
                have hd7 : OwnSt (w6.setCell ⟨p2, 6, none⟩ (.slice bA bd.length bc)) (p2 + 1) (.slice hA hy.h.length hc) hy.h := hd6.byBlock fun k' hk' => hne k' (by have := (hd6.lt k' hk').1; omega)
                have hl7 : LisAt (w6.setCell ⟨p2, 6, none⟩ (.slice bA bd.length bc)) (p2 + 1) (.slice bA bd.length bc) bd := (hli.byBlock fun b hb _ => hne b (by omega)).lower (by omega)
                have HRS := Lib.hid (res7 (p := w.heap.size) (by omega) hd7 hl7 (.int .i64 k) (.string nm) (.slice hA hy.h.length hc) (.int .i64 hy.ag) (.string hy.ofv) (.int .i64 hy.lim) (.slice bA bd.length bc))
                have HO7 := Lib.hid (ho6'.new (show w.heap.size ≤ p2 by omega) (i := 6) (.slice bA bd.length bc))
                clear hp hli ho6 hres HBO HP5 HK5 HO5 HZ5 hbx6 hd6 hz6 ho6' hne hbx7 hz7 zf hd7 hl7
                go_wp2
                exact bodyPost_ret (v := .agg #[.int .i64 k, .string nm, .slice hA hy.h.length hc, .int .i64 hy.ag, .string hy.ofv, .int .i64 hy.lim, .slice bA bd.length bc]) (by simp [results, Tryz.results14, go_sem, z0, z1, z2, z3, z4, z5, z6]) rfl
                  (ResE.ok (by repeat (first | (with_reducible exact HO7.out) | (with_reducible refine OnlyR.new ?_ (Nat.le_refl _) _))) HP6.out ⟨_, _, rfl, HRS.out.1, HRS.out.2⟩)
              · have HPB : Hid (R = .bad a' y) := Lib.hid (by rw [HP5.out, bind_bad hp])
                have HO6 := Lib.hid (HO5.out.trans ho6)
                clear hp ho6 hres HBO HP5
                go_wp2
                exact ⟨rfl, ResE.bad HO6.out HPB.out⟩
            · have HPB : Hid (R = .bad a' y) := Lib.hid (by rw [HP4.out, bind_bad hp])
              have HO5 := Lib.hid (HO4.out.trans ho5)
              clear hp ho5 hres HND HP4
              go_wp2
              exact ⟨rfl, ResE.bad HO5.out HPB.out⟩
          · have HPB : Hid (R = .bad a' y) := Lib.hid (by rw [HRH.out]; exact bind_bad hp)
            have HO4 := Lib.hid (HO3.out.ofX ho4 (by omega) (by omega))
            clear hp ho4 hres HC HRH
            go_wp2
            exact ⟨rfl, ResE.bad HO4.out HPB.out⟩
      · have HPB : Hid (R = .bad a' y) := Lib.hid (by rw [HP2.out, bind_bad hp])
        have HO3 := Lib.hid (HO2.out.trans ho3)
        clear hp ho3 hres HND HP2
        go_wp2
        exact ⟨rfl, ResE.bad HO3.out HPB.out⟩
    · have HPB : Hid (R = .bad a' y) := Lib.hid (by rw [HP1.out, bind_bad hp])
      have HO2 := Lib.hid (HO1.out.trans ho2)
      clear hp ho2 hres HNM HP1
      go_wp2
      exact ⟨rfl, ResE.bad HO2.out HPB.out⟩
  · have HPB : Hid (R = .bad a' y) := Lib.hid (by rw [HP.out, bind_bad hp])
    have HO1 := Lib.hid (HO0.out.trans ho1)
    clear hp ho1 hres HKD HP
    go_wp2
    exact ⟨rfl, ResE.bad HO1.out HPB.out⟩
end Go.Proofs.YtkobfngnnblpeaaGreatDoor
