/-
  Two lists of texts, or of terms, told alike by the library's Equal.
  Condition: the lists lie in memory.
  The program's sameLiteral and the library's EqualFunc by it.
  Condition: the literals lie in memory.
  The library's EqualFunc by the program's sameLiteral, and the program's Same.
  Condition: the literals lie in memory, and none of them has more terms than a text makes.
-/
import Derived.Test.YtkobfngnnblpeaaGreatDoorM2
import Derived.Test.YtkobfngnnblpeaaGreatDoorM36
import Derived.Test.YtkobfngnnblpeaaGreatDoorMPpt
namespace Go.Proofs.YtkobfngnnblpeaaGreatDoor
section
open Go.RowKit

theorem no_of {b : Bool} {P : Prop} (h : b = true ↔ P) (hn : ¬ P) : b = false := by
  cases b
  · rfl
  · exact (hn (h.1 rfl)).elim
theorem bytes_ext {x y : ByteArray} (h : x.toList = y.toList) : x = y := by
  rw [ByteArray.toList_eq, ByteArray.toList_eq] at h
  obtain ⟨⟨l⟩⟩ := x
  obtain ⟨⟨l'⟩⟩ := y
  simp only at h
  subst h
  rfl
theorem ext_upto {α : Type} {l1 l2 : List α} (hl : l1.length = l2.length) {j : Nat} (h : ∀ m, m < j → l1[m]? = l2[m]?) (hj : l1.length ≤ j) : l1 = l2 := by
  apply List.ext_getElem?
  intro m
  rcases Nat.lt_or_ge m j with h1 | h1
  · exact h m h1
  · rw [List.getElem?_eq_none (by omega), List.getElem?_eq_none (by omega)]

set_option maxRecDepth 100000 in
set_option maxHeartbeats 2000000 in
theorem q_eqS (b : Bool) (l1 l2 : List ByteArray) (hq : b = true ↔ l1 = l2) (A B : Option Addr) (c d : Nat) (w : World) (h1 : ElsAt strC 1 w A l1) (h2 : ElsAt strC 1 w B l2) (hl : l1.length ≤ 1000000) :
    Calls Tryz.prog 52 #[.slice A l1.length c, .slice B l2.length d] w fun e w' => e = .returned (.bool b) ∧ Below w.heap.size w w' := by
  have H1 := Lib.hid h1
  have H2 := Lib.hid h2
  have HQ := Lib.hid hq
  clear h1 h2 hq
  by_cases hlen : l1.length = l2.length
  · have HL := Lib.hid hlen
    rw [← hlen]
    clear hlen
    go_enter Tryz.func52, Tryz.ntmps52
    go_wp2
    go_loopw [13] (fun i wr => ∃ j : Nat, i = .int .i64 j ∧ j ≤ l1.length ∧ (∀ m, m < j → l1[m]? = l2[m]?) ∧ Below w.heap.size w wr) (fun i _ => l1.length - (intOf i).toNat)
    case atStart => exact ⟨0, rfl, Nat.zero_le _, fun m hm => absurd hm (Nat.not_lt_zero _), Below.refl _ _⟩
    case round =>
      obtain ⟨j, rfl, hj, hal, hb⟩ := hrel
      have HA := Lib.hid hal
      have HB := Lib.hid hb
      by_cases hlt : j < l1.length
      · obtain ⟨x, hx⟩ : ∃ x, l1[j]? = some x := ⟨_, List.getElem?_eq_getElem hlt⟩
        obtain ⟨y, hy⟩ : ∃ y, l2[j]? = some y := ⟨_, List.getElem?_eq_getElem (by have := HL.out; omega)⟩
        obtain ⟨a, rfl, a0⟩ := els_S (H1.out.below hb) hx
        obtain ⟨a', rfl, b0⟩ := els_S (H2.out.below hb) hy
        have HX := Lib.hid hx
        have HY := Lib.hid hy
        clear hb hal hx hy
        by_cases hxy : x.toList = y.toList
        · have hxb : (x.toList == y.toList) = true := by simp [hxy]
          have HE := Lib.hid (bytes_ext hxy)
          clear hxy
          go_wp2
          go_region
          all_goals
            go_wp2
            go_roundw
            case rel =>
              refine ⟨j + 1, by go_num, by omega, fun m hm => ?_, HB.out.drew⟩
              rcases Nat.lt_or_ge m j with q | q
              · exact HA.out m q
              · obtain rfl : m = j := by omega
                rw [HX.out, HY.out, HE.out]
            case measure => simp [intOf]; omega
        · have hxb : (x.toList == y.toList) = false := by simp [hxy]
          have HE : Hid (l1 = l2 → False) := Lib.hid fun h => hxy (by
            have e := HX.out
            rw [h, HY.out] at e
            rw [Option.some.inj e])
          clear hxy
          go_wp2
          go_region
          all_goals
            go_wp2
            go_ret
            exact ⟨by rw [no_of HQ.out HE.out]; rfl, HB.out.drew⟩
      · clear hb hal
        go_wp2
        go_ret
        exact ⟨by rw [HQ.out.2 (ext_upto HL.out HA.out (by omega))]; rfl, HB.out⟩
  · have hne : ((l1.length : Int) == (l2.length : Int)) = false := by simp; omega
    go_enter Tryz.func52, Tryz.ntmps52
    go_wp2
    go_ret
    exact ⟨by rw [no_of HQ.out fun h => hlen (by rw [h])]; rfl, Below.refl _ _⟩
def eqT (x y : TmP) : Bool := x.s.toList == y.s.toList && x.a == y.a && eqV x.v y.v
theorem eqT_iff (x y : TmP) : eqT x y = true ↔ x = y := by
  obtain ⟨s, a, v⟩ := x
  obtain ⟨s', a', v'⟩ := y
  unfold eqT
  simp only [Bool.and_eq_true, beq_iff_eq, eqV_iff, TmP.mk.injEq]
  exact ⟨fun ⟨⟨h1, h2⟩, h3⟩ => ⟨bytes_ext h1, h2, h3⟩, fun ⟨h1, h2, h3⟩ => ⟨⟨by rw [h1], h2⟩, h3⟩⟩
theorem equal_tmB (s : ByteArray) (a : Bool) (vk : Int) (vf : Bool) (vn : Int) (vt : ByteArray) (s' : ByteArray) (a' : Bool) (vk' : Int) (vf' : Bool) (vn' : Int) (vt' : ByteArray) (w : World) :
    (Op.equalIn 10000 47 (.agg #[.string s, .bool a, .int .i64 vk, .bool vf, .int .i64 vn, .string vt]) (.agg #[.string s', .bool a', .int .i64 vk', .bool vf', .int .i64 vn', .string vt'])).run Tryz.prog w = .ok (eqT ⟨s, a, ⟨vk, vf, vn, vt⟩⟩ ⟨s', a', ⟨vk', vf', vn', vt'⟩⟩) w := by
  have hS : Tryz.prog.underlying 47 = some (.struct (Tryz.prog.fieldsOf 47)) := by kernel_rfl
  rw [show (10000 : Nat) = 9999 + 1 from rfl, run_equalIn_agg w 9999 47 _ _ hS (by kernel_rfl)]
  simp only [Program.fieldsOf, Tryz.underlying47]
  go_simp
  unfold eqT eqV
  by_cases h1 : s.toList = s'.toList <;> by_cases h2 : a = a' <;> by_cases h3 : vk = vk' <;> by_cases h4 : vf = vf' <;> by_cases h5 : vn = vn' <;> by_cases h6 : vt.toList = vt'.toList <;> simp [h1, h2, h3, h4, h5, h6]
set_option maxRecDepth 100000 in
set_option maxHeartbeats 2000000 in
theorem q_eqT (b : Bool) (l1 l2 : List TmP) (hq : b = true ↔ l1 = l2) (A B : Option Addr) (c d : Nat) (w : World) (h1 : ElsAt TmP.cells 6 w A l1) (h2 : ElsAt TmP.cells 6 w B l2) (hl : l1.length ≤ 1000000) :
    Calls Tryz.prog 92 #[.slice A l1.length c, .slice B l2.length d] w fun e w' => e = .returned (.bool b) ∧ Below w.heap.size w w' := by
  have H1 := Lib.hid h1
  have H2 := Lib.hid h2
  have HEQ := Lib.hid equal_tmB
  have HQ := Lib.hid hq
  clear h1 h2 hq
  by_cases hlen : l1.length = l2.length
  · have HL := Lib.hid hlen
    rw [← hlen]
    clear hlen
    go_enter Tryz.func92, Tryz.ntmps92
    go_wp2
    go_loopw [13] (fun i wr => ∃ j : Nat, i = .int .i64 j ∧ j ≤ l1.length ∧ (∀ m, m < j → l1[m]? = l2[m]?) ∧ Below w.heap.size w wr) (fun i _ => l1.length - (intOf i).toNat)
    case atStart => exact ⟨0, rfl, Nat.zero_le _, fun m hm => absurd hm (Nat.not_lt_zero _), Below.refl _ _⟩
    case round =>
      obtain ⟨j, rfl, hj, hal, hb⟩ := hrel
      have HA := Lib.hid hal
      have HB := Lib.hid hb
      by_cases hlt : j < l1.length
      · obtain ⟨x, hx⟩ : ∃ x, l1[j]? = some x := ⟨_, List.getElem?_eq_getElem hlt⟩
        obtain ⟨y, hy⟩ : ∃ y, l2[j]? = some y := ⟨_, List.getElem?_eq_getElem (by have := HL.out; omega)⟩
        obtain ⟨a, rfl, a0, a1, a2, a3, a4, a5⟩ := els_T (H1.out.below hb) hx
        obtain ⟨a', rfl, b0, b1, b2, b3, b4, b5⟩ := els_T (H2.out.below hb) hy
        obtain ⟨xs, xa, ⟨xk, xf, xn, xt⟩⟩ := x
        obtain ⟨ys, ya, ⟨yk, yf, yn, yt⟩⟩ := y
        simp only at a0 a1 a2 a3 a4 a5 b0 b1 b2 b3 b4 b5
        have heq := HEQ.out xs xa xk xf xn xt ys ya yk yf yn yt
        obtain ⟨E, hE⟩ : ∃ E, eqT ⟨xs, xa, ⟨xk, xf, xn, xt⟩⟩ ⟨ys, ya, ⟨yk, yf, yn, yt⟩⟩ = E := ⟨_, rfl⟩
        rw [hE] at heq
        have HX := Lib.hid hx
        have HY := Lib.hid hy
        clear hb hal hx hy
        cases E with
        | true =>
          have HE := Lib.hid ((eqT_iff _ _).1 hE)
          clear hE
          go_wp2
          go_region
          all_goals
            go_wp2
            go_roundw
            case rel =>
              refine ⟨j + 1, by go_num, by omega, fun m hm => ?_, HB.out.drew⟩
              rcases Nat.lt_or_ge m j with q | q
              · exact HA.out m q
              · obtain rfl : m = j := by omega
                rw [HX.out, HY.out, HE.out]
            case measure => simp [intOf]; omega
        | false =>
          have HE : Hid (l1 = l2 → False) := Lib.hid fun h => by
            have e := HX.out
            rw [h, HY.out] at e
            have e2 := (eqT_iff _ _).2 (Option.some.inj e).symm
            rw [hE] at e2
            cases e2
          clear hE
          go_wp2
          go_region
          all_goals
            go_wp2
            go_ret
            exact ⟨by rw [no_of HQ.out HE.out]; rfl, HB.out.drew⟩
      · clear hb hal
        go_wp2
        go_ret
        exact ⟨by rw [HQ.out.2 (ext_upto HL.out HA.out (by omega))]; rfl, HB.out⟩
  · have hne : ((l1.length : Int) == (l2.length : Int)) = false := by simp; omega
    go_enter Tryz.func92, Tryz.ntmps92
    go_wp2
    go_ret
    exact ⟨by rw [no_of HQ.out fun h => hlen (by rw [h])]; rfl, Below.refl _ _⟩
end
end Go.Proofs.YtkobfngnnblpeaaGreatDoor
namespace Go.Proofs.YtkobfngnnblpeaaGreatDoor
section
open Go.RowKit

set_option maxRecDepth 100000 in
set_option maxHeartbeats 2000000 in
theorem p_sameLit (b : Bool) (n n' : Bool) (s s' : ByteArray) (l l' : List TmP) (o o' : Int) (hq : b = true ↔ (n = n' ∧ s = s' ∧ l = l' ∧ o = o')) (A A2 : Option Addr) (c c2 : Nat) (w : World) (h1 : ElsAt TmP.cells 6 w A l) (h2 : ElsAt TmP.cells 6 w A2 l') (hl : l.length ≤ 1000000) :
    Calls Tryz.prog 54 #[.agg #[.bool n, .string s, .slice A l.length c, .int .i64 o], .agg #[.bool n', .string s', .slice A2 l'.length c2, .int .i64 o']] w fun e w' => e = .returned (.bool b) ∧ Below w.heap.size w w' := by
  have hon := two_new w (liO n s A l.length c o) (liO n' s' A2 l'.length c2 o')
  have HON := Lib.hid hon
  have H1 := Lib.hid (h1.below hon)
  have H2 := Lib.hid (h2.below hon)
  have K1 := Lib.hid (first_of_two w (liO n s A l.length c o) (liO n' s' A2 l'.length c2 o'))
  have K2 := Lib.hid (second_of_two w (liO n s A l.length c o) (liO n' s' A2 l'.length c2 o'))
  have HQ := Lib.hid hq
  clear h1 h2 hon hq
  by_cases hn : n = n'
  · subst hn
    have hnb : (n == n) = true := by simp
    by_cases hs : s.toList = s'.toList
    · have hs' := bytes_ext hs
      subst hs'
      have hsb : (s.toList == s.toList) = true := by simp
      clear hs
      by_cases ho : o = o'
      · subst ho
        have hob : (o == o) = true := by simp
        have HC := Lib.hid (q_eqT b l l' ⟨fun h => (HQ.out.1 h).2.2.1, fun h => HQ.out.2 ⟨rfl, rfl, h, rfl⟩⟩ A A2 c c2 _ H1.out H2.out hl)
        obtain ⟨c0, c1, c2', c3, _⟩ := box4_of K1.out
        obtain ⟨d0, d1, d2, d3, _⟩ := box4_of K2.out
        clear H1 H2 K1 K2 hl
        go_enter Tryz.func54, Tryz.ntmps54
        go_wp2_with fail
        refine HC.out.mono ?_
        rintro e w3 ⟨rfl, hb3⟩
        have HB3 := Lib.hid (HON.out.trans (hb3.mono HON.out.size))
        clear hb3 HC HON c0 c1 c2' c3 d0 d1 d2 d3
        go_wp2
        go_ret
        exact ⟨rfl, HB3.out⟩
      · have hob : (o == o') = false := by simp [ho]
        obtain ⟨c0, c1, c2', c3, _⟩ := box4_of K1.out
        obtain ⟨d0, d1, d2, d3, _⟩ := box4_of K2.out
        have HN := Lib.hid (no_of HQ.out fun h => ho h.2.2.2)
        clear H1 H2 K1 K2 hl ho
        go_enter Tryz.func54, Tryz.ntmps54
        go_wp2
        go_ret
        exact ⟨by rw [HN.out]; rfl, HON.out⟩
    · have hsb : (s.toList == s'.toList) = false := by simp [hs]
      obtain ⟨c0, c1, c2', c3, _⟩ := box4_of K1.out
      obtain ⟨d0, d1, d2, d3, _⟩ := box4_of K2.out
      have HN := Lib.hid (no_of HQ.out fun h => hs (by rw [h.2.1]))
      clear H1 H2 K1 K2 hl hs
      go_enter Tryz.func54, Tryz.ntmps54
      go_wp2
      go_ret
      exact ⟨by rw [HN.out]; rfl, HON.out⟩
  · have hnb : (n == n') = false := by simp [hn]
    obtain ⟨c0, c1, c2', c3, _⟩ := box4_of K1.out
    obtain ⟨d0, d1, d2, d3, _⟩ := box4_of K2.out
    have HN := Lib.hid (no_of HQ.out fun h => hn h.1)
    clear H1 H2 K1 K2 hl hn
    go_enter Tryz.func54, Tryz.ntmps54
    go_wp2
    go_ret
    exact ⟨by rw [HN.out]; rfl, HON.out⟩
end
end Go.Proofs.YtkobfngnnblpeaaGreatDoor
namespace Go.Proofs.YtkobfngnnblpeaaGreatDoor
section
open Go.RowKit

theorem LmG.li_iff (x y : LmG) : x.li = y.li ↔ (x.n = y.n ∧ x.s = y.s ∧ x.args = y.args ∧ x.o = y.o) := by
  simp [LmG.li]
set_option maxRecDepth 100000 in
set_option maxHeartbeats 4000000 in
theorem q_eqF (b : Bool) (l1 l2 : List LmG) (hq : b = true ↔ l1.map LmG.li = l2.map LmG.li) (A B : Option Addr) (c d : Nat) (w : World) (h1 : LgsAt w A l1) (h2 : LgsAt w B l2) (hl : l1.length ≤ 1000000) (hx1 : ∀ x ∈ l1, x.args.length ≤ 400) :
    Calls Tryz.prog 53 #[.slice A l1.length c, .slice B l2.length d, .func (.func 54) #[] #[]] w fun e w' => e = .returned (.bool b) ∧ Below w.heap.size w w' := by
  have H1 := Lib.hid h1
  have H2 := Lib.hid h2
  have HQ := Lib.hid hq
  have HF := Lib.hid hx1
  clear h1 h2 hq hx1
  by_cases hlen : l1.length = l2.length
  · have HL := Lib.hid hlen
    rw [← hlen]
    clear hlen
    go_enter Tryz.func53, Tryz.ntmps53
    go_wp2
    go_loopw [17] (fun i wr => ∃ j : Nat, i = .int .i64 j ∧ j ≤ l1.length ∧ (∀ m, m < j → (l1.map LmG.li)[m]? = (l2.map LmG.li)[m]?) ∧ Below w.heap.size w wr) (fun i _ => l1.length - (intOf i).toNat)
    case atStart => exact ⟨0, rfl, Nat.zero_le _, fun m hm => absurd hm (Nat.not_lt_zero _), Below.refl _ _⟩
    case round =>
      obtain ⟨j, rfl, hj, hal, hb⟩ := hrel
      have HA := Lib.hid hal
      have HB := Lib.hid hb
      by_cases hlt : j < l1.length
      · obtain ⟨x, hx⟩ : ∃ x, l1[j]? = some x := ⟨_, List.getElem?_eq_getElem hlt⟩
        obtain ⟨y, hy⟩ : ∃ y, l2[j]? = some y := ⟨_, List.getElem?_eq_getElem (by have := HL.out; omega)⟩
        have h1' := H1.out.below hb
        have h2' := H2.out.below hb
        have hx1 := h1'.2 x (List.mem_of_getElem? hx)
        have hy1 := h2'.2 y (List.mem_of_getElem? hy)
        have hxl := HF.out x (List.mem_of_getElem? hx)
        obtain ⟨a, rfl, a0, a1, a2, a3⟩ := els_L h1'.1 hx
        obtain ⟨a', rfl, b0, b1, b2, b3⟩ := els_L (h2'.below (one_new wr (liO x.n x.s x.A x.args.length x.c x.o))).1 hy
        have HX : Hid ((l1.map LmG.li)[j]? = some x.li) := Lib.hid (by simp [List.getElem?_map, hx])
        have HY : Hid ((l2.map LmG.li)[j]? = some y.li) := Lib.hid (by simp [List.getElem?_map, hy])
        obtain ⟨q, hq⟩ : ∃ q : Bool, q = true ↔ x.li = y.li := by
          by_cases h : x.li = y.li
          · exact ⟨true, fun _ => h, fun _ => rfl⟩
          · exact ⟨false, fun e => (by cases e), fun e => (h e).elim⟩
        have HLT : Hid (∀ W, Below wr.heap.size wr W → Calls Tryz.prog 54 #[.agg #[.bool x.n, .string x.s, .slice x.A x.args.length x.c, .int .i64 x.o], .agg #[.bool y.n, .string y.s, .slice y.A y.args.length y.c, .int .i64 y.o]] W fun e w' => e = .returned (.bool q) ∧ Below W.heap.size W w') := Lib.hid fun W hW => p_sameLit q x.n y.n x.s y.s x.args y.args x.o y.o (hq.trans (LmG.li_iff x y)) x.A y.A x.c y.c W (hx1.below hW) (hy1.below hW) (by omega)
        have HE := Lib.hid hq
        clear hb hal hx hy h1' h2' hx1 hy1 hxl hq
        go_wp2_with fail
        refine (HLT.out _ (two_new _ _ _)).mono ?_
        rintro e w3 ⟨rfl, hb3⟩
        have HB3 := Lib.hid (HB.out.trans (((two_new wr _ _).trans (hb3.mono (two_new wr _ _).size)).mono HB.out.size))
        clear hb3 HLT a0 a1 a2 a3 b0 b1 b2 b3
        cases q with
        | true =>
          go_wp2
          go_roundw
          case rel =>
            refine ⟨j + 1, by go_num, by omega, fun m hm => ?_, HB3.out⟩
            rcases Nat.lt_or_ge m j with g | g
            · exact HA.out m g
            · obtain rfl : m = j := by omega
              rw [HX.out, HY.out, (show x.li = y.li by simpa using HE.out)]
          case measure => simp [intOf]; omega
        | false =>
          have HN : Hid (l1.map LmG.li = l2.map LmG.li → False) := Lib.hid fun h => by
            have e := HX.out
            rw [h, HY.out] at e
            have e2 := HE.out.2 (Option.some.inj e).symm
            cases e2
          go_wp2
          go_ret
          exact ⟨by rw [no_of HQ.out HN.out]; rfl, HB3.out⟩
      · clear hb hal
        go_wp2
        go_ret
        exact ⟨by rw [HQ.out.2 (ext_upto (by simpa using HL.out) HA.out (by simp; omega))]; rfl, HB.out⟩
  · have hne : ((l1.length : Int) == (l2.length : Int)) = false := by simp; omega
    go_enter Tryz.func53, Tryz.ntmps53
    go_wp2
    go_ret
    exact ⟨by rw [no_of HQ.out fun h => hlen (by have := congrArg List.length h; simpa using this)]; rfl, Below.refl _ _⟩
set_option maxRecDepth 100000 in
set_option maxHeartbeats 8000000 in
theorem p_same (b : Bool) (G1 G2 : RuG) (hq : b = true ↔ G1.pl = G2.pl) (w : World) (h1 : G1.Ok w) (h2 : G2.Ok w) (hf : G1.pl.Few) :
    Calls Tryz.prog 27 #[.agg G1.cells, .agg G2.cells] w fun e w' => e = .returned (.bool b) ∧ Below w.heap.size w w' := by
  obtain ⟨k, nm, hA, hc, head, ag, ofv, lim, bA, bc, body⟩ := G1
  obtain ⟨k', nm', hA2, hc2, head', ag', ofv', lim', bA2, bc2, body'⟩ := G2
  have HQ : Hid (b = true ↔ (k = k' ∧ nm = nm' ∧ head = head' ∧ ag = ag' ∧ ofv = ofv' ∧ lim = lim' ∧ body.map LmG.li = body'.map LmG.li)) := Lib.hid (hq.trans (by simp [RuG.pl]))
  have hf1 : head.length ≤ 400 := hf.1
  have hf2 : body.length ≤ 400 := by have := hf.2.1; simpa using this
  have hf3 : ∀ x ∈ body, x.args.length ≤ 400 := fun x hx => hf.2.2 x.li (List.mem_map.2 ⟨x, hx, rfl⟩)
  have hon := two_new w (.cells #[.int .i64 k, .string nm, .slice hA head.length hc, .int .i64 ag, .string ofv, .int .i64 lim, .slice bA body.length bc] 35) (.cells #[.int .i64 k', .string nm', .slice hA2 head'.length hc2, .int .i64 ag', .string ofv', .int .i64 lim', .slice bA2 body'.length bc2] 35)
  have HON := Lib.hid hon
  have K1 := first_of_two w (.cells #[.int .i64 k, .string nm, .slice hA head.length hc, .int .i64 ag, .string ofv, .int .i64 lim, .slice bA body.length bc] 35) (.cells #[.int .i64 k', .string nm', .slice hA2 head'.length hc2, .int .i64 ag', .string ofv', .int .i64 lim', .slice bA2 body'.length bc2] 35)
  have K2 := second_of_two w (.cells #[.int .i64 k, .string nm, .slice hA head.length hc, .int .i64 ag, .string ofv, .int .i64 lim, .slice bA body.length bc] 35) (.cells #[.int .i64 k', .string nm', .slice hA2 head'.length hc2, .int .i64 ag', .string ofv', .int .i64 lim', .slice bA2 body'.length bc2] 35)
  have hsz : ((w.alloc (.cells #[.int .i64 k, .string nm, .slice hA head.length hc, .int .i64 ag, .string ofv, .int .i64 lim, .slice bA body.length bc] 35)).alloc (.cells #[.int .i64 k', .string nm', .slice hA2 head'.length hc2, .int .i64 ag', .string ofv', .int .i64 lim', .slice bA2 body'.length bc2] 35)).heap.size = w.heap.size + 2 := by simp
  have HK : Hid (∀ W, Below ((w.alloc (.cells #[.int .i64 k, .string nm, .slice hA head.length hc, .int .i64 ag, .string ofv, .int .i64 lim, .slice bA body.length bc] 35)).alloc (.cells #[.int .i64 k', .string nm', .slice hA2 head'.length hc2, .int .i64 ag', .string ofv', .int .i64 lim', .slice bA2 body'.length bc2] 35)).heap.size ((w.alloc (.cells #[.int .i64 k, .string nm, .slice hA head.length hc, .int .i64 ag, .string ofv, .int .i64 lim, .slice bA body.length bc] 35)).alloc (.cells #[.int .i64 k', .string nm', .slice hA2 head'.length hc2, .int .i64 ag', .string ofv', .int .i64 lim', .slice bA2 body'.length bc2] 35)) W → W.heap[w.heap.size]? = some (.cells #[.int .i64 k, .string nm, .slice hA head.length hc, .int .i64 ag, .string ofv, .int .i64 lim, .slice bA body.length bc] 35 (0, 0)) ∧ W.heap[w.heap.size + 1]? = some (.cells #[.int .i64 k', .string nm', .slice hA2 head'.length hc2, .int .i64 ag', .string ofv', .int .i64 lim', .slice bA2 body'.length bc2] 35 (0, 0))) := Lib.hid fun W hW => ⟨(hW.block _ (by omega)).trans K1, (hW.block _ (by omega)).trans K2⟩
  obtain ⟨qh, hqh⟩ : ∃ q : Bool, q = true ↔ head = head' := by
    by_cases h : head = head'
    · exact ⟨true, fun _ => h, fun _ => rfl⟩
    · exact ⟨false, fun e => (by cases e), fun e => (h e).elim⟩
  have HQH := Lib.hid hqh
  have HC1 := Lib.hid (q_eqS qh head head' hqh hA hA2 hc hc2 ((w.alloc (.cells #[.int .i64 k, .string nm, .slice hA head.length hc, .int .i64 ag, .string ofv, .int .i64 lim, .slice bA body.length bc] 35)).alloc (.cells #[.int .i64 k', .string nm', .slice hA2 head'.length hc2, .int .i64 ag', .string ofv', .int .i64 lim', .slice bA2 body'.length bc2] 35)) (h1.below hon).1 (h2.below hon).1 (by omega))
  have HC2 : Hid (∀ c : Bool, (c = true ↔ body.map LmG.li = body'.map LmG.li) → ∀ W, Below ((w.alloc (.cells #[.int .i64 k, .string nm, .slice hA head.length hc, .int .i64 ag, .string ofv, .int .i64 lim, .slice bA body.length bc] 35)).alloc (.cells #[.int .i64 k', .string nm', .slice hA2 head'.length hc2, .int .i64 ag', .string ofv', .int .i64 lim', .slice bA2 body'.length bc2] 35)).heap.size ((w.alloc (.cells #[.int .i64 k, .string nm, .slice hA head.length hc, .int .i64 ag, .string ofv, .int .i64 lim, .slice bA body.length bc] 35)).alloc (.cells #[.int .i64 k', .string nm', .slice hA2 head'.length hc2, .int .i64 ag', .string ofv', .int .i64 lim', .slice bA2 body'.length bc2] 35)) W → Calls Tryz.prog 53 #[.slice bA body.length bc, .slice bA2 body'.length bc2, .func (.func 54) #[] #[]] W fun e w' => e = .returned (.bool c) ∧ Below W.heap.size W w') := Lib.hid fun c hc' W hW => q_eqF c body body' hc' bA bA2 bc bc2 W ((h1.below hon).below hW).2 ((h2.below hon).below hW).2 (by omega) hf3
  show Calls Tryz.prog 27 #[.agg #[.int .i64 k, .string nm, .slice hA head.length hc, .int .i64 ag, .string ofv, .int .i64 lim, .slice bA body.length bc], .agg #[.int .i64 k', .string nm', .slice hA2 head'.length hc2, .int .i64 ag', .string ofv', .int .i64 lim', .slice bA2 body'.length bc2]] w fun e w' => e = .returned (.bool b) ∧ Below w.heap.size w w'
  obtain ⟨c0, c1, c2, c3, c4, c5, c6, _⟩ := box7r_of K1
  obtain ⟨d0, d1, d2, d3, d4, d5, d6, _⟩ := box7r_of K2
  clear h1 h2 hf hf1 hf2 hf3 hon K1 K2 hsz hq hqh
  obtain ⟨tk, htk⟩ : ∃ t, (k == k') = t := ⟨_, rfl⟩
  cases tk with
  | false =>
    have HN := Lib.hid (no_of HQ.out fun h => by simp [h.1] at htk)
    go_enter Tryz.func27, Tryz.ntmps27
    go_wp2
    go_ret
    exact ⟨by rw [HN.out]; rfl, HON.out⟩

  | true =>
    obtain ⟨tn, htn⟩ : ∃ t, (nm.toList == nm'.toList) = t := ⟨_, rfl⟩
    cases tn with
    | false =>
      have HN := Lib.hid (no_of HQ.out fun h => by simp [h.2.1] at htn)
      go_enter Tryz.func27, Tryz.ntmps27
      go_wp2
      go_ret
      exact ⟨by rw [HN.out]; rfl, HON.out⟩

    | true =>
      have e1 : k = k' := by simpa using htk
      have e2 : nm = nm' := bytes_ext (by simpa using htn)
      have HE := Lib.hid (And.intro e1 e2)
      clear e1 e2
      go_enter Tryz.func27, Tryz.ntmps27
      go_wp2_with fail
      refine HC1.out.mono ?_
      rintro e w3 ⟨rfl, hb3⟩
      obtain ⟨K1, K2⟩ := HK.out w3 hb3
      have HB3 := Lib.hid hb3
      have HO3 := Lib.hid (HON.out.trans (hb3.mono HON.out.size))
      clear c0 c1 c2 c3 c4 c5 c6 d0 d1 d2 d3 d4 d5 d6 hb3 HC1
      obtain ⟨c0, c1, c2, c3, c4, c5, c6, _⟩ := box7r_of K1
      obtain ⟨d0, d1, d2, d3, d4, d5, d6, _⟩ := box7r_of K2
      clear K1 K2 htk htn
      cases qh with
      | false =>
        have HN := Lib.hid (no_of HQ.out fun h => by have := HQH.out.2 h.2.2.1; cases this)
        go_wp2
        go_ret
        exact ⟨by rw [HN.out]; rfl, HO3.out⟩

      | true =>
        have e3 : head = head' := by simpa using HQH.out
        have HE3 := Lib.hid e3
        clear e3
        obtain ⟨ta, hta⟩ : ∃ t, (ag == ag') = t := ⟨_, rfl⟩
        cases ta with
        | false =>
          have HN := Lib.hid (no_of HQ.out fun h => by simp [h.2.2.2.1] at hta)
          go_wp2
          go_ret
          exact ⟨by rw [HN.out]; rfl, HO3.out⟩

        | true =>
          obtain ⟨to, hto⟩ : ∃ t, (ofv.toList == ofv'.toList) = t := ⟨_, rfl⟩
          cases to with
          | false =>
            have HN := Lib.hid (no_of HQ.out fun h => by simp [h.2.2.2.2.1] at hto)
            go_wp2
            go_ret
            exact ⟨by rw [HN.out]; rfl, HO3.out⟩

          | true =>
            obtain ⟨tl, htl⟩ : ∃ t, (lim == lim') = t := ⟨_, rfl⟩
            cases tl with
            | false =>
              have HN := Lib.hid (no_of HQ.out fun h => by simp [h.2.2.2.2.2.1] at htl)
              go_wp2
              go_ret
              exact ⟨by rw [HN.out]; rfl, HO3.out⟩

            | true =>
              have HL := Lib.hid (HC2.out b ⟨fun h => (HQ.out.1 h).2.2.2.2.2.2, fun h => HQ.out.2 ⟨HE.out.1, HE.out.2, HE3.out, by simpa using hta, bytes_ext (by simpa using hto), by simpa using htl, h⟩⟩ w3 HB3.out)
              go_wp2_with fail
              refine HL.out.mono ?_
              rintro e w4 ⟨rfl, hb4⟩
              have HO4 := Lib.hid (HO3.out.trans (hb4.mono HO3.out.size))
              clear hb4 HL HC2
              go_wp2
              go_ret
              exact ⟨rfl, HO4.out⟩
end
end Go.Proofs.YtkobfngnnblpeaaGreatDoor
