/-
  The document's literal at any two literals in memory.
  Condition: the literals lie in memory.
-/
import Derived.Test.YtmkejlhkipngnaaGreatDoorMPsa
namespace Go.Proofs.YtmkejlhkipngnaaGreatDoor
open Go.RowKit

set_option maxRecDepth 100000 in
set_option maxHeartbeats 4000000 in
theorem r_literalB (b : Bool) (n n' : Bool) (s s' : ByteArray) (l l' : List TmP) (o o' : Int) (hq : b = true ↔ (n = n' ∧ s = s' ∧ l = l' ∧ o = o')) (A A2 : Option Addr) (c c2 : Nat) (w : World) (h1 : ElsAt TmP.cells 6 w A l) (h2 : ElsAt TmP.cells 6 w A2 l') (hl : l.length ≤ 1000000) :
    Calls Tryz.prog 23 #[.agg #[.bool n, .string s, .slice A l.length c, .int .i64 o], .agg #[.bool n', .string s', .slice A2 l'.length c2, .int .i64 o']] w fun e w' => e = .returned (.bool b) ∧ Below w.heap.size w w' := by
  have hon := two_new w (liO n s A l.length c o) (liO n' s' A2 l'.length c2 o')
  have HON := Lib.hid hon
  have H1 := Lib.hid (h1.below hon)
  have H2 := Lib.hid (h2.below hon)
  have K1 := Lib.hid (first_of_two w (liO n s A l.length c o) (liO n' s' A2 l'.length c2 o'))
  have K2 := Lib.hid (second_of_two w (liO n s A l.length c o) (liO n' s' A2 l'.length c2 o'))
  have HQ := Lib.hid hq
  have HEQ := Lib.hid equal_tmB
  obtain ⟨c0, c1, c2', c3, _⟩ := box4_of K1.out
  obtain ⟨d0, d1, d2, d3, _⟩ := box4_of K2.out
  clear h1 h2 hon hq
  obtain ⟨tn, htn⟩ : ∃ t, (n == n') = t := ⟨_, rfl⟩
  cases tn with
  | false =>
    have HN := Lib.hid (no_of HQ.out fun h => by simp [h.1] at htn)
    have htnn : (n != n') = true := by simp only [bne, htn]; rfl
    go_enter Tryz.func23, Tryz.ntmps23
    go_wp2
    go_ret
    exact ⟨by rw [HN.out]; rfl, HON.out⟩
  | true =>
    have htnn : (n != n') = false := by simp only [bne, htn]; rfl
    obtain ⟨ts, hts⟩ : ∃ t, (s.toList == s'.toList) = t := ⟨_, rfl⟩
    cases ts with
    | false =>
      have HN := Lib.hid (no_of HQ.out fun h => by simp [h.2.1] at hts)
      have htsn : (s.toList != s'.toList) = true := by simp only [bne, hts]; rfl
      go_enter Tryz.func23, Tryz.ntmps23
      go_wp2
      go_ret
      exact ⟨by rw [HN.out]; rfl, HON.out⟩
    | true =>
      have htsn : (s.toList != s'.toList) = false := by simp only [bne, hts]; rfl
      obtain ⟨to, hto⟩ : ∃ t, (o == o') = t := ⟨_, rfl⟩
      cases to with
      | false =>
        have HN := Lib.hid (no_of HQ.out fun h => by simp [h.2.2.2] at hto)
        have hton : (o != o') = true := by simp only [bne, hto]; rfl
        go_enter Tryz.func23, Tryz.ntmps23
        go_wp2
        go_ret
        exact ⟨by rw [HN.out]; rfl, HON.out⟩
      | true =>
        have hton : (o != o') = false := by simp only [bne, hto]; rfl
        obtain ⟨tl, htl⟩ : ∃ t, ((l.length : Int) == (l'.length : Int)) = t := ⟨_, rfl⟩
        cases tl with
        | false =>
          have HN := Lib.hid (no_of HQ.out fun h => by simp [h.2.2.1] at htl)
          have htln : ((l.length : Int) != (l'.length : Int)) = true := by simp only [bne, htl]; rfl
          go_enter Tryz.func23, Tryz.ntmps23
          go_wp2
          go_ret
          exact ⟨by rw [HN.out]; rfl, HON.out⟩
        | true =>
          have htln : ((l.length : Int) != (l'.length : Int)) = false := by simp only [bne, htl]; rfl
          have HL : Hid (l.length = l'.length) := Lib.hid (by have : (l.length : Int) = l'.length := by simpa using htl
                                                              omega)
          have HE : Hid (n = n' ∧ s = s' ∧ o = o') := Lib.hid ⟨by simpa using htn, bytes_ext (by simpa using hts), by simpa using hto⟩
          go_enter Tryz.func23, Tryz.ntmps23
          go_wp2
          clear htl hto hts htn htln hton htsn htnn
          go_loopw [5] (fun i wr => ∃ j : Nat, i = .int .i64 j ∧ j ≤ l.length ∧ (∀ m, m < j → l[m]? = l'[m]?) ∧ Below (w.heap.size + 2) ((w.alloc (liO n s A l.length c o)).alloc (liO n' s' A2 l'.length c2 o')) wr) (fun i _ => l.length - (intOf i).toNat)
          case atStart => exact ⟨0, rfl, Nat.zero_le _, fun m hm => absurd hm (Nat.not_lt_zero _), Below.refl _ _⟩
          case round =>
            obtain ⟨j, rfl, hj, hal, hb⟩ := hrel
            have HA := Lib.hid hal
            have HB := Lib.hid hb
            have hb' : Below ((w.alloc (liO n s A l.length c o)).alloc (liO n' s' A2 l'.length c2 o')).heap.size ((w.alloc (liO n s A l.length c o)).alloc (liO n' s' A2 l'.length c2 o')) wr := by simpa using hb
            have HBE : Hid (Below w.heap.size w wr) := Lib.hid (HON.out.trans (hb.mono (by omega)))
            obtain ⟨c0, c1, c2', c3, _⟩ := box4_of ((hb.block w.heap.size (by omega)).trans K1.out)
            obtain ⟨d0, d1, d2, d3, _⟩ := box4_of ((hb.block (w.heap.size + 1) (by omega)).trans K2.out)
            by_cases hlt : j < l.length
            · obtain ⟨x, hx⟩ : ∃ x, l[j]? = some x := ⟨_, List.getElem?_eq_getElem hlt⟩
              have hlt' : j < l'.length := by have := HL.out; omega
              obtain ⟨y, hy⟩ : ∃ y, l'[j]? = some y := ⟨_, List.getElem?_eq_getElem hlt'⟩
              obtain ⟨a, rfl, a0, a1, a2, a3, a4, a5⟩ := els_T (H1.out.below hb') hx
              obtain ⟨a', rfl, b0, b1, b2, b3, b4, b5⟩ := els_T (H2.out.below hb') hy
              obtain ⟨xs, xa, ⟨xk, xf, xn, xt⟩⟩ := x
              obtain ⟨ys, ya, ⟨yk, yf, yn, yt⟩⟩ := y
              simp only at a0 a1 a2 a3 a4 a5 b0 b1 b2 b3 b4 b5
              have heq := HEQ.out xs xa xk xf xn xt ys ya yk yf yn yt
              obtain ⟨E, hE⟩ : ∃ E, eqT ⟨xs, xa, ⟨xk, xf, xn, xt⟩⟩ ⟨ys, ya, ⟨yk, yf, yn, yt⟩⟩ = E := ⟨_, rfl⟩
              rw [hE] at heq
              have HX := Lib.hid hx
              have HY := Lib.hid hy
              clear hb hb' hal hx hy
              cases E with
              | true =>
                have HE := Lib.hid ((eqT_iff _ _).1 hE)
                clear hE
                go_wp2
                go_region
                all_goals
                  go_wp2
                  go_roundw
                  case rel =>
                    refine ⟨j + 1, by go_num, by omega, fun m hm => ?_, HB.out.drew⟩
                    rcases Nat.lt_or_ge m j with q | q
                    · exact HA.out m q
                    · obtain rfl : m = j := by omega
                      rw [HX.out, HY.out, HE.out]
                  case measure => simp [intOf]; omega
              | false =>
                have HN : Hid (l = l' → False) := Lib.hid fun h => by
                  have e := HX.out
                  rw [h, HY.out] at e
                  have e2 := (eqT_iff _ _).2 (Option.some.inj e).symm
                  rw [hE] at e2
                  cases e2
                clear hE
                go_wp2
                go_region
                all_goals
                  go_wp2
                  go_ret
                  exact ⟨by rw [no_of HQ.out fun h => HN.out h.2.2.1]; rfl, HBE.out.drew⟩
            · clear hb hb' hal
              go_wp2
              go_ret
              exact ⟨by rw [HQ.out.2 ⟨HE.out.1, HE.out.2.1, ext_upto HL.out HA.out (by omega), HE.out.2.2⟩]; rfl, HBE.out⟩
end Go.Proofs.YtmkejlhkipngnaaGreatDoor
