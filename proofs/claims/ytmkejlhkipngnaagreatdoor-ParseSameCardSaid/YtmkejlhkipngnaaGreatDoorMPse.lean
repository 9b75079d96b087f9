/-
  The document's Same at any two rules in memory.
  Condition: the rules lie in memory, as short as a text makes them.
-/
import Derived.Test.YtmkejlhkipngnaaGreatDoorMPsd
namespace Go.Proofs.YtmkejlhkipngnaaGreatDoor
open Go.RowKit

/-- Both rules lie in their boxes, and what they name lies where it lay. -/
def StS (w : World) (o1 o2 : Obj) (hA hA2 : Option Addr) (head head' : List ByteArray) (bA bA2 : Option Addr) (body body' : List LmG) (wr : World) : Prop :=
  Below w.heap.size w wr ∧ wr.heap[w.heap.size]? = some o1 ∧ wr.heap[w.heap.size + 1]? = some o2 ∧ ElsAt strC 1 wr hA head ∧ ElsAt strC 1 wr hA2 head' ∧ LgsAt wr bA body ∧ LgsAt wr bA2 body'
theorem StS.next {w : World} {o1 o2 : Obj} {hA hA2 : Option Addr} {head head' : List ByteArray} {bA bA2 : Option Addr} {body body' : List LmG} {wr w' : World} (h : StS w o1 o2 hA hA2 head head' bA bA2 body body' wr) (hb : Below wr.heap.size wr w') : StS w o1 o2 hA hA2 head head' bA bA2 body body' w' := by
  obtain ⟨a, b, c, d, e, f, g⟩ := h
  exact ⟨a.trans (hb.mono a.size), (hb.block _ (Array.getElem?_eq_some_iff.1 b).1).trans b, (hb.block _ (Array.getElem?_eq_some_iff.1 c).1).trans c, d.below hb, e.below hb, f.below hb, g.below hb⟩

set_option maxRecDepth 100000 in
set_option maxHeartbeats 8000000 in
theorem r_sameB (b : Bool) (G1 G2 : RuG) (hq : b = true ↔ G1.pl = G2.pl) (w : World) (h1 : G1.Ok w) (h2 : G2.Ok w) (hf : G1.pl.Few) :
    Calls Tryz.prog 9 #[.agg G1.cells, .agg G2.cells] w fun e w' => e = .returned (.bool b) ∧ Below w.heap.size w w' := by
  obtain ⟨k, nm, hA, hc, head, ag, ofv, lim, bA, bc, body⟩ := G1
  obtain ⟨k', nm', hA2, hc2, head', ag', ofv', lim', bA2, bc2, body'⟩ := G2
  have HQ : Hid (b = true ↔ (k = k' ∧ nm = nm' ∧ head = head' ∧ ag = ag' ∧ ofv = ofv' ∧ lim = lim' ∧ body.map LmG.li = body'.map LmG.li)) := Lib.hid (hq.trans (by simp [RuG.pl]))
  have hf1 : head.length ≤ 400 := hf.1
  have hf2 : body.length ≤ 400 := by have := hf.2.1; simpa using this
  have HF3 : Hid (∀ x ∈ body, x.args.length ≤ 400) := Lib.hid fun x hx => hf.2.2 x.li (List.mem_map.2 ⟨x, hx, rfl⟩)
  have hon := two_new w (.cells #[.int .i64 k, .string nm, .slice hA head.length hc, .int .i64 ag, .string ofv, .int .i64 lim, .slice bA body.length bc] 25) (.cells #[.int .i64 k', .string nm', .slice hA2 head'.length hc2, .int .i64 ag', .string ofv', .int .i64 lim', .slice bA2 body'.length bc2] 25)
  have HON := Lib.hid hon
  have K1 := first_of_two w (.cells #[.int .i64 k, .string nm, .slice hA head.length hc, .int .i64 ag, .string ofv, .int .i64 lim, .slice bA body.length bc] 25) (.cells #[.int .i64 k', .string nm', .slice hA2 head'.length hc2, .int .i64 ag', .string ofv', .int .i64 lim', .slice bA2 body'.length bc2] 25)
  have K2 := second_of_two w (.cells #[.int .i64 k, .string nm, .slice hA head.length hc, .int .i64 ag, .string ofv, .int .i64 lim, .slice bA body.length bc] 25) (.cells #[.int .i64 k', .string nm', .slice hA2 head'.length hc2, .int .i64 ag', .string ofv', .int .i64 lim', .slice bA2 body'.length bc2] 25)
  have HST : Hid (StS w (.cells #[.int .i64 k, .string nm, .slice hA head.length hc, .int .i64 ag, .string ofv, .int .i64 lim, .slice bA body.length bc] 25 (0, 0)) (.cells #[.int .i64 k', .string nm', .slice hA2 head'.length hc2, .int .i64 ag', .string ofv', .int .i64 lim', .slice bA2 body'.length bc2] 25 (0, 0)) hA hA2 head head' bA bA2 body body' ((w.alloc (.cells #[.int .i64 k, .string nm, .slice hA head.length hc, .int .i64 ag, .string ofv, .int .i64 lim, .slice bA body.length bc] 25)).alloc (.cells #[.int .i64 k', .string nm', .slice hA2 head'.length hc2, .int .i64 ag', .string ofv', .int .i64 lim', .slice bA2 body'.length bc2] 25))) := Lib.hid ⟨hon, K1, K2, (h1.below hon).1, (h2.below hon).1, (h1.below hon).2, (h2.below hon).2⟩
  show Calls Tryz.prog 9 #[.agg #[.int .i64 k, .string nm, .slice hA head.length hc, .int .i64 ag, .string ofv, .int .i64 lim, .slice bA body.length bc], .agg #[.int .i64 k', .string nm', .slice hA2 head'.length hc2, .int .i64 ag', .string ofv', .int .i64 lim', .slice bA2 body'.length bc2]] w fun e w' => e = .returned (.bool b) ∧ Below w.heap.size w w'
  obtain ⟨c0, c1, c2, c3, c4, c5, c6, _⟩ := box7r_of K1
  obtain ⟨d0, d1, d2, d3, d4, d5, d6, _⟩ := box7r_of K2
  clear h1 h2 hf hon K1 K2 hq
  obtain ⟨tk, htk⟩ : ∃ t, (k == k') = t := ⟨_, rfl⟩
  cases tk with
  | false =>
    have HN := Lib.hid (no_of HQ.out fun h => by simp [h.1] at htk)
    have htkn : (k != k') = true := by simp only [bne, htk]; rfl
    clear HST HF3
    go_enter Tryz.func9, Tryz.ntmps9
    go_wp2
    go_ret
    exact ⟨by rw [HN.out]; rfl, HON.out⟩
  | true =>
    have htkn : (k != k') = false := by simp only [bne, htk]; rfl
    obtain ⟨tn, htn⟩ : ∃ t, (nm.toList == nm'.toList) = t := ⟨_, rfl⟩
    cases tn with
    | false =>
      have HN := Lib.hid (no_of HQ.out fun h => by simp [h.2.1] at htn)
      have htnn : (nm.toList != nm'.toList) = true := by simp only [bne, htn]; rfl
      clear HST HF3
      go_enter Tryz.func9, Tryz.ntmps9
      go_wp2
      go_ret
      exact ⟨by rw [HN.out]; rfl, HON.out⟩
    | true =>
      have htnn : (nm.toList != nm'.toList) = false := by simp only [bne, htn]; rfl
      obtain ⟨ta, hta⟩ : ∃ t, (ag == ag') = t := ⟨_, rfl⟩
      cases ta with
      | false =>
        have HN := Lib.hid (no_of HQ.out fun h => by simp [h.2.2.2.1] at hta)
        have htan : (ag != ag') = true := by simp only [bne, hta]; rfl
        clear HST HF3
        go_enter Tryz.func9, Tryz.ntmps9
        go_wp2
        go_ret
        exact ⟨by rw [HN.out]; rfl, HON.out⟩
      | true =>
        have htan : (ag != ag') = false := by simp only [bne, hta]; rfl
        obtain ⟨to, hto⟩ : ∃ t, (ofv.toList == ofv'.toList) = t := ⟨_, rfl⟩
        cases to with
        | false =>
          have HN := Lib.hid (no_of HQ.out fun h => by simp [h.2.2.2.2.1] at hto)
          have hton : (ofv.toList != ofv'.toList) = true := by simp only [bne, hto]; rfl
          clear HST HF3
          go_enter Tryz.func9, Tryz.ntmps9
          go_wp2
          go_ret
          exact ⟨by rw [HN.out]; rfl, HON.out⟩
        | true =>
          have hton : (ofv.toList != ofv'.toList) = false := by simp only [bne, hto]; rfl
          obtain ⟨tl, htl⟩ : ∃ t, (lim == lim') = t := ⟨_, rfl⟩
          cases tl with
          | false =>
            have HN := Lib.hid (no_of HQ.out fun h => by simp [h.2.2.2.2.2.1] at htl)
            have htln : (lim != lim') = true := by simp only [bne, htl]; rfl
            clear HST HF3
            go_enter Tryz.func9, Tryz.ntmps9
            go_wp2
            go_ret
            exact ⟨by rw [HN.out]; rfl, HON.out⟩
          | true =>
            have htln : (lim != lim') = false := by simp only [bne, htl]; rfl
            obtain ⟨th, hth⟩ : ∃ t, ((head.length : Int) == (head'.length : Int)) = t := ⟨_, rfl⟩
            cases th with
            | false =>
              have HN := Lib.hid (no_of HQ.out fun h => by simp [h.2.2.1] at hth)
              have hthn : ((head.length : Int) != (head'.length : Int)) = true := by simp only [bne, hth]; rfl
              clear HST HF3
              go_enter Tryz.func9, Tryz.ntmps9
              go_wp2
              go_ret
              exact ⟨by rw [HN.out]; rfl, HON.out⟩
            | true =>
              have hthn : ((head.length : Int) != (head'.length : Int)) = false := by simp only [bne, hth]; rfl
              obtain ⟨tb, htb⟩ : ∃ t, ((body.length : Int) == (body'.length : Int)) = t := ⟨_, rfl⟩
              cases tb with
              | false =>
                have HN := Lib.hid (no_of HQ.out fun h => by have e := congrArg List.length h.2.2.2.2.2.2; rw [List.length_map, List.length_map] at e; simp [e] at htb)
                have htbn : ((body.length : Int) != (body'.length : Int)) = true := by simp only [bne, htb]; rfl
                clear HST HF3
                go_enter Tryz.func9, Tryz.ntmps9
                go_wp2
                go_ret
                exact ⟨by rw [HN.out]; rfl, HON.out⟩
              | true =>
                have htbn : ((body.length : Int) != (body'.length : Int)) = false := by simp only [bne, htb]; rfl
                have HE : Hid (k = k' ∧ nm = nm' ∧ ag = ag' ∧ ofv = ofv' ∧ lim = lim') := Lib.hid ⟨by simpa using htk, bytes_ext (by simpa using htn), by simpa using hta, bytes_ext (by simpa using hto), by simpa using htl⟩
                have hhl : (head.length : Int) = head'.length := by simpa using hth
                have hbl : (body.length : Int) = body'.length := by simpa using htb
                have HHL : Hid (head.length = head'.length) := Lib.hid (by omega)
                have HBL : Hid (body.length = body'.length) := Lib.hid (by omega)
                clear hhl hbl
                go_enter Tryz.func9, Tryz.ntmps9
                go_wp2
                clear htk htn hta hto htl hth htb htkn htnn htan hton htln hthn htbn
                go_loopw [5] (fun i wr => ∃ j : Nat, i = .int .i64 j ∧ j ≤ head.length ∧ (∀ m, m < j → head[m]? = head'[m]?) ∧ StS w (.cells #[.int .i64 k, .string nm, .slice hA head.length hc, .int .i64 ag, .string ofv, .int .i64 lim, .slice bA body.length bc] 25 (0, 0)) (.cells #[.int .i64 k', .string nm', .slice hA2 head'.length hc2, .int .i64 ag', .string ofv', .int .i64 lim', .slice bA2 body'.length bc2] 25 (0, 0)) hA hA2 head head' bA bA2 body body' wr) (fun i _ => head.length - (intOf i).toNat)
                case atStart => exact ⟨0, rfl, Nat.zero_le _, fun m hm => absurd hm (Nat.not_lt_zero _), HST.out⟩
                case round =>
                  clear HST
                  obtain ⟨j, rfl, hj, hal, hst⟩ := hrel
                  have HS := Lib.hid hst
                  have HA := Lib.hid hal
                  obtain ⟨hb, hk1, hk2, he1, he2, hl1, hl2⟩ := hst
                  obtain ⟨c0, c1, c2, c3, c4, c5, c6, _⟩ := box7r_of hk1
                  obtain ⟨d0, d1, d2, d3, d4, d5, d6, _⟩ := box7r_of hk2
                  by_cases hlt : j < head.length
                  · obtain ⟨x, hx⟩ : ∃ x, head[j]? = some x := ⟨_, List.getElem?_eq_getElem hlt⟩
                    have hlt' : j < head'.length := by have := HHL.out; omega
                    obtain ⟨y, hy⟩ : ∃ y, head'[j]? = some y := ⟨_, List.getElem?_eq_getElem hlt'⟩
                    obtain ⟨a, rfl, a0⟩ := els_S he1 hx
                    obtain ⟨a', rfl, b0⟩ := els_S he2 hy
                    have HX := Lib.hid hx
                    have HY := Lib.hid hy
                    clear hb hk1 hk2 he1 he2 hl1 hl2 hx hy hal
                    by_cases hxy : x.toList = y.toList
                    · have hxb : (x.toList == y.toList) = true := by simp [hxy]
                      have HE := Lib.hid (bytes_ext hxy)
                      clear hxy
                      go_wp2
                      go_region
                      all_goals
                        go_wp2
                        go_roundw
                        case rel =>
                          refine ⟨j + 1, by go_num, by omega, fun m hm => ?_, HS.out.next (Below.refl _ _).drew⟩
                          rcases Nat.lt_or_ge m j with q | q
                          · exact HA.out m q
                          · obtain rfl : m = j := by omega
                            rw [HX.out, HY.out, HE.out]
                        case measure => simp [intOf]; omega
                    · have hxb : (x.toList == y.toList) = false := by simp [hxy]
                      have HN : Hid (head = head' → False) := Lib.hid fun h => hxy (by
                        have e := HX.out
                        rw [h, HY.out] at e
                        rw [Option.some.inj e])
                      clear hxy
                      go_wp2
                      go_region
                      all_goals
                        go_wp2
                        go_ret
                        exact ⟨by rw [no_of HQ.out fun h => HN.out h.2.2.1]; rfl, HS.out.1.drew⟩
                  · have HEH : Hid (head = head') := Lib.hid (ext_upto HHL.out hal (by omega))
                    clear hb hk1 hk2 he1 he2 hl1 hl2 hal HA
                    go_wp2
                    go_loopw [6] (fun i wr => ∃ j : Nat, i = .int .i64 j ∧ j ≤ body.length ∧ (∀ m, m < j → (body.map LmG.li)[m]? = (body'.map LmG.li)[m]?) ∧ StS w (.cells #[.int .i64 k, .string nm, .slice hA head.length hc, .int .i64 ag, .string ofv, .int .i64 lim, .slice bA body.length bc] 25 (0, 0)) (.cells #[.int .i64 k', .string nm', .slice hA2 head'.length hc2, .int .i64 ag', .string ofv', .int .i64 lim', .slice bA2 body'.length bc2] 25 (0, 0)) hA hA2 head head' bA bA2 body body' wr) (fun i _ => body.length - (intOf i).toNat)
                    case atStart => exact ⟨0, rfl, Nat.zero_le _, fun m hm => absurd hm (Nat.not_lt_zero _), HS.out⟩
                    case round =>
                      clear HS
                      obtain ⟨m, rfl, hm, hal, hst⟩ := hrel
                      have HS := Lib.hid hst
                      have HA := Lib.hid hal
                      obtain ⟨hb, hk1, hk2, he1, he2, hl1, hl2⟩ := hst
                      obtain ⟨c0, c1, c2, c3, c4, c5, c6, _⟩ := box7r_of hk1
                      obtain ⟨d0, d1, d2, d3, d4, d5, d6, _⟩ := box7r_of hk2
                      by_cases hlt2 : m < body.length
                      · obtain ⟨x, hx⟩ : ∃ x, body[m]? = some x := ⟨_, List.getElem?_eq_getElem hlt2⟩
                        have hlt2' : m < body'.length := by have := HBL.out; omega
                        obtain ⟨y, hy⟩ : ∃ y, body'[m]? = some y := ⟨_, List.getElem?_eq_getElem hlt2'⟩
                        have hxl := HF3.out x (List.mem_of_getElem? hx)
                        have hx1 := hl1.2 x (List.mem_of_getElem? hx)
                        have hy1 := hl2.2 y (List.mem_of_getElem? hy)
                        obtain ⟨a, rfl, a0, a1, a2, a3⟩ := els_L hl1.1 hx
                        obtain ⟨a', rfl, b0, b1, b2, b3⟩ := els_L hl2.1 hy
                        have HX : Hid ((body.map LmG.li)[m]? = some x.li) := Lib.hid (by simp [List.getElem?_map, hx])
                        have HY : Hid ((body'.map LmG.li)[m]? = some y.li) := Lib.hid (by simp [List.getElem?_map, hy])
                        obtain ⟨q, hq⟩ : ∃ q : Bool, q = true ↔ x.li = y.li := by
                          by_cases h : x.li = y.li
                          · exact ⟨true, fun _ => h, fun _ => rfl⟩
                          · exact ⟨false, fun e => (by cases e), fun e => (h e).elim⟩
                        have HLT : Hid (∀ W, Below wr.heap.size wr W → Calls Tryz.prog 23 #[.agg #[.bool x.n, .string x.s, .slice x.A x.args.length x.c, .int .i64 x.o], .agg #[.bool y.n, .string y.s, .slice y.A y.args.length y.c, .int .i64 y.o]] W fun e w' => e = .returned (.bool q) ∧ Below W.heap.size W w') := Lib.hid fun W hW => r_literalB q x.n y.n x.s y.s x.args y.args x.o y.o (hq.trans (LmG.li_iff x y)) x.A y.A x.c y.c W (hx1.below hW) (hy1.below hW) (by omega)
                        have HE1 : Hid (q = true → x.li = y.li) := Lib.hid hq.1
                        have HE2 : Hid (x.li = y.li → q = true) := Lib.hid hq.2
                        clear hb hk1 hk2 he1 he2 hl1 hl2 hx hy hx1 hy1 hal hq hxl
                        cases q with
                        | true =>
                          go_wp2
                          go_region_with (go_at_call 23; refine (HLT.out _ ((Below.refl _ _).drew)).mono ?_; rintro e w5 ⟨rfl, hb5⟩; have HB5 := Lib.hid hb5; clear hb5)
                          all_goals
                            have HS5 := Lib.hid (HS.out.next ((Below.refl wr.heap.size wr).drew.trans HB5.out))
                            go_wp2
                            go_roundw
                            case rel =>
                              refine ⟨m + 1, by go_num, by omega, fun i hi => ?_, HS5.out⟩
                              rcases Nat.lt_or_ge i m with g | g
                              · exact HA.out i g
                              · obtain rfl : i = m := by omega
                                rw [HX.out, HY.out, (show x.li = y.li by simpa using HE1.out)]
                            case measure => simp [intOf]; omega
                        | false =>
                          have HN : Hid (body.map LmG.li = body'.map LmG.li → False) := Lib.hid fun h => by
                            have e := HX.out
                            rw [h, HY.out] at e
                            have e2 := HE2.out (Option.some.inj e).symm
                            cases e2
                          go_wp2
                          go_region_with (go_at_call 23; refine (HLT.out _ ((Below.refl _ _).drew)).mono ?_; rintro e w5 ⟨rfl, hb5⟩; have HB5 := Lib.hid hb5; clear hb5)
                          all_goals
                            have HS5 := Lib.hid (HS.out.next ((Below.refl wr.heap.size wr).drew.trans HB5.out))
                            go_wp2
                            go_ret
                            exact ⟨by rw [no_of HQ.out fun h => HN.out h.2.2.2.2.2.2]; rfl, HS5.out.1⟩
                      · have HEB : Hid (body.map LmG.li = body'.map LmG.li) := Lib.hid (ext_upto (by simpa using HBL.out) hal (by simp; omega))
                        clear hb hk1 hk2 he1 he2 hl1 hl2 hal
                        go_wp2
                        go_ret
                        exact ⟨by rw [HQ.out.2 ⟨HE.out.1, HE.out.2.1, HEH.out, HE.out.2.2.1, HE.out.2.2.2.1, HE.out.2.2.2.2, HEB.out⟩]; rfl, HS.out.1⟩
end Go.Proofs.YtmkejlhkipngnaaGreatDoor
