/-
  What is read of a text is short; the document's Same at two rules in memory that read alike.
  Condition: two rules in memory that read alike, as short as a text makes them.
-/
import Derived.Test.YtkobfngnnblpeaaGreatDoorM36
namespace Go.Proofs.YtkobfngnnblpeaaGreatDoor
open Go.RowKit

theorem asF_len (ls : List Tok) : ∀ (f : Nat) (l : List TmP) (s : Rst), (asF ls f l s).1.length ≤ l.length + f
  | 0, l, _ => by simp [asF]
  | f + 1, l, s => by
    unfold asF
    by_cases hw : s.why = 0
    · rw [if_pos hw]
      dsimp only
      generalize (if 40 ≤ l.length then failR (arS ls s) 9 (nowR ls s).a else arS ls s) = s1
      split
      · have := asF_len ls f (l ++ [arV ls s]) (stepR ls s1)
        rw [List.length_append, List.length_singleton] at this
        omega
      · rw [List.length_append, List.length_singleton]
        omega
    · rw [if_neg hw]
      exact Nat.le_add_right _ _
theorem asR_len (ls : List Tok) (s : Rst) : (asR ls s).1.length ≤ 400 := by
  unfold asR
  split
  · simp
  · have := asF_len ls 400 [] s
    simpa using this
theorem liR_len (ls : List Tok) (m : Nat) (s : Rst) : (liR ls m s).1.args.length ≤ 400 := by
  unfold liR
  dsimp only
  split
  · unfold atR
    exact asR_len ls _
  · unfold cmR
    simp
theorem boF_len (ls : List Tok) : ∀ (f m : Nat) (l : List LiP) (s : Rst), (∀ x ∈ l, x.args.length ≤ 400) → (boF ls f m l s).1.length ≤ l.length + f ∧ ∀ x ∈ (boF ls f m l s).1, x.args.length ≤ 400
  | 0, _, l, _, h => ⟨by simp [boF], h⟩
  | f + 1, m, l, s, h => by
    unfold boF
    by_cases hw : s.why = 0
    · rw [if_pos hw]
      dsimp only
      generalize (if 10 ≤ l.length then loR ls s (nowR ls s).a else s) = s1
      have h2 : ∀ x ∈ l ++ [(liR ls m s1).1], x.args.length ≤ 400 := fun x hx => by
        rcases List.mem_append.1 hx with e | e
        · exact h x e
        · rw [List.mem_singleton.1 e]
          exact liR_len ls m s1
      split
      · have := boF_len ls f (if atomB (liR ls m s1).1 = true then m + 1 else m) (l ++ [(liR ls m s1).1]) (stepR ls (liR ls m s1).2) h2
        rw [List.length_append, List.length_singleton] at this
        exact ⟨by omega, this.2⟩
      · exact ⟨by rw [List.length_append, List.length_singleton]; omega, h2⟩
    · rw [if_neg hw]
      exact ⟨Nat.le_add_right _ _, h⟩
theorem hdF_len (ls : List Tok) (k : Int) : ∀ (f : Nat) (y : HdP), (hdF ls k f y).h.length ≤ y.h.length + f
  | 0, y => by simp [hdF]
  | f + 1, y => by
    unfold hdF
    by_cases hw : y.s.why = 0
    · rw [if_pos hw]
      dsimp only
      split
      · exact Nat.le_add_right _ _
      · generalize (if 40 ≤ y.h.length then failR (nmS ls y.s) 9 (nowR ls y.s).a else nmS ls y.s) = s2
        split
        · have := hdF_len ls k f ⟨y.h ++ [nmV ls y.s], y.ag, y.ofv, stepR ls s2⟩
          rw [List.length_append, List.length_singleton] at this
          omega
        · simp
    · rw [if_neg hw]
      exact Nat.le_add_right _ _
/-- A rule that is short. -/
def RuP.Few (r : RuP) : Prop := r.head.length ≤ 400 ∧ r.body.length ≤ 400 ∧ ∀ x ∈ r.body, x.args.length ≤ 400
theorem ruX_few (ls : List Tok) : (ruX ls).1.Few := by
  have hb := boF_len ls 400 0 [] (mustR ls (if kiK ls ⟨0, 0, 0⟩ = 3 then limS ls (mustR ls (hdR ls (mustR ls (nmS ls (kiS ls ⟨0, 0, 0⟩)) wOpen) (kiK ls ⟨0, 0, 0⟩)).s wShut) else mustR ls (hdR ls (mustR ls (nmS ls (kiS ls ⟨0, 0, 0⟩)) wOpen) (kiK ls ⟨0, 0, 0⟩)).s wShut) wIf) (fun x hx => by cases hx)
  refine ⟨?_, by have h := hb.1; rw [List.length_nil, Nat.zero_add] at h; exact h, hb.2⟩
  show (hdR ls (mustR ls (nmS ls (kiS ls ⟨0, 0, 0⟩)) wOpen) (kiK ls ⟨0, 0, 0⟩)).h.length ≤ 400
  unfold hdR
  split
  · unfold hdQ
    simp
  · have := hdF_len ls (kiK ls ⟨0, 0, 0⟩) 400 ⟨[], 0, ⟨#[]⟩, mustR ls (nmS ls (kiS ls ⟨0, 0, 0⟩)) wOpen⟩
    simpa using this
theorem ruleR_few (l : List UInt8) : (ruleR l).1.Few := by
  have h0 : noRu.Few := ⟨by simp [noRu], by simp [noRu], fun x hx => by simp [noRu] at hx⟩
  unfold ruleR
  split
  · exact h0
  · split
    · exact ruX_few _
    · exact h0

set_option maxRecDepth 100000 in
set_option maxHeartbeats 4000000 in
theorem r_same (G1 G2 : RuG) (w : World) (h1 : G1.Ok w) (h2 : G2.Ok w) (he : G1.pl = G2.pl) (hf : G1.pl.Few) :
    Calls Tryz.prog 8 #[.agg G1.cells, .agg G2.cells] w fun e w' => e = .returned (.bool true) ∧ Below w.heap.size w w' := by
  obtain ⟨k, nm, hA, hc, head, ag, ofv, lim, bA, bc, body⟩ := G1
  obtain ⟨k', nm', hA2, hc2, head', ag', ofv', lim', bA2, bc2, body2⟩ := G2
  injection he with e1 e2 e3 e4 e5 e6 e7
  subst e1 e2 e3 e4 e5 e6
  have hbl : body2.length = body.length := by have := congrArg List.length e7; simpa using this.symm
  have hf1 : head.length ≤ 400 := hf.1
  have hf2 : body.length ≤ 400 := by have := hf.2.1; simpa using this
  have HF3 : Hid (∀ x ∈ body, x.args.length ≤ 400) := Lib.hid fun x hx => hf.2.2 x.li (List.mem_map.2 ⟨x, hx, rfl⟩)
  have HE7 := Lib.hid e7
  obtain ⟨O1, hO1⟩ : ∃ O1 : Obj, O1 = .cells #[.int .i64 k, .string nm, .slice hA head.length hc, .int .i64 ag, .string ofv, .int .i64 lim, .slice bA body.length bc] 35 := ⟨_, rfl⟩
  obtain ⟨O2, hO2⟩ : ∃ O2 : Obj, O2 = .cells #[.int .i64 k, .string nm, .slice hA2 head.length hc2, .int .i64 ag, .string ofv, .int .i64 lim, .slice bA2 body2.length bc2] 35 := ⟨_, rfl⟩
  have hon := two_new w O1 O2
  have HON := Lib.hid hon
  have H1 := Lib.hid (h1.below hon)
  have H2 := Lib.hid (h2.below hon)
  have K1 := first_of_two w O1 O2
  have K2 := second_of_two w O1 O2
  rw [hO1, hO2] at K1 K2 hon
  rw [hO1, hO2] at HON H1 H2
  have K1 := Lib.hid K1
  have K2 := Lib.hid K2
  show Calls Tryz.prog 8 #[.agg #[.int .i64 k, .string nm, .slice hA head.length hc, .int .i64 ag, .string ofv, .int .i64 lim, .slice bA body.length bc], .agg #[.int .i64 k, .string nm, .slice hA2 head.length hc2, .int .i64 ag, .string ofv, .int .i64 lim, .slice bA2 body2.length bc2]] w fun e w' => e = .returned (.bool true) ∧ Below w.heap.size w w'
  rw [hbl] at K2 HON H1 H2 K1 ⊢
  obtain ⟨c0, c1, c2, c3, c4, c5, c6, _⟩ := box7r_of K1.out
  obtain ⟨d0, d1, d2, d3, d4, d5, d6, _⟩ := box7r_of K2.out
  clear h1 h2 hf hon hO1 hO2 e7
  go_enter Tryz.func8, Tryz.ntmps8
  have hnm : (nm.toList == nm.toList) = true := by simp
  have hofv : (ofv.toList == ofv.toList) = true := by simp
  have HST : Hid (Below w.heap.size w ((w.alloc (.cells #[.int .i64 k, .string nm, .slice hA head.length hc, .int .i64 ag, .string ofv, .int .i64 lim, .slice bA body.length bc] 35)).alloc (.cells #[.int .i64 k, .string nm, .slice hA2 head.length hc2, .int .i64 ag, .string ofv, .int .i64 lim, .slice bA2 body.length bc2] 35)) ∧ ((w.alloc (.cells #[.int .i64 k, .string nm, .slice hA head.length hc, .int .i64 ag, .string ofv, .int .i64 lim, .slice bA body.length bc] 35)).alloc (.cells #[.int .i64 k, .string nm, .slice hA2 head.length hc2, .int .i64 ag, .string ofv, .int .i64 lim, .slice bA2 body.length bc2] 35)).heap[w.heap.size]? = some (.cells #[.int .i64 k, .string nm, .slice hA head.length hc, .int .i64 ag, .string ofv, .int .i64 lim, .slice bA body.length bc] 35 (0, 0)) ∧ ((w.alloc (.cells #[.int .i64 k, .string nm, .slice hA head.length hc, .int .i64 ag, .string ofv, .int .i64 lim, .slice bA body.length bc] 35)).alloc (.cells #[.int .i64 k, .string nm, .slice hA2 head.length hc2, .int .i64 ag, .string ofv, .int .i64 lim, .slice bA2 body.length bc2] 35)).heap[w.heap.size + 1]? = some (.cells #[.int .i64 k, .string nm, .slice hA2 head.length hc2, .int .i64 ag, .string ofv, .int .i64 lim, .slice bA2 body.length bc2] 35 (0, 0)) ∧ ElsAt strC 1 ((w.alloc (.cells #[.int .i64 k, .string nm, .slice hA head.length hc, .int .i64 ag, .string ofv, .int .i64 lim, .slice bA body.length bc] 35)).alloc (.cells #[.int .i64 k, .string nm, .slice hA2 head.length hc2, .int .i64 ag, .string ofv, .int .i64 lim, .slice bA2 body.length bc2] 35)) hA head ∧ ElsAt strC 1 ((w.alloc (.cells #[.int .i64 k, .string nm, .slice hA head.length hc, .int .i64 ag, .string ofv, .int .i64 lim, .slice bA body.length bc] 35)).alloc (.cells #[.int .i64 k, .string nm, .slice hA2 head.length hc2, .int .i64 ag, .string ofv, .int .i64 lim, .slice bA2 body.length bc2] 35)) hA2 head ∧ LgsAt ((w.alloc (.cells #[.int .i64 k, .string nm, .slice hA head.length hc, .int .i64 ag, .string ofv, .int .i64 lim, .slice bA body.length bc] 35)).alloc (.cells #[.int .i64 k, .string nm, .slice hA2 head.length hc2, .int .i64 ag, .string ofv, .int .i64 lim, .slice bA2 body.length bc2] 35)) bA body ∧ LgsAt ((w.alloc (.cells #[.int .i64 k, .string nm, .slice hA head.length hc, .int .i64 ag, .string ofv, .int .i64 lim, .slice bA body.length bc] 35)).alloc (.cells #[.int .i64 k, .string nm, .slice hA2 head.length hc2, .int .i64 ag, .string ofv, .int .i64 lim, .slice bA2 body.length bc2] 35)) bA2 body2) := Lib.hid ⟨HON.out, K1.out, K2.out, H1.out.1, H2.out.1, H1.out.2, H2.out.2⟩
  have HNX : Hid (∀ wr w' : World, (Below w.heap.size w wr ∧ wr.heap[w.heap.size]? = some (.cells #[.int .i64 k, .string nm, .slice hA head.length hc, .int .i64 ag, .string ofv, .int .i64 lim, .slice bA body.length bc] 35 (0, 0)) ∧ wr.heap[w.heap.size + 1]? = some (.cells #[.int .i64 k, .string nm, .slice hA2 head.length hc2, .int .i64 ag, .string ofv, .int .i64 lim, .slice bA2 body.length bc2] 35 (0, 0)) ∧ ElsAt strC 1 wr hA head ∧ ElsAt strC 1 wr hA2 head ∧ LgsAt wr bA body ∧ LgsAt wr bA2 body2) → Below wr.heap.size wr w' → (Below w.heap.size w w' ∧ w'.heap[w.heap.size]? = some (.cells #[.int .i64 k, .string nm, .slice hA head.length hc, .int .i64 ag, .string ofv, .int .i64 lim, .slice bA body.length bc] 35 (0, 0)) ∧ w'.heap[w.heap.size + 1]? = some (.cells #[.int .i64 k, .string nm, .slice hA2 head.length hc2, .int .i64 ag, .string ofv, .int .i64 lim, .slice bA2 body.length bc2] 35 (0, 0)) ∧ ElsAt strC 1 w' hA head ∧ ElsAt strC 1 w' hA2 head ∧ LgsAt w' bA body ∧ LgsAt w' bA2 body2)) := Lib.hid fun wr w' ⟨a, b, c, d, e, f, g⟩ hb => ⟨a.trans (hb.mono a.size), (hb.block _ (Array.getElem?_eq_some_iff.1 b).1).trans b, (hb.block _ (Array.getElem?_eq_some_iff.1 c).1).trans c, d.below hb, e.below hb, f.below hb, g.below hb⟩
  go_wp2
  go_loopw [5] (fun i wr => ∃ zq : Nat, i = .int .i64 zq ∧ zq ≤ head.length ∧ (Below w.heap.size w wr ∧ wr.heap[w.heap.size]? = some (.cells #[.int .i64 k, .string nm, .slice hA head.length hc, .int .i64 ag, .string ofv, .int .i64 lim, .slice bA body.length bc] 35 (0, 0)) ∧ wr.heap[w.heap.size + 1]? = some (.cells #[.int .i64 k, .string nm, .slice hA2 head.length hc2, .int .i64 ag, .string ofv, .int .i64 lim, .slice bA2 body.length bc2] 35 (0, 0)) ∧ ElsAt strC 1 wr hA head ∧ ElsAt strC 1 wr hA2 head ∧ LgsAt wr bA body ∧ LgsAt wr bA2 body2)) (fun i _ => head.length - (intOf i).toNat)
  case atStart => exact ⟨0, rfl, Nat.zero_le _, HST.out⟩
  case round =>
    obtain ⟨j, rfl, hj, hst⟩ := hrel
    have HS := Lib.hid hst
    obtain ⟨hb, hk1, hk2, he1, he2, hl1, hl2⟩ := hst
    obtain ⟨c0, c1, c2, c3, c4, c5, c6, _⟩ := box7r_of hk1
    obtain ⟨d0, d1, d2, d3, d4, d5, d6, _⟩ := box7r_of hk2
    by_cases hlt : j < head.length
    · obtain ⟨x, hx⟩ : ∃ x, head[j]? = some x := ⟨_, List.getElem?_eq_getElem hlt⟩
      obtain ⟨a, rfl, a0⟩ := els_S he1 hx
      obtain ⟨b, rfl, b0⟩ := els_S he2 hx
      have hxx : (x.toList == x.toList) = true := by simp
      clear hb hk1 hk2 he1 he2 hl1 hl2 hx HST K1 K2 H1 H2
      go_wp2
      go_region
      all_goals
        go_wp2
        go_roundw
        case rel => exact ⟨j + 1, by go_num, by omega, HNX.out _ _ HS.out (Below.refl _ _).drew⟩
        case measure => simp [intOf]; omega
    · clear hb hk1 hk2 he1 he2 hl1 hl2 HST
      go_wp2
      go_loopw [6] (fun i wr => ∃ zq : Nat, i = .int .i64 zq ∧ zq ≤ body.length ∧ (Below w.heap.size w wr ∧ wr.heap[w.heap.size]? = some (.cells #[.int .i64 k, .string nm, .slice hA head.length hc, .int .i64 ag, .string ofv, .int .i64 lim, .slice bA body.length bc] 35 (0, 0)) ∧ wr.heap[w.heap.size + 1]? = some (.cells #[.int .i64 k, .string nm, .slice hA2 head.length hc2, .int .i64 ag, .string ofv, .int .i64 lim, .slice bA2 body.length bc2] 35 (0, 0)) ∧ ElsAt strC 1 wr hA head ∧ ElsAt strC 1 wr hA2 head ∧ LgsAt wr bA body ∧ LgsAt wr bA2 body2)) (fun i _ => body.length - (intOf i).toNat)
      case atStart => exact ⟨0, rfl, Nat.zero_le _, HS.out⟩
      case round =>
        clear HS
        obtain ⟨m, rfl, hm, hst⟩ := hrel
        have HS := Lib.hid hst
        obtain ⟨hb, hk1, hk2, he1, he2, hl1, hl2⟩ := hst
        obtain ⟨c0, c1, c2, c3, c4, c5, c6, _⟩ := box7r_of hk1
        obtain ⟨d0, d1, d2, d3, d4, d5, d6, _⟩ := box7r_of hk2
        by_cases hlt2 : m < body.length
        · obtain ⟨x, hx⟩ : ∃ x, body[m]? = some x := ⟨_, List.getElem?_eq_getElem hlt2⟩
          obtain ⟨y, hy⟩ : ∃ y, body2[m]? = some y := ⟨_, List.getElem?_eq_getElem (by omega)⟩
          have hxy : x.li = y.li := by
            have e := congrArg (fun l => l[m]?) HE7.out
            simp only [List.getElem?_map, hx, hy, Option.map_some] at e
            injection e
          have hxl := HF3.out x (List.mem_of_getElem? hx)
          have hx1 := hl1.2 x (List.mem_of_getElem? hx)
          have hy1 := hl2.2 y (List.mem_of_getElem? hy)
          obtain ⟨a, rfl, a0, a1, a2, a3⟩ := els_L hl1.1 hx
          obtain ⟨b, rfl, b0, b1, b2, b3⟩ := els_L hl2.1 hy
          obtain ⟨xn, xs, xA, xc, xargs, xo⟩ := x
          obtain ⟨yn, ys, yA, yc, yargs, yo⟩ := y
          injection hxy with e1 e2 e3 e4
          simp only at e1 e2 e3 e4
          subst e1 e2 e3 e4
          simp only at a0 a1 a2 a3 b0 b1 b2 b3 hxl
          have HLT : Hid (∀ W, Below wr.heap.size wr W → Calls Tryz.prog 15 #[.agg #[.bool xn, .string xs, .slice xA xargs.length xc, .int .i64 xo], .agg #[.bool xn, .string xs, .slice yA xargs.length yc, .int .i64 xo]] W fun e w' => e = .returned (.bool true) ∧ Below W.heap.size W w') := Lib.hid fun W hW => r_literal xn xs xargs xo xA yA xc yc W (hx1.below hW) (hy1.below hW) (by omega)
          clear hb hk1 hk2 he1 he2 hl1 hl2 hx hy hx1 hy1 H1 H2 K1 K2
          go_wp2
          go_region_with (go_at_call 15; refine (HLT.out _ ((Below.refl _ _).drew)).mono ?_; rintro e w5 ⟨rfl, hb5⟩; have HB5 := Lib.hid hb5; clear hb5)
          all_goals
            have HS5 := Lib.hid (HNX.out _ _ HS.out ((Below.refl wr.heap.size wr).drew.trans HB5.out))
            go_wp2
            go_roundw
            case rel => exact ⟨m + 1, by go_num, by omega, HS5.out⟩
            case measure => simp [intOf]; omega
        · clear hb hk1 hk2 he1 he2 hl1 hl2
          go_wp2
          go_ret
          exact ⟨rfl, HS.out.1⟩
end Go.Proofs.YtkobfngnnblpeaaGreatDoor
