/-
  The document's body: the literals of a rule.
  Condition: no more than four hundred tokens, and a place among them; nothing was read of the body yet.
-/
import Derived.Test.YthdjkagodccdbaaM26
import Derived.Test.YthdjkagodccdbaaM27
namespace Go.Proofs.Ythdjkagodccdbaa
open Go.RowKit

theorem boF_stop (ls : List Tok) (f m : Nat) (l : List LiP) (s : Rst) (h : ¬ s.why = 0) : boF ls f m l s = (l, s) := by
  cases f with
  | zero => rfl
  | succ f => unfold boF; rw [if_neg h]
theorem boF_go (ls : List Tok) (f m : Nat) (l : List LiP) (s s1 : Rst) (y : LiP) (s2 : Rst) (h : s.why = 0) (h1 : s1 = if 10 ≤ l.length then loR ls s (nowR ls s).a else s) (hy : liR ls m s1 = (y, s2)) :
    boF ls (f + 1) m l s = if isR ls s2 wComma = true then boF ls f (if atomB y = true then m + 1 else m) (l ++ [y]) (stepR ls s2) else (l ++ [y], s2) := by
  subst h1
  rw [boF, if_pos h]
  simp only [hy]

section
variable {W W2 : World} {g x t c base : Nat} {ls : List Tok} {s : Rst} {r : RuP} {hv bv bv' : Value}
/-- The body grows. -/
theorem XSt.body (h : XSt W g x t c base ls s r hv bv) {qs : List LmQ} (hq : OwnLq W base bv qs) (hlen : qs.length = r.body.length) (hrel : ∀ (i : Nat) (q : LmQ) (y : LiP), qs[i]? = some q → r.body[i]? = some y → q.1.n = y.n ∧ q.1.s = y.s ∧ q.1.o = y.o ∧ ArgsAt W base q.1.v y.args)
    (q : LmQ) (y : LiP) (hqy : q.1.n = y.n ∧ q.1.s = y.s ∧ q.1.o = y.o ∧ ArgsAt W base q.1.v y.args) (hg : W.grownBy W2 bv.ownBlock) (ho : OwnLq W2 base bv' (qs ++ [q])) :
    XSt (W2.setCell ⟨x, 6, none⟩ bv') g x t c base ls s { r with body := r.body ++ [y] } hv bv' ∧ OnlyX g x base W (W2.setCell ⟨x, 6, none⟩ bv') := by
  have hx := h.xb
  have hgb := h.gb
  have htb := h.tb
  have hsz := h.sz
  have hlow : ∀ k, k < base → W2.heap[k]? = W.heap[k]? := fun k hk => hg.block k (by omega) (fun e => by have := (hq.lt k e.symm).1; omega)
  have hset : ∀ k, k ≠ x → (W2.setCell ⟨x, 6, none⟩ bv').heap[k]? = W2.heap[k]? := fun k hk => Below.heap_setCell W2 ⟨x, 6, none⟩ bv' k hk
  have hz2 : W.heap.size ≤ W2.heap.size := hg.size
  have hlit : ∀ (b : Nat) (cur : Array Value) (T : TypeId), T ≠ 46 → base ≤ b → W.heap[b]? = some (.cells cur T (0, 0)) → (W2.setCell ⟨x, 6, none⟩ bv').heap[b]? = W.heap[b]? := by
    intro b cur T hT hb hc
    rw [hset b (by omega)]
    refine hg.block b (Array.getElem?_eq_some_iff.1 hc).1 fun e => ?_
    rcases hq.2 with ⟨hn, _⟩ | ⟨g', cap, cur', hvv, _, hh, _⟩
    · rw [hn] at e; cases e
    · rw [hvv] at e
      have e' : b = g' := by injection e
      rw [e', hh] at hc
      injection hc with hc
      injection hc with _ h4
      exact hT h4.symm
  have hargs : ∀ (u : Value) (l : List TmP), ArgsAt W base u l → ArgsAt (W2.setCell ⟨x, 6, none⟩ bv') base u l := fun u l hA => hA.byBlock fun b' cur hl hh => hlit b' cur _ (by decide) hl hh
  refine ⟨⟨?_, ?_, ?_, ?_, hgb, hx, htb, h.gx, h.tx, by rw [World.size_setCell]; omega⟩, ?_, fun k hk _ hkg hkx => (hset k hkx).trans (hlow k hk)⟩
  · exact ⟨((hset g h.gx).trans (hlow g hgb)).trans h.rd.1, h.rd.2.1.block (fun _ => (hset t h.tx).trans (hlow t htb)), h.rd.2.2⟩
  · have h1 : BoxX W2 x r hv bv := (hlow x hx).trans h.bx
    exact heap_setCell_same W2 x 6 _ _ bv' h1
  · refine h.hd.byBlock fun k hk => ?_
    rcases h.hd.2 with ⟨hn, _⟩ | ⟨g', cap, cur', hvv, _, hh, _⟩
    · rw [hn] at hk; cases hk
    · rw [hvv] at hk
      have e' : g' = k := by injection hk
      rw [e'] at hh
      exact hlit k cur' _ (by decide) (h.hd.lt k (by rw [hvv]; exact hk)).1 hh
  · refine ⟨qs ++ [q], ho.byBlock fun k hk => hset k (by have := (ho.lt k hk).1; omega), by simp [hlen], fun i q' y' h1 h2 => ?_⟩
    by_cases hi : i < qs.length
    · rw [List.getElem?_append_left hi] at h1
      rw [List.getElem?_append_left (by omega)] at h2
      obtain ⟨a, b, c', d⟩ := hrel i q' y' h1 h2
      exact ⟨a, b, c', hargs _ _ d⟩
    · have hi2 : i = qs.length := by
        have := (List.getElem?_eq_some_iff.1 h1).1
        simp at this
        omega
      subst hi2
      rw [List.getElem?_append_right (Nat.le_refl _), Nat.sub_self] at h1
      rw [hlen, List.getElem?_append_right (Nat.le_refl _), Nat.sub_self] at h2
      injection h1 with h1
      injection h2 with h2
      subst h1 h2
      exact ⟨hqy.1, hqy.2.1, hqy.2.2.1, hargs _ _ hqy.2.2.2⟩
  · exact ((Below.refl 0 W).grown hg (Nat.zero_le _) (fun k _ => Nat.zero_le _)).setCell (p := ⟨x, 6, none⟩) (Nat.zero_le _) bv'
end
theorem ArgsAt.shape {w : World} {base : Nat} {v : Value} {l : List TmP} (h : ArgsAt w base v l) : ∃ A n c, v = .slice A n c := by
  rcases h with ⟨rfl, _⟩ | ⟨b, c, cur, rfl, _⟩
  · exact ⟨_, _, _, rfl⟩
  · exact ⟨_, _, _, rfl⟩
theorem ArgsAt.lower {w : World} {base b2 : Nat} {v : Value} {l : List TmP} (h : ArgsAt w base v l) (hb : b2 ≤ base) : ArgsAt w b2 v l := by
  rcases h with h | ⟨b, c, cur, h1, h2, h3⟩
  · exact .inl h
  · exact .inr ⟨b, c, cur, h1, Nat.le_trans hb h2, h3⟩

set_option maxRecDepth 100000 in
set_option maxHeartbeats 4000000 in
theorem rp_body {W : World} {g x t c base : Nat} {ls : List Tok} {s : Rst} {r : RuP} {hv : Value} (h : XSt W g x t c base ls s r hv (.slice none 0 0)) (hb0 : r.body = []) :
    Calls Try.prog 25 #[.pointer (some ⟨g, 0, none⟩), .pointer (some ⟨x, 0, none⟩)] W fun e W' => e = .returned (.tuple #[]) ∧ (∃ bv', XSt W' g x t c base ls (boF ls 400 0 [] s).2 { r with body := (boF ls 400 0 [] s).1 } hv bv') ∧ OnlyX g x base W W' := by
  have H := Lib.hid h
  have hr0 : ({ r with body := [] } : RuP) = r := by
    cases r
    simp only at hb0
    subst hb0
    rfl
  have HR0 := Lib.hid hr0
  obtain ⟨B, hB⟩ : ∃ B, B = boF ls 400 0 [] s := ⟨_, rfl⟩
  rw [← hB]
  have HB := Lib.hid hB
  clear h hb0 hr0 hB
  go_enter Try.func25, Try.ntmps25
  go_wp2
  go_loopw [4, 5] (fun a i wr => ∃ (k m : Nat) (l : List LiP) (s2 : Rst) (bv : Value), a = .int .i64 m ∧ i = .int .i64 k ∧ k ≤ 400 ∧ m ≤ k ∧ l.length ≤ k ∧ XSt wr g x t c base ls s2 { r with body := l } hv bv ∧ Hid (B = boF ls (400 - k) m l s2) ∧ OnlyX g x base W wr) (fun _ i _ => 400 - (intOf i).toNat)
  case atStart => exact ⟨0, 0, [], s, .slice none 0 0, rfl, rfl, by omega, Nat.le_refl _, Nat.le_refl _, by rw [HR0.out]; exact H.out, Lib.hid HB.out, OnlyX.refl _ _ _ _⟩
  case round =>
    obtain ⟨k, m, l, s2, bv, rfl, rfl, hk, hmk, hlk, hx, HA, ho⟩ := hrel
    have HO := Lib.hid ho
    have HX := Lib.hid hx
    obtain ⟨_, _, c2, _⟩ := hx.rd.cell
    obtain ⟨qs0, hq0, hlen0, _⟩ := hx.bd
    obtain ⟨A, cc, hvv⟩ := hq0.shape
    simp only at hlen0
    rw [hlen0] at hvv
    subst hvv
    clear ho hx hq0 hlen0
    by_cases hk4 : k < 400
    · by_cases hy : s2.why = 0
      · have HYW := Lib.hid hy
        rw [hy] at c2
        obtain ⟨⟨tk, tb, ⟨zk, zf, zn, zt⟩, ta⟩, hX⟩ : ∃ z, nowR ls s2 = z := ⟨_, rfl⟩
        have r3 := field_at3 tk tb zk zf zn zt ta
        have HNW := Lib.hid (rp_now' HX.out.rd hX)
        obtain ⟨s1, hs1⟩ : ∃ s1, s1 = if 10 ≤ l.length then loR ls s2 (nowR ls s2).a else s2 := ⟨_, rfl⟩
        have HS1 := Lib.hid hs1
        rw [hX] at hs1
        clear hX hy
        go_wp2_with fail
        refine HNW.out.mono ?_
        rintro e w2 ⟨rfl, hb2⟩
        have H2 := Lib.hid (HX.out.below hb2)
        have HO2 := Lib.hid (HO.out.trans (OnlyX.of (OnlyR.of hb2)))
        obtain ⟨_, _, _, _, _, _, d6⟩ := H2.out.bx.cell
        clear hb2 HNW
        by_cases hm : 10 ≤ l.length
        · have b4 : decide ((10 : Int) ≤ (l.length : Int)) = true := by rw [decide_eq_true_eq]; omega
          rw [if_pos hm] at hs1
          have hlo := rp_lone H2.out.rd ta
          rw [← hs1] at hlo
          have HLO := Lib.hid hlo
          clear hlo hs1
          go_wp2_with fail
          refine HLO.out.mono ?_
          rintro e w3 ⟨rfl, hr3, ho3⟩
          have H3 := Lib.hid (H2.out.call hr3 ho3)
          have HO3 := Lib.hid (HO2.out.trans (OnlyX.of ho3))
          clear hr3 ho3 HLO d6
          have HLT := Lib.hid (rp_lit H3.out.rd m (by omega))
          obtain ⟨⟨⟨yn, ys, yargs, yo⟩, s5⟩, hli⟩ : ∃ z, liR ls m s1 = z := ⟨_, rfl⟩
          rw [hli] at HLT
          have hgo := boF_go ls (400 - (k + 1)) m l s2 s1 ⟨yn, ys, yargs, yo⟩ s5 HYW.out HS1.out hli
          rw [show 400 - (k + 1) + 1 = 400 - k by omega] at hgo
          rw [hgo] at HA
          have hsz3 := H3.out.sz
          clear hgo hli
          go_wp2_with fail
          refine HLT.out.mono ?_
          rintro e w4 ⟨v4, rfl, har4, hr4, ho4⟩
          obtain ⟨yA, yl, yc, hv4⟩ := har4.shape
          subst hv4
          have h4 := H3.out.call hr4 ho4
          have HO4 := Lib.hid (HO3.out.trans (OnlyX.of ho4))
          have har4b := har4.lower hsz3
          have L5 := Lib.hid (h4.below (one_new w4 (.cells #[.bool yn, .string ys, .slice yA yl yc, .int .i64 yo] 46)))
          have l6 := h4.below (two_new w4 (.cells #[.bool yn, .string ys, .slice yA yl yc, .int .i64 yo] 46) (.cells #[.bool yn, .string ys, .slice yA yl yc, .int .i64 yo] 46))
          have L6 := Lib.hid l6
          have HAR6 : Hid (ArgsAt ((w4.alloc (.cells #[.bool yn, .string ys, .slice yA yl yc, .int .i64 yo] 46)).alloc (.cells #[.bool yn, .string ys, .slice yA yl yc, .int .i64 yo] 46)) base (.slice yA yl yc) yargs) := Lib.hid (har4b.byBlock fun b' cur _ hh => (two_new w4 (.cells #[.bool yn, .string ys, .slice yA yl yc, .int .i64 yo] 46) (.cells #[.bool yn, .string ys, .slice yA yl yc, .int .i64 yo] 46)).block b' (Array.getElem?_eq_some_iff.1 hh).1)
          obtain ⟨qs, hq, hlen, hrel⟩ := l6.bd
          have q2 := lit_F LmQ.cells (w4.alloc (.cells #[.bool yn, .string ys, .slice yA yl yc, .int .i64 yo] 46)) ⟨⟨yn, ys, .slice yA yl yc, yo⟩, rfl⟩ #[.bool yn, .string ys, .slice yA yl yc, .int .i64 yo] 46 rfl
          rw [World.size_alloc] at q2
          have q3 : qs.length ≤ 1000000 := by rw [hlen]; show l.length ≤ 1000000; omega
          have q4 := l6.sz
          have q6 : (qs ++ ([⟨⟨yn, ys, .slice yA yl yc, yo⟩, rfl⟩] : List LmQ)).length = l.length + 1 := by rw [List.length_append, hlen]; rfl
          have q7 : ∀ w', World.grownBy ((w4.alloc (.cells #[.bool yn, .string ys, .slice yA yl yc, .int .i64 yo] 46)).alloc (.cells #[.bool yn, .string ys, .slice yA yl yc, .int .i64 yo] 46)).drew w' (Value.slice A l.length cc).ownBlock → World.grownBy ((w4.alloc (.cells #[.bool yn, .string ys, .slice yA yl yc, .int .i64 yo] 46)).alloc (.cells #[.bool yn, .string ys, .slice yA yl yc, .int .i64 yo] 46)) w' (Value.slice A l.length cc).ownBlock := fun w' h => ⟨h.os, h.tape, h.output, h.size, h.block⟩
          have q5 : ∀ b, (Value.slice A l.length cc).ownBlock = some b → base ≤ b := fun b hb => (hq.lt b hb).1
          have hb5 := heap_alloc_new w4 (.cells #[.bool yn, .string ys, .slice yA yl yc, .int .i64 yo] 46)
          obtain ⟨e0, e1, e2, e3, _⟩ := box4_of hb5
          obtain ⟨_, _, _, _, _, _, e6⟩ := L5.out.bx.cell
          have e6f := L5.out.bx.frozen 6
          have hb6 := ((one_new (w4.alloc (.cells #[.bool yn, .string ys, .slice yA yl yc, .int .i64 yo] 46)) (.cells #[.bool yn, .string ys, .slice yA yl yc, .int .i64 yo] 46)).block w4.heap.size (by simp)).trans hb5
          obtain ⟨j0, j1, j2, j3, _⟩ := box4_of hb6
          obtain ⟨_, _, _, _, _, _, g6⟩ := l6.bx.cell
          have g6f := l6.bx.frozen 6
          simp only at hlen hrel
          clear hr4 ho4 har4 har4b h4 HLT hsz3 l6 hb5 hb6
          by_cases hyo : yo = 0
          · have b5 : (yo == 0) = true := by simpa using hyo
            cases yn with
            | true =>
              have hat : atomB ⟨true, ys, yargs, yo⟩ = false := by unfold atomB; simp
              rw [hat, if_neg Bool.false_ne_true] at HA
              clear hat hyo
              go_wp2
              go_region_law
                ((refine step_append_F el_Lm _ (by rfl) _ _ (by rfl) base (.slice A l.length cc) qs ⟨⟨true, ys, .slice yA yl yc, yo⟩, rfl⟩ (by rfl) (by exact hq) ⟨w4.heap.size + 1, 0, none⟩ _ (by rfl) (by exact q2) q3 q4 ?_; intro v' w6 hown' hb6 hgrow hor; obtain ⟨A6, c6, hv6⟩ := hown'.shape; rw [q6] at hv6; subst hv6; have hgr := q7 _ hgrow; have hbx := L6.out.boxGrown q5 hgr; obtain ⟨_, _, _, _, _, _, k2⟩ := hbx.cell; have k2f := hbx.frozen 6; have H6 := Lib.hid (L6.out.body hq hlen hrel ⟨⟨true, ys, .slice yA yl yc, yo⟩, rfl⟩ ⟨true, ys, yargs, yo⟩ ⟨rfl, rfl, rfl, HAR6.out⟩ hgr hown'); clear hbx))
              all_goals
                have h6 := H6.out.1
                have HO6 := Lib.hid ((HO4.out.trans (OnlyX.of (OnlyR.of (two_new w4 _ _)))).trans H6.out.2)
                have HTK := Lib.hid (rp_take h6.rd ⟨#[44]⟩)
                have HH6 := Lib.hid h6
                change Hid (Calls Try.prog 18 #[.pointer (some ⟨g, 0, none⟩), .string ⟨#[44]⟩] (w6.setCell ⟨x, 6, none⟩ (.slice A6 (l.length + 1) c6)) fun e w' => e = .returned (.bool (isR ls s5 wComma)) ∧ RdP w' g t c ls (takeR ls s5 wComma) ∧ OnlyR g (w6.setCell ⟨x, 6, none⟩ (.slice A6 (l.length + 1) c6)) w') at HTK
                have HTQ : Hid (takeR ls s5 wComma = if isR ls s5 wComma = true then stepR ls s5 else s5) := Lib.hid rfl
                generalize takeR ls s5 wComma = s8 at *
                generalize isR ls s5 wComma = p2 at *
                clear hown' hb6 hgrow hor h6 H6 hrel hq q2 q4 q5 q6 q7 hgr e0 e1 e2 e3 e6 e6f g6 g6f k2 k2f j0 j1 j2 j3
                go_wp2_with fail
                refine HTK.out.mono ?_
                rintro e w8 ⟨rfl, hr8, ho8⟩
                have H8 := Lib.hid (HH6.out.call hr8 ho8)
                have HO8 := Lib.hid (HO6.out.trans (OnlyX.of ho8))
                clear hr8 ho8 HTK HH6
                cases p2 with
                | true =>
                  rw [if_pos rfl] at HA HTQ
                  rw [HTQ.out] at H8
                  go_wp2
                  go_roundw
                  case rel => exact ⟨k + 1, m, l ++ [⟨true, ys, yargs, yo⟩], stepR ls s5, _, by go_num, by go_num, by omega, by omega, by rw [List.length_append]; simp; omega, H8.out, HA, HO8.out⟩
                  case measure => simp [intOf]; omega
                | false =>
                  rw [if_neg Bool.false_ne_true] at HA HTQ
                  rw [HTQ.out] at H8
                  go_wp2
                  refine bodyPost_ret (results_none rfl _ _ _) rfl ?_
                  exact ⟨rfl, ⟨_, by rw [HA.out]; exact H8.out⟩, HO8.out⟩
            | false =>
              have hat : atomB ⟨false, ys, yargs, yo⟩ = true := by unfold atomB; simp [hyo]
              rw [hat, if_pos rfl] at HA
              clear hat hyo
              go_wp2
              go_region_law
                ((refine step_append_F el_Lm _ (by rfl) _ _ (by rfl) base (.slice A l.length cc) qs ⟨⟨false, ys, .slice yA yl yc, yo⟩, rfl⟩ (by rfl) (by exact hq) ⟨w4.heap.size + 1, 0, none⟩ _ (by rfl) (by exact q2) q3 q4 ?_; intro v' w6 hown' hb6 hgrow hor; obtain ⟨A6, c6, hv6⟩ := hown'.shape; rw [q6] at hv6; subst hv6; have hgr := q7 _ hgrow; have hbx := L6.out.boxGrown q5 hgr; obtain ⟨_, _, _, _, _, _, k2⟩ := hbx.cell; have k2f := hbx.frozen 6; have H6 := Lib.hid (L6.out.body hq hlen hrel ⟨⟨false, ys, .slice yA yl yc, yo⟩, rfl⟩ ⟨false, ys, yargs, yo⟩ ⟨rfl, rfl, rfl, HAR6.out⟩ hgr hown'); clear hbx))
              all_goals
                have h6 := H6.out.1
                have HO6 := Lib.hid ((HO4.out.trans (OnlyX.of (OnlyR.of (two_new w4 _ _)))).trans H6.out.2)
                have HTK := Lib.hid (rp_take h6.rd ⟨#[44]⟩)
                have HH6 := Lib.hid h6
                change Hid (Calls Try.prog 18 #[.pointer (some ⟨g, 0, none⟩), .string ⟨#[44]⟩] (w6.setCell ⟨x, 6, none⟩ (.slice A6 (l.length + 1) c6)) fun e w' => e = .returned (.bool (isR ls s5 wComma)) ∧ RdP w' g t c ls (takeR ls s5 wComma) ∧ OnlyR g (w6.setCell ⟨x, 6, none⟩ (.slice A6 (l.length + 1) c6)) w') at HTK
                have HTQ : Hid (takeR ls s5 wComma = if isR ls s5 wComma = true then stepR ls s5 else s5) := Lib.hid rfl
                generalize takeR ls s5 wComma = s8 at *
                generalize isR ls s5 wComma = p2 at *
                clear hown' hb6 hgrow hor h6 H6 hrel hq q2 q4 q5 q6 q7 hgr e0 e1 e2 e3 e6 e6f g6 g6f k2 k2f j0 j1 j2 j3
                go_wp2_with fail
                refine HTK.out.mono ?_
                rintro e w8 ⟨rfl, hr8, ho8⟩
                have H8 := Lib.hid (HH6.out.call hr8 ho8)
                have HO8 := Lib.hid (HO6.out.trans (OnlyX.of ho8))
                clear hr8 ho8 HTK HH6
                cases p2 with
                | true =>
                  rw [if_pos rfl] at HA HTQ
                  rw [HTQ.out] at H8
                  go_wp2
                  go_roundw
                  case rel => exact ⟨k + 1, m + 1, l ++ [⟨false, ys, yargs, yo⟩], stepR ls s5, _, by go_num, by go_num, by omega, by omega, by rw [List.length_append]; simp; omega, H8.out, HA, HO8.out⟩
                  case measure => simp [intOf]; omega
                | false =>
                  rw [if_neg Bool.false_ne_true] at HA HTQ
                  rw [HTQ.out] at H8
                  go_wp2
                  refine bodyPost_ret (results_none rfl _ _ _) rfl ?_
                  exact ⟨rfl, ⟨_, by rw [HA.out]; exact H8.out⟩, HO8.out⟩
          · have b5 : (yo == 0) = false := by simpa using hyo
            have hat : atomB ⟨yn, ys, yargs, yo⟩ = false := by unfold atomB; simp [hyo]
            rw [hat, if_neg Bool.false_ne_true] at HA
            clear hat hyo
            go_wp2
            go_region_law
              ((refine step_append_F el_Lm _ (by rfl) _ _ (by rfl) base (.slice A l.length cc) qs ⟨⟨yn, ys, .slice yA yl yc, yo⟩, rfl⟩ (by rfl) (by exact hq) ⟨w4.heap.size + 1, 0, none⟩ _ (by rfl) (by exact q2) q3 q4 ?_; intro v' w6 hown' hb6 hgrow hor; obtain ⟨A6, c6, hv6⟩ := hown'.shape; rw [q6] at hv6; subst hv6; have hgr := q7 _ hgrow; have hbx := L6.out.boxGrown q5 hgr; obtain ⟨_, _, _, _, _, _, k2⟩ := hbx.cell; have k2f := hbx.frozen 6; have H6 := Lib.hid (L6.out.body hq hlen hrel ⟨⟨yn, ys, .slice yA yl yc, yo⟩, rfl⟩ ⟨yn, ys, yargs, yo⟩ ⟨rfl, rfl, rfl, HAR6.out⟩ hgr hown'); clear hbx))
            all_goals
              have h6 := H6.out.1
              have HO6 := Lib.hid ((HO4.out.trans (OnlyX.of (OnlyR.of (two_new w4 _ _)))).trans H6.out.2)
              have HTK := Lib.hid (rp_take h6.rd ⟨#[44]⟩)
              have HH6 := Lib.hid h6
              change Hid (Calls Try.prog 18 #[.pointer (some ⟨g, 0, none⟩), .string ⟨#[44]⟩] (w6.setCell ⟨x, 6, none⟩ (.slice A6 (l.length + 1) c6)) fun e w' => e = .returned (.bool (isR ls s5 wComma)) ∧ RdP w' g t c ls (takeR ls s5 wComma) ∧ OnlyR g (w6.setCell ⟨x, 6, none⟩ (.slice A6 (l.length + 1) c6)) w') at HTK
              have HTQ : Hid (takeR ls s5 wComma = if isR ls s5 wComma = true then stepR ls s5 else s5) := Lib.hid rfl
              generalize takeR ls s5 wComma = s8 at *
              generalize isR ls s5 wComma = p2 at *
              clear hown' hb6 hgrow hor h6 H6 hrel hq q2 q4 q5 q6 q7 hgr e0 e1 e2 e3 e6 e6f g6 g6f k2 k2f j0 j1 j2 j3
              go_wp2_with fail
              refine HTK.out.mono ?_
              rintro e w8 ⟨rfl, hr8, ho8⟩
              have H8 := Lib.hid (HH6.out.call hr8 ho8)
              have HO8 := Lib.hid (HO6.out.trans (OnlyX.of ho8))
              clear hr8 ho8 HTK HH6
              cases p2 with
              | true =>
                rw [if_pos rfl] at HA HTQ
                rw [HTQ.out] at H8
                go_wp2
                go_roundw
                case rel => exact ⟨k + 1, m, l ++ [⟨yn, ys, yargs, yo⟩], stepR ls s5, _, by go_num, by go_num, by omega, by omega, by rw [List.length_append]; simp; omega, H8.out, HA, HO8.out⟩
                case measure => simp [intOf]; omega
              | false =>
                rw [if_neg Bool.false_ne_true] at HA HTQ
                rw [HTQ.out] at H8
                go_wp2
                refine bodyPost_ret (results_none rfl _ _ _) rfl ?_
                exact ⟨rfl, ⟨_, by rw [HA.out]; exact H8.out⟩, HO8.out⟩
        · have b4 : decide ((10 : Int) ≤ (l.length : Int)) = false := by rw [decide_eq_false_iff_not]; omega
          rw [if_neg hm] at hs1
          have H3 := H2
          rw [← hs1] at H3
          have HO3 := HO2
          obtain ⟨w3, hw3⟩ : ∃ w3, w3 = w2 := ⟨_, rfl⟩
          subst hw3
          clear hs1
          have HLT := Lib.hid (rp_lit H3.out.rd m (by omega))
          obtain ⟨⟨⟨yn, ys, yargs, yo⟩, s5⟩, hli⟩ : ∃ z, liR ls m s1 = z := ⟨_, rfl⟩
          rw [hli] at HLT
          have hgo := boF_go ls (400 - (k + 1)) m l s2 s1 ⟨yn, ys, yargs, yo⟩ s5 HYW.out HS1.out hli
          rw [show 400 - (k + 1) + 1 = 400 - k by omega] at hgo
          rw [hgo] at HA
          have hsz3 := H3.out.sz
          clear hgo hli
          go_wp2_with fail
          refine HLT.out.mono ?_
          rintro e w4 ⟨v4, rfl, har4, hr4, ho4⟩
          obtain ⟨yA, yl, yc, hv4⟩ := har4.shape
          subst hv4
          have h4 := H3.out.call hr4 ho4
          have HO4 := Lib.hid (HO3.out.trans (OnlyX.of ho4))
          have har4b := har4.lower hsz3
          have L5 := Lib.hid (h4.below (one_new w4 (.cells #[.bool yn, .string ys, .slice yA yl yc, .int .i64 yo] 46)))
          have l6 := h4.below (two_new w4 (.cells #[.bool yn, .string ys, .slice yA yl yc, .int .i64 yo] 46) (.cells #[.bool yn, .string ys, .slice yA yl yc, .int .i64 yo] 46))
          have L6 := Lib.hid l6
          have HAR6 : Hid (ArgsAt ((w4.alloc (.cells #[.bool yn, .string ys, .slice yA yl yc, .int .i64 yo] 46)).alloc (.cells #[.bool yn, .string ys, .slice yA yl yc, .int .i64 yo] 46)) base (.slice yA yl yc) yargs) := Lib.hid (har4b.byBlock fun b' cur _ hh => (two_new w4 (.cells #[.bool yn, .string ys, .slice yA yl yc, .int .i64 yo] 46) (.cells #[.bool yn, .string ys, .slice yA yl yc, .int .i64 yo] 46)).block b' (Array.getElem?_eq_some_iff.1 hh).1)
          obtain ⟨qs, hq, hlen, hrel⟩ := l6.bd
          have q2 := lit_F LmQ.cells (w4.alloc (.cells #[.bool yn, .string ys, .slice yA yl yc, .int .i64 yo] 46)) ⟨⟨yn, ys, .slice yA yl yc, yo⟩, rfl⟩ #[.bool yn, .string ys, .slice yA yl yc, .int .i64 yo] 46 rfl
          rw [World.size_alloc] at q2
          have q3 : qs.length ≤ 1000000 := by rw [hlen]; show l.length ≤ 1000000; omega
          have q4 := l6.sz
          have q6 : (qs ++ ([⟨⟨yn, ys, .slice yA yl yc, yo⟩, rfl⟩] : List LmQ)).length = l.length + 1 := by rw [List.length_append, hlen]; rfl
          have q7 : ∀ w', World.grownBy ((w4.alloc (.cells #[.bool yn, .string ys, .slice yA yl yc, .int .i64 yo] 46)).alloc (.cells #[.bool yn, .string ys, .slice yA yl yc, .int .i64 yo] 46)).drew w' (Value.slice A l.length cc).ownBlock → World.grownBy ((w4.alloc (.cells #[.bool yn, .string ys, .slice yA yl yc, .int .i64 yo] 46)).alloc (.cells #[.bool yn, .string ys, .slice yA yl yc, .int .i64 yo] 46)) w' (Value.slice A l.length cc).ownBlock := fun w' h => ⟨h.os, h.tape, h.output, h.size, h.block⟩
          have q5 : ∀ b, (Value.slice A l.length cc).ownBlock = some b → base ≤ b := fun b hb => (hq.lt b hb).1
          have hb5 := heap_alloc_new w4 (.cells #[.bool yn, .string ys, .slice yA yl yc, .int .i64 yo] 46)
          obtain ⟨e0, e1, e2, e3, _⟩ := box4_of hb5
          obtain ⟨_, _, _, _, _, _, e6⟩ := L5.out.bx.cell
          have e6f := L5.out.bx.frozen 6
          have hb6 := ((one_new (w4.alloc (.cells #[.bool yn, .string ys, .slice yA yl yc, .int .i64 yo] 46)) (.cells #[.bool yn, .string ys, .slice yA yl yc, .int .i64 yo] 46)).block w4.heap.size (by simp)).trans hb5
          obtain ⟨j0, j1, j2, j3, _⟩ := box4_of hb6
          obtain ⟨_, _, _, _, _, _, g6⟩ := l6.bx.cell
          have g6f := l6.bx.frozen 6
          simp only at hlen hrel
          clear hr4 ho4 har4 har4b h4 HLT hsz3 l6 hb5 hb6
          by_cases hyo : yo = 0
          · have b5 : (yo == 0) = true := by simpa using hyo
            cases yn with
            | true =>
              have hat : atomB ⟨true, ys, yargs, yo⟩ = false := by unfold atomB; simp
              rw [hat, if_neg Bool.false_ne_true] at HA
              clear hat hyo
              go_wp2
              go_region_law
                ((refine step_append_F el_Lm _ (by rfl) _ _ (by rfl) base (.slice A l.length cc) qs ⟨⟨true, ys, .slice yA yl yc, yo⟩, rfl⟩ (by rfl) (by exact hq) ⟨w4.heap.size + 1, 0, none⟩ _ (by rfl) (by exact q2) q3 q4 ?_; intro v' w6 hown' hb6 hgrow hor; obtain ⟨A6, c6, hv6⟩ := hown'.shape; rw [q6] at hv6; subst hv6; have hgr := q7 _ hgrow; have hbx := L6.out.boxGrown q5 hgr; obtain ⟨_, _, _, _, _, _, k2⟩ := hbx.cell; have k2f := hbx.frozen 6; have H6 := Lib.hid (L6.out.body hq hlen hrel ⟨⟨true, ys, .slice yA yl yc, yo⟩, rfl⟩ ⟨true, ys, yargs, yo⟩ ⟨rfl, rfl, rfl, HAR6.out⟩ hgr hown'); clear hbx))
              all_goals
                have h6 := H6.out.1
                have HO6 := Lib.hid ((HO4.out.trans (OnlyX.of (OnlyR.of (two_new w4 _ _)))).trans H6.out.2)
                have HTK := Lib.hid (rp_take h6.rd ⟨#[44]⟩)
                have HH6 := Lib.hid h6
                change Hid (Calls Try.prog 18 #[.pointer (some ⟨g, 0, none⟩), .string ⟨#[44]⟩] (w6.setCell ⟨x, 6, none⟩ (.slice A6 (l.length + 1) c6)) fun e w' => e = .returned (.bool (isR ls s5 wComma)) ∧ RdP w' g t c ls (takeR ls s5 wComma) ∧ OnlyR g (w6.setCell ⟨x, 6, none⟩ (.slice A6 (l.length + 1) c6)) w') at HTK
                have HTQ : Hid (takeR ls s5 wComma = if isR ls s5 wComma = true then stepR ls s5 else s5) := Lib.hid rfl
                generalize takeR ls s5 wComma = s8 at *
                generalize isR ls s5 wComma = p2 at *
                clear hown' hb6 hgrow hor h6 H6 hrel hq q2 q4 q5 q6 q7 hgr e0 e1 e2 e3 e6 e6f g6 g6f k2 k2f j0 j1 j2 j3
                go_wp2_with fail
                refine HTK.out.mono ?_
                rintro e w8 ⟨rfl, hr8, ho8⟩
                have H8 := Lib.hid (HH6.out.call hr8 ho8)
                have HO8 := Lib.hid (HO6.out.trans (OnlyX.of ho8))
                clear hr8 ho8 HTK HH6
                cases p2 with
                | true =>
                  rw [if_pos rfl] at HA HTQ
                  rw [HTQ.out] at H8
                  go_wp2
                  go_roundw
                  case rel => exact ⟨k + 1, m, l ++ [⟨true, ys, yargs, yo⟩], stepR ls s5, _, by go_num, by go_num, by omega, by omega, by rw [List.length_append]; simp; omega, H8.out, HA, HO8.out⟩
                  case measure => simp [intOf]; omega
                | false =>
                  rw [if_neg Bool.false_ne_true] at HA HTQ
                  rw [HTQ.out] at H8
                  go_wp2
                  refine bodyPost_ret (results_none rfl _ _ _) rfl ?_
                  exact ⟨rfl, ⟨_, by rw [HA.out]; exact H8.out⟩, HO8.out⟩
            | false =>
              have hat : atomB ⟨false, ys, yargs, yo⟩ = true := by unfold atomB; simp [hyo]
              rw [hat, if_pos rfl] at HA
              clear hat hyo
              go_wp2
              go_region_law
                ((refine step_append_F el_Lm _ (by rfl) _ _ (by rfl) base (.slice A l.length cc) qs ⟨⟨false, ys, .slice yA yl yc, yo⟩, rfl⟩ (by rfl) (by exact hq) ⟨w4.heap.size + 1, 0, none⟩ _ (by rfl) (by exact q2) q3 q4 ?_; intro v' w6 hown' hb6 hgrow hor; obtain ⟨A6, c6, hv6⟩ := hown'.shape; rw [q6] at hv6; subst hv6; have hgr := q7 _ hgrow; have hbx := L6.out.boxGrown q5 hgr; obtain ⟨_, _, _, _, _, _, k2⟩ := hbx.cell; have k2f := hbx.frozen 6; have H6 := Lib.hid (L6.out.body hq hlen hrel ⟨⟨false, ys, .slice yA yl yc, yo⟩, rfl⟩ ⟨false, ys, yargs, yo⟩ ⟨rfl, rfl, rfl, HAR6.out⟩ hgr hown'); clear hbx))
              all_goals
                have h6 := H6.out.1
                have HO6 := Lib.hid ((HO4.out.trans (OnlyX.of (OnlyR.of (two_new w4 _ _)))).trans H6.out.2)
                have HTK := Lib.hid (rp_take h6.rd ⟨#[44]⟩)
                have HH6 := Lib.hid h6
                change Hid (Calls Try.prog 18 #[.pointer (some ⟨g, 0, none⟩), .string ⟨#[44]⟩] (w6.setCell ⟨x, 6, none⟩ (.slice A6 (l.length + 1) c6)) fun e w' => e = .returned (.bool (isR ls s5 wComma)) ∧ RdP w' g t c ls (takeR ls s5 wComma) ∧ OnlyR g (w6.setCell ⟨x, 6, none⟩ (.slice A6 (l.length + 1) c6)) w') at HTK
                have HTQ : Hid (takeR ls s5 wComma = if isR ls s5 wComma = true then stepR ls s5 else s5) := Lib.hid rfl
                generalize takeR ls s5 wComma = s8 at *
                generalize isR ls s5 wComma = p2 at *
                clear hown' hb6 hgrow hor h6 H6 hrel hq q2 q4 q5 q6 q7 hgr e0 e1 e2 e3 e6 e6f g6 g6f k2 k2f j0 j1 j2 j3
                go_wp2_with fail
                refine HTK.out.mono ?_
                rintro e w8 ⟨rfl, hr8, ho8⟩
                have H8 := Lib.hid (HH6.out.call hr8 ho8)
                have HO8 := Lib.hid (HO6.out.trans (OnlyX.of ho8))
                clear hr8 ho8 HTK HH6
                cases p2 with
                | true =>
                  rw [if_pos rfl] at HA HTQ
                  rw [HTQ.out] at H8
                  go_wp2
                  go_roundw
                  case rel => exact ⟨k + 1, m + 1, l ++ [⟨false, ys, yargs, yo⟩], stepR ls s5, _, by go_num, by go_num, by omega, by omega, by rw [List.length_append]; simp; omega, H8.out, HA, HO8.out⟩
                  case measure => simp [intOf]; omega
                | false =>
                  rw [if_neg Bool.false_ne_true] at HA HTQ
                  rw [HTQ.out] at H8
                  go_wp2
                  refine bodyPost_ret (results_none rfl _ _ _) rfl ?_
                  exact ⟨rfl, ⟨_, by rw [HA.out]; exact H8.out⟩, HO8.out⟩
          · have b5 : (yo == 0) = false := by simpa using hyo
            have hat : atomB ⟨yn, ys, yargs, yo⟩ = false := by unfold atomB; simp [hyo]
            rw [hat, if_neg Bool.false_ne_true] at HA
            clear hat hyo
            go_wp2
            go_region_law
              ((refine step_append_F el_Lm _ (by rfl) _ _ (by rfl) base (.slice A l.length cc) qs ⟨⟨yn, ys, .slice yA yl yc, yo⟩, rfl⟩ (by rfl) (by exact hq) ⟨w4.heap.size + 1, 0, none⟩ _ (by rfl) (by exact q2) q3 q4 ?_; intro v' w6 hown' hb6 hgrow hor; obtain ⟨A6, c6, hv6⟩ := hown'.shape; rw [q6] at hv6; subst hv6; have hgr := q7 _ hgrow; have hbx := L6.out.boxGrown q5 hgr; obtain ⟨_, _, _, _, _, _, k2⟩ := hbx.cell; have k2f := hbx.frozen 6; have H6 := Lib.hid (L6.out.body hq hlen hrel ⟨⟨yn, ys, .slice yA yl yc, yo⟩, rfl⟩ ⟨yn, ys, yargs, yo⟩ ⟨rfl, rfl, rfl, HAR6.out⟩ hgr hown'); clear hbx))
            all_goals
              have h6 := H6.out.1
              have HO6 := Lib.hid ((HO4.out.trans (OnlyX.of (OnlyR.of (two_new w4 _ _)))).trans H6.out.2)
              have HTK := Lib.hid (rp_take h6.rd ⟨#[44]⟩)
              have HH6 := Lib.hid h6
              change Hid (Calls Try.prog 18 #[.pointer (some ⟨g, 0, none⟩), .string ⟨#[44]⟩] (w6.setCell ⟨x, 6, none⟩ (.slice A6 (l.length + 1) c6)) fun e w' => e = .returned (.bool (isR ls s5 wComma)) ∧ RdP w' g t c ls (takeR ls s5 wComma) ∧ OnlyR g (w6.setCell ⟨x, 6, none⟩ (.slice A6 (l.length + 1) c6)) w') at HTK
              have HTQ : Hid (takeR ls s5 wComma = if isR ls s5 wComma = true then stepR ls s5 else s5) := Lib.hid rfl
              generalize takeR ls s5 wComma = s8 at *
              generalize isR ls s5 wComma = p2 at *
              clear hown' hb6 hgrow hor h6 H6 hrel hq q2 q4 q5 q6 q7 hgr e0 e1 e2 e3 e6 e6f g6 g6f k2 k2f j0 j1 j2 j3
              go_wp2_with fail
              refine HTK.out.mono ?_
              rintro e w8 ⟨rfl, hr8, ho8⟩
              have H8 := Lib.hid (HH6.out.call hr8 ho8)
              have HO8 := Lib.hid (HO6.out.trans (OnlyX.of ho8))
              clear hr8 ho8 HTK HH6
              cases p2 with
              | true =>
                rw [if_pos rfl] at HA HTQ
                rw [HTQ.out] at H8
                go_wp2
                go_roundw
                case rel => exact ⟨k + 1, m, l ++ [⟨yn, ys, yargs, yo⟩], stepR ls s5, _, by go_num, by go_num, by omega, by omega, by rw [List.length_append]; simp; omega, H8.out, HA, HO8.out⟩
                case measure => simp [intOf]; omega
              | false =>
                rw [if_neg Bool.false_ne_true] at HA HTQ
                rw [HTQ.out] at H8
                go_wp2
                refine bodyPost_ret (results_none rfl _ _ _) rfl ?_
                exact ⟨rfl, ⟨_, by rw [HA.out]; exact H8.out⟩, HO8.out⟩
      · have hy' : (s2.why == 0) = false := by simpa using hy
        have HS := Lib.hid (boF_stop ls (400 - k) m l s2 hy)
        clear hy
        go_wp2
        refine bodyPost_end (results_none rfl _ _ _) rfl ?_
        exact ⟨rfl, ⟨_, by rw [HA.out, HS.out]; exact HX.out⟩, HO.out⟩
    · have h0 : 400 - k = 0 := by omega
      rw [h0] at HA
      have HS : Hid (boF ls 0 m l s2 = (l, s2)) := Lib.hid rfl
      clear h0
      go_wp2
      refine bodyPost_end (results_none rfl _ _ _) rfl ?_
      exact ⟨rfl, ⟨_, by rw [HA.out, HS.out]; exact HX.out⟩, HO.out⟩
end Go.Proofs.Ythdjkagodccdbaa
