/-
  LexWords and LexApart of verdererlaw11 answer true at every input; nothing that was there is changed.
  Condition: the library's variables are as the program's text lays them.
-/
import Derived.Test.YtmdkjhnafnblkaaDoorLxk
namespace Go.Proofs.YtmdkjhnafnblkaaDoor
open Go.RowKit

set_option maxRecDepth 100000 in
set_option maxHeartbeats 2000000 in
theorem lexWords_all (s : ByteArray) (op : Int) (w : World) (hv : Vars w) : Calls Tryd.prog 4 #[.string s, .int .i64 op] w fun e w' => e = .returned (.bool true) ∧ Below w.heap.size w w' := by
  have HV := Lib.hid hv
  have b1 : (resB s.data.toList == resB s.data.toList) = true := by simp
  have b2 : (sgnS op == sgnS op) = true := by simp
  clear hv
  go_enter Tryd.func4, Tryd.ntmps4
  go_wp2_with (first
    | (go_at_call 11; refine (lx_reserved _ _).mono ?_; rintro e w1 ⟨rfl, rfl⟩)
    | (go_at_call 12; refine (ref_reserved _ _).mono ?_; rintro e w1 ⟨rfl, rfl⟩)
    | (go_at_call 13; refine (lx_op _ _).mono ?_; rintro e w1 ⟨rfl, rfl⟩)
    | (go_at_call 14; refine (ref_op _ _).mono ?_; rintro e w2 ⟨rfl, hb2⟩; have HB2 := Lib.hid ((one_new w _).trans (hb2.mono (by simp))); clear hb2)
    | (go_at_call 15; refine (lx_sgn _ _).mono ?_; rintro e w1 ⟨rfl, rfl⟩)
    | (go_at_call 16; refine (ref_sgn _ _).mono ?_; rintro e w1 ⟨rfl, rfl⟩)
    | (go_at_call 7; refine (known11 _ (by exact HV.out.later (HB2.out.alloc HB2.out.size _))).mono ?_; rintro e w3 ⟨rfl, hb3⟩))
  go_ret
  exact ⟨rfl, HB2.out.trans (((one_new w2 _).mono HB2.out.size).trans (hb3.mono (Nat.le_trans HB2.out.size (by simp))))⟩

theorem lexR_cases (l : List UInt8) : ((lexR l).1 = [] ∧ (lexR l).2.2 ≠ 0) ∨ ((lexR l).2.2 = 0 ∧ l.length ≤ 300 ∧ (lexR l).1 = lexA l.length l ∧ ∀ x ∈ lexA l.length l, x.k ≠ 0) := by
  unfold lexR
  by_cases h : 300 < l.length
  · rw [if_pos h]
    exact .inl ⟨rfl, by decide⟩
  · rw [if_neg h]
    cases hf : (lexA l.length l).find? (fun t => decide (t.k = 0)) with
    | none =>
      refine .inr ⟨rfl, by omega, rfl, fun x hx => ?_⟩
      have := List.find?_eq_none.1 hf x hx
      simpa using this
    | some t => exact .inl ⟨rfl, by show (7 : Int) ≠ 0; decide⟩

/-- What a token behind a place is. -/
theorem Apart.head {s : List UInt8} {p : Nat} {ls : List Tok} {k : Nat} {x : Tok} (h : Apart s p (ls.drop k)) (hx : ls[k]? = some x) :
    ∃ a : Nat, x.a = a ∧ p ≤ a ∧ a + x.t.size ≤ s.length ∧ (s.drop a).take x.t.size = x.t.data.toList ∧ (∀ j, p ≤ j → j < a → ∃ c, s[j]? = some c ∧ blk c = true) ∧
      ((k + 1 = ls.length ∧ x.k = 4 ∧ a + x.t.size = s.length) ∨ (k + 1 < ls.length ∧ x.k ≠ 4 ∧ Apart s (a + x.t.size) (ls.drop (k + 1)))) := by
  obtain ⟨hk, e⟩ := List.getElem?_eq_some_iff.1 hx
  rw [List.drop_eq_getElem_cons hk, e] at h
  obtain ⟨a, h1, h2, h3, h4, h5, h6⟩ := h
  refine ⟨a, h1, h2, h3, h4, h5, ?_⟩
  rcases h6 with ⟨h6, h7⟩ | ⟨h6, h7⟩
  · have := List.drop_eq_nil_iff.1 h6
    exact .inl ⟨by omega, h7⟩
  · refine .inr ⟨?_, h7⟩
    rcases Nat.lt_or_ge (k + 1) ls.length with h8 | h8
    · exact h8
    · exact absurd (List.drop_eq_nil_of_le h8) h6

set_option maxRecDepth 100000 in
set_option maxHeartbeats 4000000 in
theorem lexApart_all (s : ByteArray) (w : World) (hv : Vars w) : Calls Tryd.prog 5 #[.string s] w fun e w' => e = .returned (.bool true) ∧ Below w.heap.size w w' := by
  have HV := Lib.hid hv
  have hsl : s.data.toList.length = s.size := rfl
  clear hv
  obtain ⟨⟨ls, z, e0⟩, hR⟩ : ∃ x, x = lexR s.data.toList := ⟨_, rfl⟩
  have HR := Lib.hid hR.symm
  have hcs := lexR_cases s.data.toList
  rw [← hR] at hcs
  clear hR
  rcases hcs with ⟨h1, h2⟩ | ⟨h1, h2, h3, h4⟩
  · have h1' : ls = [] := h1
    subst h1'
    have b1 : (e0 != 0) = true := by simpa using h2
    clear h1 h2
    go_enter Tryd.func5, Tryd.ntmps5
    go_wp2_with (fail)
    refine (lx_read s _ (by exact HV.out)).mono ?_
    rintro e w1 ⟨A, c, he, hA, _, hag, hb1⟩
    rw [HR.out] at he
    have he' : e = .returned (.tuple #[.slice A 0 c, .int .i64 z, .int .i64 e0]) := he
    clear he
    subst he'
    have HB1 := Lib.hid hb1
    clear hb1 hA hag
    go_wp2_with (go_at_call 7; refine (known11 _ (by exact HV.out.later HB1.out)).mono ?_; rintro e w3 ⟨rfl, hb3⟩)
    go_ret
    exact ⟨rfl, HB1.out.trans (hb3.mono HB1.out.size)⟩
  · have h1' : e0 = 0 := h1
    subst h1'
    have h3' : ls = lexA s.size s.data.toList := h3
    have hap : Apart s.data.toList 0 ls := by
      rw [h3']
      exact apart_lex s.data.toList _ 0 (by omega) (by simp) (fun x hx => h4 x hx)
    have hne : 0 < ls.length := by
      rw [h3', lexA_step]
      simp
    have hll : ls.length ≤ 301 := by
      rw [h3']
      have := lexA_len s.size s.data.toList
      omega
    have hs : s.size ≤ 300 := h2
    have HAP := Lib.hid hap
    clear h1 h2 h3 h4 h3' hap hsl
    go_enter Tryd.func5, Tryd.ntmps5
    go_wp2_with (fail)
    refine (lx_read s _ (by exact HV.out)).mono ?_
    rintro e w1 ⟨A, c, he, hA, hto, hag, hb1⟩
    rw [HR.out] at he hto
    have he' : e = .returned (.tuple #[.slice A ls.length c, .int .i64 z, .int .i64 0]) := he
    clear he
    subst he'
    obtain ⟨g, rfl⟩ : ∃ g, A = some ⟨g, 0, none⟩ := by
      obtain ⟨x, hx⟩ : ∃ x, ls[0]? = some x := ⟨_, List.getElem?_eq_getElem hne⟩
      obtain ⟨a, ha, _⟩ := hto _ _ (flatT_at ls 0 x 0 hx (by omega))
      obtain ⟨g, rfl⟩ := hag a ha
      exact ⟨g, ha⟩
    have HT := Lib.hid hto
    have HB1 := Lib.hid hb1
    clear hb1 hA hag hto
    go_wp2
    go_loopw [6, 7] (fun p i wr => ∃ (k q : Nat), k ≤ ls.length ∧ p = .int .i64 q ∧ i = .int .i64 k ∧ q ≤ s.size ∧ Hid ((k < ls.length ∧ Apart s.data.toList q (ls.drop k)) ∨ (k = ls.length ∧ q = s.size)) ∧ Below w1.heap.size w1 wr) (fun _ i _ => ls.length - (intOf i).toNat)
    case atStart => exact ⟨0, 0, by omega, rfl, rfl, by omega, Lib.hid (.inl ⟨hne, HAP.out⟩), Below.refl _ _⟩
    case round =>
      obtain ⟨k, q, hk, rfl, rfl, hq, HC, hb⟩ := hrel
      have HB := Lib.hid hb
      have hsz := hb.size
      have hto := HT.out.below hb
      clear hb
      by_cases hlt : k < ls.length
      · obtain ⟨⟨xk, xt, ⟨vk, vf, vn, vt⟩, xa⟩, hx⟩ : ∃ x, ls[k]? = some x := ⟨_, List.getElem?_eq_getElem hlt⟩
        have c0 := hto.at k 0 _ _ hx (by omega) rfl
        have c1 := hto.at k 1 _ _ hx (by omega) rfl
        have c2 := hto.at k 2 _ _ hx (by omega) rfl
        have c3 := hto.at k 3 _ _ hx (by omega) rfl
        have c4 := hto.at k 4 _ _ hx (by omega) rfl
        have c5 := hto.at k 5 _ _ hx (by omega) rfl
        have c6 := hto.at k 6 _ _ hx (by omega) rfl
        simp only [Nat.add_zero] at c0
        have hap : Apart s.data.toList q (ls.drop k) := by
          rcases HC.out with h | h
          · exact h.2
          · omega
        obtain ⟨a, ha, hqa, has, htk, hbl, hnx⟩ := hap.head hx
        have ha' : xa = a := ha
        subst ha'
        have htk' : (s.extract a (a + xt.size)).toList = xt.toList := by
          rw [ByteArray.toList_eq, ByteArray.toList_eq, ByteArray.data_extract, Array.toList_extract, ← htk]
          show (s.data.toList.drop a).take _ = _
          congr 1
          show a + xt.size - a = xt.size
          omega
        have has' : a + xt.size ≤ s.size := has
        have d1 : decide (a < q) = false := by simp; omega
        have d2 : decide (s.size < a) = false := by simp; omega
        have d3 : decide ((s.size : Int) - (a : Int) < (xt.size : Int)) = false := by simp; omega
        have d4 : ((s.extract a (a + xt.size)).toList != xt.toList) = false := by rw [htk']; simp
        have d4' : ((s.extract a (a + xt.size)).toList == xt.toList) = true := by rw [htk']; simp
        have d5 : ((xk == 4) != ((k : Int) == (ls.length : Int) - 1)) = false := by
          rcases hnx with ⟨h1, h2, _⟩ | ⟨h1, h2, _⟩
          · have h2' : xk = 4 := h2
            have : (k : Int) = (ls.length : Int) - 1 := by omega
            rw [h2', this]; simp
          · have h2' : (xk == 4) = false := by simpa using h2
            have : ((k : Int) == (ls.length : Int) - 1) = false := by rw [beq_eq_false_iff_ne]; omega
            rw [h2', this]; rfl
        have d6 : (!(xk == 4) == ((k : Int) == (ls.length : Int) - 1)) = false := by
          have h1 := d5
          generalize (xk == 4) = u at h1 ⊢
          generalize ((k : Int) == (ls.length : Int) - 1) = v at h1 ⊢
          revert h1
          cases u <;> cases v <;> decide
        have HBL := Lib.hid hbl
        have HNX := Lib.hid hnx
        have HX := Lib.hid hx
        clear hto hx hap ha htk hbl hnx htk'
        go_wp2
        have q1 : IntKind.i64.wrap ((s.size : Int) - (a : Int)) = (s.size : Int) - (a : Int) := IntWalk.i64_in _ (by omega)
        have q2 : IntKind.i64.wrap ((a : Int) + (xt.size : Int)) = (a : Int) + (xt.size : Int) := IntWalk.i64_in _ (by omega)
        have q3 : IntKind.i64.wrap ((ls.length : Int) - 1) = (ls.length : Int) - 1 := IntWalk.i64_in _ (by omega)
        have q4 : (0 : Int) ≤ (a : Int) + (xt.size : Int) := by omega
        have q5 : ((a : Int) + (xt.size : Int)).toNat = a + xt.size := by omega
        have q6 : (a : Int) + (xt.size : Int) ≤ (s.size : Int) := by omega
        have q7 : (a : Int) ≤ (a : Int) + (xt.size : Int) := by omega
        go_quiet (fail)
        clear q1 q2 q3 q4 q5 q6 q7
        go_wp2
        clear d1 d2 d3 d4 d4' d5 d6 c0 c1 c2 c3 c4 c5 c6
        obtain ⟨W2, hW2⟩ : ∃ W2, W2 = ((wr.alloc (.cells #[.int .i64 xk, .string xt, .int .i64 vk, .bool vf, .int .i64 vn, .string vt, .int .i64 (a : Int)] 39)).drewN nq) := ⟨_, rfl⟩
        have e6 : W2.cell? ⟨wr.heap.size, 6, none⟩ = some (.int .i64 (a : Int)) := by rw [hW2]; simp
        have e1 : W2.cell? ⟨wr.heap.size, 1, none⟩ = some (.string xt) := by rw [hW2]; simp
        have HB2 : Hid (Below w1.heap.size w1 W2) := Lib.hid (by rw [hW2]; exact below_drewN' (HB.out.alloc hsz _) _)
        rw [← hW2]
        clear hW2
        go_loop [6] (fun p => ∃ j : Nat, p = .int .i64 j ∧ q ≤ j ∧ j ≤ a) (fun p => a - (intOf p).toNat)
        case atStart => exact ⟨q, rfl, Nat.le_refl _, hqa⟩
        case round =>
          obtain ⟨j, rfl, hj1, hj2⟩ := hrel
          by_cases hja : j < a
          · obtain ⟨cb, hcb, hbk⟩ := HBL.out j hj1 hja
            have hjs : j < s.size := by omega
            have hsj : s[j] = cb := by
              have e := at_some s j hjs
              rw [hcb] at e
              exact (Option.some.inj e).symm
            have hk2 : s[j].toNat = 32 ∨ s[j].toNat = 10 := by
              rw [hsj]
              unfold blk at hbk
              simp only [Bool.or_eq_true, decide_eq_true_eq] at hbk
              rcases hbk with rfl | rfl
              · exact .inl rfl
              · exact .inr rfl
            clear hcb hbk hsj
            rcases hk2 with h | h
            · have f1 : ((s[j].toNat : Int) != 32) = false := by rw [h]; rfl
              have f2 : ((s[j].toNat : Int) == 32) = true := by rw [h]; rfl
              clear h
              go_wp2
              go_round
              case rel => exact ⟨j + 1, by go_num, by omega, by omega⟩
              case measure => simp [intOf]; omega
            · have f1 : ((s[j].toNat : Int) != 32) = true := by rw [h]; rfl
              have f2 : ((s[j].toNat : Int) == 32) = false := by rw [h]; rfl
              have f3 : ((s[j].toNat : Int) != 10) = false := by rw [h]; rfl
              have f4 : ((s[j].toNat : Int) == 10) = true := by rw [h]; rfl
              clear h
              go_wp2
              go_round
              case rel => exact ⟨j + 1, by go_num, by omega, by omega⟩
              case measure => simp [intOf]; omega
          · obtain rfl : j = a := by omega
            go_wp2
            go_roundw
            case rel =>
              refine ⟨k + 1, j + xt.size, by omega, by go_num, by go_num, by omega, Lib.hid ?_, HB2.out⟩
              rcases HNX.out with ⟨h1, _, h3⟩ | ⟨h1, _, h3⟩
              · exact .inr ⟨h1, h3⟩
              · exact .inl ⟨h1, h3⟩
            case measure => simp [intOf]; omega
      · have he : q = s.size := by
          rcases HC.out with h | h
          · omega
          · exact h.2
        subst he
        have b1 : ((s.size : Int) == (s.size : Int)) = true := by simp
        go_wp2_with (go_at_call 7; refine (known11 _ (by exact HV.out.later (HB1.out.trans (HB.out.mono HB1.out.size)))).mono ?_; rintro e w3 ⟨rfl, hb3⟩)
        go_ret
        exact ⟨rfl, (HB1.out.trans (HB.out.mono HB1.out.size)).trans (hb3.mono (Nat.le_trans HB1.out.size hsz))⟩
end Go.Proofs.YtmdkjhnafnblkaaDoor
