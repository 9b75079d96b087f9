/-
  unquoted of verdererref01 answers a text at every text, and of a text between its quotes that text; it never panics and changes nothing that was there.
  Condition: the text is no longer than a thousand bytes.
-/
import Derived.Test.YtmdkjhnafnblkaaDoorRnum
namespace Go.Proofs.YtmdkjhnafnblkaaDoor
open Go.RowKit

/-- The byte that two digits of base 16 are, as the document reckons it. -/
def hb (a b : UInt8) : UInt8 := UInt8.ofNat (IntKind.u8.wrap (16 * rhex a + rhex b)).toNat
theorem hb_val (a b : UInt8) : ((hb a b).toNat : Int) = IntKind.u8.wrap (16 * rhex a + rhex b) := by
  have h : 0 ≤ IntKind.u8.wrap (16 * rhex a + rhex b) ∧ IntKind.u8.wrap (16 * rhex a + rhex b) < 256 := by
    rw [IntKind.wrap_u8]
    omega
  unfold hb
  have e : (UInt8.ofNat (IntKind.u8.wrap (16 * rhex a + rhex b)).toNat).toNat = (IntKind.u8.wrap (16 * rhex a + rhex b)).toNat := by
    rw [UInt8.toNat_ofNat_of_lt']
    show _ < 256
    omega
  rw [e]
  omega
theorem hb_cell (a b : UInt8) : (#[Value.int .u8 (IntKind.u8.wrap (16 * rhex a + rhex b))] : Array Value).toList = [hb a b].map bv := by
  rw [← hb_val]
  rfl
theorem step_hex {ops : Array Oper} {o : Oper} {a : Act} {K : Act → World → Prop} {Q : Exit → Act → World → Prop} {E : Prop} (w : World) (hgd : o.guard = none) (x : Operand)
    (ho : o.op = .call { callee := .value (.func 50), args := #[x], argTypes := #[5] }) (c : UInt8) (hx : a.eval x = .int .u8 (c.toNat : Int)) (h : K (a.put o.dst (.int .i64 (rhex c))) w) :
    if Region.wanted o (yielded ops a.tmps) = true then Oper.wp Tryd.prog o a w K Q else E := by
  have hw : Region.wanted o (yielded ops a.tmps) = true := by simp [Region.wanted, hgd]
  rw [if_pos hw]
  have e : (execOp a.eval o).run Tryd.prog w = .ok (.enter 50 #[a.eval x]) w := by simp [execOp, ho, go_sem]
  unfold Oper.wp
  rw [e, Oper.upon_enter, hx]
  refine (ref_hex c w).mono ?_
  rintro e w' ⟨rfl, rfl⟩
  exact h
theorem rhex_bound (c : UInt8) : -1 ≤ rhex c ∧ rhex c ≤ 15 := by
  unfold rhex
  split
  · omega
  · split <;> omega
theorem hb_back (c : UInt8) : hb (hexd (c.toNat / 16)) (hexd (c.toNat % 16)) = c := by
  have h : ∀ n : Fin 256, hb (hexd (n.val / 16)) (hexd (n.val % 16)) = UInt8.ofNat n.val := by decide +kernel
  have h1 := h ⟨c.toNat, c.toNat_lt⟩
  simpa using h1

/-- What unquoted answers of s from place i on, in f rounds. -/
def ruqF (s : List UInt8) : Nat → Nat → List UInt8
  | 0, _ => []
  | f + 1, i =>
    if i + 1 < s.length then
      (if (s.getD i 0).toNat = 92 then
        (if (s.getD (i + 1) 0).toNat = 120 then (if i + 4 < s.length then hb (s.getD (i + 2) 0) (s.getD (i + 3) 0) :: ruqF s f (i + 4) else []) else s.getD (i + 1) 0 :: ruqF s f (i + 2))
      else s.getD i 0 :: ruqF s f (i + 1))
    else []

theorem ruq_hex (s : ByteArray) (g k : Nat) (h3 : k + 4 < s.size) (h2 : s[k].toNat = 92) (h4 : s[k + 1].toNat = 120) : ruqF s.data.toList (g + 1) k = hb s[k + 2] s[k + 3] :: ruqF s.data.toList g (k + 4) := by
  have hl : s.data.toList.length = s.size := rfl
  rw [ruqF, if_pos (by omega), getD_at s k (by omega), getD_at s (k + 1) (by omega), getD_at s (k + 2) (by omega), getD_at s (k + 3) (by omega), if_pos h2, if_pos h4, if_pos (by omega)]
theorem ruq_cut (s : ByteArray) (g k : Nat) (h1 : k + 1 < s.size) (h3 : ¬ k + 4 < s.size) (h2 : s[k].toNat = 92) (h4 : s[k + 1].toNat = 120) : ruqF s.data.toList (g + 1) k = [] := by
  have hl : s.data.toList.length = s.size := rfl
  rw [ruqF, if_pos (by omega), getD_at s k (by omega), getD_at s (k + 1) (by omega), if_pos h2, if_pos h4, if_neg (by omega)]
theorem ruq_esc (s : ByteArray) (g k : Nat) (h1 : k + 1 < s.size) (h2 : s[k].toNat = 92) (h4 : ¬ s[k + 1].toNat = 120) : ruqF s.data.toList (g + 1) k = s[k + 1] :: ruqF s.data.toList g (k + 2) := by
  have hl : s.data.toList.length = s.size := rfl
  rw [ruqF, if_pos (by omega), getD_at s k (by omega), getD_at s (k + 1) (by omega), if_pos h2, if_neg h4]
theorem ruq_one (s : ByteArray) (g k : Nat) (h1 : k + 1 < s.size) (h2 : ¬ s[k].toNat = 92) : ruqF s.data.toList (g + 1) k = s[k] :: ruqF s.data.toList g (k + 1) := by
  have hl : s.data.toList.length = s.size := rfl
  rw [ruqF, if_pos (by omega), getD_at s k (by omega), if_neg h2]
theorem ruq_end (l : List UInt8) (f k : Nat) (h : ¬ k + 1 < l.length) : ruqF l f k = [] := by
  cases f with
  | zero => rfl
  | succ f => rw [ruqF, if_neg h]

/-- What unquoted answers of a text between its quotes. -/
theorem ruq_flat : ∀ (t pre : List UInt8) (f : Nat), t.length ≤ f → ruqF (pre ++ (t.flatMap qb ++ [34])) f pre.length = t
  | [], pre, f, _ => ruq_end _ _ _ (by simp)
  | c :: t, pre, 0, h => by simp at h
  | c :: t, pre, f + 1, h => by
    have hf : t.length ≤ f := by simpa using h
    have key : ∀ (q : List UInt8), ruqF (pre ++ (q ++ (t.flatMap qb ++ [34]))) f (pre.length + q.length) = t := by
      intro q
      have := ruq_flat t (pre ++ q) f hf
      simpa using this
    rw [List.flatMap_cons, List.append_assoc, ruqF]
    have g0 := getD_right pre (qb c ++ (t.flatMap qb ++ [34])) 0
    have g1 := getD_right pre (qb c ++ (t.flatMap qb ++ [34])) 1
    have g2 := getD_right pre (qb c ++ (t.flatMap qb ++ [34])) 2
    have g3 := getD_right pre (qb c ++ (t.flatMap qb ++ [34])) 3
    have hk := key (qb c)
    clear key
    rw [Nat.add_zero] at g0
    rw [g0, g1, g2, g3]
    clear g0 g1 g2 g3
    have hl : (pre ++ (qb c ++ (t.flatMap qb ++ [34]))).length = pre.length + (qb c).length + (t.flatMap qb).length + 1 := by simp only [List.length_append, List.length_cons, List.length_nil]; omega
    unfold qb at hk hl ⊢
    by_cases h1 : c.toNat = 34 ∨ c.toNat = 92
    · simp only [if_pos h1] at hk hl ⊢
      have h120 : ¬ c.toNat = 120 := by omega
      simp only [List.length_cons, List.length_nil] at hk hl
      rw [if_pos (by omega)]
      simp only [List.cons_append, List.nil_append, List.getD_cons_zero, List.getD_cons_succ] at hk ⊢
      rw [if_pos (by rfl), if_neg h120]
      exact congrArg _ hk
    · by_cases h2 : c.toNat < 32 ∨ 126 < c.toNat
      · simp only [if_neg h1, if_pos h2] at hk hl ⊢
        simp only [List.length_cons, List.length_nil] at hk hl
        rw [if_pos (by omega)]
        simp only [List.cons_append, List.nil_append, List.getD_cons_zero, List.getD_cons_succ] at hk ⊢
        rw [if_pos (by rfl), if_pos (by rfl), if_pos (by simp only [List.length_append, List.length_cons] at hl ⊢; omega), hb_back]
        exact congrArg _ hk
      · simp only [if_neg h1, if_neg h2] at hk hl ⊢
        simp only [List.length_cons, List.length_nil] at hk hl
        rw [if_pos (by omega)]
        simp only [List.cons_append, List.nil_append, List.getD_cons_zero, List.getD_cons_succ] at hk ⊢
        rw [if_neg (fun hx => h1 (.inr hx))]
        exact congrArg _ hk

theorem ruq_qs (t : List UInt8) (f : Nat) (h : t.length ≤ f) : ruqF (qs t) f 1 = t := by
  have := ruq_flat t [34] f h
  unfold qs
  simpa using this

set_option maxRecDepth 100000 in
set_option maxHeartbeats 2000000 in
theorem ref_unquoted (s : ByteArray) (w : World) (hs : s.size ≤ 1000) : Calls Tryd.prog 40 #[.string s] w fun e w' => e = .returned (.string ⟨(ruqF s.data.toList s.size 1).toArray⟩) ∧ Below w.heap.size w w' := by
  have hsl : s.data.toList.length = s.size := rfl
  have HL := Lib.hid hsl
  clear hsl
  obtain ⟨R, hR⟩ : ∃ R, R = ruqF s.data.toList s.size 1 := ⟨_, rfl⟩
  rw [← hR]
  have HR := Lib.hid hR
  clear hR
  go_enter Tryd.func40, Tryd.ntmps40
  go_wp2
  go_loopw [3, 4] (fun v i wr => ∃ (k f : Nat) (bs : List UInt8), 1 ≤ k ∧ k ≤ s.size + 4 ∧ s.size ≤ f + k ∧ bs.length < k ∧ i = .int .i64 k ∧ OwnB wr w.heap.size v bs ∧ R = bs ++ ruqF s.data.toList f k ∧ Below w.heap.size w wr) (fun _ i _ => s.size + 4 - (intOf i).toNat)
  case atStart => exact ⟨1, s.size, [], by omega, by omega, by omega, by simp, rfl, World.ownsRow_nil _ _ _ _, by rw [HR.out]; rfl, Below.refl _ _⟩
  case round =>
    obtain ⟨k, f, bs, hk1, hk4, hf, hbl, rfl, hown, hr, hb⟩ := hrel
    have HO := Lib.hid hown
    have HB := Lib.hid hb
    have HRR := Lib.hid hr
    have hsz : w.heap.size ≤ wr.heap.size := hb.size
    clear hown hb hr
    by_cases h1 : k + 1 < s.size
    · obtain ⟨g, rfl⟩ : ∃ g, f = g + 1 := ⟨f - 1, by omega⟩
      by_cases h2 : s[k].toNat = 92
      · have b2 : ((s[k].toNat : Int) == 92) = true := by rw [h2]; rfl
        by_cases h4 : s[k + 1].toNat = 120
        · have b4 : ((s[k + 1].toNat : Int) == 120) = true := by rw [h4]; rfl
          by_cases h3 : k + 4 < s.size
          · have HE := Lib.hid (ruq_hex s g k h3 h2 h4)
            have bnd1 := rhex_bound s[k + 2]
            have bnd2 := rhex_bound s[k + 3]
            have v1 : IntKind.i64.wrap (16 * rhex s[k + 2]) = 16 * rhex s[k + 2] := IntWalk.i64_in _ (by omega)
            have v2 : IntKind.i64.wrap (16 * rhex s[k + 2] + rhex s[k + 3]) = 16 * rhex s[k + 2] + rhex s[k + 3] := IntWalk.i64_in _ (by omega)
            clear h2 h4
            go_wp2
            have q1 : IntKind.i64.wrap ((k : Int) + 2) = (k : Int) + 2 := IntWalk.i64_in _ (by omega)
            have q2 : IntKind.i64.wrap ((k : Int) + 3) = (k : Int) + 3 := IntWalk.i64_in _ (by omega)
            have q3 : (0 : Int) ≤ (k : Int) + 2 := by omega
            have q4 : (0 : Int) ≤ (k : Int) + 3 := by omega
            have q5 : ((k : Int) + 2).toNat = k + 2 := by omega
            have q6 : ((k : Int) + 3).toNat = k + 3 := by omega
            have q7 : (k : Int) + 2 < (s.size : Int) := by omega
            have q8 : (k : Int) + 3 < (s.size : Int) := by omega
            go_region_law (first
              | (refine step_hex _ (by rfl) _ (by rfl) _ (by rfl) ?_)
              | (refine step_append_B _ (by rfl) _ _ (by rfl) w.heap.size _ bs [hb s[k + 2] s[k + 3]] (by rfl) (by exact HO.out) _ (by exact hb_cell _ _) _ _ _ (by rfl) (by simp) (by rfl) (by simp; omega) (by exact hsz) ?_; intro v1 w1 ho1 hb1))
            all_goals
              go_wp2
              go_roundw
              case rel =>
                refine ⟨k + 4, g, bs ++ [hb s[k + 2] s[k + 3]], by omega, by omega, by omega, by simp; omega, by go_num, ho1, ?_, HB.out.trans hb1⟩
                rw [HRR.out, HE.out, snoc]
              case measure => simp [intOf]; omega
          · have he : R = bs := by rw [HRR.out, ruq_cut s g k h1 h3 h2 h4, List.append_nil]
            obtain ⟨A, n, c, rfl, hcv⟩ := conv_B HO.out
            rw [← he] at hcv
            have q2 : IntKind.i64.wrap ((k : Int) + 3) = (k : Int) + 3 := IntWalk.i64_in _ (by omega)
            have HE := Lib.hid he
            clear he h2 h4
            go_wp2
            go_ret
            exact ⟨rfl, HB.out⟩
        · have b4 : ((s[k + 1].toNat : Int) == 120) = false := by
            rw [beq_eq_false_iff_ne]
            omega
          have HE := Lib.hid (ruq_esc s g k h1 h2 h4)
          clear h2 h4
          go_wp2_with (at_builtin; refine wp_append_B _ rfl (.tmp 27) (.tmp 32) rfl w.heap.size _ bs [s[k + 1]] rfl (by exact HO.out) _ (by rfl) _ _ _ rfl rfl rfl (by simp; omega) (by exact hsz) ?_; intro v1 w1 ho1 hb1)
          go_roundw
          case rel =>
            refine ⟨k + 2, g, bs ++ [s[k + 1]], by omega, by omega, by omega, by simp; omega, by go_num, ho1, ?_, HB.out.trans hb1⟩
            rw [HRR.out, HE.out, snoc]
          case measure => simp [intOf]; omega
      · have b2 : ((s[k].toNat : Int) == 92) = false := by
          rw [beq_eq_false_iff_ne]
          omega
        have HE := Lib.hid (ruq_one s g k h1 h2)
        clear h2
        go_wp2_with (at_builtin; refine wp_append_B _ rfl (.tmp 16) (.tmp 20) rfl w.heap.size _ bs [s[k]] rfl (by exact HO.out) _ (by rfl) _ _ _ rfl rfl rfl (by simp; omega) (by exact hsz) ?_; intro v1 w1 ho1 hb1)
        go_roundw
        case rel =>
          refine ⟨k + 1, g, bs ++ [s[k]], by omega, by omega, by omega, by simp; omega, by go_num, ho1, ?_, HB.out.trans hb1⟩
          rw [HRR.out, HE.out, snoc]
        case measure => simp [intOf]; omega
    · have he : R = bs := by rw [HRR.out, ruq_end _ _ _ (by rw [HL.out]; exact h1), List.append_nil]
      obtain ⟨A, n, c, rfl, hcv⟩ := conv_B HO.out
      rw [← he] at hcv
      have HE := Lib.hid he
      clear he
      go_wp2
      go_ret
      exact ⟨rfl, HB.out⟩
end Go.Proofs.YtmdkjhnafnblkaaDoor
