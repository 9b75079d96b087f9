/-
  The document's own Read of tokens answers what Read of package lex answers; tokens copied, and compared, are the same; LexReads of verdererlaw11 answers true at every text; nothing that was there is changed.
  Condition: the library's variables are as the program's text lays them.
-/
import Derived.Test.YtmdkjhnafnblkaaDoorLxa
import Derived.Test.YtmdkjhnafnblkaaDoorLxo2
import Derived.Test.YtmdkjhnafnblkaaDoorLxe
import Derived.Deep.RegionLaw
namespace Go.Proofs.YtmdkjhnafnblkaaDoor
open Go.RowKit

theorem lexA_blk (n : Nat) (c : UInt8) (r : List UInt8) (h : blk c = true) : lexA n (c :: r) = lexA n r := by
  rw [lexA_step, lexA_step n r, List.dropWhile_cons_of_pos h]
theorem lexA_at (n : Nat) (l : List UInt8) (hne : ∀ c r, l = c :: r → blk c = false) : lexA n l = (oneT l).set ((n : Int) - (l.length : Int)) :: (if (oneT l).t.size = 0 then [] else lexA n (l.drop (oneT l).t.size)) := by
  have e : l.dropWhile blk = l := by
    match l with
    | [] => rfl
    | c :: r => rw [List.dropWhile_cons_of_neg (by rw [hne c r rfl]; simp)]
  rw [lexA_step, e]

set_option maxRecDepth 100000 in
set_option maxHeartbeats 4000000 in
theorem rf_lex (s : ByteArray) (w : World) : Calls Tryd.prog 8 #[.string s] w fun e w' => ∃ A c, e = .returned (.tuple #[.slice A (lexR s.data.toList).1.length c, .int .i64 (lexR s.data.toList).2.1, .int .i64 (lexR s.data.toList).2.2]) ∧ ToksAt w' A (lexR s.data.toList).1 ∧ (∀ a, A = some a → ∃ g, a = ⟨g, 0, none⟩) ∧ Below w.heap.size w w' := by
  have hsl : s.data.toList.length = s.size := rfl
  by_cases hbig : 300 < s.size
  · have hr : lexR s.data.toList = ([], 0, 9) := by unfold lexR; rw [hsl, if_pos hbig]
    rw [hr]
    clear hr hsl
    go_enter Tryd.func8, Tryd.ntmps8
    go_wp2
    go_ret3
    exact ⟨none, 0, rfl, fun j u hj => by simp [flatT] at hj, fun a h => (by cases h), Below.refl _ _⟩
  · have hs : s.size ≤ 300 := by omega
    clear hbig
    obtain ⟨ys, hys⟩ : ∃ ys, ys = lexA s.size s.data.toList := ⟨_, rfl⟩
    have hlx : ∀ q x rest, ys = q ++ x :: rest → (∀ y ∈ q, y.k ≠ 0) → x.k = 0 → lexR s.data.toList = ([], x.a, 7) := by
      intro q x rest h1 h2 h3
      unfold lexR
      have e : (lexA s.size s.data.toList).find? (fun t => decide (t.k = 0)) = some x := by
        rw [← hys, h1, List.find?_append, List.find?_eq_none.2 (fun y hy => by simpa using h2 y hy)]
        simp [h3]
      rw [hsl, if_neg (by omega), e]
    have hlr : (∀ y ∈ ys, y.k ≠ 0) → lexR s.data.toList = (ys, 0, 0) := by
      intro h
      unfold lexR
      rw [hsl, if_neg (by omega), ← hys, List.find?_eq_none.2 (fun y hy => by simpa using h y hy)]
    obtain ⟨RR, hRR⟩ : ∃ RR, RR = lexR s.data.toList := ⟨_, rfl⟩
    rw [← hRR] at hlx hlr ⊢
    have HLX := Lib.hid hlx
    have HLR := Lib.hid hlr
    have HYS := Lib.hid hys
    have HSL := Lib.hid hsl
    clear hlx hlr hys hsl hRR
    go_enter Tryd.func8, Tryd.ntmps8
    go_wp2
    go_loopw [5, 6] (fun v p wr => ∃ (a : Nat) (pre : List Tok), p = .int .i64 a ∧ a ≤ s.size ∧ pre.length ≤ a ∧ OwnT 43 wr w.heap.size v pre ∧ Hid (ys = pre ++ lexA s.size (s.data.toList.drop a) ∧ ∀ y ∈ pre, y.k ≠ 0) ∧ Below w.heap.size w wr) (fun _ p _ => s.size - (intOf p).toNat)
    case atStart => exact ⟨0, [], rfl, by omega, by simp, OwnT.nil _ _ _, Lib.hid ⟨by rw [HYS.out]; rfl, fun y hy => by cases hy⟩, Below.refl _ _⟩
    case round =>
      obtain ⟨a, pre, rfl, ha, hpl, hown, HP, hb⟩ := hrel
      have HO := Lib.hid hown
      have HB := Lib.hid hb
      have hsz := hb.size
      clear hown hb
      by_cases hlt : a < s.size
      · have hdc := drop_cons (at_some s a hlt)
        by_cases h32 : s[a].toNat = 32 ∨ s[a].toNat = 10
        · have hbk : blk s[a] = true := by
            rcases h32 with h | h
            · rw [eq_of_nat h]; rfl
            · rw [eq_of_nat h]; rfl
          have hP2 : ys = pre ++ lexA s.size (s.data.toList.drop (a + 1)) ∧ ∀ y ∈ pre, y.k ≠ 0 := ⟨by have h := HP.out.1; rw [hdc, lexA_blk _ _ _ hbk] at h; exact h, HP.out.2⟩
          have HP2 := Lib.hid hP2
          clear hdc hbk hP2
          rcases h32 with h | h
          · have b1 : ((s[a].toNat : Int) == 32) = true := by rw [h]; rfl
            clear h
            go_wp2
            go_roundw
            case rel => exact ⟨a + 1, pre, by go_num, by omega, by omega, HO.out, HP2, HB.out⟩
            case measure => simp [intOf]; omega
          · have b1 : ((s[a].toNat : Int) == 32) = false := by rw [h]; rfl
            have b2 : ((s[a].toNat : Int) == 10) = true := by rw [h]; rfl
            clear h
            go_wp2
            go_roundw
            case rel => exact ⟨a + 1, pre, by go_num, by omega, by omega, HO.out, HP2, HB.out⟩
            case measure => simp [intOf]; omega
        · have b1 : ((s[a].toNat : Int) == 32) = false := by rw [beq_eq_false_iff_ne]; omega
          have b2 : ((s[a].toNat : Int) == 10) = false := by rw [beq_eq_false_iff_ne]; omega
          have hne : ∀ c r, s.data.toList.drop a = c :: r → blk c = false := by
            intro c r h
            rw [hdc] at h
            have e := (List.cons.inj h).1
            subst e
            unfold blk
            rw [Bool.or_eq_false_iff, decide_eq_false_iff_not, decide_eq_false_iff_not]
            exact ⟨ne_of_nat (n := 32) (by omega) (fun h => h32 (.inl h)), ne_of_nat (n := 10) (by omega) (fun h => h32 (.inr h))⟩
          obtain ⟨R, hR⟩ : ∃ R : ByteArray, R = s.extract a s.size := ⟨_, rfl⟩
          have hRl : R.data.toList = s.data.toList.drop a := by rw [hR, ext_drop]
          have hRs : R.size = s.size - a := by
            show R.data.toList.length = _
            rw [hRl, List.length_drop, HSL.out]
          have hstep := lexA_at s.size (s.data.toList.drop a) hne
          have hkind := oneT_kind (s.data.toList.drop a) (by rw [hdc]; simp)
          have hosz := oneT_size (s.data.toList.drop a)
          rw [← hRl] at hstep hkind hosz
          have hlen : ((s.size : Int) - (R.data.toList.length : Int)) = (a : Int) := by
            show ((s.size : Int) - (R.size : Int)) = (a : Int)
            omega
          rw [hlen] at hstep
          have HF := Lib.hid (fun W => rf_one R W (by omega) (by omega))
          have HST := Lib.hid hstep
          have HKI := Lib.hid hkind
          have HRL := Lib.hid hRl
          have hos : (oneT R.data.toList).t.size ≤ s.size - a := by rw [← hRs]; exact hosz
          have HOS := Lib.hid hos
          have HRE := Lib.hid hR
          clear hdc hne hR hRl hRs hstep hkind hosz hlen h32 hos
          go_wp2_with (fail)
          rw [← HRE.out]
          refine (HF.out _).mono ?_
          rintro e w1 ⟨k, t, vk, vf, vn, vt, rfl, hok, hb1⟩
          have HB1 := Lib.hid (HB.out.trans (hb1.mono hsz))
          have ho1 := HO.out.below hb1
          have HO1 := Lib.hid ho1
          have hz1 := hb1.size
          rcases Bool.eq_false_or_eq_true (okT R.data.toList) with hb | hb
          · have hone := hok hb
            have HONE := Lib.hid hone
            rw [hb]
            have htp : 0 < t.size ∧ t.size ≤ s.size - a ∧ k ≠ 0 := by
              have h1 := HOS.out
              have h2 := HKI.out
              rw [hone] at h1 h2
              rcases h2 with h2 | h2
              · exfalso
                unfold okT at hb
                rw [hone, decide_eq_true_eq] at hb
                exact hb h2.1
              · exact ⟨h2.2.2, h1, h2.1⟩
            obtain ⟨ht0, hts, hk0⟩ := htp
            have HK0 := Lib.hid hk0
            clear hok hb1 ho1 hb hone hk0
            go_wp2_with (at_builtin; refine wp_append_T isTok_ref _ rfl (.tmp 40) (.tmp 42) rfl w.heap.size _ pre [⟨k, t, ⟨vk, vf, vn, vt⟩, (a : Int)⟩] rfl (by exact (HO1.out.alloc _).alloc _) ⟨w1.heap.size + 1, 0, none⟩ 1 1 rfl rfl (by have h := lit_T (w1.alloc (.cells #[.int .i64 k, .string t, .int .i64 vk, .bool vf, .int .i64 vn, .string vt, .int .i64 (a : Int)] 43)) ⟨k, t, ⟨vk, vf, vn, vt⟩, (a : Int)⟩ 43; rw [World.size_alloc] at h; exact h) (by simp; omega) (by simp; omega) ?_; intro v' w5 hown' hb5 hgrow hor; have k7 := (hgrow.block w1.heap.size (by simp; omega) (fun e => by have := (HO1.out.lt _ e.symm).2; omega)).trans (first_of_two w1 _ _); have d1 : w5.cell? ⟨w1.heap.size, 1, none⟩ = some (.string t) := cell_of_row _ w1.heap.size 1 _ _ (0, 0) k7; clear k7)
            have hBB : Below w.heap.size w w5 := HB1.out.trans ((((one_new w1 _).alloc (by simp) _).mono (by omega)).trans hb5)
            go_roundw
            case rel =>
              refine ⟨a + t.size, pre ++ [⟨k, t, ⟨vk, vf, vn, vt⟩, (a : Int)⟩], by go_num, by omega, by simp; omega, hown', Lib.hid ⟨?_, ?_⟩, hBB⟩
              · have h := HP.out.1
                rw [← HRL.out, HST.out, HONE.out] at h
                have h2 : ¬ (⟨k, t, ⟨vk, vf, vn, vt⟩, 0⟩ : Tok).t.size = 0 := by show ¬ t.size = 0; omega
                rw [if_neg h2, HRL.out, List.drop_drop] at h
                rw [List.append_assoc]
                exact h
              · intro y hy
                rcases List.mem_append.1 hy with h | h
                · exact HP.out.2 y h
                · rw [List.mem_singleton] at h
                  rw [h]
                  exact HK0.out
            case measure => simp [intOf]; omega
          · have hz : (oneT R.data.toList).k = 0 := by
              unfold okT at hb
              rw [decide_eq_false_iff_not] at hb
              exact Classical.byContradiction hb
            have hrr := HLX.out pre ((oneT R.data.toList).set (a : Int)) _ (by have h := HP.out.1; rw [← HRL.out, HST.out] at h; exact h) HP.out.2 hz
            have HRR := Lib.hid hrr
            rw [hb]
            clear hok hb1 ho1 hb hz hrr
            go_wp2
            go_ret3
            rw [HRR.out]
            exact ⟨none, 0, rfl, fun j u hj => by simp [flatT] at hj, fun a h => (by cases h), HB1.out.alloc (Nat.le_trans hsz hz1) _⟩
      · obtain rfl : a = s.size := by omega
        have hys2 : ys = pre ++ [⟨4, ⟨#[]⟩, noV, (s.size : Int)⟩] := by
          have h := HP.out.1
          rw [List.drop_eq_nil_of_le (by rw [HSL.out]; exact Nat.le_refl _), lexA_step] at h
          rw [h]
          show _ = pre ++ [(⟨4, ⟨#[]⟩, noV, (s.size : Int)⟩ : Tok)]
          congr 2
        have hrr := HLR.out (by
          rw [hys2]
          intro y hy
          rcases List.mem_append.1 hy with h | h
          · exact HP.out.2 y h
          · rw [List.mem_singleton] at h
            rw [h]
            show (4 : Int) ≠ 0
            decide)
        rw [hys2] at hrr
        have HRR := Lib.hid hrr
        clear hys2 hrr
        go_wp2_with (at_builtin; refine wp_append_T isTok_ref _ rfl (.tmp 49) (.tmp 53) rfl w.heap.size _ pre [⟨4, ⟨#[]⟩, ⟨0, false, 0, ⟨#[]⟩⟩, (s.size : Int)⟩] rfl (by exact HO.out.alloc _) ⟨wr.heap.size, 0, none⟩ 1 1 rfl rfl (by exact lit_T wr ⟨4, ⟨#[]⟩, ⟨0, false, 0, ⟨#[]⟩⟩, (s.size : Int)⟩ 43) (by simp; omega) (by simp; omega) ?_; intro v' w5 hown' hb5 hgrow hor)
        obtain ⟨A, c, hv', hA, _, hto, hag⟩ := hown'.slice
        subst hv'
        go_ret3
        rw [HRR.out]
        exact ⟨A, c, rfl, hto, hag, HB.out.trans (((one_new wr _).mono hsz).trans hb5)⟩

theorem ToksAt.head {w : World} {A : Option Addr} {ls : List Tok} (h : ToksAt w A ls) (hag : ∀ a, A = some a → ∃ g, a = ⟨g, 0, none⟩) (hne : 0 < ls.length) : ∃ g, A = some ⟨g, 0, none⟩ := by
  obtain ⟨x, hx⟩ : ∃ x, ls[0]? = some x := ⟨_, List.getElem?_eq_getElem hne⟩
  obtain ⟨a, ha, _⟩ := h _ _ (flatT_at ls 0 x 0 hx (by omega))
  obtain ⟨g, rfl⟩ := hag a ha
  exact ⟨g, ha⟩
theorem step_append_T {S E : TypeId} (hT : IsTok S E) {ops : Array Oper} {o : Oper} {a : Act} {K : Act → World → Prop} {Q : Exit → Act → World → Prop} {X : Prop} (w : World) (hgd : o.guard = none) (s x : Operand)
    (ho : o.op = .call { callee := .builtin .append, args := #[s, x], argTypes := #[S, S] })
    (base : Nat) (v : Value) (xs ys : List Tok) (hs : a.eval s = v) (hown : OwnT E w base v xs) (ad : Addr) (m c : Nat) (hx : a.eval x = .slice (some ad) m c) (hm : m = ys.length) (hc : ∀ j u, (flatT ys)[j]? = some u → w.cell? (ad.add j) = some u)
    (hroom : xs.length + ys.length ≤ 3000000) (hbase : base ≤ w.heap.size)
    (h : ∀ v' w', OwnT E w' base v' (xs ++ ys) → Below base w w' → K (a.put o.dst v') w') :
    if Region.wanted o (yielded ops a.tmps) = true then Oper.wp Tryd.prog o a w K Q else X := by
  have hw : Region.wanted o (yielded ops a.tmps) = true := by simp [Region.wanted, hgd]
  rw [if_pos hw]
  obtain ⟨v', w', hrun, h2, h3, h4⟩ := append_T hT w o.type base v xs ys hown ad m c hm hc hroom hbase
  unfold Oper.wp execOp
  simp only [ho, resolve, invoke, builtin, Sem.run_bind, Sem.run_pure, Result.andThen_ok, List.map_toArray, List.map_cons, List.map_nil, hs, hx, hrun]
  exact h v' w' h2 ((Below.refl _ _).grown h3 hbase (fun k hk => (hown.lt k hk).1))
theorem take_snoc' {α : Type} (l : List α) (k : Nat) (x : α) (h : l[k]? = some x) : l.take (k + 1) = l.take k ++ [x] := by
  rw [List.take_add_one, h]; rfl

set_option maxRecDepth 100000 in
set_option maxHeartbeats 4000000 in
theorem lw_taken (ls : List Tok) (A : Option Addr) (c : Nat) (w : World) (hl : ls.length ≤ 400) (hto : ToksAt w A ls) (hag : ∀ a, A = some a → ∃ g, a = ⟨g, 0, none⟩) : Calls Tryd.prog 10 #[.slice A ls.length c] w fun e w' => ∃ A' c', e = .returned (.slice A' ls.length c') ∧ ToksAt w' A' ls ∧ (∀ a, A' = some a → ∃ g, a = ⟨g, 0, none⟩) ∧ Below w.heap.size w w' := by
  have HT := Lib.hid hto
  have HAG := Lib.hid hag
  clear hto hag
  go_enter Tryd.func10, Tryd.ntmps10
  go_wp2
  go_loopw [3, 4] (fun v i wr => ∃ k : Nat, i = .int .i64 k ∧ k ≤ ls.length ∧ OwnT 43 wr w.heap.size v (ls.take k) ∧ Below w.heap.size w wr) (fun _ i _ => ls.length - (intOf i).toNat)
  case atStart => exact ⟨0, rfl, by omega, OwnT.nil _ _ _, Below.refl _ _⟩
  case round =>
    obtain ⟨k, rfl, hk, hown, hb⟩ := hrel
    have HO := Lib.hid hown
    have HB := Lib.hid hb
    have hsz := hb.size
    have hto := HT.out.below hb
    clear hown hb
    by_cases hlt : k < ls.length
    · obtain ⟨g, rfl⟩ := hto.head HAG.out (by omega)
      obtain ⟨⟨xk, xt, ⟨vk, vf, vn, vt⟩, xa⟩, hx⟩ : ∃ x, ls[k]? = some x := ⟨_, List.getElem?_eq_getElem hlt⟩
      have c0 := hto.at k 0 _ _ hx (by omega) rfl
      have c1 := hto.at k 1 _ _ hx (by omega) rfl
      have c2 := hto.at k 2 _ _ hx (by omega) rfl
      have c3 := hto.at k 3 _ _ hx (by omega) rfl
      have c4 := hto.at k 4 _ _ hx (by omega) rfl
      have c5 := hto.at k 5 _ _ hx (by omega) rfl
      have c6 := hto.at k 6 _ _ hx (by omega) rfl
      simp only [Nat.add_zero] at c0
      have HX := Lib.hid (take_snoc' ls k _ hx)
      have hklen : (ls.take k).length = k := by rw [List.length_take]; omega
      have HKL := Lib.hid hklen
      clear hto hx hklen
      go_wp2
      go_region_law
        ((refine step_append_T isTok_ref _ (by rfl) _ _ (by rfl) w.heap.size _ (ls.take k) [⟨xk, xt, ⟨vk, vf, vn, vt⟩, xa⟩] (by rfl) (by exact (HO.out.alloc _)) _ _ _ (by rfl) (by rfl) (by exact lit_T wr ⟨xk, xt, ⟨vk, vf, vn, vt⟩, xa⟩ 43) (by rw [HKL.out]; simp; omega) (by simp; omega) ?_; intro v' w5 hown' hb5))
      all_goals
        go_wp2
        go_roundw
        case rel => exact ⟨k + 1, by go_num, by omega, by rw [HX.out]; exact hown', HB.out.trans ((((one_new wr _).drew).mono hsz).trans hb5)⟩
        case measure => simp [intOf]; omega
    · have he : ls.take k = ls := List.take_of_length_le (by omega)
      have ho := HO.out
      rw [he] at ho
      obtain ⟨A', c', hv', hA, _, hto', hag'⟩ := ho.slice
      subst hv'
      have HTO := Lib.hid hto'
      have HG' := Lib.hid hag'
      clear he ho hto hto' hag' hA
      go_wp2
      go_ret
      exact ⟨A', c', rfl, HTO.out, HG'.out, HB.out⟩

section
attribute [local go_sem high] equal_tok

set_option maxRecDepth 100000 in
set_option maxHeartbeats 4000000 in
theorem rf_same (ls : List Tok) (A B : Option Addr) (c d : Nat) (w : World) (hl : ls.length ≤ 400) (hA : ToksAt w A ls) (hag : ∀ a, A = some a → ∃ g, a = ⟨g, 0, none⟩) (hB : ToksAt w B ls) (hbg : ∀ a, B = some a → ∃ g, a = ⟨g, 0, none⟩) :
    Calls Tryd.prog 9 #[.slice A ls.length c, .slice B ls.length d] w fun e w' => e = .returned (.bool true) ∧ Below w.heap.size w w' := by
  have HA := Lib.hid hA
  have HAG := Lib.hid hag
  have HBT := Lib.hid hB
  have HBG := Lib.hid hbg
  clear hA hag hB hbg
  go_enter Tryd.func9, Tryd.ntmps9
  go_wp2
  go_loopw [5] (fun i wr => ∃ k : Nat, i = .int .i64 k ∧ k ≤ ls.length ∧ Below w.heap.size w wr) (fun i _ => ls.length - (intOf i).toNat)
  case atStart => exact ⟨0, rfl, by omega, Below.refl _ _⟩
  case round =>
    obtain ⟨k, rfl, hk, hb⟩ := hrel
    have HB := Lib.hid hb
    have hta := HA.out.below hb
    have htb := HBT.out.below hb
    clear hb
    by_cases hlt : k < ls.length
    · obtain ⟨g, rfl⟩ := hta.head HAG.out (by omega)
      obtain ⟨h, rfl⟩ := htb.head HBG.out (by omega)
      obtain ⟨⟨xk, xt, ⟨vk, vf, vn, vt⟩, xa⟩, hx⟩ : ∃ x, ls[k]? = some x := ⟨_, List.getElem?_eq_getElem hlt⟩
      have c0 := hta.at k 0 _ _ hx (by omega) rfl
      have c1 := hta.at k 1 _ _ hx (by omega) rfl
      have c2 := hta.at k 2 _ _ hx (by omega) rfl
      have c3 := hta.at k 3 _ _ hx (by omega) rfl
      have c4 := hta.at k 4 _ _ hx (by omega) rfl
      have c5 := hta.at k 5 _ _ hx (by omega) rfl
      have c6 := hta.at k 6 _ _ hx (by omega) rfl
      have d0 := htb.at k 0 _ _ hx (by omega) rfl
      have d1 := htb.at k 1 _ _ hx (by omega) rfl
      have d2 := htb.at k 2 _ _ hx (by omega) rfl
      have d3 := htb.at k 3 _ _ hx (by omega) rfl
      have d4 := htb.at k 4 _ _ hx (by omega) rfl
      have d5 := htb.at k 5 _ _ hx (by omega) rfl
      have d6 := htb.at k 6 _ _ hx (by omega) rfl
      simp only [Nat.add_zero] at c0 d0
      clear hta htb hx
      go_wp2
      go_quiet (fail)
      go_wp2
      go_roundw
      case rel => exact ⟨k + 1, by go_num, by omega, below_drewN' HB.out _⟩
      case measure => simp [intOf]; omega
    · go_wp2
      go_ret
      exact ⟨rfl, HB.out⟩
end

set_option maxRecDepth 100000 in
set_option maxHeartbeats 4000000 in
theorem lexReads_all (s : ByteArray) (w : World) (hv : Vars w) : Calls Tryd.prog 3 #[.string s] w fun e w' => e = .returned (.bool true) ∧ Below w.heap.size w w' := by
  have HV := Lib.hid hv
  clear hv
  by_cases hbig : 2000 < s.size
  · have hr : lexR s.data.toList = ([], 0, 9) := by
      unfold lexR
      have hsl : s.data.toList.length = s.size := rfl
      rw [if_pos (by omega)]
    have HR := Lib.hid hr
    clear hr
    go_enter Tryd.func3, Tryd.ntmps3
    go_wp2_with (fail)
    refine (lx_read s _ (by exact HV.out)).mono ?_
    rintro e w1 ⟨A, c, he, hA, _, hag, hb1⟩
    rw [HR.out] at he
    have he' : e = .returned (.tuple #[.slice A 0 c, .int .i64 0, .int .i64 9]) := he
    clear he
    subst he'
    have HB1 := Lib.hid hb1
    clear hb1 hA hag
    go_wp2_with (go_at_call 7; refine (known11 _ (by exact HV.out.later HB1.out)).mono ?_; rintro e w3 ⟨rfl, hb3⟩)
    go_ret
    exact ⟨rfl, HB1.out.trans (hb3.mono HB1.out.size)⟩
  · have hs : s.size ≤ 2000 := by omega
    clear hbig
    obtain ⟨⟨ls, z, e0⟩, hR⟩ : ∃ x, x = lexR s.data.toList := ⟨_, rfl⟩
    have hll : ls.length ≤ 400 := by
      have h := lexR_cases s.data.toList
      rw [← hR] at h
      rcases h with ⟨h1, _⟩ | ⟨_, h2, h3, _⟩
      · have h1' : ls = [] := h1
        rw [h1']; simp
      · have h3' : ls = lexA s.data.toList.length s.data.toList := h3
        have := lexA_len s.data.toList.length s.data.toList
        rw [h3']
        omega
    have HR := Lib.hid hR.symm
    have b1 : (z == z) = true := by simp
    have b2 : (e0 == e0) = true := by simp
    clear hR
    go_enter Tryd.func3, Tryd.ntmps3
    go_wp2_with (fail)
    refine (lx_read s _ (by exact HV.out)).mono ?_
    rintro e w1 ⟨A, c, he, hA, hto, hag, hb1⟩
    rw [HR.out] at he hto
    have he' : e = .returned (.tuple #[.slice A ls.length c, .int .i64 z, .int .i64 e0]) := he
    clear he
    subst he'
    have HT := Lib.hid hto
    have HG := Lib.hid hag
    have HB1 := Lib.hid hb1
    clear hb1 hA hag hto
    go_wp2_with (fail)
    refine (rf_lex s _).mono ?_
    rintro e w2 ⟨B, d, he, hto, hag, hb2⟩
    rw [HR.out] at he hto
    have he' : e = .returned (.tuple #[.slice B ls.length d, .int .i64 z, .int .i64 e0]) := he
    clear he
    subst he'
    have HT2 := Lib.hid hto
    have HG2 := Lib.hid hag
    have HT1 := Lib.hid (HT.out.below hb2)
    have HB2 := Lib.hid (HB1.out.trans (hb2.mono HB1.out.size))
    clear hb2 hag hto
    go_wp2_with (fail)
    refine (lw_taken ls A c w2 hll HT1.out HG.out).mono ?_
    rintro e w3 ⟨A', c', rfl, hto, hag, hb3⟩
    have HT3 := Lib.hid hto
    have HG3 := Lib.hid hag
    have HT4 := Lib.hid (HT2.out.below hb3)
    have HB3 := Lib.hid (HB2.out.trans (hb3.mono HB2.out.size))
    clear hb3 hag hto
    go_wp2_with (fail)
    refine (rf_same ls A' B c' d w3 hll HT3.out HG3.out HT4.out HG2.out).mono ?_
    rintro e w4 ⟨rfl, hb4⟩
    have HB4 := Lib.hid (HB3.out.trans (hb4.mono HB3.out.size))
    clear hb4
    go_wp2_with (go_at_call 7; refine (known11 _ (by exact HV.out.later HB4.out)).mono ?_; rintro e w5 ⟨rfl, hb5⟩)
    go_ret
    exact ⟨rfl, HB4.out.trans (hb5.mono HB4.out.size)⟩
end Go.Proofs.YtmdkjhnafnblkaaDoor
