/-
  New of package index: an index by some places, or that a place can not be; nothing that was there is changed.
  Condition: no more than one million one hundred thousand places.
-/
import Derived.Test.YtmdkjhnafnblkaaIxh
namespace Go.Proofs.Ytmdkjhnafnblkaa
open Go.RowKit Go.Maps

def badC (z : Int) : Bool := decide (z < 0) || decide (40 ≤ z)
def hitI (b : Bool) (z : Int) : Prop := (z < 0 ∧ b = false) ∨ (0 ≤ z ∧ b = true)

set_option maxHeartbeats 400000 in
theorem cl_i (z : Int) (w : World) : Calls Try.prog 87 #[.int .i64 z] w fun e w' => e = .returned (.bool (badC z)) ∧ w = w' := by
  by_cases h1 : z < 0
  · have g1 : decide (z < 0) = true := by simpa using h1
    have e : badC z = true := by unfold badC; rw [g1]; rfl
    rw [e]
    clear e h1
    go_enter Try.func87, Try.ntmps87
    go_wp2
    go_ret
    exact ⟨rfl, rfl⟩
  · have g1 : decide (z < 0) = false := by simpa using h1
    by_cases h2 : 40 ≤ z
    · have g2 : decide (40 ≤ z) = true := by simpa using h2
      have e : badC z = true := by unfold badC; rw [g1, g2]; rfl
      rw [e]
      clear e
      go_enter Try.func87, Try.ntmps87
      go_wp2
      go_ret
      exact ⟨rfl, rfl⟩
    · have g2 : decide (40 ≤ z) = false := by simpa using h2
      have e : badC z = false := by unfold badC; rw [g1, g2]; rfl
      rw [e]
      clear e
      go_enter Try.func87, Try.ntmps87
      go_wp2
      go_ret
      exact ⟨rfl, rfl⟩

theorem any_drop_i (cs : List Int) (k : Nat) (d : Int) (h : cs[k]? = some d) : (cs.drop k).any badC = (badC d || (cs.drop (k + 1)).any badC) := by
  obtain ⟨h1, h2⟩ := List.getElem?_eq_some_iff.1 h
  rw [List.drop_eq_getElem_cons h1, h2]
  rfl

set_option maxHeartbeats 1000000 in
theorem index_i (A : Option Addr) (cs : List Int) (n c : Nat) (w : World) (hn : n = cs.length) (hl : n ≤ 1100000) (hx : IntsAt w w.heap.size A cs) :
    Calls Try.prog 138 #[.slice A n c, .func (.func 87) #[] #[]] w fun e w' => ∃ z : Int, e = .returned (.int .i64 z) ∧ hitI (cs.any badC) z ∧ w = w' := by
  have HX := Lib.hid hx
  have HN := Lib.hid hn
  clear hx hn
  have hpost : ∀ (z : Int) (w' : World), hitI (cs.any badC) z → w = w' → ∃ z' : Int, Ending.returned (.int .i64 z) = .returned (.int .i64 z') ∧ hitI (cs.any badC) z' ∧ w = w' := fun z w' h1 h2 => ⟨z, rfl, h1, h2⟩
  have HP := Lib.hid hpost
  clear hpost
  go_enter Try.func138, Try.ntmps138
  go_wp2
  go_loopw [8] (fun i wr => ∃ k : Nat, k ≤ n ∧ i = .int .i64 k ∧ (cs.any badC) = ((cs.drop k).any badC) ∧ w = wr) (fun i _ => n - (intOf i).toNat)
  case atStart => exact ⟨0, Nat.zero_le _, rfl, rfl, rfl⟩
  case round =>
    obtain ⟨k, hk, rfl, hq, rfl⟩ := hrel
    have HQ := Lib.hid hq
    clear hq
    by_cases h1 : k < n
    · obtain ⟨d, hd⟩ : ∃ d, cs[k]? = some d := ⟨_, List.getElem?_eq_getElem (by rw [← HN.out]; exact h1)⟩
      obtain ⟨a, rfl, ha, a0⟩ := HX.out k d hd
      have HD := Lib.hid hd
      clear hd
      rcases Bool.eq_false_or_eq_true (badC d) with hz | hz
      · have HZ := Lib.hid hz
        clear hz
        go_wp2_with fail
        refine (cl_i d _).mono ?_
        rintro e w' ⟨rfl, rfl⟩
        rw [HZ.out]
        go_wp2
        go_ret
        exact HP.out _ _ (.inr ⟨by omega, by rw [HQ.out, any_drop_i _ _ _ HD.out, HZ.out, Bool.true_or]⟩) rfl
      · have HZ := Lib.hid hz
        clear hz
        go_wp2_with fail
        refine (cl_i d _).mono ?_
        rintro e w' ⟨rfl, rfl⟩
        rw [HZ.out]
        go_wp2
        go_roundw
        case rel => exact ⟨k + 1, by omega, by go_num, by rw [HQ.out, any_drop_i _ _ _ HD.out, HZ.out, Bool.false_or], by trivial⟩
        case measure => simp [intOf]; omega
    · go_wp2
      go_ret
      exact HP.out _ _ (.inl ⟨by omega, by rw [HQ.out, List.drop_of_length_le (by rw [← HN.out]; omega)]; rfl⟩) rfl

set_option maxHeartbeats 400000 in
theorem contains_i (A : Option Addr) (cs : List Int) (n c : Nat) (w : World) (hn : n = cs.length) (hl : n ≤ 1100000) (hx : IntsAt w w.heap.size A cs) :
    Calls Try.prog 86 #[.slice A n c, .func (.func 87) #[] #[]] w fun e w' => e = .returned (.bool (cs.any badC)) ∧ w = w' := by
  have HF := Lib.hid (index_i A cs n c w hn hl hx)
  clear hx hn hl
  generalize (cs.any badC) = b at *
  go_enter Try.func86, Try.ntmps86
  go_wp2_with fail
  refine HF.out.mono ?_
  rintro e w' ⟨z, rfl, hnw, rfl⟩
  go_wp2
  go_ret
  refine ⟨ret_bool ?_, rfl⟩
  rcases hnw with ⟨h, rfl⟩ | ⟨h, rfl⟩
  · simp; omega
  · simp; omega

/-! ### a row of numbers of the call's own -/
def OwnI (w : World) (base : Nat) (v : Value) (zs : List Int) : Prop := w.ownsRow base 3 1 v zs.length (zs.map (Value.int .i64))
theorem info_I : (Try.prog.info? 3).map (fun i => (i.zero, i.size, i.bytes)) = some (some (.int .i64 0), 1, 8) := by kernel_rfl

set_option maxRecDepth 100000 in
theorem wp_append_I {ops : Array Oper} {rest : List Oper} {o : Oper} {a : Act} {Q : Exit → Act → World → Prop} (w : World) (hgd : o.guard = none) (s x : Operand)
    (ho : o.op = .call { callee := .builtin .append, args := #[s, x], argTypes := #[28, 28] })
    (base : Nat) (v : Value) (hs : a.eval s = v) (hown : OwnI w base v []) (ad : Addr) (n c : Nat) (zs : List Int) (hx : a.eval x = .slice (some ad) n c) (hn : n = zs.length) (hr : IntsAt w w.heap.size (some ad) zs)
    (hroom : zs.length ≤ 1100000) (hbase : base ≤ w.heap.size)
    (h : ∀ v' w', OwnI w' base v' zs → Below base w w' → wpList Try.prog ops Q rest (a.put o.dst v') w') : wpList Try.prog ops Q (o :: rest) a w := by
  refine wpList_plain hgd fun K hK => ?_
  obtain ⟨i, hi, hz, hsize, hby⟩ := info_parts info_I
  obtain ⟨v', w', hrun, h3, h4, _, _⟩ := run_append_own_at (P := Try.prog) w base 28 o.type 3 i _ 1 8 Try.underlying28 hi hz hsize hby rfl (by omega) v 0 [] hown ad n c (zs.map (Value.int .i64))
      (by rw [List.length_map, hn]; omega) (fun j u hj => by
        rw [List.getElem?_map] at hj
        cases hzj : zs[j]? with
        | none => rw [hzj] at hj; cases hj
        | some z =>
          rw [hzj] at hj
          have hj2 : Value.int .i64 z = u := by simpa using hj
          subst hj2
          obtain ⟨a', ha, _, hc⟩ := hr j z hzj
          injection ha with ha
          subst ha
          exact hc) (by intro u hu; obtain ⟨z, _, rfl⟩ := List.mem_map.1 hu; rfl) (by unfold maxLen; rw [hn]; omega) (by rw [hn]; omega) hbase
  have hown2 : OwnI w' base v' zs := by
    unfold OwnI
    rw [show zs.length = 0 + n from by rw [hn]; omega]
    exact h3
  unfold Oper.wp execOp
  simp only [ho, resolve, invoke, builtin, Sem.run_bind, Sem.run_pure, Result.andThen_ok, List.map_toArray, List.map_cons, List.map_nil, hs, hx, hrun]
  exact hK _ _ (h v' w' hown2 ((Below.refl _ _).grown h4 hbase (fun k hk => (World.ownsRow.lt hown k hk).1)))

set_option maxHeartbeats 400000 in
theorem clone_I (A : Option Addr) (zs : List Int) (n c : Nat) (w : World) (hn : n = zs.length) (hc : A = none → c = 0) (hl : zs.length ≤ 1100000) (hx : IntsAt w w.heap.size A zs) :
    Calls Try.prog 88 #[.slice A n c] w fun e w' => ∃ v, e = .returned v ∧ OwnI w' w.heap.size v zs ∧ Below w.heap.size w w' := by
  have HX := Lib.hid hx
  have HN := Lib.hid hn
  clear hx hn
  cases A with
  | none =>
    have hxs : zs = [] := by
      cases zs with
      | nil => rfl
      | cons y ys =>
        obtain ⟨a, ha, _⟩ := HX.out 0 _ rfl
        cases ha
    subst hxs
    obtain rfl : n = 0 := HN.out
    obtain rfl : c = 0 := hc rfl
    have q := fun w : World => Lib.run_eql_slice_nil (P := Try.prog) w 28 3 none 0 0 0 0 Try.underlying28
    go_enter Try.func88, Try.ntmps88
    go_wp2
    go_ret
    exact ⟨_, rfl, World.ownsRow_nil _ _ _ _, Below.refl _ _⟩
  | some a =>
    clear hc
    have q := fun w : World => Lib.run_eql_slice_nil (P := Try.prog) w 28 3 (some a) n c 0 0 Try.underlying28
    have hown : OwnI (w.alloc (.cells #[] 3)) w.heap.size (.slice (some ⟨w.heap.size, 0, none⟩) 0 0) [] := World.ownsRow_made w #[] 0 (Nat.le_refl _) (by unfold maxLen; omega) rfl
    have HO := Lib.hid hown
    have HX2 : Hid (IntsAt (w.alloc (.cells #[] 3)) (w.alloc (.cells #[] 3)).heap.size (some a) zs) := Lib.hid (fun i z hi => by
      obtain ⟨a', h1, h2, h3⟩ := (HX.out.below (one_new w (.cells #[] 3))) i z hi
      exact ⟨a', h1, by simp; omega, h3⟩)
    clear hown
    go_enter Try.func88, Try.ntmps88
    go_wp2_with (at_builtin; go_must (refine wp_append_I _ rfl (.tmp 5) (.tmp 6) rfl w.heap.size _ rfl HO.out a n c zs rfl HN.out HX2.out hl (by simp) ?_; intro v' w1 hown1 hb1))
    go_ret
    exact ⟨v', rfl, hown1, (one_new _ _).trans hb1⟩
theorem OwnI.slice {w : World} {base : Nat} {v : Value} {zs : List Int} (h : OwnI w base v zs) (Q : Nat → Prop) (hQ : ∀ k, base ≤ k → k < w.heap.size → Q k) : ∃ A c, v = .slice A zs.length c ∧ IntsQ w Q A zs := by
  rcases h.2 with ⟨rfl, hn⟩ | ⟨g, cap, cur, rfl, hb, hg, hcap, _⟩
  · refine ⟨none, 0, by rw [hn], fun j u hj => ?_⟩
    have h1 := (List.getElem?_eq_some_iff.1 hj).1
    omega
  · refine ⟨_, _, rfl, fun j u hj => ⟨_, rfl, ?_, ?_⟩⟩
    · rw [show ((⟨g, 0, none⟩ : Addr).add j).block = g from by unfold Addr.add; split <;> rfl]
      exact hQ _ hb (Array.getElem?_eq_some_iff.1 hg).1
    · exact World.ownsRow.cells h (g := g) rfl _ _ (by rw [List.getElem?_map, hj]; rfl)

set_option maxRecDepth 100000 in
set_option maxHeartbeats 1000000 in
theorem i_new (A : Option Addr) (cols : List Int) (n c : Nat) (w : World) (hn : n = cols.length) (hc : A = none → c = 0) (hl : cols.length ≤ 1100000) (hx : IntsAt w w.heap.size A cols) (hg : cols.any badC = false) :
    Calls Try.prog 18 #[.slice A n c] w fun e w' => Below w.heap.size w w' ∧ ∃ x b, e = .returned (.tuple #[.pointer (some ⟨x, 0, none⟩), .int .i64 0]) ∧ w.heap.size ≤ x ∧ w.heap.size ≤ b ∧ ∃ D A' c', IdxB w' x b D A' c' cols [] := by
  have HC := Lib.hid (contains_i A cols n c w hn (by omega) hx)
  have HL := Lib.hid (clone_I A cols n c w hn hc hl hx)
  rw [hg] at HC
  have hmm := @run_makeMap Try.prog
  clear hn hc hx hg
  go_enter Try.func18, Try.ntmps18
  go_wp2_with fail
  refine HC.out.mono ?_
  rintro e w1 ⟨rfl, rfl⟩
  go_wp2_with fail
  refine HL.out.mono ?_
  rintro e w2 ⟨v, rfl, hown, hb2⟩
  have HB2 := Lib.hid hb2
  have hs2 := hb2.size
  obtain ⟨A', c', hv, hq⟩ := hown.slice (fun k => k < w2.heap.size) (fun k _ hk => hk)
  subst hv
  have HQ := Lib.hid hq
  clear hown hb2 hq
  go_wp2
  go_ret2
  refine ⟨HB2.out.trans ((two_new w2 _ _).mono hs2), w2.heap.size + 1, w2.heap.size, rfl, by omega, by omega, .map [], A', c', ?_, ?_, ?_, RelD.empty, by simp [mus], by intro k hk; simp [mus] at hk; simp; omega, fun h hh => by cases hh⟩
  · have h := (Go.MapKept.heap_alloc (w2.alloc (.map #[] 0)) (.cells #[.slice A' cols.length c', .map (some w2.heap.size)] 129)).1
    rw [World.size_alloc] at h
    exact h
  · refine HQ.out.keep (Q := fun k => k < w2.heap.size) (Below.keepQ (two_new w2 _ _) _) ?_
    intro k hk _ hm
    simp [mus] at hm
    omega
  · exact (World.ownsMap_made w2 Try.prog 9 Rp).alloc _
end Go.Proofs.Ytmdkjhnafnblkaa
