/-
  RowWhole of verdererlaw02 answers true at every row, and the row reads afterwards as it read before: all cells of a row, picked at all places in their order, are the row, and a row goes with itself at all places.
  No condition.
-/
import Derived.Test.YtlknhlemkbdgcaaOpen2
import Derived.Test.YtlknhlemkbdgcaaOrder
import Derived.Test.YtlknhlemkbdgcaaKnown2
namespace Go.Proofs.Ytlknhlemkbdgcaa
open Go.ChangeShapes Go.WideShapes Go.ChangeAt Go.RowKit Go.Deep

theorem info_int : (Try.prog.info? 3).map (fun i => (i.zero, i.size, i.bytes)) = some (some (.int .i64 0), 1, 8) := by kernel_rfl
theorem info_P : (Try.prog.info? 46).map (fun i => (i.zero, i.size, i.bytes)) = some (some (.agg #[.int .i64 0, .int .i64 0]), 2, 16) := by kernel_rfl

/-- The places 0 .. k-1. -/
def upI (k : Nat) : List Int := (List.range k).map (fun i : Nat => ((i : Nat) : Int))
/-- The pairs (0, 0) .. (k-1, k-1). -/
def upP (k : Nat) : List (Int × Int) := (List.range k).map (fun i : Nat => (((i : Nat) : Int), ((i : Nat) : Int)))
/-- The cells of pairs. -/
def flatP (ps : List (Int × Int)) : List Value := ps.flatMap (fun p => [.int .i64 p.1, .int .i64 p.2])

theorem upI_succ (k : Nat) : upI (k + 1) = upI k ++ [(k : Int)] := by simp [upI, List.range_succ]
theorem upP_succ (k : Nat) : upP (k + 1) = upP k ++ [((k : Int), (k : Int))] := by simp [upP, List.range_succ]
theorem upI_at (n i : Nat) (z : Int) (h : (upI n)[i]? = some z) : z = (i : Int) ∧ i < n := by
  have hi : i < n := by
    have := (List.getElem?_eq_some_iff.1 h).1
    simpa [upI] using this
  unfold upI at h
  rw [List.getElem?_map, List.getElem?_range hi] at h
  exact ⟨by simpa using h.symm, hi⟩
theorem upP_at (n i : Nat) (p : Int × Int) (h : (upP n)[i]? = some p) : p = ((i : Int), (i : Int)) ∧ i < n := by
  have hi : i < n := by
    have := (List.getElem?_eq_some_iff.1 h).1
    simpa [upP] using this
  unfold upP at h
  rw [List.getElem?_map, List.getElem?_range hi] at h
  exact ⟨by simpa using h.symm, hi⟩
theorem flatP_len (k : Nat) : (flatP (upP k)).length = k * 2 := by
  induction k with
  | zero => rfl
  | succ k ih =>
    rw [upP_succ]
    unfold flatP at ih ⊢
    rw [List.flatMap_append, List.length_append, ih]
    simp
    omega
theorem flatP_at : ∀ (ps : List (Int × Int)) (i : Nat) (p : Int × Int), ps[i]? = some p → (flatP ps)[i * 2]? = some (.int .i64 p.1) ∧ (flatP ps)[i * 2 + 1]? = some (.int .i64 p.2)
  | [], _, _, h => by simp at h
  | x :: xs, 0, p, h => by
    have h' : x = p := by simpa using h
    subst h'
    exact ⟨rfl, rfl⟩
  | x :: xs, i + 1, p, h => by
    have ih := flatP_at xs i p (by simpa using h)
    rw [show (i + 1) * 2 = i * 2 + 2 from by omega]
    exact ih

/-- The places of a row of the call's own. -/
def OwnI (w : World) (base : Nat) (v : Value) (k : Nat) : Prop := w.ownsRow base 3 1 v k ((upI k).map (Value.int .i64))
def OwnP (w : World) (base : Nat) (v : Value) (k : Nat) : Prop := w.ownsRow base 46 2 v k (flatP (upP k))

theorem own_apart {w : World} {base e e' size size' n n' : Nat} {v v' : Value} {xs xs' : List Value} (h : w.ownsRow base e size v n xs) (h' : w.ownsRow base e' size' v' n' xs') (hne : e ≠ e') : v.ownBlock = none ∨ v.ownBlock ≠ v'.ownBlock := by
  rcases h.2 with ⟨rfl, _⟩ | ⟨g, cap, cur, rfl, _, hg, _⟩
  · exact .inl rfl
  · refine .inr fun e0 => ?_
    rcases h'.2 with ⟨rfl, _⟩ | ⟨g', cap', cur', rfl, _, hg', _⟩
    · simp [Value.ownBlock] at e0
    · have : g = g' := by simpa [Value.ownBlock] using e0
      subst this
      rw [hg] at hg'
      injection hg' with hg'
      injection hg' with _ ht
      exact hne ht

theorem OwnI.at_ {w : World} {base : Nat} {v : Value} {k : Nat} (h : OwnI w base v k) : ∃ A c, v = .slice A k c ∧ IntsAt w w.heap.size A (upI k) := by
  rcases h.2 with ⟨rfl, rfl⟩ | ⟨g, cap, cur, rfl, _, hg, _⟩
  · exact ⟨none, 0, rfl, fun i z hi => by simp [upI] at hi⟩
  · refine ⟨_, _, rfl, fun i z hi => ?_⟩
    refine ⟨_, rfl, ?_, World.ownsRow.cells h (g := g) rfl _ _ ?_⟩
    · rw [show ((⟨g, 0, none⟩ : Addr).add i).block = g from by unfold Addr.add; split <;> rfl]
      exact (Array.getElem?_eq_some_iff.1 hg).1
    · rw [List.getElem?_map, hi]
      rfl
theorem OwnP.at_ {w : World} {base : Nat} {v : Value} {k : Nat} (h : OwnP w base v k) : ∃ A c, v = .slice A k c ∧ PairsAt w w.heap.size A (upP k) := by
  rcases h.2 with ⟨rfl, rfl⟩ | ⟨g, cap, cur, rfl, _, hg, _⟩
  · exact ⟨none, 0, rfl, fun i z hi => by simp [upP] at hi⟩
  · refine ⟨_, _, rfl, fun i p hi => ?_⟩
    obtain ⟨f0, f1⟩ := flatP_at _ _ _ hi
    refine ⟨_, rfl, ?_, World.ownsRow.cells h (g := g) rfl _ _ f0, ?_⟩
    · rw [show ((⟨g, 0, none⟩ : Addr).add (i * 2)).block = g from by unfold Addr.add; split <;> rfl]
      exact (Array.getElem?_eq_some_iff.1 hg).1
    · rw [add_off _ _ _ (by omega)]
      exact World.ownsRow.cells h (g := g) rfl _ _ f1

theorem wp_append_I {ops : Array Oper} {rest : List Oper} {o : Oper} {a : Act} {Q : Exit → Act → World → Prop} (w : World) (hgd : o.guard = none) (s x : Operand)
    (ho : o.op = .call { callee := .builtin .append, args := #[s, x], argTypes := #[28, 28] })
    (base : Nat) (v u : Value) (k : Nat) (hs : a.eval s = v) (hown : OwnI w base v k) (hu : OwnP w base u k) (G c : Nat) (hx : a.eval x = .slice (some ⟨G, 0, none⟩) 1 c) (hc : w.cell? ⟨G, 0, none⟩ = some (.int .i64 (k : Int)))
    (hk : k ≤ 1000) (hbase : base ≤ w.heap.size)
    (h : ∀ v' w', OwnI w' base v' (k + 1) → OwnP w' base u k → Below base w w' → wpList Try.prog ops Q rest (a.put o.dst v') w') : wpList Try.prog ops Q (o :: rest) a w := by
  obtain ⟨i, hi, hz, hsize, hby⟩ := info_parts info_int
  refine wpList_append_own w hgd s x 28 ho base 3 i (.int .i64 0) 1 8 Try.underlying28 hi hz hsize hby rfl (by decide) v k _ hs hown ⟨G, 0, none⟩ 1 c [.int .i64 (k : Int)] hx rfl ?_ (by intro u hu; simp at hu; subst hu; rfl) (by unfold maxLen; omega) (by omega) hbase ?_
  · intro j u hu
    match j, hu with
    | 0, hu =>
      have hu' : Value.int .i64 (k : Int) = u := by simpa using hu
      subst hu'
      simpa [Addr.add] using hc
    | j + 1, hu => simp at hu
  · intro v' w' h1 h2 _
    refine h v' w' ?_ (World.ownsRow.kept hu h2 (own_apart hu hown (by decide))) ((Below.refl _ _).grown h2 hbase (fun q hq => (World.ownsRow.lt hown q hq).1))
    unfold OwnI
    rw [upI_succ, List.map_append]
    exact h1

theorem wp_append_P {ops : Array Oper} {rest : List Oper} {o : Oper} {a : Act} {Q : Exit → Act → World → Prop} (w : World) (hgd : o.guard = none) (s x : Operand)
    (ho : o.op = .call { callee := .builtin .append, args := #[s, x], argTypes := #[29, 29] })
    (base : Nat) (v u : Value) (k : Nat) (hs : a.eval s = v) (hown : OwnP w base v k) (hu : OwnI w base u (k + 1)) (G c : Nat) (hx : a.eval x = .slice (some ⟨G, 0, none⟩) 1 c) (hc0 : w.cell? ⟨G, 0, none⟩ = some (.int .i64 (k : Int))) (hc1 : w.cell? ⟨G, 1, none⟩ = some (.int .i64 (k : Int)))
    (hk : k ≤ 1000) (hbase : base ≤ w.heap.size)
    (h : ∀ v' w', OwnP w' base v' (k + 1) → OwnI w' base u (k + 1) → Below base w w' → wpList Try.prog ops Q rest (a.put o.dst v') w') : wpList Try.prog ops Q (o :: rest) a w := by
  obtain ⟨i, hi, hz, hsize, hby⟩ := info_parts info_P
  refine wpList_append_own w hgd s x 29 ho base 46 i (.agg #[.int .i64 0, .int .i64 0]) 2 16 Try.underlying29 hi hz hsize hby rfl (by decide) v k _ hs hown ⟨G, 0, none⟩ 1 c [.int .i64 (k : Int), .int .i64 (k : Int)] hx rfl ?_ (by intro u hu; simp at hu; subst hu; rfl) (by unfold maxLen; omega) (by omega) hbase ?_
  · intro j u hu
    match j, hu with
    | 0, hu =>
      have hu' : Value.int .i64 (k : Int) = u := by simpa using hu
      subst hu'
      simpa [Addr.add] using hc0
    | 1, hu =>
      have hu' : Value.int .i64 (k : Int) = u := by simpa using hu
      subst hu'
      simpa [Addr.add] using hc1
    | j + 2, hu => simp at hu
  · intro v' w' h1 h2 _
    refine h v' w' ?_ (World.ownsRow.kept hu h2 (own_apart hu hown (by decide))) ((Below.refl _ _).grown h2 hbase (fun q hq => (World.ownsRow.lt hown q hq).1))
    unfold OwnP
    rw [upP_succ]
    unfold flatP at h1 ⊢
    rw [List.flatMap_append]
    exact h1

theorem pick_all (xs : List V) : pickR xs (upI xs.length) = (xs, 0) := by
  have hall : (upI xs.length).all (inR xs.length) = true := by
    rw [List.all_eq_true]
    intro z hz
    obtain ⟨i, hi⟩ := List.getElem?_of_mem hz
    obtain ⟨rfl, hl⟩ := upI_at _ _ _ hi
    simp [inR, hl]
  unfold pickR
  rw [if_pos hall]
  have h : (upI xs.length).map (getV xs) = xs := by
    apply List.ext_getElem?
    intro i
    by_cases hi : i < xs.length
    · unfold upI
      rw [List.map_map, List.getElem?_map, List.getElem?_range hi, List.getElem?_eq_getElem hi]
      simp [getV, hi]
    · rw [List.getElem?_eq_none (by simp [upI]; omega), List.getElem?_eq_none (by omega)]
  rw [h]
theorem pairs_all (xs : List V) : (upP xs.length).all (pairOk xs xs) = true := by
  rw [List.all_eq_true]
  intro p hp
  obtain ⟨i, hi⟩ := List.getElem?_of_mem hp
  obtain ⟨rfl, hl⟩ := upP_at _ _ _ hi
  simp [pairOk, inR, hl, cmpV_ordered.self]

theorem rowWhole_far (A : Option Addr) (n c : Nat) (w : World) (h : 100 < n) :
    Calls Try.prog 7 #[.slice A n c] w fun e w' => e = .returned (.bool true) ∧ Below w.heap.size w w' := by
  go_enter Try.func7, Try.ntmps7
  go_wp2_with (go_at_call 8; refine (known _).mono ?_; rintro e w' ⟨rfl, hb⟩)
  go_ret
  exact ⟨rfl, hb⟩

set_option maxHeartbeats 2000000 in
theorem rowWhole_near (A : Option Addr) (xs : List V) (n c : Nat) (w : World) (hn : n = xs.length) (n0 : n ≤ 100) (hx : RowAt w w.heap.size A xs) :
    Calls Try.prog 7 #[.slice A n c] w fun e w' => e = .returned (.bool true) ∧ Below w.heap.size w w' := by
  have HX := Lib.hid hx
  have HN := Lib.hid hn
  clear hx hn
  have hnl : n ≤ maxLen := by unfold maxLen; omega
  go_enter Try.func7, Try.ntmps7
  go_wp2
  go_loopw [3, 4, 5] (fun v u i wr => ∃ k : Nat, k ≤ n ∧ i = .int .i64 k ∧ OwnI wr w.heap.size v k ∧ OwnP wr w.heap.size u k ∧ Below w.heap.size w wr) (fun _ _ i _ => n - (intOf i).toNat)
  case atStart => exact ⟨0, Nat.zero_le _, rfl, World.ownsRow_nil _ _ _ _, World.ownsRow_nil _ _ _ _, Below.refl _ _⟩
  case round =>
    obtain ⟨k, hk, rfl, hoI, hoP, hb⟩ := hrel
    have HI := Lib.hid hoI
    have HP := Lib.hid hoP
    have HB := Lib.hid hb
    have hsz : w.heap.size ≤ wr.heap.size := hb.size
    clear hoI hoP hb
    by_cases h1 : k < n
    · go_wp2_with (first
        | (at_builtin; refine wp_append_I _ rfl (.tmp 18) (.tmp 20) rfl w.heap.size _ _ k rfl (World.ownsRow.alloc HI.out _) (World.ownsRow.alloc HP.out _) _ _ rfl (by simp [go_sem]) (by omega) (by simp; omega) ?_; intro v1 w1 hoI1 hoP1 hb1; have hs1 : w.heap.size ≤ w1.heap.size := Nat.le_trans hsz (Nat.le_trans (Nat.le_succ _) (by have := hb1.size; simpa using this)))
        | (at_builtin; refine wp_append_P _ rfl (.tmp 22) (.tmp 26) rfl w.heap.size _ _ k rfl (World.ownsRow.alloc hoP1 _) (World.ownsRow.alloc hoI1 _) _ _ rfl (by simp [go_sem]) (by simp [go_sem]) (by omega) (by simp; omega) ?_; intro v2 w2 hoP2 hoI2 hb2))
      go_roundw
      case rel =>
        exact ⟨k + 1, by omega, by go_num, hoI2, hoP2, (bnew (bnew HB.out (Nat.le_refl _) _ |>.trans hb1) (Nat.le_refl _) _).trans hb2⟩
      case measure => simp [intOf]; omega
    · obtain rfl : k = n := by omega
      obtain ⟨C, c1, rfl, hz⟩ := OwnI.at_ HI.out
      obtain ⟨L, c2, rfl, hp⟩ := OwnP.at_ HP.out
      have HZ := Lib.hid hz
      have HQ := Lib.hid hp
      clear hz hp
      go_wp2_with fail
      refine (row_pick A C xs (upI k) k k c c1 _ HN.out (by simp [upI]) (by omega) (by exact HX.out.later HB.out) HZ.out).mono ?_
      rintro e w3 ⟨v3, he, ho3, hb3⟩
      rw [show upI k = upI xs.length from by rw [HN.out], pick_all] at he ho3
      subst he
      obtain ⟨A3, c3, rfl, _, hr3⟩ := ho3.rowN k HN.out
      have HB3 := Lib.hid (bon HB.out (Nat.le_refl _) hb3)
      have HQ3 := Lib.hid ((HQ.out.below hb3).more hb3.size)
      have HR3 := Lib.hid hr3
      clear hr3 ho3 hb3
      go_wp2_with fail
      refine (ref_equal A3 A xs xs k k c3 c _ HN.out HN.out hnl HR3.out (by exact HX.out.later HB3.out)).mono ?_
      rintro e w4 ⟨rfl, nd, rfl⟩
      rw [eqR_self]
      have HB4 := Lib.hid (below_drewN' HB3.out nd)
      go_wp2_with fail
      refine (row_pairs A A L xs xs (upP k) k k k c c c2 _ HN.out HN.out (by simp [upP]) hnl (by exact HX.out.later HB4.out) (by exact HX.out.later HB4.out) (by exact HQ3.out)).mono ?_
      rintro e w5 ⟨rfl, hb5⟩
      rw [show upP k = upP xs.length from by rw [HN.out], pairs_all]
      have HB5 := Lib.hid (bon HB4.out (Nat.le_refl _) hb5)
      clear hb5
      go_wp2_with fail
      refine (row_same A A xs xs k k c c _ HN.out HN.out hnl (by exact HX.out.later HB5.out) (by exact HX.out.later HB5.out)).mono ?_
      rintro e w6 ⟨rfl, hb6⟩
      rw [cmpR_ordered.self]
      have HB6 := Lib.hid (bon HB5.out (Nat.le_refl _) hb6)
      clear hb6
      go_wp2_with (go_at_call 8; refine (known _).mono ?_; rintro e w9 ⟨rfl, hb9⟩)
      go_ret
      exact ⟨rfl, bon HB6.out (Nat.le_refl _) hb9⟩

set_option maxRecDepth 100000 in
theorem rowWhole_lifted (os : Os) (started : os.Started) (H : Type) (enc : TypeId × Value → H) :
    ReturnsInHanded {} Try.checked os 7 .any (Rows.rowWholeSpec.pre6 enc Try.prog Try.f7 Rows.rowWholeRow.domain false) (Rows.rowWholeSpec.post enc Try.prog Try.f7 false true false false) := by
  refine returnsInHanded_of_change (C := Try.checked) Try.own started (by kernel_rfl) Try.func7
    (ChangeSpec.witness6 (enc := enc) (C := Try.checked) false ⟨#[], #[.slice none 0 0], []⟩ 8 (by kernel_rfl) (by kernel_rfl) (by kernel_rfl) (by kernel_rfl)) ?_
  intro W base args ds gs before hval0 hW hcnd _
  have hval : ∀ (j : Nat) t v, Try.f7.params[j]? = some t → args[j]? = some v → Value.okWide Try.prog W .any base t v := hval0
  have hW' := hW
  obtain ⟨p, q, hA0, hV, rfl, hfz, hnd⟩ := hW
  have hA : DataW.TrodAll enc Try.prog W 0 (fun _ => true) true Try.f7.params.toList args.toList ds p := hA0
  rw [Try.params7] at hA hval
  obtain ⟨v0, d0, rfl, rfl, h0⟩ := trodAll_one hA
  obtain ⟨rfl, rfl⟩ := trodVars_none hV
  obtain ⟨A, n, c, xs, rfl, hn, _, _, hx, _⟩ := open_rowV h0 (hval 0 22 v0 rfl rfl)
  have hall : Calls Try.prog 7 #[.slice A n c] W fun e w' => e = .returned (.bool true) ∧ Below W.heap.size W w' := by
    by_cases h : 100 < n
    · exact rowWhole_far A n c W h
    · exact rowWhole_near A xs n c W hn (by omega) hx
  refine hall.mono fun e W' ⟨he, hb⟩ => ?_
  subst he
  exact ⟨_, rfl, law_post Try.laidOut rfl hW' (by rw [Try.params7]; intro t ht; exact readable_V t (by simpa using ht)) (by kernel_rfl) Try.underlying4 rfl rfl rfl hb⟩

theorem rowWhole_holds : Rows.RowWholeSaid :=
  OpenClaim.holds_of_wide 7 Try.f7 rfl rfl rfl rfl rfl rfl rfl ⟨rfl, rfl, rfl, rfl, rfl⟩ rfl rfl rfl rfl rfl (by kernel_rfl) Try.func7 (by kernel_rfl)
    (of_decide_eq_true (by kernel_rfl)) (by unfold Func.isWrapper; first | (rw [if_pos (by decide +kernel)]; kernel_rfl) | (rw [if_neg (by decide +kernel)]; exact ⟨rfl, rfl⟩))
    (fun os started H enc _ => rowWhole_lifted os started H enc)
end Go.Proofs.Ytlknhlemkbdgcaa
