/-
  A list of rows made anew, and one row more behind it.
  No condition but that lists and rows are no longer than they can be.
  Object and Tenant of package facts, and the document's own: a row of two texts (and an object's cells) in memory of its own; nothing that was there is changed.
  No condition but that a row is no longer than it can be.
  The document's Object of layer 10: a row of two texts and the object's cells in memory of its own.
  No condition but that a row is no longer than it can be.
  The document's Alike of two lists of the same rows is true; nothing that was there is changed.
  At every list of at most 1000 rows.
-/
import Derived.Test.YtdhpoaecedpbdaaGreatZ3
import Derived.Test.YtdhpoaecedpbdaaGreatZ4
import Derived.Test.YtdhpoaecedpbdaaGreatZ8
namespace Go.Proofs.YtdhpoaecedpbdaaGreat
section
open Go.RowKit

theorem wp_make_L {ops : Array Oper} {rest : List Oper} {o : Oper} {a : Act} {Q : Exit → Act → World → Prop} (w : World) (hg : o.guard = none) (l c : Operand) (hop : o.op = Op.makeSlice 42 l c)
    (base : Nat) (n : Nat) (hl : a.eval l = .int .i64 0) (hc : a.eval c = .int .i64 (n : Int)) (hn : n ≤ 3000000) (hbase : base ≤ w.heap.size)
    (h : ∀ v' w', OwnG w' base v' [] → Below base w w' → wpList Tryz.prog ops Q rest (a.put o.dst v') w') : wpList Tryz.prog ops Q (o :: rest) a w := by
  obtain ⟨i, hi, hz, hsize, hby⟩ := info_parts info_G
  exact wpList_make_own w hg l c 42 hop base 23 i _ 1 Tryz.underlying42 hi hz hsize .i64 .i64 _ n hl hc rfl (by rw [hby]; omega) (by unfold maxLen; omega) hbase
    fun w' h1 h2 => h _ w' h1 ((Below.refl _ _).grown h2 hbase (fun k hk => by cases hk))

theorem IsRw.own {w' : World} {base : Nat} {Q : Nat → Prop} {v : Value} {xs : List V} (h : Own w' base v xs) (hl : xs.length ≤ 1100000) (hQ : ∀ k, base ≤ k → Q k) : IsRw w' Q v xs := by
  rcases h.2 with ⟨rfl, hn⟩ | ⟨g, cap, cur, rfl, hb, hg, hcap, _⟩
  · have hx : xs = [] := List.length_eq_zero_iff.1 hn
    subst hx
    exact ⟨hl, none, 0, rfl, fun i v hi => by simp at hi⟩
  · obtain ⟨A, c, he, _, hr⟩ := h.row
    injection he with h1 h2 h3
    subst h1
    refine ⟨hl, _, cap, rfl, fun i u hi => ?_⟩
    obtain ⟨a, ha, hlt, hat⟩ := hr i u hi
    injection ha with ha
    subst ha
    refine ⟨_, rfl, ?_, hat⟩
    rw [show ((⟨g, 0, none⟩ : Addr).add (i * 4)).block = g from by unfold Addr.add; split <;> rfl]
    exact hQ _ hb
theorem rw_next {h : Nat} {wr w2 w3 w7 : World} {v v' u : Value} {us : List Value} {pre : List (List V)} {x : List V} {o : Obj} (hown : OwnG wr h v us) (hb : Below wr.heap.size wr w2)
    (hen : RwsQ wr (fun k => some k ≠ v.ownBlock) us pre) (hu : IsRw w2 (fun k => wr.heap.size ≤ k) u x) (e3 : w3 = w2.alloc o) (hg : w3.grownBy w7 v.ownBlock) (hor : v'.ownBlock = v.ownBlock ∨ v'.ownBlock = some w3.heap.size) :
    RwsQ w7 (fun k => some k ≠ v'.ownBlock) (us ++ [u]) (pre ++ [x]) := by
  subst e3
  have hlt : ∀ k, v.ownBlock = some k → k < wr.heap.size := fun k hk => (World.ownsRow.lt hown k hk).2
  have hs := hb.size
  have key : ∀ k, k < w2.heap.size → some k ≠ v.ownBlock → some k ≠ v'.ownBlock := by
    intro k hk hkv
    rcases hor with h | h
    · rw [h]
      exact hkv
    · rw [h, World.size_alloc]
      intro e
      injection e with e
      omega
  have h1 : RwsQ w2 (fun k => some k ≠ v.ownBlock ∧ some k ≠ v'.ownBlock) (us ++ [u]) (pre ++ [x]) := by
    refine RwsQ.append (RwsQ.imp (fun k hk h => ⟨h, key k hk h⟩) (RwsQ.keep (Below.keepQ hb _) hen)) ⟨hu.imp (fun k hk h => ?_), trivial⟩
    have hkv : some k ≠ v.ownBlock := fun e => by have := hlt k e.symm; omega
    exact ⟨hkv, key k hk hkv⟩
  refine RwsQ.imp (fun k _ h => h.2) (RwsQ.keep ?_ h1)
  intro k hk hlt3
  rw [hg.block k (by simp; omega) (fun e => hk.1 (by rw [e])), Below.heap_alloc _ _ _ hlt3]
end
end Go.Proofs.YtdhpoaecedpbdaaGreat
namespace Go.Proofs.YtdhpoaecedpbdaaGreat
section
open Go.RowKit

/-- A text as a value. -/
def txV (s : ByteArray) : V := ⟨3, false, 0, s⟩
theorem Own.lower {w : World} {base b2 : Nat} {v : Value} {xs : List V} (h : Own w base v xs) (hb : b2 ≤ base) : Own w b2 v xs := by
  refine ⟨h.1, ?_⟩
  rcases h.2 with hn | ⟨g, cap, cur, hv, hg, hh, r⟩
  · exact Or.inl hn
  · exact Or.inr ⟨g, cap, cur, hv, Nat.le_trans hb hg, hh, r⟩
theorem own_lit (w : World) (cs : Array Value) (xs : List V) (base g n : Nat) (hb : base ≤ w.heap.size) (hg : g = w.heap.size) (hn : n = xs.length) (h : cs.toList = flat xs) (hl : xs.length ≤ 1000000) : Own (w.alloc (.cells cs 83)) base (.slice (some ⟨g, 0, none⟩) n n) xs := by
  subst hg
  subst hn
  have hs : cs.size = xs.length * 4 := by
    rw [← flat_length, ← h]
    simp
  unfold Own
  rw [← h]
  exact World.ownsRow_lit w cs xs.length hb (by unfold maxLen; omega) hs

set_option maxRecDepth 100000 in
set_option maxHeartbeats 2000000 in
theorem r_tenantF (a b : ByteArray) (w : World) : Calls Tryz.prog 16 #[.agg #[.string a, .string b]] w (OwnsNew w [txV a, txV b]) := by
  go_enter Tryz.func16, Tryz.ntmps16
  go_wp2
  go_ret
  exact ⟨_, rfl, own_lit _ _ [txV a, txV b] _ _ 2 (by simp) (by simp) rfl rfl (by simp), (one_new w _).trans ((one_new _ _).mono (by simp))⟩

set_option maxRecDepth 100000 in
set_option maxHeartbeats 2000000 in
theorem f_tenant (a b : ByteArray) (w : World) : Calls Tryz.prog 15 #[.agg #[.string a, .string b]] w (OwnsNew w [txV a, txV b]) := by
  obtain ⟨W1, hW1⟩ : ∃ W1, W1 = w.alloc (.cells #[.string a, .string b] 27) := ⟨_, rfl⟩
  have hb1 : Below w.heap.size w W1 := by rw [hW1]; exact one_new w _
  have hs1 : w.heap.size < W1.heap.size := by rw [hW1, World.size_alloc]; omega
  have c0 : W1.cell? ⟨w.heap.size, 0, none⟩ = some (.string a) := by rw [hW1]; exact alloc_new_cells _ _ _ 0
  have c1 : W1.cell? ⟨w.heap.size, 1, none⟩ = some (.string b) := by rw [hW1]; exact alloc_new_cells _ _ _ 1
  have HC0 := Lib.hid c0
  have HC1 := Lib.hid c1
  have HB1 := Lib.hid hb1
  have HW1 := Lib.hid hW1
  clear hb1 hW1
  go_enter Tryz.func15, Tryz.ntmps15
  go_wp2_with fail
  go_region_held3 (fun w' => w'.cell? ⟨w.heap.size, 0, none⟩ = some (.string a) ∧ w'.cell? ⟨w.heap.size, 1, none⟩ = some (.string b)) (go_keep)
    (first
      | (go_at_call 50; refine (mk_text _ _).mono ?_; rintro e w' ⟨rfl, rfl⟩)
      | (go_at_call 49; refine (row_of _ [txV a, txV b] 2 2 _ rfl (by simp) (by simp) (by exact row_lit' _ _ [txV a, txV b] _ (by simp) rfl (by simp))).mono ?_; rintro e w5 ⟨v5, rfl, ho5, hb5⟩; have hb6 : Below W1.heap.size W1 w5 := (by rw [HW1.out]; exact bon (by repeat (first | exact Below.refl _ _ | apply Below.drew | apply below_drewN' | (refine bnew ?_ (Nat.le_refl _) _))) (Nat.le_refl _) hb5); have hk0 := (hb6.cell (p := ⟨w.heap.size, 0, none⟩) hs1).trans HC0.out; have hk1 := (hb6.cell (p := ⟨w.heap.size, 1, none⟩) hs1).trans HC1.out; have HB6 := Lib.hid hb6; have HO5 : Hid (Own w5 w.heap.size v5 [txV a, txV b]) := Lib.hid (ho5.lower (by simp <;> omega)); clear hb5 hb6 ho5))
  all_goals go_wp2
  all_goals go_ret
  all_goals exact ⟨v5, rfl, HO5.out, HB1.out.trans (HB6.out.mono (by omega))⟩

theorem join_obj (W w5 w : World) (A5 A : Option Addr) (c5 c G m : Nat) (s n : ByteArray) (xs : List V) (hb5 : Below w5.heap.size w5 W) (hr5 : RowAt w5 w5.heap.size A5 [txV s, txV n]) (h50 : A5 = none → c5 = 0) (hb : Below w.heap.size w W) (hr : RowAt w w.heap.size A xs) (h0 : A = none → c = 0) (hm : m = xs.length) (hl : m ≤ 900000) (hG : G = W.heap.size) :
    Calls Tryz.prog 48 #[.slice (some ⟨G, 0, none⟩) 2 2] (W.alloc (.cells #[.slice A5 2 c5, .slice A m c] 23)) (OwnsNew (W.alloc (.cells #[.slice A5 2 c5, .slice A m c] 23)) (txV s :: txV n :: xs)) := by
  subst hm
  have h3 := rows_lit2 W ⟨A5, c5, [txV s, txV n]⟩ ⟨A, c, xs⟩ G hG (hr5.later hb5) (hr.later hb) h50 h0
  have h := row_join _ [⟨A5, c5, [txV s, txV n]⟩, ⟨A, c, xs⟩] 2 2 _ rfl (by unfold maxLen; omega) (by simp [sumL]; omega) h3
  have e : catL [⟨A5, c5, [txV s, txV n]⟩, ⟨A, c, xs⟩] = txV s :: txV n :: xs := by simp [catL]
  rw [e] at h
  exact h

set_option maxRecDepth 100000 in
set_option maxHeartbeats 4000000 in
theorem f_object (k s n : ByteArray) (v : Int) (A : Option Addr) (m c : Nat) (xs : List V) (w : World) (hm : m = xs.length) (hl : m ≤ 900000) (h0 : A = none → c = 0) (hr : RowAt w w.heap.size A xs) :
    Calls Tryz.prog 13 #[.agg #[.string k, .string s, .string n, .int .i64 v, .slice A m c]] w (OwnsNew w (txV s :: txV n :: xs)) := by
  obtain ⟨W1, hW1⟩ : ∃ W1, W1 = w.alloc (.cells #[.string k, .string s, .string n, .int .i64 v, .slice A m c] 25) := ⟨_, rfl⟩
  have hb1 : Below w.heap.size w W1 := by rw [hW1]; exact one_new w _
  have hs1 : w.heap.size < W1.heap.size := by rw [hW1, World.size_alloc]; omega
  have HC1 := Lib.hid (show W1.cell? ⟨w.heap.size, 1, none⟩ = some (.string s) by rw [hW1]; exact alloc_new_cells _ _ _ 1)
  have HC2 := Lib.hid (show W1.cell? ⟨w.heap.size, 2, none⟩ = some (.string n) by rw [hW1]; exact alloc_new_cells _ _ _ 2)
  have HC4 := Lib.hid (show W1.cell? ⟨w.heap.size, 4, none⟩ = some (.slice A m c) by rw [hW1]; exact alloc_new_cells _ _ _ 4)
  have HB1 := Lib.hid hb1
  have HW1 := Lib.hid hW1
  have HR := Lib.hid hr
  have HM := Lib.hid hm
  have H0 := Lib.hid h0
  clear hb1 hW1 hr hm h0
  go_enter Tryz.func13, Tryz.ntmps13
  go_wp2_with fail
  go_region_held3 (fun w' => w'.cell? ⟨w.heap.size, 1, none⟩ = some (.string s) ∧ w'.cell? ⟨w.heap.size, 2, none⟩ = some (.string n) ∧ w'.cell? ⟨w.heap.size, 4, none⟩ = some (.slice A m c)) (go_keep)
    (first
      | (go_at_call 50; refine (mk_text _ _).mono ?_; rintro e w' ⟨rfl, rfl⟩)
      | (go_at_call 49; refine (row_of _ [txV s, txV n] 2 2 _ rfl (by simp) (by simp) (by exact row_lit' _ _ [txV s, txV n] _ (by simp) rfl (by simp))).mono ?_; rintro e w5 ⟨v5, rfl, ho5, hb5⟩; have hb6 : Below W1.heap.size W1 w5 := (by rw [HW1.out]; exact bon (by repeat (first | exact Below.refl _ _ | apply Below.drew | apply below_drewN' | (refine bnew ?_ (Nat.le_refl _) _))) (Nat.le_refl _) hb5); have hk1 := (hb6.cell (p := ⟨w.heap.size, 1, none⟩) hs1).trans HC1.out; have hk2 := (hb6.cell (p := ⟨w.heap.size, 2, none⟩) hs1).trans HC2.out; have hk4 := (hb6.cell (p := ⟨w.heap.size, 4, none⟩) hs1).trans HC4.out; have HB6 := Lib.hid hb6; obtain ⟨A5, c5, rfl, h50, hr5⟩ := ho5.rowN 2 rfl; have H50 := Lib.hid h50; have HR5 := Lib.hid hr5; have HBW := Lib.hid (HB1.out.trans (hb6.mono (Nat.le_of_lt hs1))); clear hb5 hb6 ho5 h50 hr5)
      | (go_at_call 48; refine (join_obj _ w5 w A5 A c5 c _ m s n xs (by repeat (first | exact Below.refl _ _ | apply Below.drew | apply below_drewN')) HR5.out H50.out (by exact bon HBW.out (Nat.le_refl _) (by repeat (first | exact Below.refl _ _ | apply Below.drew | apply below_drewN'))) HR.out H0.out HM.out hl (by simp)).mono ?_; rintro e w7 ⟨v7, rfl, ho7, hb7⟩; have hb8 : Below w5.heap.size w5 w7 := bon (by repeat (first | exact Below.refl _ _ | apply Below.drew | apply below_drewN' | (refine bnew ?_ (Nat.le_refl _) _))) (Nat.le_refl _) hb7; have hs6 := HB6.out.size; have hb9 : Below W1.heap.size W1 w7 := HB6.out.trans (hb8.mono hs6); have hk1 := (hb9.cell (p := ⟨w.heap.size, 1, none⟩) hs1).trans HC1.out; have hk2 := (hb9.cell (p := ⟨w.heap.size, 2, none⟩) hs1).trans HC2.out; have hk4 := (hb9.cell (p := ⟨w.heap.size, 4, none⟩) hs1).trans HC4.out; have HB9 := Lib.hid hb9; have HO7 : Hid (Own w7 w.heap.size v7 (txV s :: txV n :: xs)) := Lib.hid (ho7.lower (by simp <;> omega)); clear hb7 hb8 hb9 ho7))
  all_goals go_wp2
  all_goals go_ret
  all_goals exact ⟨v7, rfl, HO7.out, HB1.out.trans (HB9.out.mono (by omega))⟩
end
end Go.Proofs.YtdhpoaecedpbdaaGreat
namespace Go.Proofs.YtdhpoaecedpbdaaGreat
section
open Go.RowKit

set_option maxRecDepth 100000 in
set_option maxHeartbeats 4000000 in
theorem r_objectF (k s n : ByteArray) (v : Int) (A : Option Addr) (m c : Nat) (xs : List V) (w : World) (hm : m = xs.length) (hl : m ≤ 900000) (hr : RowAt w w.heap.size A xs) :
    Calls Tryz.prog 14 #[.agg #[.string k, .string s, .string n, .int .i64 v, .slice A m c]] w (OwnsNew w (txV s :: txV n :: xs)) := by
  have HR := Lib.hid hr
  have HM := Lib.hid hm
  clear hr hm
  go_enter Tryz.func14, Tryz.ntmps14
  go_wp2_with (at_builtin; go_must (refine wp_append_V _ rfl (.tmp 11) (.tmp 13) rfl w.heap.size _ [txV s, txV n] xs rfl (own_lit _ _ [txV s, txV n] _ _ 2 (by simp <;> omega) (by simp) rfl rfl (by simp)) _ A m c rfl HM.out (HR.out.later (by exact (one_new w _).trans ((one_new _ _).mono (by simp)))) (by have := HM.out; simp; omega) (by simp <;> omega) ?_; intro v7 w7 hown7 hb7 _; have HO7 := Lib.hid hown7; have HB7 : Hid (Below w.heap.size w w7) := Lib.hid (((one_new w _).trans ((one_new _ _).mono (by simp))).trans hb7); clear hown7 hb7))
  go_ret
  exact ⟨v7, rfl, HO7.out, HB7.out⟩
end
end Go.Proofs.YtdhpoaecedpbdaaGreat
namespace Go.Proofs.YtdhpoaecedpbdaaGreat
section
open Go.RowKit

set_option maxRecDepth 100000 in
set_option maxHeartbeats 2000000 in
theorem l_alike02 (Q R : Nat → Prop) (A B : Option Addr) (n c d : Nat) (us vs : List Value) (xs : List (List V)) (w : World) (hn : us.length = n) (hm : n ≤ 1000) (hu : CellsQ w (fun k => k < w.heap.size) A us) (hv : CellsQ w (fun k => k < w.heap.size) B vs) (hux : RwsQ w Q us xs) (hvx : RwsQ w R vs xs) :
    Calls Tryz.prog 9 #[.slice A n c, .slice B n d] w fun e w' => e = .returned (.bool true) ∧ Below w.heap.size w w' := by
  have HU := Lib.hid hu
  have HV := Lib.hid hv
  have HX := Lib.hid hux
  have HY := Lib.hid hvx
  have HN := Lib.hid (show n = xs.length by rw [← hn]; exact hux.len)
  clear hu hv hux hvx hn
  go_enter Tryz.func9, Tryz.ntmps9
  go_wp2
  go_loopw [5] (fun i wr => ∃ (k : Nat), k ≤ n ∧ i = .int .i64 k ∧ Below w.heap.size w wr) (fun i _ => n - (intOf i).toNat)
  case atStart => exact ⟨0, Nat.zero_le _, rfl, Below.refl _ _⟩
  case round =>
    obtain ⟨k, hk, rfl, hb⟩ := hrel
    have HB := Lib.hid hb
    have hsz := hb.size
    by_cases hlt : k < n
    · obtain ⟨x, hx⟩ : ∃ x, xs[k]? = some x := ⟨_, List.getElem?_eq_getElem (by rw [← HN.out]; exact hlt)⟩
      obtain ⟨uv, huv, hur⟩ := HX.out.get k x hx
      obtain ⟨vv, hvv, hvr⟩ := HY.out.get k x hx
      obtain ⟨a, rfl, hab, hac⟩ := HU.out k uv huv
      obtain ⟨b, rfl, hbb, hbc⟩ := HV.out k vv hvv
      obtain ⟨hl, A9, c9, rfl, hq9⟩ := id hur
      obtain ⟨_, B9, d9, rfl, hr9⟩ := id hvr
      have e1 := (hb.cell (p := a.add k) hab).trans hac
      have e2 := (hb.cell (p := b.add k) hbb).trans hbc
      have E1 := Lib.hid e1
      have E2 := Lib.hid e2
      have HA9 := Lib.hid (hq9.at.later hb)
      have HB9 := Lib.hid (hr9.at.later hb)
      have hab2 : (a.add k).block < wr.heap.size := Nat.lt_of_lt_of_le hab hsz
      have hbb2 : (b.add k).block < wr.heap.size := Nat.lt_of_lt_of_le hbb hsz
      obtain ⟨m, hmx⟩ : ∃ m, x.length = m := ⟨_, rfl⟩
      have HEQ := Lib.hid (fun (W : World) (hb : Below wr.heap.size wr W) => ref_equal A9 B9 x x m m c9 d9 W hmx.symm hmx.symm (by unfold maxLen; omega) (HA9.out.later hb) (HB9.out.later hb))
      rw [eqR_self] at HEQ
      rw [hmx] at E1 E2
      obtain ⟨XE, xf, hXN, hX1, hX0, hX2⟩ := ext_classS wr.heap.size wr (Nat.le_refl _)
      have HX1 := Lib.hid hX1
      have HX2 := Lib.hid hX2
      have hin := hX0 wr.drew (Below.drew (Below.refl _ _))
      have b1 := fun e => (((HX1.out e).cell (p := a.add k) hab2).trans E1.out : (xf e).cell? (a.add k) = _)
      have b2 := fun e => (((HX1.out e).cell (p := b.add k) hbb2).trans E2.out : (xf e).cell? (b.add k) = _)
      clear hX1 hX0 hX2 hx huv hur hvv hvr hac hbc hq9 hr9 e1 e2 hb hmx
      go_wp2_with fail
      refine wp_region_quiet (C := fun W => ∃ e, W = xf e) (by kernel_rfl) (by kernel_rfl) hin ?_
      clear hin
      dsimp only
      repeat (go_big_quiet_step ((go_at_call 12; refine (HEQ.out _ (HX1.out _)).mono ?_; rintro e w5 ⟨rfl, nd, rfl⟩; exact ⟨rfl, HX2.out _ _ (below_drewN' (Below.refl _ _) _)⟩)))
      refine wpQuiet_nil ?_
      intro w5 hW5
      obtain ⟨ee, hW5⟩ := hW5
      have hb5 : Below wr.heap.size wr w5 := by rw [hW5]; exact HX1.out ee
      clear hW5 b1 b2
      go_wp2
      go_roundw
      case rel => exact ⟨k + 1, by omega, by go_num, HB.out.trans (hb5.mono hsz)⟩
      case measure => simp [intOf]; omega
    · obtain rfl : k = n := by omega
      clear hb
      go_wp2
      go_ret
      exact ⟨rfl, HB.out⟩
end
end Go.Proofs.YtdhpoaecedpbdaaGreat
