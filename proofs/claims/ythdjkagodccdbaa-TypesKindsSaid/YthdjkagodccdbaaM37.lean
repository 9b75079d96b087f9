/-
  What package types knows of variables: of which kind a term's values are, whether a term may stand at a column, the columns of a relation.
  No condition but that names are no longer than they can be.
  What package types knows of variables: the columns of a relation; a variable that stands at a column once more.
  No condition but that names are no longer than they can be, and kinds have no more than 900000 columns.
-/
import Derived.Test.YthdjkagodccdbaaM36
namespace Go.Proofs.Ythdjkagodccdbaa
section
open Go.RowKit Go.Maps

theorem cellK {base : Nat} {W : World} {g s vb cb : Nat} {ov : Value} {S : List Sc} {ls : List RS} {U : List Sc} {L : List Co} {m : Nat} (h : KnowAt base W g s vb cb ov S ls U L m) :
    W.cell? ⟨g, 0, none⟩ = some (.pointer (some ⟨s, 0, none⟩)) ∧ W.cell? ⟨g, 1, none⟩ = some (.map (some vb)) ∧ W.cell? ⟨g, 2, none⟩ = some (.map (some cb)) ∧ W.cell? ⟨g, 3, none⟩ = some ov := four_cells h.box

set_option maxRecDepth 100000 in
set_option maxHeartbeats 2000000 in
theorem k_kind {base : Nat} {W : World} {g s vb cb : Nat} {ov : Value} {S : List Sc} {ls : List RS} {U : List Sc} {L : List Co} {m : Nat} (h : KnowAt base W g s vb cb ov S ls U L m) (t : TmP) (ht : t.s.size ≤ maxLen) :
    Calls Try.prog 89 #[.pointer (some ⟨g, 0, none⟩), t.val] W fun e W' => e = .returned (.int .i64 (kindT L t)) ∧ Below W.heap.size W W' := by
  obtain ⟨n, a, ⟨vk, vf, vn, vt⟩⟩ := t
  simp only at ht
  have hon := one_new W (.cells #[.string n, .bool a, .int .i64 vk, .bool vf, .int .i64 vn, .string vt] 84)
  have h0 := heap_alloc_new W (.cells #[.string n, .bool a, .int .i64 vk, .bool vf, .int .i64 vn, .string vt] 84)
  have HX := Lib.hid h0
  have n0 := cell_of_row _ W.heap.size 0 _ _ (0, 0) h0
  have n1 := cell_of_row _ W.heap.size 1 _ _ (0, 0) h0
  have n2 := cell_of_row _ W.heap.size 2 _ _ (0, 0) h0
  have n3 := cell_of_row _ W.heap.size 3 _ _ (0, 0) h0
  have n4 := cell_of_row _ W.heap.size 4 _ _ (0, 0) h0
  have n5 := cell_of_row _ W.heap.size 5 _ _ (0, 0) h0
  have HK := Lib.hid (h.below hon)
  have HON := Lib.hid hon
  have HT := Lib.hid ht
  have HV := Lib.hid (t_isVar ⟨n, a, ⟨vk, vf, vn, vt⟩⟩ (W.alloc (.cells #[.string n, .bool a, .int .i64 vk, .bool vf, .int .i64 vn, .string vt] 84)))
  have hd : kindT L ⟨n, a, ⟨vk, vf, vn, vt⟩⟩ = if a = true then 0 else if (n.toList == []) = true then vk else match findC L n with
    | none => 0
    | some d => d.k := rfl
  have hv : isV ⟨n, a, ⟨vk, vf, vn, vt⟩⟩ = (!a && !(n.toList == [])) := rfl
  rw [hv] at HV
  have HD := Lib.hid hd
  generalize kindT L ⟨n, a, ⟨vk, vf, vn, vt⟩⟩ = q at *
  clear h hon h0 ht hd hv
  cases a with
  | true =>
    have hq := HD.out
    rw [if_pos rfl] at hq
    subst hq
    go_enter Try.func89, Try.ntmps89
    go_wp2
    go_ret
    exact ⟨rfl, HON.out⟩
  | false =>
    have hq := HD.out
    rw [if_neg Bool.false_ne_true] at hq
    rcases Bool.eq_false_or_eq_true (n.toList == []) with hs | hs
    · rw [if_pos hs] at hq
      subst hq
      rw [hs] at HV
      have HV2 : Hid (Calls Try.prog 82 #[.agg #[.string n, .bool false, .int .i64 q, .bool vf, .int .i64 vn, .string vt]] (W.alloc (.cells #[.string n, .bool false, .int .i64 q, .bool vf, .int .i64 vn, .string vt] 84)) fun e w' => e = .returned (.bool false) ∧ Below (W.alloc (.cells #[.string n, .bool false, .int .i64 q, .bool vf, .int .i64 vn, .string vt] 84)).heap.size (W.alloc (.cells #[.string n, .bool false, .int .i64 q, .bool vf, .int .i64 vn, .string vt] 84)) w') := HV
      clear hs HV HD
      go_enter Try.func89, Try.ntmps89
      go_wp2_with fail
      refine HV2.out.mono ?_
      rintro e w1 ⟨rfl, hb1⟩
      have c2 := cell_of_row w1 W.heap.size 2 _ _ (0, 0) ((hb1.block W.heap.size (by simp)).trans HX.out)
      have HB := Lib.hid (HON.out.trans (hb1.mono HON.out.size))
      clear hb1 n0 n1 n2 n3 n4 n5
      go_wp2
      go_ret
      exact ⟨rfl, HB.out⟩
    · rw [if_neg (by rw [hs]; simp)] at hq
      rw [hs] at HV
      have HV2 : Hid (Calls Try.prog 82 #[.agg #[.string n, .bool false, .int .i64 vk, .bool vf, .int .i64 vn, .string vt]] (W.alloc (.cells #[.string n, .bool false, .int .i64 vk, .bool vf, .int .i64 vn, .string vt] 84)) fun e w' => e = .returned (.bool true) ∧ Below (W.alloc (.cells #[.string n, .bool false, .int .i64 vk, .bool vf, .int .i64 vn, .string vt] 84)).heap.size (W.alloc (.cells #[.string n, .bool false, .int .i64 vk, .bool vf, .int .i64 vn, .string vt] 84)) w') := HV
      have HQ : Hid (q = (orC (findC L n)).k) := Lib.hid (by rw [hq]; cases findC L n <;> rfl)
      clear hs HV HD hq
      go_enter Try.func89, Try.ntmps89
      go_wp2_with fail
      refine HV2.out.mono ?_
      rintro e w1 ⟨rfl, hb1⟩
      have c0 := cell_of_row w1 W.heap.size 0 _ _ (0, 0) ((hb1.block W.heap.size (by simp)).trans HX.out)
      have HB := Lib.hid (HON.out.trans (hb1.mono HON.out.size))
      have hk1 := HK.out.below hb1
      obtain ⟨k0, k1, k2, k3⟩ := cellK hk1
      have hlk := look_C hk1.cls n HT.out
      have hlk2 : (Instr.lookup 86 (.map (some cb)) (.string n) false).run Try.prog w1.drew = .ok (orC (findC L n)).val w1.drew := look_C (W := w1.drew) hk1.cls n HT.out
      generalize orC (findC L n) = d at *
      obtain ⟨dn, dk, dl⟩ := d
      unfold Co.val at hlk hlk2
      have hfd : ∀ w : World, (Instr.field 49 (.agg #[.string dn, .int .i64 dk, .bool dl]) 1).run Try.prog w = .ok (.int .i64 dk) w := fun _ => rfl
      clear hb1 n0 n1 n2 n3 n4 n5 hk1
      go_wp2
      go_region
      go_wp2
      go_ret
      exact ⟨by rw [HQ.out]; rfl, HB.out.drew⟩

/-- May a term stand at a column? -/
def fitB (L : List Co) (t : TmP) (c : Co) : Bool := decide ((argT L false t c).1 = 0)
theorem fitB_any (L : List Co) (n : ByteArray) (v : V) (c : Co) : fitB L ⟨n, true, v⟩ c = true := rfl
theorem fitB_val (L : List Co) (n : ByteArray) (v : V) (c : Co) (hs : (n.toList == []) = true) : fitB L ⟨n, false, v⟩ c = (decide (v.k = c.k) || (decide (v.k = 0) && c.nl)) := by
  unfold fitB argT
  rw [if_neg Bool.false_ne_true, if_pos hs]
  by_cases h1 : v.k = c.k
  · simp [h1]
  · by_cases h2 : v.k = 0
    · have h3 : ¬ (0 = c.k) := fun e => h1 (h2.trans e)
      cases hc : c.nl <;> simp [h2, h3]
    · simp [h1, h2]
theorem fitB_var (L : List Co) (n : ByteArray) (v : V) (c : Co) (hs : (n.toList == []) = false) : fitB L ⟨n, false, v⟩ c = (!(findC L n).isSome || decide ((orC (findC L n)).k = c.k)) := by
  unfold fitB argT
  rw [if_neg Bool.false_ne_true, if_neg (by rw [hs]; simp)]
  cases findC L n with
  | none => rfl
  | some d =>
    simp only
    split
    · next h => simp [h, orC]
    · next h => simp [h, orC]

set_option maxRecDepth 100000 in
set_option maxHeartbeats 4000000 in
theorem k_fits {base : Nat} {W : World} {g s vb cb : Nat} {ov : Value} {S : List Sc} {ls : List RS} {U : List Sc} {L : List Co} {m : Nat} (h : KnowAt base W g s vb cb ov S ls U L m) (t : TmP) (ht : t.s.size ≤ maxLen) (c : Co) :
    Calls Try.prog 81 #[.pointer (some ⟨g, 0, none⟩), t.val, c.val] W fun e W' => e = .returned (.bool (fitB L t c)) ∧ Below W.heap.size W W' := by
  obtain ⟨n, a, ⟨vk, vf, vn, vt⟩⟩ := t
  obtain ⟨cn, ck, cl⟩ := c
  simp only at ht
  have hon1 := one_new W (.cells #[.string n, .bool a, .int .i64 vk, .bool vf, .int .i64 vn, .string vt] 84)
  have hon := two_new W (.cells #[.string n, .bool a, .int .i64 vk, .bool vf, .int .i64 vn, .string vt] 84) (.cells #[.string cn, .int .i64 ck, .bool cl] 49)
  have h0 := (Below.heap_alloc (W.alloc (.cells #[.string n, .bool a, .int .i64 vk, .bool vf, .int .i64 vn, .string vt] 84)) (.cells #[.string cn, .int .i64 ck, .bool cl] 49) W.heap.size (by simp)).trans (heap_alloc_new W (.cells #[.string n, .bool a, .int .i64 vk, .bool vf, .int .i64 vn, .string vt] 84))
  have h1 := heap_alloc_new (W.alloc (.cells #[.string n, .bool a, .int .i64 vk, .bool vf, .int .i64 vn, .string vt] 84)) (.cells #[.string cn, .int .i64 ck, .bool cl] 49)
  rw [show (W.alloc (.cells #[.string n, .bool a, .int .i64 vk, .bool vf, .int .i64 vn, .string vt] 84)).heap.size = W.heap.size + 1 from World.size_alloc _ _] at h1
  obtain ⟨w0, hw0⟩ : ∃ w0, (W.alloc (.cells #[.string n, .bool a, .int .i64 vk, .bool vf, .int .i64 vn, .string vt] 84)).alloc (.cells #[.string cn, .int .i64 ck, .bool cl] 49) = w0 := ⟨_, rfl⟩
  rw [hw0] at hon h0 h1
  have hsz : W.heap.size + 2 ≤ w0.heap.size := by have := (Array.getElem?_eq_some_iff.1 h1).1; omega
  have HX := Lib.hid h0
  have HY := Lib.hid h1
  have HC : Hid (∀ w, Below w0.heap.size w0 w → w.cell? ⟨W.heap.size, 0, none⟩ = some (.string n) ∧ w.cell? ⟨W.heap.size, 1, none⟩ = some (.bool a) ∧ w.cell? ⟨W.heap.size, 2, none⟩ = some (.int .i64 vk) ∧ w.cell? ⟨W.heap.size, 3, none⟩ = some (.bool vf) ∧ w.cell? ⟨W.heap.size, 4, none⟩ = some (.int .i64 vn) ∧ w.cell? ⟨W.heap.size, 5, none⟩ = some (.string vt) ∧ w.cell? ⟨W.heap.size + 1, 1, none⟩ = some (.int .i64 ck) ∧ w.cell? ⟨W.heap.size + 1, 2, none⟩ = some (.bool cl)) := Lib.hid fun w hb => by
    have e0 := (hb.block W.heap.size (by omega)).trans HX.out
    have e1 := (hb.block (W.heap.size + 1) (by omega)).trans HY.out
    exact ⟨cell_of_row w _ 0 _ _ (0, 0) e0, cell_of_row w _ 1 _ _ (0, 0) e0, cell_of_row w _ 2 _ _ (0, 0) e0, cell_of_row w _ 3 _ _ (0, 0) e0, cell_of_row w _ 4 _ _ (0, 0) e0, cell_of_row w _ 5 _ _ (0, 0) e0, cell_of_row w _ 1 _ _ (0, 0) e1, cell_of_row w _ 2 _ _ (0, 0) e1⟩
  have HK := Lib.hid (h.below hon)
  have HON := Lib.hid hon
  have HT := Lib.hid ht
  have HV := Lib.hid (t_isVar ⟨n, a, ⟨vk, vf, vn, vt⟩⟩ w0)
  have hv : isV ⟨n, a, ⟨vk, vf, vn, vt⟩⟩ = (!a && !(n.toList == [])) := rfl
  rw [hv] at HV
  have HQ0 : Hid (a = true → fitB L ⟨n, a, ⟨vk, vf, vn, vt⟩⟩ ⟨cn, ck, cl⟩ = true) := Lib.hid (by rintro rfl; rfl)
  have HQ1 : Hid (a = false → (n.toList == []) = true → fitB L ⟨n, a, ⟨vk, vf, vn, vt⟩⟩ ⟨cn, ck, cl⟩ = (decide (vk = ck) || (decide (vk = 0) && cl))) := Lib.hid (by rintro rfl hs; exact fitB_val L n _ _ hs)
  have HQ2 : Hid (a = false → (n.toList == []) = false → fitB L ⟨n, a, ⟨vk, vf, vn, vt⟩⟩ ⟨cn, ck, cl⟩ = (!(findC L n).isSome || decide ((orC (findC L n)).k = ck))) := Lib.hid (by rintro rfl hs; exact fitB_var L n _ _ hs)
  generalize fitB L ⟨n, a, ⟨vk, vf, vn, vt⟩⟩ ⟨cn, ck, cl⟩ = q at *
  clear h hon1 hon h0 h1 ht hv HX HY
  have HW := Lib.hid hw0
  clear hw0
  show Calls Try.prog 81 #[.pointer (some ⟨g, 0, none⟩), .agg #[.string n, .bool a, .int .i64 vk, .bool vf, .int .i64 vn, .string vt], .agg #[.string cn, .int .i64 ck, .bool cl]] W fun e W' => e = .returned (.bool q) ∧ Below W.heap.size W W'
  go_enter Try.func81, Try.ntmps81
  obtain ⟨c0, c1, c2, c3, c4, c5, d1, d2⟩ := HC.out w0 (Below.refl _ _)
  cases a with
  | true =>
    obtain rfl : q = true := HQ0.out rfl
    have HW2 := HW.out
    subst HW2
    go_wp2
    go_ret
    exact ⟨rfl, HON.out⟩
  | false =>
    rcases Bool.eq_false_or_eq_true (n.toList == []) with hs | hs
    · have hq := HQ1.out rfl hs
      rw [hs] at HV
      have HV2 : Hid (Calls Try.prog 82 #[.agg #[.string n, .bool false, .int .i64 vk, .bool vf, .int .i64 vn, .string vt]] w0 fun e w' => e = .returned (.bool false) ∧ Below w0.heap.size w0 w') := HV
      have HW2 := HW.out
      have HQ := Lib.hid hq
      subst HW2
      clear hs HV HQ0 HQ1 HQ2 hq HW
      go_wp2_with fail
      refine HV2.out.mono ?_
      rintro e w1 ⟨rfl, hb1⟩
      have HB := Lib.hid (HON.out.trans (hb1.mono HON.out.size))
      clear c0 c1 c2 c3 c4 c5 d1 d2
      obtain ⟨c0, c1, c2, c3, c4, c5, d1, d2⟩ := HC.out w1 hb1
      clear hb1
      by_cases h1 : vk = ck
      · have b1 : (vk == ck) = true := by simpa using h1
        have H1 := Lib.hid h1
        clear h1
        go_wp2
        go_ret
        exact ⟨by rw [HQ.out, decide_eq_true H1.out]; rfl, HB.out⟩
      · have b1 : (vk == ck) = false := by simpa using h1
        have H1 := Lib.hid h1
        clear h1
        by_cases h2 : vk = 0
        · have b2 : (vk == 0) = true := by simpa using h2
          have H2 := Lib.hid h2
          clear h2
          go_wp2
          go_ret
          exact ⟨by rw [HQ.out, decide_eq_false H1.out, decide_eq_true H2.out, Bool.false_or, Bool.true_and]; rfl, HB.out⟩
        · have b2 : (vk == 0) = false := by simpa using h2
          have H2 := Lib.hid h2
          clear h2
          go_wp2
          go_ret
          exact ⟨by rw [HQ.out, decide_eq_false H1.out, decide_eq_false H2.out, Bool.false_or, Bool.false_and]; rfl, HB.out⟩
    · have hq := HQ2.out rfl hs
      rw [hs] at HV
      have HV2 : Hid (Calls Try.prog 82 #[.agg #[.string n, .bool false, .int .i64 vk, .bool vf, .int .i64 vn, .string vt]] w0 fun e w' => e = .returned (.bool true) ∧ Below w0.heap.size w0 w') := HV
      have HW2 := HW.out
      subst HW2
      clear hs HV HQ0 HQ1 HQ2 HW
      go_wp2_with fail
      refine HV2.out.mono ?_
      rintro e w1 ⟨rfl, hb1⟩
      have HB := Lib.hid (HON.out.trans (hb1.mono HON.out.size))
      clear c0 c1 c2 c3 c4 c5 d1 d2
      obtain ⟨c0, c1, c2, c3, c4, c5, d1, d2⟩ := HC.out w1 hb1
      have hk1 := HK.out.below hb1
      have HK1 := Lib.hid hk1
      obtain ⟨k0, k1, k2, k3⟩ := cellK hk1
      have hlk := look_C2 hk1.cls n HT.out
      have hlk2 : (Instr.lookup 86 (.map (some cb)) (.string n) true).run Try.prog w1.drew = _ := look_C2 (W := w1.drew) hk1.cls n HT.out
      have honz := one_new w1 (.cells #[.string ⟨#[]⟩, .int .i64 0, .bool false] 49)
      obtain ⟨x0, -, -, -, -, -, -, -⟩ := HC.out _ (hb1.trans (honz.mono hb1.size))
      have hkz := hk1.below honz
      obtain ⟨-, -, y2, -⟩ := cellK hkz
      have hlz : (Instr.lookup 86 (.map (some cb)) (.string n) true).run Try.prog (w1.alloc (.cells #[.string ⟨#[]⟩, .int .i64 0, .bool false] 49)).drew = _ := look_C2 (W := (w1.alloc (.cells #[.string ⟨#[]⟩, .int .i64 0, .bool false] 49)).drew) hkz.cls n HT.out
      generalize (findC L n).isSome = z at *
      generalize orC (findC L n) = d at *
      obtain ⟨dn, dk, dl⟩ := d
      unfold Co.val at hlk hlk2 hlz
      have HQ := Lib.hid hq
      have hb1' := hb1
      clear hb1 hk1 hq hkz honz
      have HC1 := Lib.hid (fun (o : Obj) => HC.out _ (hb1'.trans ((one_new w1 o).mono hb1'.size)))
      have HON1 := Lib.hid (fun (o : Obj) => HB.out.trans ((one_new w1 o).mono HB.out.size))
      clear hb1'
      go_wp2
      go_region
      all_goals
        clear c0 c1 c2 c3 c4 c5 d1 d2 x0 y2 hlk hlk2 hlz k0 k1 k2 k3
        obtain ⟨-, -, -, -, -, -, d1, d2⟩ := HC1.out (.cells #[.string dn, .int .i64 dk, .bool dl] 49)
        have e1 : (w1.alloc (.cells #[.string dn, .int .i64 dk, .bool dl] 49)).drew.cell? ⟨W.heap.size + 1, 1, none⟩ = some (.int .i64 ck) := d1
        have HO := Lib.hid (HON1.out (.cells #[.string dn, .int .i64 dk, .bool dl] 49))
        clear d2
        cases z with
        | false =>
          go_wp2
          go_ret
          exact ⟨by rw [HQ.out]; rfl, HO.out.drew⟩
        | true =>
          by_cases h1 : dk = ck
          · have b1 : (dk == ck) = true := by simpa using h1
            have H1 := Lib.hid h1
            clear h1
            go_wp2
            go_ret
            exact ⟨by rw [HQ.out, decide_eq_true H1.out]; rfl, HO.out.drew⟩
          · have b1 : (dk == ck) = false := by simpa using h1
            have H1 := Lib.hid h1
            clear h1
            go_wp2
            go_ret
            exact ⟨by rw [HQ.out, decide_eq_false H1.out]; rfl, HO.out.drew⟩
end
end Go.Proofs.Ythdjkagodccdbaa
namespace Go.Proofs.Ythdjkagodccdbaa
section
open Go.RowKit Go.Maps

def Far (base n : Nat) (k : Nat) : Prop := k < base ∨ n ≤ k
/-- What a relation's columns are told by. (A definition of its own: the walk would split it.) -/
def RelIs (base : Nat) (W : World) (o : Option (List Co)) (e : Ending) (W' : World) : Prop := ∃ v, e = .returned (.tuple #[v, .bool o.isSome]) ∧ (∀ cs, o = some cs → IsCols W' (Far base W.heap.size) v cs) ∧ (∃ A n c, v = .slice A n c) ∧ Below W.heap.size W W'

set_option maxRecDepth 100000 in
set_option maxHeartbeats 2000000 in
theorem k_relation {base : Nat} {W : World} {g s vb cb : Nat} {ov : Value} {S : List Sc} {ls : List RS} {U : List Sc} {L : List Co} {m : Nat} (h : KnowAt base W g s vb cb ov S ls U L m) (hf : ∀ x ∈ S, x.cols.length ≤ 900000) (n : ByteArray) (hn : n.size ≤ maxLen) :
    Calls Try.prog 80 #[.pointer (some ⟨g, 0, none⟩), .string n] W (RelIs base W (relT S U n)) := by
  obtain ⟨k0, k1, k2, k3⟩ := cellK h
  have HC := Lib.hid (s_columns _ s S n W h.set hf)
  have HK := Lib.hid h
  have HN := Lib.hid hn
  have HD : Hid (relT S U n = match colsOf S n with
    | some cs => some cs
    | none => (U.find? fun x => decide (x.nm = n)).map (·.cols)) := Lib.hid rfl
  generalize relT S U n = o at *
  clear h hf hn
  cases hc : colsOf S n with
  | some cs =>
    rw [hc] at HD HC
    have ho := HD.out
    simp only at ho
    subst ho
    clear hc HD
    go_enter Try.func80, Try.ntmps80
    go_wp2_with fail
    refine HC.out.mono ?_
    rintro e w1 ⟨hb1, v, rfl, hv⟩
    have HV := Lib.hid hv
    have HB := Lib.hid hb1
    obtain ⟨_, A, c, rfl, _⟩ := hv
    clear hb1 k0 k1 k2 k3
    go_wp2
    go_ret2
    exact ⟨_, rfl, fun cs' e => by injection e with e; subst e; exact HV.out.imp (fun k _ hk => .inr hk), ⟨_, _, _, rfl⟩, HB.out⟩
  | none =>
    rw [hc] at HD HC
    have ho := HD.out
    simp only at ho
    have HO := Lib.hid ho
    clear hc HD ho
    go_enter Try.func80, Try.ntmps80
    go_wp2_with fail
    refine HC.out.mono ?_
    rintro e w1 ⟨hb1, rfl⟩
    have HB := Lib.hid hb1
    have hk1 := HK.out.below hb1
    clear hb1 k0 k1 k2 k3
    obtain ⟨k0, k1, k2, k3⟩ := cellK hk1
    obtain ⟨j, hj⟩ := hk1.vws
    have hlk := look_W2 hj n HN.out
    rcases findW_of hk1.vls n with ⟨f1, f2⟩ | ⟨v, x, f1, f2, f3⟩
    · rw [f1] at hlk
      have HLK : (Instr.lookup 85 (.map (some vb)) (.string n) true).run Try.prog w1 = .ok (.tuple #[.slice none 0 0, .bool false]) w1 := hlk
      have ho := HO.out
      rw [f2] at ho
      have HO2 : Hid (o = none) := Lib.hid ho
      clear hk1 hj f1 f2 hlk ho
      go_wp2
      go_ret2
      refine ⟨_, by rw [HO2.out]; rfl, fun cs' e => ?_, ⟨_, _, _, rfl⟩, HB.out⟩
      rw [HO2.out] at e
      cases e
    · rw [f1] at hlk
      have HLK : (Instr.lookup 85 (.map (some vb)) (.string n) true).run Try.prog w1 = .ok (.tuple #[v, .bool true]) w1 := hlk
      have ho := HO.out
      rw [f2] at ho
      have HO2 : Hid (o = some x.cols) := Lib.hid ho
      have HV := Lib.hid f3
      obtain ⟨_, A, c, rfl, _⟩ := f3
      clear hk1 hj f1 f2 hlk ho
      go_wp2
      go_ret2
      refine ⟨_, by rw [HO2.out]; rfl, fun cs' e => ?_, ⟨_, _, _, rfl⟩, HB.out⟩
      rw [HO2.out] at e
      injection e with e
      subst e
      exact HV.out.imp (fun k _ hk => .inl hk)

theorem bind_lk (L : List Co) (n : ByteArray) (c : Co) (b : ByteArray) : findC (bindC L ⟨n, c.k, c.nl⟩) b = if b = n then some (bound1 (findC L n) ⟨n, c.k, c.nl⟩) else findC L b := findC_bind ⟨n, c.k, c.nl⟩ b L
theorem GoodC.bind {L : List Co} {m : Nat} (h : GoodC L m) (n : ByteArray) (c : Co) (hn : n.size ≤ maxLen) : GoodC (bindC L ⟨n, c.k, c.nl⟩) (m + 1) := by
  refine ⟨bindC_nodup h.nd _, ?_, fun d hd => ?_⟩
  · have := bindC_len ⟨n, c.k, c.nl⟩ L
    have := h.len
    split at * <;> omega
  · have hm : d.nm ∈ (bindC L ⟨n, c.k, c.nl⟩).map (·.nm) := List.mem_map.2 ⟨d, hd, rfl⟩
    rw [bindC_names] at hm
    split at hm
    · obtain ⟨d', hd', e⟩ := List.mem_map.1 hm
      rw [← e]
      exact h.sz d' hd'
    · rcases List.mem_append.1 hm with hm | hm
      · obtain ⟨d', hd', e⟩ := List.mem_map.1 hm
        rw [← e]
        exact h.sz d' hd'
      · rw [List.mem_singleton] at hm
        rw [hm]
        exact hn
/-- The map of columns has turned, and nothing else. -/
theorem KnowAt.put {base : Nat} {W W' : World} {g s vb cb : Nat} {ov : Value} {S : List Sc} {ls : List RS} {U : List Sc} {L L' : List Co} {m m' : Nat} (h : KnowAt base W g s vb cb ov S ls U L m) (hg : W.grownBy W' (some cb)) (hc : ColM W' cb L' m') (hG : GoodC L' m') (hn : L'.map (·.nm) = L.map (·.nm)) : KnowAt base W' g s vb cb ov S ls U L' m' := by
  have hk : ∀ k, k < W.heap.size → k ≠ cb → W'.heap[k]? = W.heap[k]? := fun k hk hne => hg.block k hk (fun e => hne (Option.some.inj e))
  have hq : KeepQ (fun k => k < base) W W' := fun k hb hl => hk k hl (by have := h.bc; omega)
  refine ⟨(hk g h.gl h.gc).trans h.box, h.set.keep hq, ?_, h.vls.keep hq, hc, ?_, hG, h.og, h.bg, h.bc, h.bv, h.vc⟩
  · obtain ⟨j, hj⟩ := h.vws
    exact ⟨j, hj.block (hk vb hj.lt h.vc)⟩
  · rw [hn]
    exact h.ord.byBlock fun k hk2 => hk k (h.ord.lt k hk2).2 (fun e => own_notMap h.ord h.cls.map (by rw [hk2, e]))
theorem OnlyK.news {g cb : Nat} {ov ov1 : Value} {W W1 W2 : World} (h : OnlyK g cb ov ov1 W W1) (hb : Below W.heap.size W1 W2) : OnlyK g cb ov ov1 W W2 :=
  ⟨h.b0.trans (hb.mono (Nat.zero_le _)), fun k hk hn => (hb.block k hk).trans (h.keep k hk hn), h.mt⟩
/-- One name more stands in the order, and in the box. -/
theorem KnowAt.more {base : Nat} {W W' : World} {g s vb cb : Nat} {ov v' : Value} {S : List Sc} {ls : List RS} {U : List Sc} {L L' : List Co} {m m' : Nat} (h : KnowAt base W g s vb cb ov S ls U L m) (hg : W.grownBy W' ov.ownBlock) (hv : v'.ownBlock = ov.ownBlock ∨ v'.ownBlock = some W.heap.size) (hown : OwnSt W' base v' (L'.map (·.nm))) (W2 : World) (x : Nat) (hx1 : x ≠ g) (hx2 : x ≠ vb) (hx3 : v'.ownBlock ≠ some x) (hx4 : base ≤ x) (hk3 : ∀ k, k < W'.heap.size → k ≠ cb → k ≠ x → W2.heap[k]? = (W'.setCell ⟨g, 3, none⟩ v').heap[k]?) (hc : ColM W2 cb L' m') (hG : GoodC L' m') : KnowAt base W2 g s vb cb v' S ls U L' m' := by
  have hk1 : ∀ k, k < W.heap.size → ov.ownBlock ≠ some k → W'.heap[k]? = W.heap[k]? := fun k hk hne => hg.block k hk (fun e => hne e.symm)
  have hk2 : ∀ k, k ≠ g → (W'.setCell ⟨g, 3, none⟩ v').heap[k]? = W'.heap[k]? := fun k hne => Below.heap_setCell W' ⟨g, 3, none⟩ v' k hne
  have hle := hg.size
  have hq : KeepQ (fun k => k < base) W W2 := fun k hb hl => by
    have hb' : k < base := hb
    have hbg := h.bg
    have hbc := h.bc
    exact (hk3 k (by omega) (by omega) (by omega)).trans ((hk2 k (by omega)).trans (hk1 k hl (fun e => by have := (h.ord.lt k e).1; omega)))
  have hog : v'.ownBlock ≠ some g := by
    rcases hv with e | e
    · rw [e]; exact h.og
    · rw [e]; intro e2; have := Option.some.inj e2; have := h.gl; omega
  have hbox1 : (W'.setCell ⟨g, 3, none⟩ v').heap[g]? = some (.cells #[.pointer (some ⟨s, 0, none⟩), .map (some vb), .map (some cb), v'] 88 (0, 0)) := heap_setCell_same W' g 3 _ _ _ ((hk1 g h.gl h.og).trans h.box)
  refine ⟨(hk3 g (by have := h.gl; omega) h.gc (fun e => hx1 e.symm)).trans hbox1, h.set.keep hq, ?_, h.vls.keep hq, hc, ?_, hG, hog, h.bg, h.bc, h.bv, h.vc⟩
  · obtain ⟨j, hj⟩ := h.vws
    exact ⟨j, hj.block ((hk3 vb (by have := hj.lt; omega) h.vc (fun e => hx2 e.symm)).trans ((hk2 vb (fun e => h.gv e.symm)).trans (hk1 vb hj.lt (own_notMap h.ord hj.map))))⟩
  · refine hown.byBlock fun k hk => ?_
    have hlt := (hown.lt k hk).2
    have hne1 : k ≠ g := fun e => hog (by rw [hk, e])
    have hne2 : k ≠ cb := by
      rintro rfl
      rcases hv with e | e
      · exact own_notMap h.ord h.cls.map (e ▸ hk)
      · rw [e] at hk
        have := Option.some.inj hk
        have := h.cls.lt
        omega
    exact (hk3 k hlt hne2 (fun e => hx3 (by rw [hk, e]))).trans (hk2 k hne1)
end
end Go.Proofs.Ythdjkagodccdbaa
