/-
  PackBack of verdererlaw04 answers true at every row and all bytes, and each reads afterwards as it read before: a row's bytes are read as the row; bytes that are read as a row are its bytes.
  No condition.
-/
import Derived.Test.YtdlimephkjihbaaPopen
import Derived.Test.YtdlimephkjihbaaPknown
import Derived.Deep.RegionWith
namespace Go.Proofs.Ytdlimephkjihbaa
open Go.ChangeShapes Go.WideShapes Go.ChangeAt Go.RowKit Go.Deep

theorem conv_own {w : World} {base n : Nat} {A : Option Addr} {c : Nat} {bs : List UInt8} (h : OwnB w base (.slice A n c) bs) : (convert 53 9 (.slice A n c)).run Try.prog w = .ok (.string ⟨bs.toArray⟩) w := by
  obtain ⟨A', n', c', hv, hc⟩ := conv_B h
  rw [hv]
  exact hc
theorem conv_at {w : World} {B n : Nat} {A : Option Addr} {c : Nat} {bs : List UInt8} (hn : n = bs.length) (h : BytesAt w B A bs) : (convert 53 9 (.slice A n c)).run Try.prog w = .ok (.string ⟨bs.toArray⟩) w := by
  subst hn
  cases A with
  | none =>
    have hb : bs = [] := by
      cases bs with
      | nil => rfl
      | cons b bs =>
        obtain ⟨a, ha, _⟩ := h 0 b rfl
        cases ha
    subst hb
    exact Lib.run_convert_nil_bytes w _ _ 5 c Try.underlying53 Try.underlying5 Try.underlying9
  | some a =>
    refine run_convert_bytes_back w _ _ 5 a c bs Try.underlying53 Try.underlying5 Try.underlying9 ?_
    intro j hj
    obtain ⟨a', ha, _, hc⟩ := h j _ (List.getElem?_eq_getElem hj)
    have ha2 : a = a' := Option.some.inj ha
    subst ha2
    exact hc

theorem flat_ge : ∀ (xs : List V), xs.all rightV = true → xs.length ≤ (xs.flatMap valB).length
  | [], _ => by simp
  | v :: xs, h => by
    rw [List.all_cons, Bool.and_eq_true] at h
    have ih := flat_ge xs h.2
    obtain ⟨c, r, hc, _⟩ := valB_head v h.1
    rw [List.flatMap_cons, List.length_append, hc]
    simp only [List.length_cons]
    omega
theorem rowB_len (xs : List V) (h : xs.length ≤ 100) : (rowB xs).length ≤ 100000 := by
  unfold rowB
  split
  · have := flat_valB_len xs
    rw [List.length_append, List.length_cons, List.length_nil]
    omega
  · simp
theorem rowB_pos (xs : List V) : (rowB xs).length = 0 ∨ (xs.all rightV = true ∧ rowB xs = xs.flatMap valB ++ [0] ∧ 0 < (rowB xs).length) := by
  unfold rowB
  by_cases h : xs.all rightV = true
  · right
    rw [if_pos h]
    refine ⟨h, rfl, ?_⟩
    rw [List.length_append]
    simp only [List.length_cons]
    omega
  · left
    rw [if_neg h]
    rfl
theorem back_wide : ∀ (fuel : Nat) (out z : List V) (l : List UInt8), backR fuel out l = (z, 0) → WideR out → WideR z
  | 0, out, z, l, h, _ => by simp [backR] at h
  | fuel + 1, out, z, [], h, _ => by simp [backR] at h
  | fuel + 1, out, z, c :: r, h, ho => by
    rw [backR_cons] at h
    by_cases h0 : c = 0
    · rw [if_pos h0] at h
      by_cases hr : r = []
      · rw [if_pos hr] at h
        simp only [Prod.mk.injEq, and_true] at h
        rw [← h]
        exact ho
      · rw [if_neg hr] at h
        simp at h
    · rw [if_neg h0] at h
      by_cases h1 : (firstR (c :: r)).2.2 = 0
      · rw [if_pos h1] at h
        obtain ⟨_, hw, _⟩ := first_said (c :: r) (firstR (c :: r)).1 (firstR (c :: r)).2.1 (by rw [← h1])
        refine back_wide fuel _ z _ h ?_
        intro v hv
        rcases List.mem_append.1 hv with hv | hv
        · exact ho v hv
        · have e : v = (firstR (c :: r)).1 := by simpa using hv
          rw [e]
          exact hw
      · rw [if_neg h1] at h
        simp only [Prod.mk.injEq] at h
        exact absurd h.2 h1
theorem back_len : ∀ (fuel : Nat) (out : List V) (l : List UInt8), (backR fuel out l).1.length ≤ out.length + l.length
  | 0, out, l => by simp [backR]
  | fuel + 1, out, [] => by simp [backR]
  | fuel + 1, out, c :: r => by
    rw [backR_cons]
    by_cases h0 : c = 0
    · rw [if_pos h0]
      split
      · simp only [List.length_cons]
        omega
      · simp
    · rw [if_neg h0]
      by_cases h1 : (firstR (c :: r)).2.2 = 0
      · rw [if_pos h1]
        obtain ⟨_, _, h2, h3, rest, h4⟩ := first_said (c :: r) (firstR (c :: r)).1 (firstR (c :: r)).2.1 (by rw [← h1])
        have ih := back_len fuel (out ++ [(firstR (c :: r)).1]) ((c :: r).drop (firstR (c :: r)).2.1)
        have h5 := congrArg List.length h4
        rw [List.length_append] at h5
        rw [List.length_append, List.length_drop] at ih
        simp only [List.length_cons, List.length_nil] at ih h5 ⊢
        omega
      · rw [if_neg h1]
        simp
theorem wide_back (f : Nat) (bs : List UInt8) (z : List V) (h : backR f [] bs = (z, 0)) : z.all rightV = true ∧ rowB z = bs ∧ WideR z := by
  obtain ⟨ys, e1, e2, e3⟩ := back_said f [] z bs h
  rw [List.nil_append] at e1
  subst e1
  refine ⟨e2, ?_, back_wide f [] z bs h (fun v hv => by simp at hv)⟩
  unfold rowB
  rw [if_pos e2, e3]
theorem rowB_back (xs : List V) (hw : WideR xs) (hp : 0 < (rowB xs).length) : backR ((rowB xs).length + 1) [] (rowB xs) = (xs, 0) := by
  rcases rowB_pos xs with h | ⟨ha, he, _⟩
  · omega
  · rw [he]
    have h1 : xs.length ≤ (xs.flatMap valB).length := flat_ge xs ha
    have := back_row xs [] ((xs.flatMap valB ++ [0]).length + 1) (by rw [List.length_append]; simp only [List.length_cons]; omega) ha hw
    rwa [List.nil_append] at this

set_option maxRecDepth 100000 in
set_option maxHeartbeats 4000000 in
/-- What is behind the row's own part: the bytes. -/
theorem packBack_near (A B : Option Addr) (xs : List V) (bs : List UInt8) (n c m c' : Nat) (w : World) (hn : n = xs.length) (hm : m = bs.length) (hcap : m ≤ c') (hs1 : shortR xs = true) (hm3 : m ≤ 3000) (hwx : WideR xs) (hx : RowAt w w.heap.size A xs) (hy : BytesAt w w.heap.size B bs) :
    Calls Try.prog 10 #[.slice A n c, .slice B m c'] w fun e w' => e = .returned (.bool true) ∧ Below w.heap.size w w' := by
  have F1 := Lib.hid (few_all A xs n c w hn hx)
  have hl1 : n ≤ 100 := by
    unfold shortR at hs1
    simp only [Bool.and_eq_true, decide_eq_true_eq] at hs1
    omega
  have hlen := rowB_len xs (by omega)
  have R1 := Lib.hid (fun W (h : Below w.heap.size w W) => pk_row A xs n c W hn (by omega) hwx (hx.later h))
  have RE := Lib.hid (fun (C : Option Addr) (cc : Nat) W (h : Below w.heap.size w W) (hr : RowAt W W.heap.size C xs) => ref_equal C A xs xs n n cc c W hn hn (by unfold maxLen; omega) hr (hx.later h))
  have HBack := Lib.hid (rowB_back xs hwx)
  have HW := Lib.hid (wide_back (m + 1) bs)
  have B2 := Lib.hid (fun W (h : Below w.heap.size w W) => pk_back B bs m c' W hm (by omega) hcap (hy.later h))
  have CV := Lib.hid (fun W (h : Below w.heap.size w W) => conv_at (c := c') hm (hy.below h))
  have S1 := Lib.hid hs1
  have HN := Lib.hid hn
  have hm30 : ¬ 3000 < (m : Int) := by omega
  obtain ⟨bx, hbx⟩ : ∃ b, rowB xs = b := ⟨_, rfl⟩
  have BX := Lib.hid hbx
  have hbl : bx.length ≤ 100000 := by rw [← hbx]; exact hlen
  have hml : bs.length ≤ 3000 := by omega
  obtain ⟨⟨zs, ze⟩, hQ⟩ : ∃ Q, backR (m + 1) [] bs = Q := ⟨_, rfl⟩
  have HQ := Lib.hid hQ
  have hzl : zs.length ≤ 3000 := by
    have := back_len (m + 1) [] bs
    rw [hQ] at this
    simp only [List.length_nil] at this
    omega
  have HZL := Lib.hid hzl
  clear hn hm hcap hs1 hm3 hwx hx hy hl1 hlen hbx hQ hml hzl
  have hpos : (bx.length = 0) ∨ 0 < bx.length := by omega
  rcases hpos with hpos | hpos
  · have b0 : ¬ 0 < (bx.length : Int) := by omega
    clear hpos
    rcases (show ze = 0 ∨ ¬ ze = 0 from by omega) with hze | hze
    · subst hze
      have hz := HW.out zs HQ.out
      have HRB := Lib.hid hz.2.1
      have HWZ := Lib.hid hz.2.2
      clear hz
      go_enter Try.func10, Try.ntmps10
      go_wp2_with fail
      refine F1.out.mono ?_
      rintro e w0 ⟨rfl, rfl⟩
      rw [S1.out]
      go_wp2_with fail
      refine (R1.out _ (by exact Below.refl _ _)).mono ?_
      rintro e w1 ⟨vx, rfl, hox, hb1⟩
      rw [BX.out] at hox
      obtain ⟨A1, c1, rfl, _, hc1, hbt⟩ := hox.form
      have HBT := Lib.hid hbt
      have HB1 := Lib.hid hb1
      clear hox hb1 hbt
      go_wp2_with fail
      refine (B2.out _ (by exact HB1.out)).mono ?_
      rintro e w4 ⟨v4, he, ho4, hb4⟩
      rw [HQ.out] at he ho4
      subst he
      obtain ⟨A4, c4, rfl, _, hr4⟩ := ho4.row
      have HR4 := Lib.hid hr4
      have HB4 := Lib.hid (HB1.out.trans (hb4.mono HB1.out.size))
      clear ho4 hr4 hb4
      have hcv1 := CV.out w4 HB4.out
      have hcv2 := CV.out w4.drew HB4.out.drew
      have HRZ := Lib.hid (fun W (h : Below w4.heap.size w4 W) => pk_row A4 zs zs.length c4 W rfl (Nat.le_trans HZL.out (by omega)) HWZ.out (HR4.out.later h))
      go_wp2
      go_region_with (first
        | (go_at_call 35; refine (HRZ.out _ (by first | exact Below.refl _ _ | exact (Below.refl _ _).drew)).mono ?_; rintro e w5 ⟨v5, rfl, ho5, hb5⟩; rw [HRB.out] at ho5; obtain ⟨A5, c5, rfl, _⟩ := ho5.form; have hcz := conv_own ho5; clear ho5; have HB5 := Lib.hid (HB4.out.drew.trans (hb5.mono HB4.out.size)); clear hb5; have hcv3 := CV.out w5 HB5.out)
        | (go_at_call 32; refine (known4 _).mono ?_; rintro e w6 ⟨rfl, hb6⟩; have HB6 := Lib.hid (HB5.out.trans (hb6.mono HB5.out.size)); clear hb6))
      all_goals
        go_wp2
        go_ret
        exact ⟨rfl, HB6.out⟩
    · have e1 : (ze == 0) = false := by
        rw [beq_eq_false_iff_ne]
        exact hze
      have e2 : (ze != 0) = true := by
        rw [bne, e1]
        rfl
      clear hze
      go_enter Try.func10, Try.ntmps10
      go_wp2_with fail
      refine F1.out.mono ?_
      rintro e w0 ⟨rfl, rfl⟩
      rw [S1.out]
      go_wp2_with fail
      refine (R1.out _ (by exact Below.refl _ _)).mono ?_
      rintro e w1 ⟨vx, rfl, hox, hb1⟩
      rw [BX.out] at hox
      obtain ⟨A1, c1, rfl, _, hc1, hbt⟩ := hox.form
      have HBT := Lib.hid hbt
      have HB1 := Lib.hid hb1
      clear hox hb1 hbt
      go_wp2_with fail
      refine (B2.out _ (by exact HB1.out)).mono ?_
      rintro e w4 ⟨v4, he, ho4, hb4⟩
      rw [HQ.out] at he ho4
      subst he
      obtain ⟨A4, c4, rfl, _, hr4⟩ := ho4.row
      have HR4 := Lib.hid hr4
      have HB4 := Lib.hid (HB1.out.trans (hb4.mono HB1.out.size))
      clear ho4 hr4 hb4
      go_wp2
      first
        | (go_region_with (first | (go_at_call 32; refine (known4 _).mono ?_; rintro e w6 ⟨rfl, hb6⟩; have HB6 := Lib.hid (HB4.out.drew.trans (hb6.mono HB4.out.size)); clear hb6)))
        | skip
      all_goals
        go_wp2
        go_ret
        exact ⟨rfl, HB6.out⟩
  · have b0 : 0 < (bx.length : Int) := by omega
    have hbk : backR (bx.length + 1) [] bx = (xs, 0) := by
      have h := HBack.out
      rw [BX.out] at h
      exact h hpos
    have HBK := Lib.hid hbk
    clear hpos hbk
    rcases (show ze = 0 ∨ ¬ ze = 0 from by omega) with hze | hze
    · subst hze
      have hz := HW.out zs HQ.out
      have HRB := Lib.hid hz.2.1
      have HWZ := Lib.hid hz.2.2
      clear hz
      go_enter Try.func10, Try.ntmps10
      go_wp2_with fail
      refine F1.out.mono ?_
      rintro e w0 ⟨rfl, rfl⟩
      rw [S1.out]
      go_wp2_with fail
      refine (R1.out _ (by exact Below.refl _ _)).mono ?_
      rintro e w1 ⟨vx, rfl, hox, hb1⟩
      rw [BX.out] at hox
      obtain ⟨A1, c1, rfl, _, hc1, hbt⟩ := hox.form
      have HBT := Lib.hid hbt
      have HB1 := Lib.hid hb1
      clear hox hb1 hbt
      go_wp2_with fail
      refine (pk_back A1 bx bx.length c1 _ rfl hbl hc1 (by exact HBT.out)).mono ?_
      rintro e w2 ⟨v2, he, ho2, hb2⟩
      rw [HBK.out] at he ho2
      subst he
      obtain ⟨A2, c2, rfl, _, hr2⟩ := ho2.rowN' n HN.out
      have HR2 := Lib.hid hr2
      have HB2 := Lib.hid (HB1.out.trans (hb2.mono HB1.out.size))
      clear ho2 hr2 hb2
      go_wp2_with fail
      refine (RE.out A2 c2 _ (by exact HB2.out) (by exact HR2.out)).mono ?_
      rintro e w3 ⟨rfl, nd, rfl⟩
      rw [eqR_self]
      have HB3 := Lib.hid (below_drewN' HB2.out nd)
      go_wp2_with fail
      refine (B2.out _ (by exact HB3.out)).mono ?_
      rintro e w4 ⟨v4, he, ho4, hb4⟩
      rw [HQ.out] at he ho4
      subst he
      obtain ⟨A4, c4, rfl, _, hr4⟩ := ho4.row
      have HR4 := Lib.hid hr4
      have HB4 := Lib.hid (HB3.out.trans (hb4.mono HB3.out.size))
      clear ho4 hr4 hb4
      have hcv1 := CV.out w4 HB4.out
      have hcv2 := CV.out w4.drew HB4.out.drew
      have HRZ := Lib.hid (fun W (h : Below w4.heap.size w4 W) => pk_row A4 zs zs.length c4 W rfl (Nat.le_trans HZL.out (by omega)) HWZ.out (HR4.out.later h))
      go_wp2
      go_region_with (first
        | (go_at_call 35; refine (HRZ.out _ (by first | exact Below.refl _ _ | exact (Below.refl _ _).drew)).mono ?_; rintro e w5 ⟨v5, rfl, ho5, hb5⟩; rw [HRB.out] at ho5; obtain ⟨A5, c5, rfl, _⟩ := ho5.form; have hcz := conv_own ho5; clear ho5; have HB5 := Lib.hid (HB4.out.drew.trans (hb5.mono HB4.out.size)); clear hb5; have hcv3 := CV.out w5 HB5.out)
        | (go_at_call 32; refine (known4 _).mono ?_; rintro e w6 ⟨rfl, hb6⟩; have HB6 := Lib.hid (HB5.out.trans (hb6.mono HB5.out.size)); clear hb6))
      all_goals
        go_wp2
        go_ret
        exact ⟨rfl, HB6.out⟩
    · have e1 : (ze == 0) = false := by
        rw [beq_eq_false_iff_ne]
        exact hze
      have e2 : (ze != 0) = true := by
        rw [bne, e1]
        rfl
      clear hze
      go_enter Try.func10, Try.ntmps10
      go_wp2_with fail
      refine F1.out.mono ?_
      rintro e w0 ⟨rfl, rfl⟩
      rw [S1.out]
      go_wp2_with fail
      refine (R1.out _ (by exact Below.refl _ _)).mono ?_
      rintro e w1 ⟨vx, rfl, hox, hb1⟩
      rw [BX.out] at hox
      obtain ⟨A1, c1, rfl, _, hc1, hbt⟩ := hox.form
      have HBT := Lib.hid hbt
      have HB1 := Lib.hid hb1
      clear hox hb1 hbt
      go_wp2_with fail
      refine (pk_back A1 bx bx.length c1 _ rfl hbl hc1 (by exact HBT.out)).mono ?_
      rintro e w2 ⟨v2, he, ho2, hb2⟩
      rw [HBK.out] at he ho2
      subst he
      obtain ⟨A2, c2, rfl, _, hr2⟩ := ho2.rowN' n HN.out
      have HR2 := Lib.hid hr2
      have HB2 := Lib.hid (HB1.out.trans (hb2.mono HB1.out.size))
      clear ho2 hr2 hb2
      go_wp2_with fail
      refine (RE.out A2 c2 _ (by exact HB2.out) (by exact HR2.out)).mono ?_
      rintro e w3 ⟨rfl, nd, rfl⟩
      rw [eqR_self]
      have HB3 := Lib.hid (below_drewN' HB2.out nd)
      go_wp2_with fail
      refine (B2.out _ (by exact HB3.out)).mono ?_
      rintro e w4 ⟨v4, he, ho4, hb4⟩
      rw [HQ.out] at he ho4
      subst he
      obtain ⟨A4, c4, rfl, _, hr4⟩ := ho4.row
      have HR4 := Lib.hid hr4
      have HB4 := Lib.hid (HB3.out.trans (hb4.mono HB3.out.size))
      clear ho4 hr4 hb4
      go_wp2
      first
        | (go_region_with (first | (go_at_call 32; refine (known4 _).mono ?_; rintro e w6 ⟨rfl, hb6⟩; have HB6 := Lib.hid (HB4.out.drew.trans (hb6.mono HB4.out.size)); clear hb6)))
        | skip
      all_goals
        go_wp2
        go_ret
        exact ⟨rfl, HB6.out⟩

set_option maxRecDepth 100000 in
theorem packBack_all (A B : Option Addr) (xs : List V) (bs : List UInt8) (n c m c' : Nat) (w : World) (hn : n = xs.length) (hm : m = bs.length) (hcap : m ≤ c') (hwx : WideR xs) (hx : RowAt w w.heap.size A xs) (hy : BytesAt w w.heap.size B bs) :
    Calls Try.prog 10 #[.slice A n c, .slice B m c'] w fun e w' => e = .returned (.bool true) ∧ Below w.heap.size w w' := by
  have F1 := Lib.hid (few_all A xs n c w hn hx)
  rcases Bool.eq_false_or_eq_true (shortR xs) with hs1 | hs1
  · by_cases hm3 : m ≤ 3000
    · exact packBack_near A B xs bs n c m c' w hn hm hcap hs1 hm3 hwx hx hy
    · have S1 := Lib.hid hs1
      have hm30 : 3000 < (m : Int) := by omega
      clear hn hm hcap hs1 hm3 hwx hx hy
      go_enter Try.func10, Try.ntmps10
      go_wp2_with fail
      refine F1.out.mono ?_
      rintro e w1 ⟨rfl, rfl⟩
      rw [S1.out]
      go_wp2_with (go_at_call 32; refine (known4 _).mono ?_; rintro e w6 ⟨rfl, hb6⟩)
      go_ret
      exact ⟨rfl, hb6⟩
  · have S1 := Lib.hid hs1
    clear hn hm hcap hwx hx hy hs1
    go_enter Try.func10, Try.ntmps10
    go_wp2_with fail
    refine F1.out.mono ?_
    rintro e w1 ⟨rfl, rfl⟩
    rw [S1.out]
    go_wp2_with (go_at_call 32; refine (known4 _).mono ?_; rintro e w6 ⟨rfl, hb6⟩)
    go_ret
    exact ⟨rfl, hb6⟩

set_option maxRecDepth 100000 in
theorem packBack_lifted (os : Os) (started : os.Started) (H : Type) (enc : TypeId × Value → H) :
    ReturnsInHanded {} Try.checked os 10 .any (Rows.packBackSpec.pre6 enc Try.prog Try.f10 Rows.packBackRow.domain false) (Rows.packBackSpec.post enc Try.prog Try.f10 false true false false) := by
  refine returnsInHanded_of_change (C := Try.checked) Try.own started (by kernel_rfl) Try.func10
    (ChangeSpec.witness6 (enc := enc) (C := Try.checked) false ⟨#[], #[.slice none 0 0, .slice none 0 0], []⟩ 8 (by kernel_rfl) (by kernel_rfl) (by kernel_rfl) (by kernel_rfl)) ?_
  intro W base args ds gs before hval0 hW hcnd _
  have hval : ∀ (j : Nat) t v, Try.f10.params[j]? = some t → args[j]? = some v → Value.okWide Try.prog W .any base t v := hval0
  have hW' := hW
  obtain ⟨p, q, hA0, hV, rfl, hfz, hnd⟩ := hW
  have hA : DataW.TrodAll enc Try.prog W 0 (fun _ => true) true Try.f10.params.toList args.toList ds p := hA0
  rw [Try.params10] at hA hval
  obtain ⟨v0, v1, d0, d1, p0, p1, rfl, rfl, rfl, h0, h1⟩ := trodAll_two hA
  obtain ⟨rfl, rfl⟩ := trodVars_none hV
  obtain ⟨A, n, c, xs, rfl, hn, _, _, hx, _, hwx⟩ := open_rowV h0 (hval 0 51 v0 rfl rfl)
  obtain ⟨B, m, c1, bs, rfl, hm, hcap, _, hy⟩ := open_bytes h1 (hval 1 53 v1 rfl rfl)
  refine (packBack_all A B xs bs n c m c1 W hn hm hcap hwx hx hy).mono fun e W' ⟨he, hb⟩ => ?_
  subst he
  exact ⟨_, rfl, law_post Try.laidOut rfl hW' (by rw [Try.params10]; intro t ht; exact readable_P4 t (by simp at ht; rcases ht with rfl | rfl <;> simp)) (by kernel_rfl) Try.underlying4 rfl rfl rfl hb⟩

theorem packBack_holds : Rows.PackBackSaid :=
  OpenClaim.holds_of_wide 10 Try.f10 rfl rfl rfl rfl rfl rfl rfl ⟨rfl, rfl, rfl, rfl, rfl⟩ rfl rfl rfl rfl rfl (by kernel_rfl) Try.func10 (by kernel_rfl)
    (of_decide_eq_true (by kernel_rfl)) (by unfold Func.isWrapper; first | (rw [if_pos (by decide +kernel)]; kernel_rfl) | (rw [if_neg (by decide +kernel)]; exact ⟨rfl, rfl⟩))
    (fun os started H enc _ => packBack_lifted os started H enc)
end Go.Proofs.Ytdlimephkjihbaa
