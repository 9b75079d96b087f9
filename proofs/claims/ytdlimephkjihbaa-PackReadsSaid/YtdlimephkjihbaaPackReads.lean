/-
  PackReads of verdererlaw04 answers true at all bytes, and the bytes read afterwards as they read before: the value that bytes begin with, and the row that they are, or why there is none, is what the document says.
  No condition.
-/
import Derived.Test.YtdlimephkjihbaaPopen
import Derived.Test.YtdlimephkjihbaaPknown
namespace Go.Proofs.Ytdlimephkjihbaa
open Go.ChangeShapes Go.WideShapes Go.ChangeAt Go.RowKit Go.Deep

theorem back_len : ∀ (fuel : Nat) (out : List V) (l : List UInt8), (backR fuel out l).1.length ≤ out.length + l.length
  | 0, out, l => by simp [backR]
  | fuel + 1, out, [] => by simp [backR]
  | fuel + 1, out, c :: r => by
    rw [backR_cons]
    by_cases h0 : c = 0
    · rw [if_pos h0]
      split
      · simp only [List.length_cons]
        omega
      · simp
    · rw [if_neg h0]
      by_cases h1 : (firstR (c :: r)).2.2 = 0
      · rw [if_pos h1]
        obtain ⟨_, _, h2, h3, rest, h4⟩ := first_said (c :: r) (firstR (c :: r)).1 (firstR (c :: r)).2.1 (by rw [← h1])
        have ih := back_len fuel (out ++ [(firstR (c :: r)).1]) ((c :: r).drop (firstR (c :: r)).2.1)
        have h5 := congrArg List.length h4
        rw [List.length_append] at h5
        rw [List.length_append, List.length_drop] at ih
        simp only [List.length_cons, List.length_nil] at ih h5 ⊢
        omega
      · rw [if_neg h1]
        simp

section
attribute [local go_sem high] equal_val

set_option maxRecDepth 100000 in
set_option maxHeartbeats 2000000 in
theorem packReads_all (A : Option Addr) (bs : List UInt8) (n c : Nat) (w : World) (hn : n = bs.length) (hcap : n ≤ c) (hl : n ≤ maxLen) (hx : BytesAt w w.heap.size A bs) :
    Calls Try.prog 9 #[.slice A n c] w fun e w' => e = .returned (.bool true) ∧ Below w.heap.size w w' := by
  by_cases h3 : 3000 < n
  · have b3 : 3000 < (n : Int) := by omega
    clear h3 hx
    go_enter Try.func9, Try.ntmps9
    go_wp2_with (go_at_call 32; refine (known4 _).mono ?_; rintro e w1 ⟨rfl, hb1⟩)
    go_ret
    exact ⟨rfl, hb1⟩
  · have b3 : ¬ 3000 < (n : Int) := by omega
    obtain ⟨⟨⟨rk, rf, rn, rt⟩, rm, re⟩, hP⟩ : ∃ P, firstR bs = P := ⟨_, rfl⟩
    obtain ⟨⟨zs, be⟩, hQ⟩ : ∃ Q, backR (n + 1) [] bs = Q := ⟨_, rfl⟩
    have H1 := Lib.hid (fun W (h : Below w.heap.size w W) => pk_first A bs n c W hn hl hcap (hx.later h))
    have H2 := Lib.hid (fun W (h : Below w.heap.size w W) => rpk_first A bs n c W hn hl hcap (hx.later h))
    have H3 := Lib.hid (fun W (h : Below w.heap.size w W) => pk_back A bs n c W hn (by omega) hcap (hx.later h))
    have H4 := Lib.hid (fun W (h : Below w.heap.size w W) => rpk_back A bs n c W hn (by omega) hcap (hx.later h))
    have HP := Lib.hid hP
    have HQ := Lib.hid hQ
    have e1 : eqV ⟨rk, rf, rn, rt⟩ ⟨rk, rf, rn, rt⟩ = true := (eqV_iff _ _).2 rfl
    have hzl : zs.length ≤ maxLen := by
      have := back_len (n + 1) [] bs
      rw [hQ] at this
      unfold maxLen
      simp only [List.length_nil] at this
      omega
    have HZ := Lib.hid hzl
    clear hn hl hcap hx hP hQ h3 hzl
    go_enter Try.func9, Try.ntmps9
    go_wp2_with fail
    refine (H1.out _ (by exact Below.refl _ _)).mono ?_
    rintro e w1 ⟨rfl, hb1⟩
    rw [HP.out]
    have HB1 := Lib.hid hb1
    clear hb1
    go_wp2_with fail
    refine (H2.out _ (by exact HB1.out.trans (one_new_far _ _ HB1.out.size))).mono ?_
    rintro e w2 ⟨rfl, hb2⟩
    rw [HP.out]
    have hb2' := box_below hb2
    have HK1 := Lib.hid ((VBlk.new w1 w1.heap.size rk rf rn rt rfl).below hb2 (by simp))
    have HB2 := Lib.hid (HB1.out.trans (hb2'.mono HB1.out.size))
    have hz2 : w1.heap.size + 1 ≤ w2.heap.size := by
      have := hb2.size
      rwa [World.size_alloc] at this
    clear hb2 hb2'
    go_wp2_with fail
    refine (H3.out _ (by exact HB2.out.trans (one_new_far _ _ HB2.out.size))).mono ?_
    rintro e w3 ⟨v3, rfl, ho3, hb3⟩
    rw [HQ.out] at ho3 ⊢
    obtain ⟨A3, c3, rfl, _, hr3⟩ := ho3.row
    have HR3 := Lib.hid hr3
    have HK3 := Lib.hid ((VBlk.new w2 w2.heap.size rk rf rn rt rfl).below hb3 (by simp))
    have HK31 := Lib.hid ((HK1.out.alloc (.cells #[.int .i64 rk, .bool rf, .int .i64 rn, .string rt] 56)).below hb3 (by simp; omega))
    have HB3 := Lib.hid (HB2.out.trans ((box_below hb3).mono HB2.out.size))
    clear ho3 hr3 hb3
    go_wp2_with fail
    refine (H4.out _ (by exact HB3.out)).mono ?_
    rintro e w4 ⟨v4, rfl, ho4, hb4⟩
    rw [HQ.out] at ho4 ⊢
    obtain ⟨A4, c4, rfl, _, hr4⟩ := ho4.row
    have HR4 := Lib.hid hr4
    have HR34 := Lib.hid (HR3.out.later hb4)
    obtain ⟨q0, q1, q2, q3⟩ := (HK31.out.below hb4 HK31.out.lt).cells
    obtain ⟨p0, p1, p2, p3⟩ := (HK3.out.below hb4 HK3.out.lt).cells
    have HB4 := Lib.hid (HB3.out.trans (hb4.mono HB3.out.size))
    clear ho4 hr4 hb4
    go_wp2_with fail
    refine (ref_equal A3 A4 zs zs zs.length zs.length c3 c4 _ rfl rfl HZ.out (by exact HR34.out) (by exact HR4.out)).mono ?_
    rintro e w5 ⟨rfl, nd, rfl⟩
    rw [eqR_self]
    go_wp2_with fail
    refine (known4 _).mono ?_
    rintro e w6 ⟨rfl, hb6⟩
    have HB6 := Lib.hid (HB4.out.trans ((below_drewN' (Below.refl _ _) nd).trans (hb6.mono HB4.out.size)))
    clear hb6
    go_wp2
    go_ret
    exact ⟨rfl, HB6.out⟩
end

set_option maxRecDepth 100000 in
theorem packReads_lifted (os : Os) (started : os.Started) (H : Type) (enc : TypeId × Value → H) :
    ReturnsInHanded {} Try.checked os 9 .any (Rows.packReadsSpec.pre6 enc Try.prog Try.f9 Rows.packReadsRow.domain false) (Rows.packReadsSpec.post enc Try.prog Try.f9 false true false false) := by
  refine returnsInHanded_of_change (C := Try.checked) Try.own started (by kernel_rfl) Try.func9
    (ChangeSpec.witness6 (enc := enc) (C := Try.checked) false ⟨#[], #[.slice none 0 0], []⟩ 8 (by kernel_rfl) (by kernel_rfl) (by kernel_rfl) (by kernel_rfl)) ?_
  intro W base args ds gs before hval0 hW hcnd _
  have hval : ∀ (j : Nat) t v, Try.f9.params[j]? = some t → args[j]? = some v → Value.okWide Try.prog W .any base t v := hval0
  have hW' := hW
  obtain ⟨p, q, hA0, hV, rfl, hfz, hnd⟩ := hW
  have hA : DataW.TrodAll enc Try.prog W 0 (fun _ => true) true Try.f9.params.toList args.toList ds p := hA0
  rw [Try.params9] at hA hval
  obtain ⟨v0, d0, rfl, rfl, h0⟩ := trodAll_one hA
  obtain ⟨rfl, rfl⟩ := trodVars_none hV
  obtain ⟨A, n, c, bs, rfl, hn, hcap, hl, hx⟩ := open_bytes h0 (hval 0 53 v0 rfl rfl)
  refine (packReads_all A bs n c W hn hcap hl hx).mono fun e W' ⟨he, hb⟩ => ?_
  subst he
  exact ⟨_, rfl, law_post Try.laidOut rfl hW' (by rw [Try.params9]; intro t ht; exact readable_P4 t (by simp at ht; simp [ht])) (by kernel_rfl) Try.underlying4 rfl rfl rfl hb⟩

theorem packReads_holds : Rows.PackReadsSaid :=
  OpenClaim.holds_of_wide 9 Try.f9 rfl rfl rfl rfl rfl rfl rfl ⟨rfl, rfl, rfl, rfl, rfl⟩ rfl rfl rfl rfl rfl (by kernel_rfl) Try.func9 (by kernel_rfl)
    (of_decide_eq_true (by kernel_rfl)) (by unfold Func.isWrapper; first | (rw [if_pos (by decide +kernel)]; kernel_rfl) | (rw [if_neg (by decide +kernel)]; exact ⟨rfl, rfl⟩))
    (fun os started H enc _ => packReads_lifted os started H enc)
end Go.Proofs.Ytdlimephkjihbaa
