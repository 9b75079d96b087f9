/-
  PackRows of verdererlaw04 answers true at every row, and the row reads afterwards as it read before: any value, and any row, as bytes, are what the document says.
  No condition.
-/
import Derived.Test.YtdlimephkjihbaaPopen
import Derived.Test.YtdlimephkjihbaaPknown
import Derived.Deep.RegionWith
namespace Go.Proofs.Ytdlimephkjihbaa
open Go.ChangeShapes Go.WideShapes Go.ChangeAt Go.RowKit Go.Deep

theorem conv_fact {w : World} {base n : Nat} {A : Option Addr} {c : Nat} {bs : List UInt8} (h : OwnB w base (.slice A n c) bs) : (convert 53 9 (.slice A n c)).run Try.prog w = .ok (.string ⟨bs.toArray⟩) w := by
  obtain ⟨A', n', c', hv, hc⟩ := conv_B h
  rw [hv]
  exact hc

set_option maxRecDepth 100000 in
set_option maxHeartbeats 4000000 in
theorem packRows_all (A : Option Addr) (xs : List V) (n c : Nat) (w : World) (hn : n = xs.length) (hwx : WideR xs) (hx : RowAt w w.heap.size A xs) :
    Calls Try.prog 8 #[.slice A n c] w fun e w' => e = .returned (.bool true) ∧ Below w.heap.size w w' := by
  have F1 := Lib.hid (few_all A xs n c w hn hx)
  rcases Bool.eq_false_or_eq_true (shortR xs) with hs1 | hs1
  · have hl1 : n ≤ 100 := by
      unfold shortR at hs1
      simp only [Bool.and_eq_true, decide_eq_true_eq] at hs1
      omega
    have R1 := Lib.hid (fun W (h : Below w.heap.size w W) => pk_row A xs n c W hn (by omega) hwx (hx.later h))
    have R2 := Lib.hid (fun W (h : Below w.heap.size w W) => rpk_row A xs n c W hn (by omega) hwx (hx.later h))
    have HX := Lib.hid hx
    have HN := Lib.hid hn
    have HW := Lib.hid hwx
    have S1 := Lib.hid hs1
    clear hn hwx hx hs1
    go_enter Try.func8, Try.ntmps8
    go_wp2_with fail
    refine F1.out.mono ?_
    rintro e w1 ⟨rfl, rfl⟩
    rw [S1.out]
    go_wp2
    go_loopw [3] (fun i wr => ∃ k : Nat, k ≤ n ∧ i = .int .i64 k ∧ Below w1.heap.size w1 wr) (fun i _ => n - (intOf i).toNat)
    case atStart => exact ⟨0, Nat.zero_le _, rfl, Below.refl _ _⟩
    case round =>
      obtain ⟨k, hk, rfl, hb⟩ := hrel
      have HB := Lib.hid hb
      have hsz : w1.heap.size ≤ wr.heap.size := hb.size
      by_cases h1 : k < n
      · obtain ⟨v, hv⟩ : ∃ v, xs[k]? = some v := ⟨_, List.getElem?_eq_getElem (by rw [← HN.out]; exact h1)⟩
        obtain ⟨a, rfl, ha, a0, a1, a2, a3⟩ := (HX.out.below hb) k v hv
        have ha' : (a.add (k * 4)).block < wr.heap.size := by omega
        have HP1 := Lib.hid (fun W => pk_value v W (HW.out v (List.mem_of_getElem? hv)))
        have HP2 := Lib.hid (fun W => rpk_value v W (HW.out v (List.mem_of_getElem? hv)))
        obtain ⟨bs, hbs⟩ : ∃ b, valB v = b := ⟨_, rfl⟩
        rw [hbs] at HP1 HP2
        clear hv hb hbs
        go_wp2
        go_region_with
          (first
            | (go_at_call 33; refine (HP1.out _).mono ?_; rintro e wa ⟨va, rfl, hoa, hba⟩; obtain ⟨Aa, ca, rfl, _⟩ := hoa.form; have HOa := Lib.hid hoa; have hca := conv_fact hoa; clear hoa; have hcla : (∀ q : Addr, q.block < wr.heap.size → wa.cell? q = wr.cell? q) ∧ Below w1.heap.size w1 wa ∧ wr.heap.size ≤ wa.heap.size := (by first | exact ⟨fun q hq => hba.cell hq, HB.out.drew.trans (hba.mono hsz), hba.size⟩ | exact ⟨fun q hq => (hba.cell (Nat.lt_of_lt_of_le hq hclb.2.2)).trans (hclb.1 q hq), hclb.2.1.trans (hba.mono hclb.2.1.size), Nat.le_trans hclb.2.2 hba.size⟩); (try (have hcb2 := conv_fact (HOb.out.below hba (Nat.le_refl _)))); clear hba)
            | (go_at_call 34; refine (HP2.out _).mono ?_; rintro e wb ⟨vb, rfl, hob, hbb⟩; obtain ⟨Ab, cb, rfl, _⟩ := hob.form; have HOb := Lib.hid hob; have hcb := conv_fact hob; clear hob; have hclb : (∀ q : Addr, q.block < wr.heap.size → wb.cell? q = wr.cell? q) ∧ Below w1.heap.size w1 wb ∧ wr.heap.size ≤ wb.heap.size := (by first | exact ⟨fun q hq => hbb.cell hq, HB.out.drew.trans (hbb.mono hsz), hbb.size⟩ | exact ⟨fun q hq => (hbb.cell (Nat.lt_of_lt_of_le hq hcla.2.2)).trans (hcla.1 q hq), hcla.2.1.trans (hbb.mono hcla.2.1.size), Nat.le_trans hcla.2.2 hbb.size⟩); (try (have hca2 := conv_fact (HOa.out.below hbb (Nat.le_refl _)))); clear hbb))
        all_goals
          go_wp2
          go_roundw
          case rel => first | exact ⟨k + 1, by omega, by go_num, hclb.2.1⟩ | exact ⟨k + 1, by omega, by go_num, hcla.2.1⟩
          case measure => simp [intOf]; omega
      · obtain ⟨bs, hbs⟩ : ∃ b, rowB xs = b := ⟨_, rfl⟩
        rw [hbs] at R1 R2
        clear hb hbs
        go_wp2
        go_region_with
          (first
            | (go_at_call 35; refine (R1.out _ (by first | exact HB.out | exact HB.out.drew)).mono ?_; rintro e wa ⟨va, rfl, hoa, hba⟩; obtain ⟨Aa, ca, rfl, _⟩ := hoa.form; have HOa := Lib.hid hoa; have hca := conv_fact hoa; clear hoa; have HBa := Lib.hid (HB.out.drew.trans (hba.mono hsz)); clear hba)
            | (go_at_call 36; refine (R2.out _ (by exact HBa.out)).mono ?_; rintro e wb ⟨vb, rfl, hob, hbb⟩; obtain ⟨Ab, cb, rfl, _⟩ := hob.form; have HOb := Lib.hid hob; have hcb := conv_fact hob; clear hob; have hca2 := conv_fact (HOa.out.below hbb (Nat.le_refl _)); have HBb := Lib.hid (HBa.out.trans (hbb.mono HBa.out.size)); clear hbb)
            | (go_at_call 32; refine (known4 _).mono ?_; rintro e wc ⟨rfl, hbc⟩; have HBc := Lib.hid (HBb.out.trans (hbc.mono HBb.out.size)); clear hbc))
        all_goals
          go_wp2
          go_ret
          exact ⟨rfl, HBc.out⟩
  · have S1 := Lib.hid hs1
    clear hn hwx hx hs1
    go_enter Try.func8, Try.ntmps8
    go_wp2_with fail
    refine F1.out.mono ?_
    rintro e w1 ⟨rfl, rfl⟩
    rw [S1.out]
    go_wp2_with (go_at_call 32; refine (known4 _).mono ?_; rintro e w6 ⟨rfl, hb6⟩)
    go_ret
    exact ⟨rfl, hb6⟩

set_option maxRecDepth 100000 in
theorem packRows_lifted (os : Os) (started : os.Started) (H : Type) (enc : TypeId × Value → H) :
    ReturnsInHanded {} Try.checked os 8 .any (Rows.packRowsSpec.pre6 enc Try.prog Try.f8 Rows.packRowsRow.domain false) (Rows.packRowsSpec.post enc Try.prog Try.f8 false true false false) := by
  refine returnsInHanded_of_change (C := Try.checked) Try.own started (by kernel_rfl) Try.func8
    (ChangeSpec.witness6 (enc := enc) (C := Try.checked) false ⟨#[], #[.slice none 0 0], []⟩ 8 (by kernel_rfl) (by kernel_rfl) (by kernel_rfl) (by kernel_rfl)) ?_
  intro W base args ds gs before hval0 hW hcnd _
  have hval : ∀ (j : Nat) t v, Try.f8.params[j]? = some t → args[j]? = some v → Value.okWide Try.prog W .any base t v := hval0
  have hW' := hW
  obtain ⟨p, q, hA0, hV, rfl, hfz, hnd⟩ := hW
  have hA : DataW.TrodAll enc Try.prog W 0 (fun _ => true) true Try.f8.params.toList args.toList ds p := hA0
  rw [Try.params8] at hA hval
  obtain ⟨v0, d0, rfl, rfl, h0⟩ := trodAll_one hA
  obtain ⟨rfl, rfl⟩ := trodVars_none hV
  obtain ⟨A, n, c, xs, rfl, hn, _, _, hx, _, hwx⟩ := open_rowV h0 (hval 0 51 v0 rfl rfl)
  refine (packRows_all A xs n c W hn hwx hx).mono fun e W' ⟨he, hb⟩ => ?_
  subst he
  exact ⟨_, rfl, law_post Try.laidOut rfl hW' (by rw [Try.params8]; intro t ht; exact readable_P4 t (by simp at ht; simp [ht])) (by kernel_rfl) Try.underlying4 rfl rfl rfl hb⟩

theorem packRows_holds : Rows.PackRowsSaid :=
  OpenClaim.holds_of_wide 8 Try.f8 rfl rfl rfl rfl rfl rfl rfl ⟨rfl, rfl, rfl, rfl, rfl⟩ rfl rfl rfl rfl rfl (by kernel_rfl) Try.func8 (by kernel_rfl)
    (of_decide_eq_true (by kernel_rfl)) (by unfold Func.isWrapper; first | (rw [if_pos (by decide +kernel)]; kernel_rfl) | (rw [if_neg (by decide +kernel)]; exact ⟨rfl, rfl⟩))
    (fun os started H enc _ => packRows_lifted os started H enc)
end Go.Proofs.Ytdlimephkjihbaa
