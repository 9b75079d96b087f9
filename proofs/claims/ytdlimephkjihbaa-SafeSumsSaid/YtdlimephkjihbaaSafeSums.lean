/-
  SafeSums of verdererlaw03 answers true at every list of Puts, and the list reads afterwards as it read before: a Sum reads, after each Put, as the document's own sum in big numbers does, in value, in error and in sign.
  No condition.
-/
import Derived.Test.YtdlimephkjihbaaSopen
import Derived.Test.YtdlimephkjihbaaSops
import Derived.Deep.RegionHeld3
namespace Go.Proofs.Ytdlimephkjihbaa
open Go.ChangeShapes Go.WideShapes Go.ChangeAt Go.RowKit Go.Deep

/-- The block g holds a number in digits, which lie behind it. -/
def BAt (w : World) (g : Nat) (z : Int) : Prop := ∃ ng A n c ds, BBlk w g ng (.slice A n c) ∧ n = ds.length ∧ DigAt w w.heap.size A ds ∧ Dig ds ∧ z = sg ng (val ds) ∧ ∀ a : Addr, A = some a → g < a.block
theorem BAt.lt {w : World} {g : Nat} {z : Int} (h : BAt w g z) : g < w.heap.size := by
  obtain ⟨ng, A, n, c, ds, hb, _⟩ := h
  exact hb.lt
theorem BAt.below {w w' : World} {g : Nat} {z : Int} (h : BAt w g z) (hb : Below w.heap.size w w') : BAt w' g z := by
  obtain ⟨ng, A, n, c, ds, h1, h2, h3, h4, h5, h6⟩ := h
  exact ⟨ng, A, n, c, ds, h1.below hb h1.lt, h2, h3.later hb, h4, h5, h6⟩
theorem BAt.kept {w w' : World} {g s : Nat} {z : Int} (h : BAt w g z) (hs : s < g) (hk : ∀ k, k < w.heap.size → k ≠ s → w'.heap[k]? = w.heap[k]?) (hsz : w.heap.size ≤ w'.heap.size) : BAt w' g z := by
  obtain ⟨ng, A, n, c, ds, h1, h2, h3, h4, h5, h6⟩ := h
  refine ⟨ng, A, n, c, ds, (hk g h1.lt (by omega)).trans h1, h2, ?_, h4, h5, h6⟩
  intro i d hi
  obtain ⟨a, ha, hlt, hc⟩ := h3 i d hi
  have hb : (a.add i).block = a.block := by unfold Addr.add; split <;> rfl
  have hg := h6 a ha
  refine ⟨a, ha, by omega, ?_⟩
  have e : w'.cell? (a.add i) = w.cell? (a.add i) := by
    unfold World.cell?
    rw [hk _ hlt (by rw [hb]; omega)]
  rw [e]
  exact hc
theorem BAt.store {w w0 : World} {g : Nat} {z : Int} {ng0 ng : Bool} {v0 : Value} {A : Option Addr} {n c : Nat} {ds : List Nat} (hB : BBlk w g ng0 v0) (h2 : n = ds.length) (h3 : DigAt w w.heap.size A ds) (h4 : Dig ds) (h5 : z = sg ng (val ds)) (hf : FreshB w0 (.agg #[.bool ng, .slice A n c])) (hg : g < w0.heap.size) : BAt ((w.setCell ⟨g, 0, none⟩ (.bool ng)).setCell ⟨g, 1, none⟩ (.slice A n c)) g z := by
  have h6 : ∀ a : Addr, A = some a → g < a.block := fun a ha => by
    have := hf ng A n c rfl a ha
    omega
  exact ⟨ng, A, n, c, ds, (hB.set0 ng).set1 _, h2, dig_far h3 g _ _ h6, h4, h5, h6⟩
theorem BAt.new (w : World) (g : Nat) (hg : g = w.heap.size) : BAt (w.alloc (.cells #[.bool false, .slice none 0 0] 41)) g 0 := by
  refine ⟨false, none, 0, 0, [], BBlk.new w g false _ hg, rfl, ?_, ⟨Nat.zero_le _, fun d hd => by cases hd⟩, rfl, fun a ha => by cases ha⟩
  intro i d hi
  simp at hi

set_option maxRecDepth 100000 in
set_option maxHeartbeats 4000000 in
theorem safeSums_all (L : Option Addr) (ps : List (Int × Int)) (n c : Nat) (w : World) (hn : n = ps.length) (hl : n ≤ maxLen) (h64 : ∀ p ∈ ps, N64 p.1) (hp : PutsAt w w.heap.size L ps) :
    Calls Try.prog 5 #[.slice L n c] w fun e w' => e = .returned (.bool true) ∧ Below w.heap.size w w' := by
  unfold maxLen at hl
  have HP := Lib.hid hp
  have HN := Lib.hid hn
  have H64 := Lib.hid h64
  clear hp hn h64
  obtain ⟨m, hm⟩ : ∃ m, m = min n 100 := ⟨_, rfl⟩
  have hm1 : m ≤ n := by omega
  have hm2 : m ≤ 100 := by omega
  have hm3 : m = n ∨ m = 100 := by omega
  have HM := Lib.hid hm
  clear hm
  go_enter Try.func5, Try.ntmps5
  go_wp2
  go_loopw [5] (fun i wr => ∃ k : Nat, k ≤ m ∧ i = .int .i64 k ∧ SumAt wr w.heap.size (tot (ps.take k)) ∧ BAt wr (w.heap.size + 1) (tot (ps.take k)) ∧ Below w.heap.size w wr) (fun i _ => m - (intOf i).toNat)
  case atStart =>
    refine ⟨0, Nat.zero_le _, rfl, ?_, ?_, two_new _ _ _⟩
    · exact (SumAt.new w _ rfl).below (one_new _ _) (by simp)
    · exact BAt.new (w.alloc _) _ (by simp)
  case round =>
    obtain ⟨k, hk, rfl, ha, hbb, hb⟩ := hrel
    have HA := Lib.hid ha
    have HBB := Lib.hid hbb
    have HB := Lib.hid hb
    clear ha hbb hb
    by_cases h1 : k < m
    · obtain ⟨p, hp⟩ : ∃ p, ps[k]? = some p := ⟨_, List.getElem?_eq_getElem (by rw [← HN.out]; omega)⟩
      obtain ⟨a, rfl, ha, a0, a1⟩ := (HP.out.below HB.out) k p hp
      have g0 : decide (k < n) = true := by simp; omega
      have g1 : k < n := by omega
      have g2 : (k : Int) < 100 := by omega
      have HPk := Lib.hid hp
      clear hp
      have hp64 : Hid (N64 p.1) := Lib.hid (H64.out p (List.mem_of_getElem? HPk.out))
      have hfin : Hid (tot (ps.take (k + 1)) = tot (ps.take k) + cn p) := Lib.hid (tot_take _ _ _ HPk.out)
      go_wp2_with fail
      refine (s_put_any w.heap.size _ p.1 p.2 hp64.out _ (by exact HA.out)).mono ?_
      rintro e wa ⟨rfl, ha1, hb1, hk1⟩
      have HA1 := Lib.hid ha1
      have HBB1 := Lib.hid (HBB.out.kept (s := w.heap.size) (by omega) hk1 (hb1 w.heap.size (Nat.le_refl _)).size)
      have HB1 := Lib.hid (HB.out.trans (hb1 w.heap.size (Nat.le_refl _)))
      clear ha1 hk1 hb1 a0 a1 ha
      rcases Bool.eq_false_or_eq_true (many p.2) with hm | hm
      · have he : errP p.2 = 2 := by unfold errP; rw [if_pos hm]
        have hc : Hid (cn p = 0) := Lib.hid (by unfold cn; rw [if_pos hm])
        rw [he]
        clear he
        unfold many at hm
        simp only [Bool.or_eq_true, decide_eq_true_eq] at hm
        by_cases hm0 : p.2 < -1073741824
        · clear hm
          go_wp2
          go_roundw
          case rel => exact ⟨k + 1, by omega, by go_num, by rw [hfin.out]; exact HA1.out, by rw [hfin.out, hc.out, Int.add_zero]; exact HBB1.out, HB1.out⟩
          case measure => simp [intOf]; omega
        · have hm4 : (1073741824 : Int) < p.2 := by omega
          have hm5 : ¬ p.2 < -1073741824 := hm0
          clear hm
          go_wp2
          go_roundw
          case rel => exact ⟨k + 1, by omega, by go_num, by rw [hfin.out]; exact HA1.out, by rw [hfin.out, hc.out, Int.add_zero]; exact HBB1.out, HB1.out⟩
          case measure => simp [intOf]; omega
      · have he : errP p.2 = 0 := by unfold errP; rw [hm]; rfl
        have hc : cn p = p.1 * p.2 := by unfold cn; rw [hm]; rfl
        rw [he]
        clear he
        unfold many at hm
        simp only [Bool.or_eq_false_iff, decide_eq_false_iff_not] at hm
        obtain ⟨hm0, hm4⟩ := hm
        have hm5 : -1073741824 ≤ p.2 := by omega
        have hm6 : p.2 ≤ 1073741824 := by omega
        have ht64 : Hid (N64 p.2) := Lib.hid (by unfold N64; omega)
        have hZ0 : Hid ((tot (ps.take k)).natAbs + (p.1 * p.2).natAbs < lim) := Lib.hid (by
          have h1 := tot_bound (ps.take k) (fun p hp => H64.out p (List.mem_of_mem_take hp))
          have h2 := cn_bound p hp64.out
          have h3 : (ps.take k).length ≤ k := List.length_take_le _ _
          have h4 : (36893488147419103232000000000000000000 : Nat) ≤ lim := by decide +kernel
          rw [← hc]
          omega)
        have hnear : Near (tot (ps.take (k + 1))) := tot_near _ (fun p hp => H64.out p (List.mem_of_mem_take hp)) (by have := List.length_take_le (k + 1) ps; omega)
        have hfin2 : Hid (tot (ps.take k) + p.1 * p.2 = tot (ps.take (k + 1))) := Lib.hid (by rw [hfin.out, hc])
        have HA2 : Hid (SumAt wa w.heap.size (tot (ps.take (k + 1)))) := Lib.hid (by rw [hfin.out]; exact HA1.out)
        obtain ⟨Z, hZ⟩ : ∃ Z, tot (ps.take (k + 1)) = Z := ⟨_, rfl⟩
        rw [hZ] at hnear hfin2 HA2
        obtain ⟨ng, A, nn, cc, ds, hB1, hB2, hB3, hB4, hB5, hB6⟩ := HBB1.out
        have HZ := Lib.hid hZ
        have HNear := Lib.hid hnear
        have HK := Lib.hid hB1
        have HBig : Hid (∀ W, Below wa.heap.size wa W → BigIs W (.agg #[.bool ng, .slice A nn cc]) (tot (ps.take k))) := Lib.hid (fun W h => BigIs.later ⟨ng, A, nn, cc, ds, rfl, hB2, hB3, hB4, hB5⟩ h)
        obtain ⟨a', haa, ha, a0, a1⟩ := (HP.out.below HB1.out) k p HPk.out
        obtain rfl : a = a' := by injection haa
        obtain ⟨q0, q1⟩ := hB1.cells
        have hsz : a.block < wa.heap.size := by
          have h := HB1.out.size
          have hb : (a.add (k * 2)).block = a.block := by unfold Addr.add; split <;> rfl
          omega
        have HSz := Lib.hid hsz
        have HRow : Hid (∀ W, Below wa.heap.size wa W → W.cell? (a.add (k * 2)) = some (.int .i64 p.1)) := Lib.hid (fun W h => (h.cell (by have hb : (a.add (k * 2)).block = a.block := (by unfold Addr.add; split <;> rfl); rw [hb]; exact HSz.out)).trans a0)
        clear hB1 hB2 hB3 hB4 hB5 hB6 haa ha a1 hc hZ hnear hm0 hm4 hsz
        have hm0 : ¬ p.2 < -1073741824 := by omega
        have hm4 : ¬ 1073741824 < p.2 := by omega
        clear hm0 hm4
        go_wp2
        go_region_with (first
          | (go_at_call 26; refine (big_times p.1 p.2 hp64.out ht64.out _).mono ?_; rintro e wb ⟨v2, rfl, h2, hb2, _⟩; have H2 := Lib.hid h2; have HCb : Hid (Below wa.heap.size wa wb) := Lib.hid (((Below.refl _ wa).drew).trans hb2); have HKb := Lib.hid (HK.out.below HCb.out HK.out.lt); obtain ⟨q0, q1⟩ := HKb.out.cells; have a0 := HRow.out _ HCb.out; clear h2 hb2)
          | (go_at_call 25; refine (big_plus _ v2 (tot (ps.take k)) (p.1 * p.2) _ (HBig.out _ (by exact HCb.out)) (by exact H2.out) hZ0).mono ?_; rintro e wd ⟨v3, rfl, ⟨mg, A', n', c', ds', rfl, hn', hx', hd', hz'⟩, hb3, hf3⟩; have HCd : Hid (Below wa.heap.size wa wd) := Lib.hid (HCb.out.trans (hb3.mono HCb.out.size)); have HKd := Lib.hid (HKb.out.below hb3 HKb.out.lt); have HBS := Lib.hid (fun (hg : w.heap.size + 1 < wb.heap.size) => BAt.store HKd.out hn' hx' hd' hz' hf3 hg); obtain ⟨q0, q1⟩ := HKd.out.cells; obtain ⟨e0, e1⟩ := HKd.out.free; clear hn' hx' hd' hz' hb3 hf3))
        all_goals
          have HBS1 := Lib.hid (HBS.out (by have h := HCb.out.size; have h2 := HBB1.out.lt; omega))
          have HS5 := Lib.hid (((HA2.out.below HCd.out HA2.out.lt).other ⟨w.heap.size + 1, 0, none⟩ (.bool mg) (show w.heap.size ≠ w.heap.size + 1 by omega)).other ⟨w.heap.size + 1, 1, none⟩ (.slice A' n' c') (show w.heap.size ≠ w.heap.size + 1 by omega))
          have HL5 := Lib.hid (((HB1.out.trans (HCd.out.mono HB1.out.size)).setCell (p := ⟨w.heap.size + 1, 0, none⟩) (show w.heap.size ≤ w.heap.size + 1 by omega) (.bool mg)).setCell (p := ⟨w.heap.size + 1, 1, none⟩) (show w.heap.size ≤ w.heap.size + 1 by omega) (.slice A' n' c'))
          rw [hfin2.out] at HBS1
          clear HBS a0 q0 q1 e0 e1
          obtain ⟨W5, hW5⟩ : ∃ W, ((wd.setCell ⟨w.heap.size + 1, 0, none⟩ (.bool mg)).setCell ⟨w.heap.size + 1, 1, none⟩ (.slice A' n' c')) = W := ⟨_, rfl⟩
          rw [hW5] at HBS1 HS5 HL5 ⊢
          clear hW5
          obtain ⟨ng5, A5, n5, c5, ds5, hB1, hB2, hB3, hB4, hB5, _⟩ := HBS1.out
          have HK5 := Lib.hid hB1
          have HBig5 : Hid (∀ W, Below W5.heap.size W5 W → BigIs W (.agg #[.bool ng5, .slice A5 n5 c5]) Z) := Lib.hid (fun W h => BigIs.later ⟨ng5, A5, n5, c5, ds5, rfl, hB2, hB3, hB4, hB5⟩ h)
          clear hB1 hB2 hB3 hB4 hB5
          go_wp2_with fail
          refine (s_value w.heap.size Z HNear.out _ (by exact HS5.out)).mono ?_
          rintro e w6 ⟨rfl, hb6⟩
          have HC6 := Lib.hid hb6
          obtain ⟨q0, q1⟩ := (HK5.out.below hb6 HK5.out.lt).cells
          clear hb6
          go_wp2_with fail
          refine (big_value _ Z _ (HBig5.out _ (by exact HC6.out))).mono ?_
          rintro e w7 ⟨rfl, hb7⟩
          have HC7 := Lib.hid (HC6.out.trans (hb7.mono HC6.out.size))
          have HK7 := Lib.hid (HK5.out.below HC7.out HK5.out.lt)
          have HS7 := Lib.hid (HS5.out.below HC7.out HS5.out.lt)
          clear hb7 q0 q1
          obtain ⟨q0, q1⟩ := HK7.out.cells
          go_wp2
          go_region_held3 (fun w' => w'.cell? ⟨w.heap.size + 1, 0, none⟩ = some (.bool ng5) ∧ w'.cell? ⟨w.heap.size + 1, 1, none⟩ = some (.slice A5 n5 c5)) (go_keep) (first
            | (go_at_call 29; refine (s_sign w.heap.size Z HNear.out _ (by exact HS7.out)).mono ?_; rintro e w8 ⟨rfl, hb8⟩; have HC8 := Lib.hid (HC7.out.drew.trans (hb8.mono HC7.out.size)); obtain ⟨q0, q1⟩ := (HK5.out.below HC8.out HK5.out.lt).cells; clear hb8)
            | (go_at_call 30; refine (big_sign _ Z _ (HBig5.out _ (by exact HC8.out))).mono ?_; rintro e w9 ⟨rfl, hb9⟩; have HC9 := Lib.hid (HC8.out.trans (hb9.mono HC8.out.size)); obtain ⟨q0, q1⟩ := (HK5.out.below HC9.out HK5.out.lt).cells; clear hb9))
          all_goals
            go_wp2
            go_roundw
            case rel => exact ⟨k + 1, by omega, by go_num, by rw [HZ.out]; exact HS5.out.below HC9.out HS5.out.lt, by rw [HZ.out]; exact HBS1.out.below HC9.out, HL5.out.trans (HC9.out.mono HL5.out.size)⟩
            case measure => simp [intOf]; omega
    · obtain rfl : k = m := by omega
      have hexit : (decide (k < n) = false) ∨ (decide (k < n) = true ∧ decide ((k : Int) < 100) = false) := by
        rcases hm3 with h | h
        · left
          simp only [decide_eq_false_iff_not]
          omega
        · by_cases h2 : k < n
          · right
            simp only [decide_eq_false_iff_not, decide_eq_true_eq]
            omega
          · left
            simpa using h2
      clear hm3
      rcases hexit with h100 | ⟨h100, h101⟩
      all_goals
        go_wp2_with fail
        refine (known _).mono ?_
        rintro e w1 ⟨rfl, hb1⟩
        have HL1 := Lib.hid (HB.out.trans (hb1.mono HB.out.size))
        clear hb1
        go_wp2
        go_ret
        exact ⟨rfl, HL1.out⟩

set_option maxRecDepth 100000 in
theorem safeSums_lifted (os : Os) (started : os.Started) (H : Type) (enc : TypeId × Value → H) :
    ReturnsInHanded {} Try.checked os 5 .any (Rows.safeSumsSpec.pre6 enc Try.prog Try.f5 Rows.safeSumsRow.domain false) (Rows.safeSumsSpec.post enc Try.prog Try.f5 false true false false) := by
  refine returnsInHanded_of_change (C := Try.checked) Try.own started (by kernel_rfl) Try.func5
    (ChangeSpec.witness6 (enc := enc) (C := Try.checked) false ⟨#[], #[.slice none 0 0], []⟩ 8 (by kernel_rfl) (by kernel_rfl) (by kernel_rfl) (by kernel_rfl)) ?_
  intro W base args ds gs before hval0 hW hcnd _
  have hval : ∀ (j : Nat) t v, Try.f5.params[j]? = some t → args[j]? = some v → Value.okWide Try.prog W .any base t v := hval0
  have hW' := hW
  obtain ⟨p, q, hA0, hV, rfl, hfz, hnd⟩ := hW
  have hA : DataW.TrodAll enc Try.prog W 0 (fun _ => true) true Try.f5.params.toList args.toList ds p := hA0
  rw [Try.params5] at hA hval
  obtain ⟨v0, d0, rfl, rfl, h0⟩ := trodAll_one hA
  obtain ⟨rfl, rfl⟩ := trodVars_none hV
  obtain ⟨A, n, c, ps, rfl, hn, hl, hp, h64⟩ := open_puts h0 (hval 0 32 v0 rfl rfl)
  refine (safeSums_all A ps n c W hn hl h64 hp).mono fun e W' ⟨he, hb⟩ => ?_
  subst he
  exact ⟨_, rfl, law_post Try.laidOut rfl hW' (by rw [Try.params5]; intro t ht; exact readable_Put t (by simpa using ht)) (by kernel_rfl) Try.underlying4 rfl rfl rfl hb⟩

theorem safeSums_holds : Rows.SafeSumsSaid :=
  OpenClaim.holds_of_wide 5 Try.f5 rfl rfl rfl rfl rfl rfl rfl ⟨rfl, rfl, rfl, rfl, rfl⟩ rfl rfl rfl rfl rfl (by kernel_rfl) Try.func5 (by kernel_rfl)
    (of_decide_eq_true (by kernel_rfl)) (by unfold Func.isWrapper; first | (rw [if_pos (by decide +kernel)]; kernel_rfl) | (rw [if_neg (by decide +kernel)]; exact ⟨rfl, rfl⟩))
    (fun os started H enc _ => safeSums_lifted os started H enc)
end Go.Proofs.Ytdlimephkjihbaa
