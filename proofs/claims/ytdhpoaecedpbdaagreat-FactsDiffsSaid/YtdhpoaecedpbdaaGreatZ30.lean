/-
  How high what stands under a tenant is; moving and dropping, of the program's tree.
  Condition: the tree is one that can be; names are no longer than texts can be.
  The fixed calls that every statement of package tenant makes answer as they must, in every world; two lists of texts that are one are alike to the document.
  No condition.
  The document's tree of tenants: the place of one, whether one is there, those above and under it.
  Condition: no more than a thousand tenants.
  Acts with tenants as they lie in memory: three cells an act.
  No condition.
-/
import Derived.Test.YtdhpoaecedpbdaaGreatZ13
import Derived.Test.YtdhpoaecedpbdaaGreatZ17
namespace Go.Proofs.YtdhpoaecedpbdaaGreat
section
open Go.RowKit Go.Maps Go.Shelf

/-- The deepest one among the first ones. -/
def deepK (L : List Tn) (n : ByteArray) (k : Nat) : Nat := (((underL L n).take k).map fun m => (chn L m).length).foldl max 0
theorem deepK_succ (L : List Tn) (n : ByteArray) (k : Nat) (m : ByteArray) (h : (underL L n)[k]? = some m) : deepK L n (k + 1) = max (deepK L n k) (chn L m).length := by
  unfold deepK
  rw [List.take_add_one, h, List.map_append, List.foldl_append]
  rfl
theorem deepK_all (L : List Tn) (n : ByteArray) : deepK L n (underL L n).length = deepT L n := by unfold deepK deepT; rw [List.take_length]
theorem foldl_max_le : ∀ (l : List Nat) (a c : Nat), a ≤ c → (∀ x ∈ l, x ≤ c) → l.foldl max a ≤ c
  | [], _, _, h, _ => h
  | y :: l, a, c, h, hl => foldl_max_le l (max a y) c (Nat.max_le.2 ⟨h, hl y (by simp)⟩) fun x hx => hl x (List.mem_cons_of_mem _ hx)
theorem deepK_le {L : List Tn} (g : GoodT L) (n : ByteArray) (k : Nat) : deepK L n k ≤ 5 := by
  unfold deepK
  refine foldl_max_le _ _ _ (Nat.zero_le _) fun x hx => ?_
  obtain ⟨m, _, rfl⟩ := List.mem_map.1 hx
  exact (g.chain m).2
theorem underL_len (L : List Tn) (n : ByteArray) : (underL L n).length ≤ L.length := by rw [← underK_all]; exact underK_len _ _ _

set_option maxRecDepth 100000 in
set_option maxHeartbeats 4000000 in
theorem t_height (t b : Nat) (D : DataW Value) (L : List Tn) (w : World) (n : ByteArray) (hT : TreeB w t b D L) (hg : GoodT L) (hn : n.size ≤ maxLen) :
    Calls Tryz.prog 70 #[.pointer (some ⟨t, 0, none⟩), .string n] w fun e w' => e = .returned (.int .i64 (heightT L n)) ∧ Below w.heap.size w w' := by
  have HA := Lib.hid (t_under t b D L w n hT hg hn)
  have HT := Lib.hid hT
  have HG := Lib.hid hg
  have HL := Lib.hid (fun y (hy : y ∈ L) => show y.2.size ≤ maxLen from by have := hg.par y hy; unfold maxLen; omega)
  have HN := Lib.hid hn
  have hfew := hg.few
  have hul := underL_len L n
  clear hT hg hn
  go_enter Tryz.func70, Tryz.ntmps70
  go_wp2_with fail
  refine HA.out.mono ?_
  rintro e w1 ⟨v, rfl, hown, hb1⟩
  obtain ⟨A, c, rfl, _, _, hat, hag⟩ := hown.slice
  have HAT := Lib.hid hat
  have HAG := Lib.hid hag
  have HB1 := Lib.hid hb1
  clear hown hb1 hat hag
  go_wp2
  go_loopw [5, 12] (fun v i wr => ∃ k : Nat, k ≤ (underL L n).length ∧ i = .int .i64 k ∧ v = .int .i64 (deepK L n k) ∧ Below w1.heap.size w1 wr) (fun _ i _ => (underL L n).length - (intOf i).toNat)
  case atStart => exact ⟨0, Nat.zero_le _, rfl, rfl, Below.refl _ _⟩
  case round =>
    obtain ⟨k, hk, rfl, rfl, hb⟩ := hrel
    have HB := Lib.hid (HB1.out.trans (hb.mono HB1.out.size))
    have HBB := Lib.hid hb
    have hat := HAT.out.below hb
    clear hb
    by_cases hlt : k < (underL L n).length
    · obtain ⟨g, rfl⟩ := hat.head HAG.out (by omega)
      obtain ⟨m, hx⟩ : ∃ x, (underL L n)[k]? = some x := ⟨_, List.getElem?_eq_getElem hlt⟩
      have c0 := hat.at k _ hx
      have hs := deepK_succ L n k _ hx
      have hm1 : m.size ≤ maxLen := by
        obtain ⟨h1, _⟩ := underL_mem.1 (List.mem_of_getElem? hx)
        obtain ⟨y, hy⟩ := Option.isSome_iff_exists.1 h1
        obtain ⟨h2, rfl⟩ := findN_some hy
        have := nameR_short (HG.out.nam _ h2)
        unfold maxLen
        omega
      have HC := Lib.hid (t_depth t b D L wr m (chn L m) (HG.out.chain m).1 (HT.out.below HB.out) HL.out hm1 (by have := (HG.out.chain m).2; omega))
      have hdk := deepK_le HG.out n k
      have HS := Lib.hid hs
      clear hat hx hs hm1
      go_wp2_with fail
      refine HC.out.mono ?_
      rintro e w2 ⟨rfl, hb2⟩
      have HB2 := Lib.hid (HBB.out.trans (hb2.mono HBB.out.size))
      clear hb2
      go_wp2
      go_roundw
      case rel => exact ⟨k + 1, by omega, by go_num, by rw [HS.out]; first | (simp [Int.max_def, Nat.max_def]; done) | (congr 1; omega) | skip, HB2.out⟩
      case measure => simp [intOf]; omega
    · have hkl : k = (underL L n).length := by omega
      subst hkl
      have hda := deepK_all L n
      have hdk := deepK_le HG.out n (underL L n).length
      rw [hda] at hdk ⊢
      have hc5 := (HG.out.chain n).2
      have HC := Lib.hid (t_depth t b D L wr n (chn L n) (HG.out.chain n).1 (HT.out.below HB.out) HL.out HN.out (by omega))
      have HH := Lib.hid (show heightT L n = (deepT L n : Int) - (chn L n).length + 1 from rfl)
      clear hda
      generalize deepT L n = d at *
      generalize (chn L n).length = l at *
      go_wp2_with fail
      refine HC.out.mono ?_
      rintro e w2 ⟨rfl, hb2⟩
      have HB2 := Lib.hid (HB.out.trans (hb2.mono HB.out.size))
      clear hb2
      have hq1 : -10 ≤ (d : Int) - l := by omega
      have hq2 : (d : Int) - l ≤ 10 := by omega
      go_wp2
      go_ret
      exact ⟨by rw [HH.out]; first | rfl | simp, HB2.out⟩

/-- What Move answers. -/
def movRes (L : List Tn) (n p : ByteArray) : Int :=
  if (findN L n).isSome = false then 5 else if canT L p = false then 18 else if hasX n (chn L p) = true then 13 else if 5 < ((chn L p).length : Int) + heightT L n then 17 else 0
def movTn (L : List Tn) (n p : ByteArray) : List Tn := if movRes L n p = 0 then setT L n p else L
theorem TreeB.resort {w : World} {t b : Nat} {D : DataW Value} {L L' : List Tn} (h : TreeB w t b D L) (hf : ∀ c, findN L' c = findN L c) (hl : L'.length = L.length) (hp : L'.Pairwise fun a b => a.1 ≠ b.1) : TreeB w t b D L' := by
  obtain ⟨h1, h2, ⟨r1, r2, r3, _⟩, h4, h5, h6⟩ := h
  refine ⟨h1, by rw [hl]; exact h2, ⟨fun c => by rw [hf]; exact r1 c, fun c => by rw [hf]; exact r2 c, by rw [hl]; exact r3, hp⟩, h4, h5, h6⟩

set_option maxRecDepth 100000 in
set_option maxHeartbeats 4000000 in
theorem t_move (t b : Nat) (D : DataW Value) (L : List Tn) (w : World) (n p : ByteArray) (hT : TreeB w t b D L) (hg : GoodT L) (hn : n.size ≤ maxLen) (hp : p.size ≤ maxLen) :
    Calls Tryz.prog 32 #[.pointer (some ⟨t, 0, none⟩), .string n, .string p] w fun e w' => e = .returned (.int .i64 (movRes L n p)) ∧ Only b w w' ∧ ∃ D', TreeB w' t b D' (movTn L n p) := by
  have HT := Lib.hid hT
  have HG := Lib.hid hg
  have HN := Lib.hid hn
  have HP := Lib.hid hp
  have HL := Lib.hid (fun y (hy : y ∈ L) => show y.2.size ≤ maxLen from by have := hg.par y hy; unfold maxLen; omega)
  have hfew := hg.few
  have hbl : b < w.heap.size := hT.2.2.2.2.2
  have stay : ∀ w', Below w.heap.size w w' → ∀ r : Int, movRes L n p = r → r ≠ 0 → (Only b w w' ∧ ∃ D', TreeB w' t b D' (movTn L n p)) := by
    intro w' hb r hr h0
    refine ⟨Only.of_below hb (Nat.le_of_lt hbl), D, ?_⟩
    unfold movTn
    rw [if_neg (by rw [hr]; exact h0)]
    exact hT.below hb
  have HST := Lib.hid stay
  clear hT hg hn hp stay
  go_enter Tryz.func32, Tryz.ntmps32
  go_wp2_with fail
  refine (t_has t b D L n _ HT.out HN.out).mono ?_
  rintro e w2 ⟨rfl, hb2⟩
  have HB2 := Lib.hid hb2
  clear hb2
  rcases Bool.eq_false_or_eq_true (findN L n).isSome with h2 | h2
  · rw [h2]
    have H2 := Lib.hid h2
    have HT2 := Lib.hid (HT.out.below HB2.out)
    clear h2
    go_wp2_with fail
    refine (t_can t b D L p _ HT2.out HP.out).mono ?_
    rintro e w3 ⟨rfl, hb3⟩
    have HB3 := Lib.hid (HB2.out.trans (hb3.mono HB2.out.size))
    clear hb3
    rcases Bool.eq_false_or_eq_true (canT L p) with h3 | h3
    · rw [h3]
      have H3 := Lib.hid h3
      have HT3 := Lib.hid (HT.out.below HB3.out)
      clear h3
      go_wp2_with fail
      refine (t_isUnder t b D L _ p n (chn L p) (HG.out.chain p).1 HT3.out HL.out HP.out).mono ?_
      rintro e w4 ⟨rfl, hb4⟩
      have HB4 := Lib.hid (HB3.out.trans (hb4.mono HB3.out.size))
      clear hb4
      rcases Bool.eq_false_or_eq_true (hasX n (chn L p)) with h4 | h4
      · rw [h4]
        have H4 := Lib.hid h4
        clear h4
        go_wp2
        go_ret
        have hr : movRes L n p = 13 := by unfold movRes; rw [if_neg (by rw [H2.out]; simp), if_neg (by rw [H3.out]; simp), if_pos H4.out]
        exact ⟨by rw [hr]; rfl, HST.out _ HB4.out 13 hr (by decide)⟩
      · rw [h4]
        have H4 := Lib.hid h4
        have HT4 := Lib.hid (HT.out.below HB4.out)
        clear h4
        go_wp2_with fail
        refine (t_depth t b D L _ p (chn L p) (HG.out.chain p).1 HT4.out HL.out HP.out (by have := (HG.out.chain p).2; omega)).mono ?_
        rintro e w5 ⟨rfl, hb5⟩
        have HB5 := Lib.hid (HB4.out.trans (hb5.mono HB4.out.size))
        have HT5 := Lib.hid (HT.out.below HB5.out)
        clear hb5
        go_wp2_with fail
        refine (t_height t b D L _ n HT5.out HG.out HN.out).mono ?_
        rintro e w6 ⟨rfl, hb6⟩
        have HB6 := Lib.hid (HB5.out.trans (hb6.mono HB5.out.size))
        have HT6 := Lib.hid (HT.out.below HB6.out)
        have hd5 := deepK_le HG.out n (underL L n).length
        rw [deepK_all] at hd5
        have hp5 := (HG.out.chain p).2
        have hn5 := (HG.out.chain n).2
        have hh1 : -10 ≤ ((chn L p).length : Int) + heightT L n := by unfold heightT; omega
        have hh2 : ((chn L p).length : Int) + heightT L n ≤ 20 := by unfold heightT; omega
        clear hb6 hd5
        by_cases h6 : 5 < ((chn L p).length : Int) + heightT L n
        · have hr : movRes L n p = 17 := by unfold movRes; rw [if_neg (by rw [H2.out]; simp), if_neg (by rw [H3.out]; simp), if_neg (by rw [H4.out]; simp), if_pos h6]
          have HR := Lib.hid hr
          have hg5 : decide (5 < ((chn L p).length : Int) + heightT L n) = true := by simpa using h6
          clear hr
          go_wp2
          go_ret
          exact ⟨by rw [HR.out]; rfl, HST.out _ HB6.out 17 HR.out (by decide)⟩
        · have hr : movRes L n p = 0 := by unfold movRes; rw [if_neg (by rw [H2.out]; simp), if_neg (by rw [H3.out]; simp), if_neg (by rw [H4.out]; simp), if_neg h6]
          have HR := Lib.hid hr
          have hg5 : decide (5 < ((chn L p).length : Int) + heightT L n) = false := by simpa using h6
          have HP6 := Lib.hid (t_put t b D L (setT L n p) n p w6 HT6.out (by omega) HN.out (fun c => setT_find L n p c H2.out) (by rw [H2.out]; simp [setT]) (setT_srt HG.out.srt n p).apart)
          clear hr
          go_wp2_with fail
          refine HP6.out.mono ?_
          rintro e w7 ⟨rfl, hT7, hg7⟩
          have HT7 := Lib.hid hT7
          have HG7 := Lib.hid (only_grown HB6.out hbl hg7)
          clear hT7 hg7
          go_wp2
          go_ret
          refine ⟨by rw [HR.out]; rfl, HG7.out, D.put (kt n) (.held (tnV (n, p))), ?_⟩
          unfold movTn
          rw [if_pos HR.out]
          exact HT7.out
    · rw [h3]
      have H3 := Lib.hid h3
      clear h3
      go_wp2
      go_ret
      have hr : movRes L n p = 18 := by unfold movRes; rw [if_neg (by rw [H2.out]; simp), if_pos H3.out]
      exact ⟨by rw [hr]; rfl, HST.out _ HB3.out 18 hr (by decide)⟩
  · rw [h2]
    have H2 := Lib.hid h2
    clear h2
    go_wp2
    go_ret
    have hr : movRes L n p = 5 := by unfold movRes; rw [if_pos H2.out]
    exact ⟨by rw [hr]; rfl, HST.out _ HB2.out 5 hr (by decide)⟩

/-- What Drop answers. -/
def drpRes (L : List Tn) (n : ByteArray) : Int := if (findN L n).isSome = false then 5 else if 1 < (underL L n).length then 14 else 0
def drpTn (L : List Tn) (n : ByteArray) : List Tn := if drpRes L n = 0 then delT L n else L
theorem RelT.del {D : DataW Value} {L : List Tn} {key : ByteArray} (r : RelT D L) (ht : Tidy D) (hs : SrtT L) (hk : (findN L key).isSome = true) : RelT (D.del (kt key)) (delT L key) := by
  obtain ⟨r1, r2, r3, _⟩ := r
  refine ⟨fun b => ?_, fun b => ?_, ?_, (delT_srt hs key).apart⟩
  · rw [delT_find]
    by_cases e : b = key
    · subst e; rw [atKey_del_same, if_pos rfl]; rfl
    · rw [atKey_del_other (fun e2 => e (kt_inj e2)), if_neg e, r1 b]
  · rw [delT_find]
    by_cases e : b = key
    · subst e; rw [has_del_same, if_pos rfl]; rfl
    · rw [has_del_other (fun e2 => e (kt_inj e2)), if_neg e, r2 b]
  · have h1 := size_del (k := kt key) ht
    rw [r2 key, hk, r3, if_pos rfl] at h1
    have h2 := delT_len hs.apart hk
    omega
set_option maxRecDepth 100000 in
set_option maxHeartbeats 4000000 in
theorem t_drop (t b : Nat) (D : DataW Value) (L : List Tn) (w : World) (n : ByteArray) (hT : TreeB w t b D L) (hg : GoodT L) (hn : n.size ≤ maxLen) :
    Calls Tryz.prog 34 #[.pointer (some ⟨t, 0, none⟩), .string n] w fun e w' => e = .returned (.int .i64 (drpRes L n)) ∧ Only b w w' ∧ ∃ D', TreeB w' t b D' (drpTn L n) := by
  have HT := Lib.hid hT
  have HG := Lib.hid hg
  have HN := Lib.hid hn
  have hfew := hg.few
  have hul := underL_len L n
  have hbl : b < w.heap.size := hT.2.2.2.2.2
  have htl : t < w.heap.size := hT.2.2.2.2.1
  have cT := cell_rowT w t _ _ hT.1
  have stay : ∀ w', Below w.heap.size w w' → ∀ r : Int, drpRes L n = r → r ≠ 0 → (Only b w w' ∧ ∃ D', TreeB w' t b D' (drpTn L n)) := by
    intro w' hb r hr h0
    refine ⟨Only.of_below hb (Nat.le_of_lt hbl), D, ?_⟩
    unfold drpTn
    rw [if_neg (by rw [hr]; exact h0)]
    exact hT.below hb
  have HST := Lib.hid stay
  clear hT hg hn stay
  go_enter Tryz.func34, Tryz.ntmps34
  go_wp2_with fail
  refine (t_has t b D L n _ HT.out HN.out).mono ?_
  rintro e w2 ⟨rfl, hb2⟩
  have HB2 := Lib.hid hb2
  clear hb2
  rcases Bool.eq_false_or_eq_true (findN L n).isSome with h2 | h2
  · rw [h2]
    have H2 := Lib.hid h2
    have HT2 := Lib.hid (HT.out.below HB2.out)
    clear h2
    go_wp2_with fail
    refine (t_under t b D L _ n HT2.out HG.out HN.out).mono ?_
    rintro e w3 ⟨v, rfl, hown, hb3⟩
    obtain ⟨A, c, rfl⟩ := hown.form
    have HB3 := Lib.hid (HB2.out.trans (hb3.mono HB2.out.size))
    have cT3 := (HB3.out.cell (p := ⟨t, 0, none⟩) htl).trans cT
    clear hown hb3
    by_cases h3 : 1 < (underL L n).length
    · have hr : drpRes L n = 14 := by unfold drpRes; rw [if_neg (by rw [H2.out]; simp), if_pos h3]
      have HR := Lib.hid hr
      have hg3 : decide ((1 : Int) < ((underL L n).length : Int)) = true := by simp; omega
      clear hr
      go_wp2
      go_ret
      exact ⟨by rw [HR.out]; rfl, HST.out _ HB3.out 14 HR.out (by decide)⟩
    · have hr : drpRes L n = 0 := by unfold drpRes; rw [if_neg (by rw [H2.out]; simp), if_neg h3]
      have HR := Lib.hid hr
      have hg3 : decide ((1 : Int) < ((underL L n).length : Int)) = false := by simp; omega
      have HT3 := Lib.hid (HT.out.below HB3.out)
      have HK := Lib.hid (Go.WideMaps.keyOf_string_mk (P := Tryz.prog) Tryz.underlying9 HN.out)
      clear hr
      go_wp2_with (at_delete; refine wpList_delete_own _ rfl _ _ 104 9 rfl 27 lawT Tryz.underlying104 RpT b L.length D rfl HT3.out.2.1 _ (kt n) rfl HK.out ?_; intro w4 hown4 hturn4)
      go_wp2
      go_ret
      have hrel := RelT.del HT3.out.2.2.1 (HT3.out.2.1.tidy lawT) HG.out.srt H2.out
      have hgrow := hturn4.grown
      refine ⟨by rw [HR.out]; rfl, only_grown HB3.out hbl hgrow, D.del (kt n), ?_⟩
      unfold drpTn
      rw [if_pos HR.out]
      refine ⟨?_, ?_, hrel, HT.out.2.2.2.1, Nat.lt_of_lt_of_le (Nat.lt_of_lt_of_le htl HB3.out.size) hgrow.size, Nat.lt_of_lt_of_le (Nat.lt_of_lt_of_le hbl HB3.out.size) hgrow.size⟩
      · exact (hgrow.block t (Nat.lt_of_lt_of_le htl HB3.out.size) (fun e => HT.out.2.2.2.1 (by injection e))).trans HT3.out.1
      · rw [← hrel.2.2.1]
        exact ownsMapT_tight hown4
  · rw [h2]
    have H2 := Lib.hid h2
    clear h2
    go_wp2
    go_ret
    have hr : drpRes L n = 5 := by unfold drpRes; rw [if_pos H2.out]
    exact ⟨by rw [hr]; rfl, HST.out _ HB2.out 5 hr (by decide)⟩

/-- What adding leaves, by rising names. -/
def addTn2 (L : List Tn) (n p : ByteArray) : List Tn := if addRes L n p (chn L p) = 0 then insT (n, p) L else L
theorem addRes_zero {L : List Tn} {n p : ByteArray} {ys : List ByteArray} (h : addRes L n p ys = 0) : nameR n.data.toList = true ∧ findN L n = none ∧ canT L p = true ∧ ys.length + 1 ≤ 5 ∧ L.length < 24 := by
  unfold addRes at h
  by_cases h1 : nameR n.data.toList = false
  · rw [if_pos h1] at h; cases h
  · rw [if_neg h1] at h
    by_cases h2 : (findN L n).isSome = true
    · rw [if_pos h2] at h; cases h
    · rw [if_neg h2] at h
      by_cases h3 : canT L p = false
      · rw [if_pos h3] at h; cases h
      · rw [if_neg h3] at h
        by_cases h4 : 5 < ys.length + 1
        · rw [if_pos h4] at h; cases h
        · rw [if_neg h4] at h
          by_cases h5 : 24 ≤ L.length
          · rw [if_pos h5] at h; cases h
          · exact ⟨by simpa using h1, by simpa using h2, by simpa using h3, by omega, by omega⟩
theorem addTn2_good {L : List Tn} (g : GoodT L) (n p : ByteArray) : GoodT (addTn2 L n p) := by
  unfold addTn2
  by_cases h : addRes L n p (chn L p) = 0
  · rw [if_pos h]
    obtain ⟨h1, h2, h3, h4, h5⟩ := addRes_zero h
    exact g.add h2 h1 h3 h5 h4
  · rw [if_neg h]; exact g
theorem movTn_good {L : List Tn} (g : GoodT L) (n p : ByteArray) : GoodT (movTn L n p) := by
  unfold movTn
  by_cases h : movRes L n p = 0
  · rw [if_pos h]
    unfold movRes at h
    by_cases h1 : (findN L n).isSome = false
    · rw [if_pos h1] at h; cases h
    · rw [if_neg h1] at h
      by_cases h2 : canT L p = false
      · rw [if_pos h2] at h; cases h
      · rw [if_neg h2] at h
        by_cases h3 : hasX n (chn L p) = true
        · rw [if_pos h3] at h; cases h
        · rw [if_neg h3] at h
          by_cases h4 : 5 < ((chn L p).length : Int) + heightT L n
          · rw [if_pos h4] at h; cases h
          · exact g.move (by simpa only [Bool.not_eq_false] using h1) (by simpa only [Bool.not_eq_false] using h2) (by simpa only [Bool.not_eq_true] using h3) (by omega)
  · rw [if_neg h]; exact g
theorem drpTn_good {L : List Tn} (g : GoodT L) (n : ByteArray) : GoodT (drpTn L n) := by
  unfold drpTn
  by_cases h : drpRes L n = 0
  · rw [if_pos h]
    unfold drpRes at h
    by_cases h1 : (findN L n).isSome = false
    · rw [if_pos h1] at h; cases h
    · rw [if_neg h1] at h
      by_cases h2 : 1 < (underL L n).length
      · rw [if_pos h2] at h; cases h
      · exact g.drop (by simpa only [Bool.not_eq_false] using h1) (by omega)
  · rw [if_neg h]; exact g
theorem t_add2 (t b : Nat) (D : DataW Value) (L : List Tn) (w : World) (n p : ByteArray) (hT : TreeB w t b D L) (hg : GoodT L) (hn : n.size ≤ maxLen) (hp : p.size ≤ maxLen) :
    Calls Tryz.prog 30 #[.pointer (some ⟨t, 0, none⟩), .string n, .string p] w fun e w' => e = .returned (.int .i64 (addRes L n p (chn L p))) ∧ Only b w w' ∧ ∃ D', TreeB w' t b D' (addTn2 L n p) := by
  refine (t_add t b D L w n p (chn L p) (hg.chain p).1 hT (fun y hy => by have := hg.par y hy; unfold maxLen; omega) hn hp (by have := (hg.chain p).2; omega) (by have := hg.few; omega)).mono ?_
  rintro e w' ⟨he, ho, D', hT'⟩
  refine ⟨he, ho, D', ?_⟩
  unfold addTn2
  unfold addTn at hT'
  by_cases h : addRes L n p (chn L p) = 0
  · rw [if_pos h] at hT' ⊢
    obtain ⟨_, h2, _⟩ := addRes_zero h
    exact hT'.resort (fun c => by rw [insT_find hg.srt h2, findN_cons]) (by rw [insT_len]; rfl) (insT_srt (n, p) L hg.srt h2).apart
  · rw [if_neg h] at hT' ⊢
    exact hT'
end
end Go.Proofs.YtdhpoaecedpbdaaGreat
namespace Go.Proofs.YtdhpoaecedpbdaaGreat
section
open Go.RowKit Go.Maps

theorem lit_texts (w : World) (cs : Array Value) (ss : List ByteArray) (g : Nat) (hg : g = w.heap.size) (h : cs.toList = ss.map Value.string) : TxsAt (w.alloc (.cells cs 9)) (some ⟨g, 0, none⟩) ss := by
  subst hg
  intro i z hi
  have ha : (⟨w.heap.size, 0, none⟩ : Addr).add i = ⟨w.heap.size, i, none⟩ := by unfold Addr.add; split <;> simp_all
  refine ⟨_, rfl, ?_⟩
  rw [ha, new_cellT, ← Array.getElem?_toList, h, List.getElem?_map, hi]
  rfl
def nmA9 : ByteArray := ⟨#[97]⟩
def nmB9 : ByteArray := ⟨#[98]⟩
def k9a : List Tn := [(nmA9, ⟨#[]⟩)]
def k9b : List Tn := [(nmA9, ⟨#[]⟩), (nmB9, nmA9)]
theorem k9_1 : addTn2 [] nmA9 ⟨#[]⟩ = k9a := by decide +kernel
theorem k9_2 : addTn2 k9a nmB9 nmA9 = k9b := by decide +kernel
theorem k9_3 : addRes [] nmA9 ⟨#[]⟩ (chn [] ⟨#[]⟩) = 0 := by decide +kernel
theorem k9_4 : addRes k9a nmB9 nmA9 (chn k9a nmA9) = 0 := by decide +kernel
theorem k9_5 : movRes k9b nmA9 nmB9 = 13 := by decide +kernel
theorem k9_6 : chn k9b nmB9 = [nmB9, nmA9] := by decide +kernel
theorem k9_7 : underL k9b nmA9 = [nmA9, nmB9] := by decide +kernel
theorem k9_8 : movTn k9b nmA9 nmB9 = k9b := by unfold movTn; rw [k9_5]; rfl
theorem k9_s : nmA9.size ≤ maxLen ∧ nmB9.size ≤ maxLen ∧ (⟨#[]⟩ : ByteArray).size ≤ maxLen := by decide +kernel
end
end Go.Proofs.YtdhpoaecedpbdaaGreat
namespace Go.Proofs.YtdhpoaecedpbdaaGreat
section
open Go.RowKit Go.Maps

/-- The document's tree at block r, its list at v. -/
def RefB (w : World) (q r : Nat) (v : Value) (L : List Tn) : Prop := w.heap[r]? = some (.cells #[v] 80 (0, 0)) ∧ OwnN w q v L
theorem RefB.lt {w : World} {q r : Nat} {v : Value} {L : List Tn} (h : RefB w q r v L) : r < w.heap.size := (Array.getElem?_eq_some_iff.1 h.1).1
theorem RefB.below {w w' : World} {q r : Nat} {v : Value} {L : List Tn} (h : RefB w q r v L) (hb : Below w.heap.size w w') : RefB w' q r v L := ⟨(hb.block r h.lt).trans h.1, h.2.below hb (Nat.le_refl _)⟩
/-- The place of the first one of that name. -/
def posT (L : List Tn) (n : ByteArray) : Nat := L.findIdx fun x => decide (x.1 = n)
def findR (L : List Tn) (n : ByteArray) : Int := if (findN L n).isSome = true then (posT L n : Int) else -1
theorem posT_at {L : List Tn} {n : ByteArray} {x : Tn} (h : findN L n = some x) : L[posT L n]? = some x ∧ posT L n < L.length := by
  have hlt : posT L n < L.length := by
    unfold posT
    rw [List.findIdx_lt_length]
    obtain ⟨h1, h2⟩ := findN_some h
    exact ⟨x, h1, by simpa using h2⟩
  refine ⟨?_, hlt⟩
  unfold findN at h
  rw [List.find?_eq_getElem?_findIdx] at h
  exact h
theorem pos_step (L : List Tn) (n : ByteArray) (k : Nat) (x : Tn) (hx : L[k]? = some x) : findR (L.drop k) n = if (x.1.toList == n.toList) = true then 0 else if findR (L.drop (k + 1)) n = -1 then -1 else findR (L.drop (k + 1)) n + 1 := by
  have hlt := (List.getElem?_eq_some_iff.1 hx).1
  have hd : L.drop k = x :: L.drop (k + 1) := by
    rw [List.drop_eq_getElem_cons hlt]
    rw [List.getElem?_eq_getElem hlt] at hx
    injection hx with hx
    rw [hx]
  rw [hd]
  obtain ⟨a, q⟩ := x
  unfold findR posT
  rw [findN_cons, List.findIdx_cons]
  by_cases h : a = n
  · subst h
    simp
  · have h1 : ¬ ((a.toList == n.toList) = true) := fun e => h (toList_eqT.1 e)
    have hnn : (if n = a then some (a, q) else findN (L.drop (k + 1)) n) = findN (L.drop (k + 1)) n := if_neg (fun e => h e.symm)
    rw [hnn, if_neg h1]
    by_cases hs : (findN (L.drop (k + 1)) n).isSome = true
    · rw [if_pos hs, if_pos hs, if_neg (by omega)]
      simp [h]
    · rw [if_neg hs, if_neg hs, if_pos rfl]

set_option maxRecDepth 100000 in
set_option maxHeartbeats 2000000 in
theorem r_findT (q r : Nat) (v : Value) (L : List Tn) (n : ByteArray) (w : World) (hR : RefB w q r v L) (hl : L.length ≤ 1000) :
    Calls Tryz.prog 71 #[.pointer (some ⟨r, 0, none⟩), .string n] w fun e w' => e = .returned (.int .i64 (findR L n)) ∧ Below w.heap.size w w' := by
  obtain ⟨A, c, rfl, _, _, hat, hag⟩ := hR.2.slice
  have hrl := hR.lt
  have C0 := Lib.hid (cell_rowT w r _ _ hR.1)
  have HAT := Lib.hid hat
  have HAG := Lib.hid hag
  clear hR hat hag
  go_enter Tryz.func71, Tryz.ntmps71
  go_wp2
  go_loopw [5] (fun i wr => ∃ k : Nat, k ≤ L.length ∧ i = .int .i64 k ∧ Hid (findR L n = if findR (L.drop k) n = -1 then -1 else findR (L.drop k) n + k) ∧ Below w.heap.size w wr) (fun i _ => L.length - (intOf i).toNat)
  case atStart => exact ⟨0, Nat.zero_le _, rfl, Lib.hid (by rw [List.drop_zero]; by_cases h : findR L n = -1 <;> simp [h]), Below.refl _ _⟩
  case round =>
    obtain ⟨k, hk, rfl, HF, hb⟩ := hrel
    have HB := Lib.hid hb
    have hat := HAT.out.below hb
    have c0 := (hb.cell (p := ⟨r, 0, none⟩) hrl).trans C0.out
    clear hb
    by_cases hlt : k < L.length
    · obtain ⟨g, rfl⟩ := hat.head HAG.out (by omega)
      obtain ⟨⟨x1, x2⟩, hx⟩ : ∃ x, L[k]? = some x := ⟨_, List.getElem?_eq_getElem hlt⟩
      obtain ⟨c1, c2⟩ := hat.at k _ hx
      have hs := pos_step L n k _ hx
      clear hat hx
      simp only at c1 c2 hs
      rcases Bool.eq_false_or_eq_true (x1.toList == n.toList) with he | he
      · rw [if_pos he] at hs
        have HFF : Hid (findR L n = k) := Lib.hid (by rw [HF.out, hs]; simp)
        clear hs
        go_wp2
        go_ret
        exact ⟨by rw [HFF.out]; rfl, HB.out⟩
      · rw [if_neg (by rw [he]; simp)] at hs
        have HFF : Hid (findR L n = if findR (L.drop (k + 1)) n = -1 then -1 else findR (L.drop (k + 1)) n + (k + 1 : Nat)) := Lib.hid (by
          rw [HF.out, hs]
          by_cases h : findR (L.drop (k + 1)) n = -1
          · rw [if_pos h, if_pos rfl]; simp [h]
          · rw [if_neg h, if_neg h]
            have : 0 ≤ findR (L.drop (k + 1)) n := by
              unfold findR at h ⊢
              split at h <;> simp_all
            rw [if_neg (by omega)]
            omega)
        clear hs
        go_wp2
        go_roundw
        case rel => exact ⟨k + 1, by omega, by go_num, HFF, HB.out⟩
        case measure => simp [intOf]; omega
    · have hkl : k = L.length := by omega
      subst hkl
      have HFF : Hid (findR L n = -1) := Lib.hid (by rw [HF.out, List.drop_length]; rfl)
      go_wp2
      go_ret
      exact ⟨by rw [HFF.out]; rfl, HB.out⟩
theorem findR_has (L : List Tn) (n : ByteArray) : decide (0 ≤ findR L n) = (findN L n).isSome := by
  unfold findR
  cases h : (findN L n).isSome <;> simp
set_option maxHeartbeats 1000000 in
theorem r_hasT (q r : Nat) (v : Value) (L : List Tn) (n : ByteArray) (w : World) (hR : RefB w q r v L) (hl : L.length ≤ 1000) :
    Calls Tryz.prog 66 #[.pointer (some ⟨r, 0, none⟩), .string n] w fun e w' => e = .returned (.bool (findN L n).isSome) ∧ Below w.heap.size w w' := by
  have HF := Lib.hid (r_findT q r v L n w hR hl)
  rw [← findR_has]
  clear hR
  generalize findR L n = fr at *
  go_enter Tryz.func66, Tryz.ntmps66
  go_wp2_with fail
  refine HF.out.mono ?_
  rintro e w1 ⟨rfl, hb⟩
  go_wp2
  go_ret
  exact ⟨rfl, hb⟩
end
end Go.Proofs.YtdhpoaecedpbdaaGreat
namespace Go.Proofs.YtdhpoaecedpbdaaGreat
section
open Go.RowKit

/-- An act: its kind, a name, the name of a parent. -/
structure Ta where
  k : Int
  n : ByteArray
  p : ByteArray
instance : Inhabited Ta := ⟨⟨0, ⟨#[]⟩, ⟨#[]⟩⟩⟩
def TaAt (w : World) (q : Addr) (x : Ta) : Prop :=
  w.cell? q = some (.int .i64 x.k) ∧ w.cell? { block := q.block, off := q.off + 1 } = some (.string x.n) ∧ w.cell? { block := q.block, off := q.off + 2 } = some (.string x.p)
/-- Acts lie at A. -/
def TasAt (w : World) (A : Option Addr) (xs : List Ta) : Prop :=
  ∀ (i : Nat) (x : Ta), xs[i]? = some x → ∃ a : Addr, A = some a ∧ (a.add (i * 3)).block < w.heap.size ∧ TaAt w (a.add (i * 3)) x
theorem TasAt.below {w w' : World} {A : Option Addr} {xs : List Ta} (h : TasAt w A xs) (hb : Below w.heap.size w w') : TasAt w' A xs := by
  intro i x hx
  obtain ⟨a, ha, hl, h0, h1, h2⟩ := h i x hx
  exact ⟨a, ha, Nat.lt_of_lt_of_le hl hb.size, (hb.cell (p := a.add (i * 3)) hl).trans h0, (hb.cell (p := { block := (a.add (i * 3)).block, off := (a.add (i * 3)).off + 1 }) hl).trans h1, (hb.cell (p := { block := (a.add (i * 3)).block, off := (a.add (i * 3)).off + 2 }) hl).trans h2⟩
end
end Go.Proofs.YtdhpoaecedpbdaaGreat
