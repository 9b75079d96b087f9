/-
  The net of changes, the program's and the document's; what a Once that is not there answers; a Once's rows, and how often one came; which changes are few.
  No condition but that lists are no longer than fits.
-/
import Derived.Test.YtpliofhphijdkaaPka
import Derived.Test.YtpliofhphijdkaaAlike
namespace Go.Proofs.Ytpliofhphijdkaa
open Go.RowKit

theorem bag_imp {w : World} {Q Q' : Nat → Prop} {g : Nat} {l : List En} (h : BagL w Q g l) (hq : ∀ k, k < w.heap.size → Q k → Q' k) : BagL w Q' g l := by
  obtain ⟨h0, p, t, h1, h2, h3⟩ := h
  exact ⟨h0, p, t, h1, h2, h3.imp hq⟩
/-- v is the net of changes, in memory of the call's own, and k why there is none. -/
def NetIs (w : World) (es : List En) (e : Ending) (w' : World) : Prop :=
  ∃ L c, e = .returned (.tuple #[.slice L (netP es).length c, .int .i64 (ofL es).2]) ∧ (L = none → c = 0) ∧ EntsQ w' (fun k => w.heap.size ≤ k) L (netP es) ∧ Below w.heap.size w w'
theorem ents_none (w : World) (Q : Nat → Prop) : EntsQ w Q none [] := ⟨[], trivial, fun j u hj => by simp [flatE] at hj⟩

set_option maxHeartbeats 1000000 in
theorem p_net (R : Nat → Prop) (A : Option Addr) (n c : Nat) (es : List En) (w : World) (hn : es.length = n) (hl : n ≤ 600000) (hE : EntsQ w R A es) (hm : ∀ (i : Nat) (e : En), es[i]? = some e → -9223372036854775808 ≤ e.2 ∧ e.2 ≤ 9223372036854775807) :
    Calls Try.prog 10 #[.slice A n c] w (NetIs w es) := by
  have HOF := Lib.hid (b_of R A n c es w hn hl hE hm)
  have HLEN := Lib.hid (show (ofL es).1.length ≤ n from by rw [← hn]; exact of_len es)
  clear hE hm hn
  go_enter Try.func10, Try.ntmps10
  go_wp2_with fail
  refine HOF.out.mono ?_
  rintro e w1 ⟨hb, ⟨h0, rfl, hbag⟩ | ⟨h0, rfl⟩⟩
  · have HP := Lib.hid (show netP es = (ofL es).1 from if_pos h0)
    have HB := Lib.hid hb
    have HBG := Lib.hid hbag
    have H0 := Lib.hid h0
    clear hb hbag h0
    go_wp2_with fail
    refine (b_rows (fun k => w.heap.size ≤ k) _ (ofL es).1 w1 (fun k hk => by have := HB.out.size; show w.heap.size ≤ k; omega) (Or.inr ⟨_, rfl, bag_imp HBG.out (fun k _ h => Nat.le_of_lt h)⟩) (by have := HLEN.out; omega)).mono ?_
    rintro e w2 ⟨L, c', rfl, hL, hE, hb2⟩
    have HL := Lib.hid hL
    have HE := Lib.hid hE
    have HB2 := Lib.hid hb2
    clear hL hE hb2
    go_wp2
    go_ret2
    refine ⟨L, c', ?_, HL.out, by rw [HP.out]; exact HE.out, HB.out.trans (HB2.out.mono HB.out.size)⟩
    rw [HP.out, H0.out]
    exact rfl
  · have HP := Lib.hid (show netP es = [] from if_neg h0)
    have HB := Lib.hid hb
    have hne : ((ofL es).2 != 0) = true := by simp [h0]
    clear hb h0
    go_wp2
    go_ret2
    refine ⟨none, 0, ?_, fun _ => rfl, by rw [HP.out]; exact ents_none _ _, HB.out⟩
    rw [HP.out]
    exact rfl

set_option maxHeartbeats 1000000 in
theorem r_net (R : Nat → Prop) (A : Option Addr) (n c : Nat) (es : List En) (w : World) (hn : es.length = n) (hl : n ≤ 600000) (hE : EntsQ w R A es) (hm : ∀ (i : Nat) (e : En), es[i]? = some e → -9223372036854775808 ≤ e.2 ∧ e.2 ≤ 9223372036854775807) :
    Calls Try.prog 11 #[.slice A n c] w (NetIs w es) := by
  have HOF := Lib.hid (r_of R A n c es w hn hl hE hm)
  clear hE hm hn
  go_enter Try.func11, Try.ntmps11
  go_wp2_with fail
  refine HOF.out.mono ?_
  rintro e w1 ⟨hb, ⟨h0, rfl, hbag⟩ | ⟨h0, rfl⟩⟩
  · have HP := Lib.hid (show netP es = (ofL es).1 from if_pos h0)
    obtain ⟨_, _, L, c', hL, _, hbox, hE⟩ := hbag
    have cb := hbox.cell
    have HB := Lib.hid hb
    have HL := Lib.hid hL
    have HE := Lib.hid hE
    have H0 := Lib.hid h0
    clear hb h0 hL hE hbox
    go_wp2
    go_ret2
    refine ⟨L, c', ?_, HL.out, by rw [HP.out]; exact HE.out.imp (fun k _ h => Nat.le_of_lt h), HB.out⟩
    rw [HP.out, H0.out]
    exact rfl
  · have HP := Lib.hid (show netP es = [] from if_neg h0)
    have HB := Lib.hid hb
    have hne : ((ofL es).2 != 0) = true := by simp [h0]
    clear hb h0
    go_wp2
    go_ret2
    refine ⟨none, 0, ?_, fun _ => rfl, by rw [HP.out]; exact ents_none _ _, HB.out⟩
    rw [HP.out]
    exact rfl

/-! ### a Once -/
set_option maxHeartbeats 400000 in
theorem o_new20 (w : World) : Calls Try.prog 15 #[] w fun e w' => e = .returned (.pointer (some ⟨w.heap.size, 0, none⟩)) ∧ w' = w.alloc (.cells #[.pointer none] 69) := by
  go_enter Try.func15, Try.ntmps15
  go_wp2
  go_ret
  exact ⟨rfl, rfl⟩
theorem once_new (Q : Nat → Prop) (w : World) : BagL (w.alloc (.cells #[.pointer none] 69)) Q w.heap.size [] :=
  ⟨Good.nil, none, .nil, rfl, BoxA.new w _ _, rfl⟩

set_option maxHeartbeats 400000 in
theorem o_nil_apply (A : Option Addr) (n c : Nat) (w : World) : Calls Try.prog 16 #[.pointer none, .slice A n c] w fun e w' => e = .returned (.tuple #[.slice none 0 0, .int .i64 1]) ∧ w = w' := by
  go_enter Try.func16, Try.ntmps16
  go_wp2
  go_ret2
  exact ⟨rfl, rfl⟩
set_option maxHeartbeats 400000 in
theorem o_nil_rows (w : World) : Calls Try.prog 18 #[.pointer none] w fun e w' => e = .returned (.slice none 0 0) ∧ w = w' := by
  go_enter Try.func18, Try.ntmps18
  go_wp2
  go_ret
  exact ⟨rfl, rfl⟩
set_option maxHeartbeats 400000 in
theorem o_nil_many (A : Option Addr) (n c : Nat) (w : World) : Calls Try.prog 19 #[.pointer none, .slice A n c] w fun e w' => e = .returned (.int .i64 0) ∧ w = w' := by
  go_enter Try.func19, Try.ntmps19
  go_wp2
  go_ret
  exact ⟨rfl, rfl⟩

/-- The entries from place k on as they were, those ahead with the number 1. -/
def onesAt (k : Nat) (l : List RE) : List RE := (l.take k).map (fun e => (e.1, 1)) ++ l.drop k
theorem onesAt_len (k : Nat) (l : List RE) : (onesAt k l).length = l.length := by
  unfold onesAt
  rw [List.length_append, List.length_map, ← List.length_append, List.take_append_drop]
theorem onesAt_next (k : Nat) (l : List RE) (e : RE) (he : l[k]? = some e) : (flatE (onesAt k l)).set (k * 2 + 1) (.int .i64 1) = flatE (onesAt (k + 1) l) := by
  obtain ⟨h1, h2⟩ := List.getElem?_eq_some_iff.1 he
  unfold onesAt
  rw [flatE_append, flatE_append, List.drop_eq_getElem_cons h1, h2, flatE_cons, List.take_add_one, he, List.map_append, flatE_append]
  have hl : (flatE ((l.take k).map fun e => (e.1, (1 : Int)))).length = k * 2 := by
    rw [flatE_len, List.length_map, List.length_take, Nat.min_eq_left (by omega)]
  rw [List.set_append_right _ _ (by omega), hl, show k * 2 + 1 - k * 2 = 1 from by omega]
  simp [flatE]
theorem onesAt_en {w : World} {Q : Nat → Prop} : ∀ {ls : List RE} {l : List En}, EnR w Q ls l → EnR w Q (ls.map fun e => (e.1, (1 : Int))) (onceOf l)
  | [], [], _ => trivial
  | _ :: _, _ :: _, h => ⟨rfl, h.2.1, onesAt_en h.2.2⟩

set_option maxRecDepth 100000 in
set_option maxHeartbeats 1000000 in
theorem o_rows20 (Q : Nat → Prop) (g : Nat) (l : List En) (w : World) (hQ : ∀ k, w.heap.size ≤ k → Q k) (hb : BagL w Q g l) (hlen : l.length ≤ 700000) :
    Calls Try.prog 18 #[.pointer (some ⟨g, 0, none⟩)] w fun e w' => ∃ L c, e = .returned (.slice L l.length c) ∧ (L = none → c = 0) ∧ EntsQ w' Q L (onceOf l) ∧ Below w.heap.size w w' := by
  have HR := Lib.hid (b_rows2 Q (some ⟨g, 0, none⟩) l w hQ (Or.inr ⟨g, rfl, hb⟩) hlen)
  have HQ := Lib.hid hQ
  clear hb hQ
  go_enter Try.func18, Try.ntmps18
  go_wp2_with fail
  refine HR.out.mono ?_
  rintro e w1 ⟨L, c, ls, rfl, hown, hen, hb⟩
  have hl1 := hen.len
  have HB := Lib.hid hb
  have HEN := Lib.hid hen
  have HL1 := Lib.hid hl1
  have H0 : Hid (OwnE w1 w.heap.size (.slice L l.length c) (onesAt 0 ls)) := Lib.hid (by simpa [onesAt] using hown)
  clear hown hen hb hl1
  go_wp2
  go_loopw [13] (fun i wr => ∃ k : Nat, k ≤ l.length ∧ i = .int .i64 k ∧ OwnE wr w.heap.size (.slice L l.length c) (onesAt k ls) ∧ Below w.heap.size w1 wr ∧ (∀ j, some j ≠ (Value.slice L l.length c).ownBlock → wr.heap[j]? = w1.heap[j]?)) (fun i _ => l.length - (intOf i).toNat)
  case atStart => exact ⟨0, Nat.zero_le _, rfl, H0.out, Below.refl _ _, fun _ _ => rfl⟩
  case round =>
    obtain ⟨k, hk, rfl, hown, hb, hsame⟩ := hrel
    by_cases hkn : k < l.length
    · obtain ⟨e, he⟩ : ∃ e, ls[k]? = some e := ⟨_, List.getElem?_eq_getElem (by rw [HL1.out]; exact hkn)⟩
      have hown' : wr.ownsRow w.heap.size 46 2 (.slice L l.length c) l.length (flatE (onesAt k ls)) := by
        have h := hown
        unfold OwnE at h
        rw [onesAt_len, HL1.out] at h
        exact h
      obtain ⟨g2, cap, hv⟩ : ∃ g cap, Value.slice L l.length c = .slice (some ⟨g, 0, none⟩) l.length cap := by
        rcases hown'.2 with ⟨_, h0⟩ | ⟨g, cap, _, hv, _⟩
        · omega
        · exact ⟨g, cap, hv⟩
      injection hv with e1 _ e3
      subst e1
      subst e3
      have f1 : wr.frozen? ⟨g2, k * 2 + 1, none⟩ = false := hown'.frozenAt _
      have c1 := hown'.cellAt (k * 2 + 1) (by omega)
      obtain ⟨hs, hgr⟩ := hown'.stored (k * 2 + 1) (.int .i64 1)
      rw [onesAt_next k ls e he] at hs
      have hat : (onesAt k ls)[k]? = some e := by
        unfold onesAt
        have hkl := (List.getElem?_eq_some_iff.1 he).1
        rw [List.getElem?_append_right (by rw [List.length_map, List.length_take]; omega), List.length_map, List.length_take, Nat.min_eq_left (by omega), Nat.sub_self, List.getElem?_drop, Nat.add_zero]
        exact he
      rw [(flatE_at (onesAt k ls) k e hat).2] at c1
      have hg2 : w.heap.size ≤ g2 := (hown.base_le g2 rfl)
      have HS := Lib.hid hs
      have HSB := Lib.hid hb
      have HSM := Lib.hid hsame
      clear hs hgr hown hown' hb hsame he
      go_wp2
      go_roundw
      case rel =>
        refine ⟨k + 1, by omega, by go_num, ?_, HSB.out.setCell (p := ⟨g2, k * 2 + 1, none⟩) hg2 _, fun j hj => ?_⟩
        · unfold OwnE
          rw [onesAt_len, HL1.out]
          exact HS.out
        · rw [heap_setCell_other wr ⟨g2, k * 2 + 1, none⟩ j _ (fun e => hj (by rw [e]; rfl))]
          exact HSM.out j hj
      case measure => simp [intOf]; omega
    · obtain rfl : k = l.length := by omega
      have HO := Lib.hid hown
      have HSB := Lib.hid hb
      have HSM := Lib.hid hsame
      clear hown hb hsame
      go_wp2
      go_ret
      have hbel : Below w.heap.size w wr := HB.out.trans HSB.out
      have hones : onesAt l.length ls = ls.map fun e => (e.1, (1 : Int)) := by
        unfold onesAt
        rw [List.take_of_length_le (by rw [HL1.out]; exact Nat.le_refl _), List.drop_of_length_le (by rw [HL1.out]; exact Nat.le_refl _), List.append_nil]
      have hown := HO.out
      rw [hones] at hown
      obtain ⟨A, c', hv, hA, _, hc⟩ := hown.slice Q HQ.out
      injection hv with h1 h2 h3
      subst h1
      subst h3
      refine ⟨_, _, rfl, hA, ⟨_, onesAt_en ((HEN.out.keep ?_).imp (fun k _ h => h.1)), hc⟩, hbel⟩
      exact fun j hj _ => HSM.out j hj.2

def fewW20 (es : List WE) : Bool := decide (es.length ≤ 60) && es.all fun e => decide (e.row.length ≤ 50)
theorem fewW20_iff (es : List WE) : fewW20 es = true ↔ es.length ≤ 60 ∧ ∀ e ∈ es, e.row.length ≤ 50 := by
  simp [fewW20]
set_option maxRecDepth 100000 in
set_option maxHeartbeats 1000000 in
theorem l_few20 (A : Option Addr) (es : List WE) (n c : Nat) (w : World) (hn : es.length = n) (hl : n ≤ 9223372036854775807) (hA : WeakE w A es) :
    Calls Try.prog 6 #[.slice A n c] w fun e w' => e = .returned (.bool (fewW20 es)) ∧ w = w' := by
  have HA := Lib.hid hA
  have HN := Lib.hid hn
  by_cases h120 : n ≤ 60
  · have hf : fewW20 es = es.all fun e => decide (e.row.length ≤ 50) := by simp [fewW20, hn, h120]
    have HF := Lib.hid hf
    have HE : Hid ((es.all fun e => decide (e.row.length ≤ 50)) = ((es.drop 0).all fun e => decide (e.row.length ≤ 50))) := Lib.hid rfl
    clear hA hn hf
    go_enter Try.func6, Try.ntmps6
    go_wp2
    go_loopw [3] (fun i wr => ∃ k : Nat, k ≤ n ∧ i = .int .i64 k ∧ Hid ((es.all fun e => decide (e.row.length ≤ 50)) = ((es.drop k).all fun e => decide (e.row.length ≤ 50))) ∧ wr = w) (fun i _ => n - (intOf i).toNat)
    case atStart => exact ⟨0, Nat.zero_le _, rfl, HE, rfl⟩
    case round =>
      obtain ⟨k, hk, rfl, HC, rfl⟩ := hrel
      by_cases hkn : k < n
      · obtain ⟨x, hx⟩ : ∃ e, es[k]? = some e := ⟨_, List.getElem?_eq_getElem (by rw [HN.out]; exact hkn)⟩
        obtain ⟨hok, a, rfl, hblt, c0, c1⟩ := HA.out k x hx
        have hxl := hok.1
        unfold maxLen at hxl
        unfold WE.v at c0
        have hst : ((es.drop k).all fun e => decide (e.row.length ≤ 50)) = (decide (x.row.length ≤ 50) && ((es.drop (k + 1)).all fun e => decide (e.row.length ≤ 50))) := by
          obtain ⟨h1, h2⟩ := List.getElem?_eq_some_iff.1 hx
          rw [List.drop_eq_getElem_cons h1, h2, List.all_cons]
        have HST := Lib.hid hst
        clear hst hx hok
        by_cases h50 : x.row.length ≤ 50
        · go_wp2
          go_roundw
          case rel =>
            refine ⟨k + 1, by omega, by go_num, Lib.hid ?_, trivial⟩
            rw [HC.out, HST.out, decide_eq_true h50, Bool.true_and]
          case measure => simp [intOf]; omega
        · go_wp2
          go_ret
          refine ⟨ret_bool ?_, rfl⟩
          rw [HF.out, HC.out, HST.out, decide_eq_false h50, Bool.false_and]
      · obtain rfl : k = n := by omega
        go_wp2
        go_ret
        refine ⟨ret_bool ?_, rfl⟩
        rw [HF.out, HC.out, List.drop_of_length_le (by rw [HN.out]; exact Nat.le_refl _)]
        rfl
  · have hf : fewW20 es = false := by simp [fewW20, hn, h120]
    clear hA hn
    go_enter Try.func6, Try.ntmps6
    go_wp2
    go_ret
    exact ⟨ret_bool hf.symm, rfl⟩
end Go.Proofs.Ytpliofhphijdkaa
