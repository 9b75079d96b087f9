/-
  Of entries, each added in turn, up to the first that is refused: the program's Of and the document's.
  No condition but the list's length.
-/
import Derived.Test.YtpliofhphijdkaaEopen
import Derived.Test.YtpliofhphijdkaaBrows
import Derived.Test.YtpliofhphijdkaaBknown
namespace Go.Proofs.Ytpliofhphijdkaa
open Go.RowKit

def ofStep (s : List En × Int) (e : En) : List En × Int := if s.2 = 0 then addL e.1 e.2 s.1 else s
def ofL (es : List En) : List En × Int := es.foldl ofStep ([], 0)
theorem of_fold_err : ∀ (o : List En) (s : List En × Int), ¬ s.2 = 0 → o.foldl ofStep s = s
  | [], _, _ => rfl
  | e :: o, s, h => by rw [List.foldl_cons, show ofStep s e = s from if_neg h, of_fold_err o s h]
theorem ofL_next (es : List En) (k : Nat) (e : En) (he : es[k]? = some e) : ofL (es.take (k + 1)) = ofStep (ofL (es.take k)) e := by
  obtain ⟨h1, h2⟩ := List.getElem?_eq_some_iff.1 he
  unfold ofL
  rw [List.take_add_one, he, List.foldl_append]
  rfl
theorem ofL_stop (es : List En) (k : Nat) (h : ¬ (ofL (es.take k)).2 = 0) : ofL es = ofL (es.take k) := by
  unfold ofL at h ⊢
  conv => lhs; rw [← List.take_append_drop k es, List.foldl_append]
  exact of_fold_err _ _ h

/-- What a call of Of answers. -/
def OfIs (w : World) (r : List En × Int) (e : Ending) (w' : World) : Prop :=
  Below w.heap.size w w' ∧ ((r.2 = 0 ∧ e = .returned (.tuple #[.pointer (some ⟨w.heap.size, 0, none⟩), .int .i64 0]) ∧ BagL w' (fun k => w.heap.size < k) w.heap.size r.1) ∨ (¬ r.2 = 0 ∧ e = .returned (.tuple #[.pointer none, .int .i64 r.2])))
def ROfIs (w : World) (r : List En × Int) (e : Ending) (w' : World) : Prop :=
  Below w.heap.size w w' ∧ ((r.2 = 0 ∧ e = .returned (.tuple #[.pointer (some ⟨w.heap.size, 0, none⟩), .int .i64 0]) ∧ RefL w' (fun k => w.heap.size < k) w.heap.size r.1) ∨ (¬ r.2 = 0 ∧ e = .returned (.tuple #[.pointer none, .int .i64 r.2])))
/-- How far Of has come. -/
structure OfAt (w wr : World) (r : List En × Int) (k : Nat) : Prop where
  ok : r.2 = 0
  len : r.1.length ≤ k
  below : Below w.heap.size w wr
  size : w.heap.size < wr.heap.size
  bag : BagL wr (fun k => w.heap.size < k) w.heap.size r.1
structure ROfAt (w wr : World) (r : List En × Int) (k : Nat) : Prop where
  ok : r.2 = 0
  len : r.1.length ≤ k
  below : Below w.heap.size w wr
  size : w.heap.size < wr.heap.size
  bag : RefL wr (fun k => w.heap.size < k) w.heap.size r.1

theorem of_step {r : List En × Int} (h : r.2 = 0) (e : En) : ofStep r e = addL e.1 e.2 r.1 := if_pos h
theorem nlt (s : Nat) : ¬ (fun k => s < k) s := Nat.lt_irrefl s

set_option maxRecDepth 100000 in
set_option maxHeartbeats 1000000 in
theorem b_of (R : Nat → Prop) (A : Option Addr) (n c : Nat) (es : List En) (w : World) (hn : es.length = n) (hl : n ≤ 600000) (hE : EntsQ w R A es) (hm : ∀ (i : Nat) (e : En), es[i]? = some e → -9223372036854775808 ≤ e.2 ∧ e.2 ≤ 9223372036854775807) :
    Calls Try.prog 22 #[.slice A n c] w (OfIs w (ofL es)) := by
  have HE := Lib.hid hE
  have HM := Lib.hid hm
  have HN := Lib.hid hn
  have H0 : Hid (OfAt w (w.alloc (.cells #[.pointer none] 67)) (ofL (es.take 0)) 0) := Lib.hid ⟨rfl, Nat.le_refl _, one_new _ _, by simp, bag_new _ w⟩
  clear hE hm hn
  go_enter Try.func22, Try.ntmps22
  go_wp2_with fail
  refine (b_new _).mono ?_
  rintro e w1 ⟨rfl, rfl⟩
  go_wp2
  go_loopw [11] (fun i wr => ∃ k : Nat, k ≤ n ∧ i = .int .i64 k ∧ OfAt w wr (ofL (es.take k)) k) (fun i _ => n - (intOf i).toNat)
  case atStart => exact ⟨0, Nat.zero_le _, rfl, H0.out⟩
  case round =>
    obtain ⟨k, hk, rfl, hof⟩ := hrel
    by_cases hkn : k < n
    · obtain ⟨e, he⟩ : ∃ e, es[k]? = some e := ⟨_, List.getElem?_eq_getElem (by rw [HN.out]; exact hkn)⟩
      obtain ⟨a, rv, rfl, hrow, hblt, c0, c1⟩ := (HE.out.below hof.below).get k e he
      have hmany := HM.out k e he
      have HROW := Lib.hid hrow
      have hnx := ofL_next es k e he
      rw [of_step hof.ok] at hnx
      have HNX := Lib.hid hnx
      have HOF := Lib.hid hof
      have hsz := hof.size
      obtain ⟨_, A', c', rfl, _, _⟩ := hrow
      clear he hnx hof
      have hnew := one_new wr (.cells #[.slice A' e.1.length c', .int .i64 e.2] 46)
      have HNEW := Lib.hid hnew
      have HBG := Lib.hid (HOF.out.bag.below hnew)
      have HRW := Lib.hid (HROW.out.below hnew)
      clear hnew
      go_wp2_with fail
      refine (b_add R _ e.1 e.2 (fun k => w.heap.size < k) w.heap.size _ _ hmany (fun j hj => by simp at hj; show w.heap.size < j; omega) (nlt _) HRW.out HBG.out (by have := HOF.out.len; omega)).mono ?_
      rintro x w2 ⟨rfl, hB, ho⟩
      have hlen := addL_len e.1 e.2 (ofL (es.take k)).1
      have hl1 := HOF.out.len
      rw [← HNX.out] at hB hlen ⊢
      have hbel : Below w.heap.size w w2 := (HOF.out.below.trans (HNEW.out.mono (by omega))).trans ho.1
      have hs2 : w.heap.size < w2.heap.size := by
        have := ho.1.size
        simp at this
        omega
      have HBE := Lib.hid hbel
      have HBL := Lib.hid hB
      clear hbel hB ho
      have HST := Lib.hid (ofL_stop es (k + 1))
      obtain ⟨r, hr⟩ : ∃ r, ofL (es.take (k + 1)) = r := ⟨_, rfl⟩
      have HR := Lib.hid hr
      rw [hr] at HST HBL hlen ⊢
      clear hr
      have HLEN : Hid (r.1.length ≤ k + 1) := Lib.hid (by omega)
      clear hlen
      by_cases hz : r.2 = 0
      · rw [hz]
        have HZ := Lib.hid hz
        clear hz
        go_wp2
        go_roundw
        case rel => exact ⟨k + 1, by omega, by go_num, by rw [HR.out]; exact ⟨HZ.out, HLEN.out, HBE.out, hs2, HBL.out⟩⟩
        case measure => simp [intOf]; omega
      · have HZ := Lib.hid hz
        have hne : (r.2 != 0) = true := by simp [hz]
        have hst := HST.out hz
        have HST2 := Lib.hid hst
        clear hz hst
        go_wp2
        go_ret2
        refine ⟨HBE.out, Or.inr ⟨?_, ?_⟩⟩
        · rw [HST2.out]
          exact HZ.out
        · rw [HST2.out]
          exact rfl
    · obtain rfl : k = n := by omega
      have HOF := Lib.hid hof
      have hes : es.take k = es := List.take_of_length_le (by rw [HN.out]; exact Nat.le_refl _)
      have HES := Lib.hid hes
      clear hof hes
      go_wp2
      go_ret2
      have h := HOF.out
      rw [HES.out] at h
      exact ⟨h.below, Or.inl ⟨h.ok, rfl, h.bag⟩⟩

theorem new_ref (w : World) : RefL (w.alloc (.cells #[.slice none 0 0] 42)) (fun k => w.heap.size < k) w.heap.size [] :=
  ⟨Good.nil, by simp, none, 0, fun _ => rfl, Nat.le_refl _, Boxed.new w 42 (.slice none 0 0), [], trivial, fun j u hj => by simp [flatE] at hj⟩

set_option maxRecDepth 100000 in
set_option maxHeartbeats 1000000 in
theorem r_of (R : Nat → Prop) (A : Option Addr) (n c : Nat) (es : List En) (w : World) (hn : es.length = n) (hl : n ≤ 600000) (hE : EntsQ w R A es) (hm : ∀ (i : Nat) (e : En), es[i]? = some e → -9223372036854775808 ≤ e.2 ∧ e.2 ≤ 9223372036854775807) :
    Calls Try.prog 24 #[.slice A n c] w (ROfIs w (ofL es)) := by
  have HE := Lib.hid hE
  have HM := Lib.hid hm
  have HN := Lib.hid hn
  have H0 : Hid (ROfAt w (w.alloc (.cells #[.slice none 0 0] 42)) (ofL (es.take 0)) 0) := Lib.hid ⟨rfl, Nat.le_refl _, one_new _ _, by simp, new_ref w⟩
  clear hE hm hn
  go_enter Try.func24, Try.ntmps24
  go_wp2
  go_loopw [5] (fun i wr => ∃ k : Nat, k ≤ n ∧ i = .int .i64 k ∧ ROfAt w wr (ofL (es.take k)) k) (fun i _ => n - (intOf i).toNat)
  case atStart => exact ⟨0, Nat.zero_le _, rfl, H0.out⟩
  case round =>
    obtain ⟨k, hk, rfl, hof⟩ := hrel
    by_cases hkn : k < n
    · obtain ⟨e, he⟩ : ∃ e, es[k]? = some e := ⟨_, List.getElem?_eq_getElem (by rw [HN.out]; exact hkn)⟩
      obtain ⟨a, rv, rfl, hrow, hblt, c0, c1⟩ := HE.out.get k e he
      have cw0 := (hof.below.cell (p := a.add (k * 2)) hblt).trans c0
      have cw1 := (hof.below.cell (p := { block := (a.add (k * 2)).block, off := (a.add (k * 2)).off + 1 }) hblt).trans c1
      have hmany := HM.out k e he
      have HROW := Lib.hid hrow
      have hnx := ofL_next es k e he
      rw [of_step hof.ok] at hnx
      have HNX := Lib.hid hnx
      have HOF := Lib.hid hof
      have hsz := hof.size
      have hl1 := hof.len
      obtain ⟨_, A', c', rfl, _, _⟩ := hrow
      have HC := Lib.hid (r_add R _ e.1 e.2 (fun k => w.heap.size < k) w.heap.size _ wr.drew (fun j hj => by have h2 : wr.heap.size ≤ j := hj; show w.heap.size < j; omega) (nlt _) (HROW.out.below (hof.below.trans (below_drew _ _))) (HOF.out.bag.below (below_drew _ _)) (by omega))
      clear he hnx hof hmany c0 c1
      go_wp2
      go_region_held3 (fun w' => w'.cell? (a.add (k * 2)) = some (.slice A' e.1.length c') ∧ w'.cell? { block := (a.add (k * 2)).block, off := (a.add (k * 2)).off + 1 } = some (.int .i64 e.2)) (go_keep)
        (first
        | (go_at_call 17; refine HC.out.mono ?_; rintro x w2 ⟨rfl, hB, ho⟩; have hk0 := (ho.1.cell (p := a.add (k * 2)) hblt).trans cw0; have hk1 := (ho.1.cell (p := { block := (a.add (k * 2)).block, off := (a.add (k * 2)).off + 1 }) hblt).trans cw1))
      have hlen := addL_len e.1 e.2 (ofL (es.take k)).1
      rw [← HNX.out] at hB hlen ⊢
      have hbel : Below w.heap.size w w2 := (HOF.out.below.trans (below_drew _ _)).trans ho.1
      have hs2 : w.heap.size < w2.heap.size := Nat.lt_of_lt_of_le hsz ho.1.size
      have HBE := Lib.hid hbel
      have HBL := Lib.hid hB
      clear hbel hB ho
      have HST := Lib.hid (ofL_stop es (k + 1))
      obtain ⟨r, hr⟩ : ∃ r, ofL (es.take (k + 1)) = r := ⟨_, rfl⟩
      have HR := Lib.hid hr
      rw [hr] at HST HBL hlen ⊢
      clear hr
      have HLEN : Hid (r.1.length ≤ k + 1) := Lib.hid (by omega)
      clear hlen
      by_cases hz : r.2 = 0
      · rw [hz]
        have HZ := Lib.hid hz
        clear hz
        go_wp2
        go_roundw
        case rel => exact ⟨k + 1, by omega, by go_num, by rw [HR.out]; exact ⟨HZ.out, HLEN.out, HBE.out, hs2, HBL.out⟩⟩
        case measure => simp [intOf]; omega
      · have HZ := Lib.hid hz
        have hne : (r.2 != 0) = true := by simp [hz]
        have hst := HST.out hz
        have HST2 := Lib.hid hst
        clear hz hst
        go_wp2
        go_ret2
        refine ⟨HBE.out, Or.inr ⟨?_, ?_⟩⟩
        · rw [HST2.out]
          exact HZ.out
        · rw [HST2.out]
          exact rfl
    · obtain rfl : k = n := by omega
      have HOF := Lib.hid hof
      have hes : es.take k = es := List.take_of_length_le (by rw [HN.out]; exact Nat.le_refl _)
      have HES := Lib.hid hes
      clear hof hes
      go_wp2
      go_ret2
      have h := HOF.out
      rw [HES.out] at h
      exact ⟨h.below, Or.inl ⟨h.ok, rfl, h.bag⟩⟩
end Go.Proofs.Ytpliofhphijdkaa
