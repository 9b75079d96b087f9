/-
  Whether columns, or kinds, ahead bear a name: slices.ContainsFunc and slices.IndexFunc at the closures of package schema, at every list; nothing that was there is changed.
  No condition but that a list has no more than a million.
-/
import Derived.Test.YtmiagdmfgebfdaaSname
namespace Go.Proofs.Ytmiagdmfgebfdaa
open Go.RowKit

/-- Is there one that hits? -/
def hitIs (b : Bool) (z : Int) : Prop := (z < 0 ∧ b = false) ∨ (0 ≤ z ∧ b = true)

set_option maxHeartbeats 400000 in
theorem cl_c (d : Co) (p : Nat) (nm : ByteArray) (w : World) (hp : p < w.heap.size) (hc : w.cell? ⟨p, 0, none⟩ = some (.string nm)) :
    Calls Try.prog 111 #[.agg #[.string d.nm, .int .i64 d.k, .bool d.nl], .pointer (some ⟨p, 0, none⟩)] w fun e w' => e = .returned (.bool (sameNm d.nm nm)) ∧ Below w.heap.size w w' := by
  go_enter Try.func111, Try.ntmps111
  go_wp2
  go_ret
  exact ⟨rfl, one_new _ _⟩

theorem any_drop_c (cs : List Co) (nm : ByteArray) (k : Nat) (d : Co) (h : cs[k]? = some d) : (cs.drop k).any (fun d => sameNm d.nm nm) = (sameNm d.nm nm || (cs.drop (k + 1)).any (fun d => sameNm d.nm nm)) := by
  obtain ⟨h1, h2⟩ := List.getElem?_eq_some_iff.1 h
  rw [List.drop_eq_getElem_cons h1, h2]
  rfl

set_option maxHeartbeats 1000000 in
theorem index_c (Q : Nat → Prop) (A : Option Addr) (cs : List Co) (n c p : Nat) (nm : ByteArray) (w : World) (hn : n = cs.length) (hl : n ≤ 1000000) (hx : CellsQ w Q A (flatC cs)) (hp : p < w.heap.size) (hc : w.cell? ⟨p, 0, none⟩ = some (.string nm)) :
    Calls Try.prog 122 #[.slice A n c, .func (.func 111) #[] #[.pointer (some ⟨p, 0, none⟩)]] w fun e w' => ∃ z : Int, e = .returned (.int .i64 z) ∧ hitIs (cs.any fun d => sameNm d.nm nm) z ∧ Below w.heap.size w w' := by
  have HX := Lib.hid hx
  have HN := Lib.hid hn
  have HC := Lib.hid hc
  clear hx hn hc
  have hpost : ∀ (z : Int) (w' : World), hitIs (cs.any fun d => sameNm d.nm nm) z → Below w.heap.size w w' → ∃ z' : Int, Ending.returned (.int .i64 z) = .returned (.int .i64 z') ∧ hitIs (cs.any fun d => sameNm d.nm nm) z' ∧ Below w.heap.size w w' := fun z w' h1 h2 => ⟨z, rfl, h1, h2⟩
  have HP := Lib.hid hpost
  clear hpost
  go_enter Try.func122, Try.ntmps122
  go_wp2
  go_loopw [8] (fun i wr => ∃ k : Nat, k ≤ n ∧ i = .int .i64 k ∧ (cs.any fun d => sameNm d.nm nm) = ((cs.drop k).any fun d => sameNm d.nm nm) ∧ Below w.heap.size w wr) (fun i _ => n - (intOf i).toNat)
  case atStart => exact ⟨0, Nat.zero_le _, rfl, rfl, Below.refl _ _⟩
  case round =>
    obtain ⟨k, hk, rfl, hq, hb⟩ := hrel
    have HQ := Lib.hid hq
    have HB := Lib.hid hb
    have hsz : w.heap.size ≤ wr.heap.size := hb.size
    have hcw : wr.cell? ⟨p, 0, none⟩ = some (.string nm) := (hb.cell (p := ⟨p, 0, none⟩) hp).trans HC.out
    clear hq hb
    by_cases h1 : k < n
    · obtain ⟨d, hd⟩ : ∃ d, cs[k]? = some d := ⟨_, List.getElem?_eq_getElem (by rw [← HN.out]; exact h1)⟩
      obtain ⟨a, rfl, ha, a0, a1, a2⟩ := (HX.out.below HB.out).col k d hd
      have HD := Lib.hid hd
      clear hd
      rcases Bool.eq_false_or_eq_true (sameNm d.nm nm) with hz | hz
      · have HZ := Lib.hid hz
        clear hz
        go_wp2_with fail
        refine (cl_c d p nm _ (by omega) hcw).mono ?_
        rintro e w' ⟨rfl, hb2⟩
        rw [HZ.out]
        go_wp2
        go_ret
        exact HP.out _ _ (.inr ⟨by omega, by rw [HQ.out, any_drop_c _ _ _ _ HD.out, HZ.out, Bool.true_or]⟩) (HB.out.trans (hb2.mono HB.out.size))
      · have HZ := Lib.hid hz
        clear hz
        go_wp2_with fail
        refine (cl_c d p nm _ (by omega) hcw).mono ?_
        rintro e w' ⟨rfl, hb2⟩
        rw [HZ.out]
        go_wp2
        go_roundw
        case rel => exact ⟨k + 1, by omega, by go_num, by rw [HQ.out, any_drop_c _ _ _ _ HD.out, HZ.out, Bool.false_or], HB.out.trans (hb2.mono HB.out.size)⟩
        case measure => simp [intOf]; omega
    · go_wp2
      go_ret
      exact HP.out _ _ (.inl ⟨by omega, by rw [HQ.out, List.drop_of_length_le (by rw [← HN.out]; omega)]; rfl⟩) HB.out

set_option maxHeartbeats 400000 in
theorem contains_c (Q : Nat → Prop) (A : Option Addr) (cs : List Co) (n c p : Nat) (nm : ByteArray) (w : World) (hn : n = cs.length) (hl : n ≤ 1000000) (hx : CellsQ w Q A (flatC cs)) (hp : p < w.heap.size) (hc : w.cell? ⟨p, 0, none⟩ = some (.string nm)) :
    Calls Try.prog 110 #[.slice A n c, .func (.func 111) #[] #[.pointer (some ⟨p, 0, none⟩)]] w fun e w' => e = .returned (.bool (cs.any fun d => sameNm d.nm nm)) ∧ Below w.heap.size w w' := by
  have HF := Lib.hid (index_c Q A cs n c p nm w hn hl hx hp hc)
  clear hx hn hl hp hc
  generalize (cs.any fun d => sameNm d.nm nm) = b at *
  go_enter Try.func110, Try.ntmps110
  go_wp2_with fail
  refine HF.out.mono ?_
  rintro e w' ⟨z, rfl, hnw, hb⟩
  go_wp2
  go_ret
  refine ⟨ret_bool ?_, hb⟩
  rcases hnw with ⟨h, rfl⟩ | ⟨h, rfl⟩
  · simp; omega
  · simp; omega

set_option maxHeartbeats 400000 in
theorem cl_s (nm2 : ByteArray) (A2 : Option Addr) (n2 c2 : Nat) (p : Nat) (nm : ByteArray) (w : World) (hp : p < w.heap.size) (hc : w.cell? ⟨p, 0, none⟩ = some (.string nm)) :
    Calls Try.prog 86 #[.agg #[.string nm2, .slice A2 n2 c2], .pointer (some ⟨p, 0, none⟩)] w fun e w' => e = .returned (.bool (sameNm nm2 nm)) ∧ Below w.heap.size w w' := by
  go_enter Try.func86, Try.ntmps86
  go_wp2
  go_ret
  exact ⟨rfl, one_new _ _⟩

theorem any_drop_s (cs : List Sc) (nm : ByteArray) (k : Nat) (d : Sc) (h : cs[k]? = some d) : (cs.drop k).any (fun d => sameNm d.nm nm) = (sameNm d.nm nm || (cs.drop (k + 1)).any (fun d => sameNm d.nm nm)) := by
  obtain ⟨h1, h2⟩ := List.getElem?_eq_some_iff.1 h
  rw [List.drop_eq_getElem_cons h1, h2]
  rfl

set_option maxHeartbeats 1000000 in
theorem index_s (Q : Nat → Prop) (A : Option Addr) (ls : List RS) (cs : List Sc) (n c p : Nat) (nm : ByteArray) (w : World) (hn : n = cs.length) (hl : n ≤ 1000000) (hr : ScR w Q ls cs) (hx : CellsQ w Q A (flatS ls)) (hp : p < w.heap.size) (hc : w.cell? ⟨p, 0, none⟩ = some (.string nm)) :
    Calls Try.prog 108 #[.slice A n c, .func (.func 86) #[] #[.pointer (some ⟨p, 0, none⟩)]] w fun e w' => ∃ z : Int, e = .returned (.int .i64 z) ∧ hitIs (cs.any fun d => sameNm d.nm nm) z ∧ Below w.heap.size w w' := by
  have HX := Lib.hid hx
  have HR := Lib.hid hr
  have HN := Lib.hid hn
  have HC := Lib.hid hc
  clear hx hr hn hc
  have hpost : ∀ (z : Int) (w' : World), hitIs (cs.any fun d => sameNm d.nm nm) z → Below w.heap.size w w' → ∃ z' : Int, Ending.returned (.int .i64 z) = .returned (.int .i64 z') ∧ hitIs (cs.any fun d => sameNm d.nm nm) z' ∧ Below w.heap.size w w' := fun z w' h1 h2 => ⟨z, rfl, h1, h2⟩
  have HP := Lib.hid hpost
  clear hpost
  go_enter Try.func108, Try.ntmps108
  go_wp2
  go_loopw [8] (fun i wr => ∃ k : Nat, k ≤ n ∧ i = .int .i64 k ∧ (cs.any fun d => sameNm d.nm nm) = ((cs.drop k).any fun d => sameNm d.nm nm) ∧ Below w.heap.size w wr) (fun i _ => n - (intOf i).toNat)
  case atStart => exact ⟨0, Nat.zero_le _, rfl, rfl, Below.refl _ _⟩
  case round =>
    obtain ⟨k, hk, rfl, hq, hb⟩ := hrel
    have HQ := Lib.hid hq
    have HB := Lib.hid hb
    have hsz : w.heap.size ≤ wr.heap.size := hb.size
    have hcw : wr.cell? ⟨p, 0, none⟩ = some (.string nm) := (hb.cell (p := ⟨p, 0, none⟩) hp).trans HC.out
    clear hq hb
    by_cases h1 : k < n
    · obtain ⟨d, hd⟩ : ∃ d, cs[k]? = some d := ⟨_, List.getElem?_eq_getElem (by rw [← HN.out]; exact h1)⟩
      obtain ⟨a, v, rfl, hv, ha, a0, a1⟩ := kind_get (HR.out.keep (Below.keepQ HB.out Q)) (HX.out.below HB.out) k d hd
      obtain ⟨_, A2, c2, rfl, _, _, _⟩ := hv
      have HD := Lib.hid hd
      clear hd
      rcases Bool.eq_false_or_eq_true (sameNm d.nm nm) with hz | hz
      · have HZ := Lib.hid hz
        clear hz
        go_wp2_with fail
        refine (cl_s d.nm A2 _ c2 p nm _ (by omega) hcw).mono ?_
        rintro e w' ⟨rfl, hb2⟩
        rw [HZ.out]
        go_wp2
        go_ret
        exact HP.out _ _ (.inr ⟨by omega, by rw [HQ.out, any_drop_s _ _ _ _ HD.out, HZ.out, Bool.true_or]⟩) (HB.out.trans (hb2.mono HB.out.size))
      · have HZ := Lib.hid hz
        clear hz
        go_wp2_with fail
        refine (cl_s d.nm A2 _ c2 p nm _ (by omega) hcw).mono ?_
        rintro e w' ⟨rfl, hb2⟩
        rw [HZ.out]
        go_wp2
        go_roundw
        case rel => exact ⟨k + 1, by omega, by go_num, by rw [HQ.out, any_drop_s _ _ _ _ HD.out, HZ.out, Bool.false_or], HB.out.trans (hb2.mono HB.out.size)⟩
        case measure => simp [intOf]; omega
    · go_wp2
      go_ret
      exact HP.out _ _ (.inl ⟨by omega, by rw [HQ.out, List.drop_of_length_le (by rw [← HN.out]; omega)]; rfl⟩) HB.out

set_option maxHeartbeats 400000 in
theorem contains_s (Q : Nat → Prop) (A : Option Addr) (ls : List RS) (cs : List Sc) (n c p : Nat) (nm : ByteArray) (w : World) (hn : n = cs.length) (hl : n ≤ 1000000) (hr : ScR w Q ls cs) (hx : CellsQ w Q A (flatS ls)) (hp : p < w.heap.size) (hc : w.cell? ⟨p, 0, none⟩ = some (.string nm)) :
    Calls Try.prog 85 #[.slice A n c, .func (.func 86) #[] #[.pointer (some ⟨p, 0, none⟩)]] w fun e w' => e = .returned (.bool (cs.any fun d => sameNm d.nm nm)) ∧ Below w.heap.size w w' := by
  have HF := Lib.hid (index_s Q A ls cs n c p nm w hn hl hr hx hp hc)
  clear hx hr hn hl hp hc
  generalize (cs.any fun d => sameNm d.nm nm) = b at *
  go_enter Try.func85, Try.ntmps85
  go_wp2_with fail
  refine HF.out.mono ?_
  rintro e w' ⟨z, rfl, hnw, hb⟩
  go_wp2
  go_ret
  refine ⟨ret_bool ?_, hb⟩
  rcases hnw with ⟨h, rfl⟩ | ⟨h, rfl⟩
  · simp; omega
  · simp; omega
end Go.Proofs.Ytmiagdmfgebfdaa
