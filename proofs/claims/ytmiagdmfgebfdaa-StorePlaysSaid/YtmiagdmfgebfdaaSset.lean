/-
  New and find of package schema: a set of the kinds that came, or why they can not be; a kind of a set, by its name.
  No condition but that a list has no more than a million.
-/
import Derived.Test.YtmiagdmfgebfdaaSown
namespace Go.Proofs.Ytmiagdmfgebfdaa
open Go.RowKit

/-- A set of these kinds lies at block g, in blocks of Q. -/
def SetIs (w : World) (Q : Nat → Prop) (g : Nat) (l : List Sc) : Prop := ∃ v, w.cell? ⟨g, 0, none⟩ = some v ∧ Q g ∧ IsKinds w Q v l
theorem SetIs.lt {w : World} {Q : Nat → Prop} {g : Nat} {l : List Sc} (h : SetIs w Q g l) : g < w.heap.size := by
  obtain ⟨v, hc, _⟩ := h
  exact World.block_lt_of_cell? w _ hc
theorem SetIs.keep {w w' : World} {Q : Nat → Prop} {g : Nat} {l : List Sc} (h : SetIs w Q g l) (hk : KeepQ Q w w') : SetIs w' Q g l := by
  have hlt := h.lt
  obtain ⟨v, hc, hq, hv⟩ := h
  exact ⟨v, (World.cell?_of_block (w := w) (hk _ hq hlt)).trans hc, hq, hv.keep hk⟩
theorem SetIs.below {w w' : World} {Q : Nat → Prop} {g : Nat} {l : List Sc} (h : SetIs w Q g l) (hb : Below w.heap.size w w') : SetIs w' Q g l := h.keep (Below.keepQ hb Q)

/-- What New answers. -/
def NewIs (w : World) (l : List Sc) (e : Ending) (w' : World) : Prop :=
  Below w.heap.size w w' ∧ ((faultR l = 0 ∧ ∃ g, e = .returned (.tuple #[.pointer (some ⟨g, 0, none⟩), .int .i64 0]) ∧ SetIs w' (Behind w) g l) ∨ (faultR l ≠ 0 ∧ e = .returned (.tuple #[.pointer none, .int .i64 (faultR l)])))

set_option maxRecDepth 100000 in
set_option maxHeartbeats 1000000 in
theorem s_new (Q : Nat → Prop) (v : Value) (l : List Sc) (w : World) (hv : IsKinds w Q v l) : Calls Try.prog 36 #[v] w (NewIs w l) := by
  have HV := Lib.hid hv
  obtain ⟨hl, A, c, rfl, hA, hcap, ls, hr, hx⟩ := hv
  have HF := Lib.hid (s_fault Q A ls l _ c w rfl hl hcap hr hx)
  have HL := Lib.hid hl
  obtain ⟨n, hn⟩ : ∃ n, l.length = n := ⟨_, rfl⟩
  have HN := Lib.hid hn
  rw [hn] at HF HV ⊢
  clear hr hx hA hcap hl hn
  obtain ⟨R, hR⟩ : ∃ R, faultR l = R := ⟨_, rfl⟩
  rw [hR] at HF
  have HR := Lib.hid hR
  clear hR
  by_cases h0 : R = 0
  · have b0 : (R == 0) = true := by simpa using h0
    go_enter Try.func36, Try.ntmps36
    go_wp2_with fail
    refine HF.out.mono ?_
    rintro e w1 ⟨rfl, hb1⟩
    go_wp2_with fail
    refine (s_ownAll Q _ l _ (by have := HV.out.below hb1; exact this)).mono ?_
    rintro e w2 ⟨v', rfl, hv', hb2⟩
    have HV2 := Lib.hid hv'
    have HB := Lib.hid (hb1.trans (hb2.mono hb1.size))
    have hs1 := hb1.size
    obtain ⟨_, A', c', rfl, _⟩ := hv'
    clear hb1 hb2
    go_wp2
    go_ret2
    refine ⟨HB.out.trans ((one_new _ _).mono HB.out.size), .inl ⟨by rw [HR.out]; exact h0, w2.heap.size, rfl, _, new_cell w2 _ _ 0 _ rfl, HB.out.size, ?_⟩⟩
    exact (HV2.out.below (one_new _ _)).imp (fun k _ hk => Nat.le_trans hs1 hk)
  · have b0 : (R == 0) = false := by simpa using h0
    go_enter Try.func36, Try.ntmps36
    go_wp2_with fail
    refine HF.out.mono ?_
    rintro e w1 ⟨rfl, hb1⟩
    go_wp2
    go_ret2
    exact ⟨hb1, .inr ⟨by rw [HR.out]; exact h0, by rw [HR.out]; exact rfl⟩⟩

/-- The kind that bears a name. -/
def findS (l : List Sc) (kind : ByteArray) : Option Sc := l.find? fun x => sameNm x.nm kind
/-- What find answers. -/
def FoundIs (w : World) (Q : Nat → Prop) (o : Option Sc) (none' : Int) (e : Ending) (w' : World) : Prop :=
  Below w.heap.size w w' ∧ match o with
  | some x => ∃ v, e = .returned (.tuple #[.agg #[.string x.nm, v], .int .i64 0]) ∧ IsCols w' Q v x.cols
  | none => e = .returned (.tuple #[.agg #[.string ⟨#[]⟩, .slice none 0 0], .int .i64 none'])

theorem find_drop (l : List Sc) (kind : ByteArray) (k : Nat) (x : Sc) (h : l[k]? = some x) : findS (l.drop k) kind = if sameNm x.nm kind = true then some x else findS (l.drop (k + 1)) kind := by
  obtain ⟨h1, h2⟩ := List.getElem?_eq_some_iff.1 h
  rw [List.drop_eq_getElem_cons h1, h2]
  unfold findS
  rw [List.find?_cons]
  split
  · rename_i hh; rw [if_pos hh]
  · rename_i hh; rw [if_neg (by rw [hh]; simp)]

set_option maxRecDepth 100000 in
set_option maxHeartbeats 2000000 in
theorem s_find (Q : Nat → Prop) (g : Nat) (l : List Sc) (kind : ByteArray) (w : World) (hs : SetIs w Q g l) :
    Calls Try.prog 113 #[.pointer (some ⟨g, 0, none⟩), .string kind] w (FoundIs w Q (findS l kind) 20) := by
  have hg := hs.lt
  obtain ⟨v, hc, hq, hl, A, c, rfl, hA, hcap, ls, hr, hx⟩ := hs
  have HR := Lib.hid hr
  have HX := Lib.hid hx
  obtain ⟨n, hn⟩ : ∃ n, l.length = n := ⟨_, rfl⟩
  have HN := Lib.hid hn
  rw [hn] at hl hc hcap
  obtain ⟨O, hO⟩ : ∃ O, findS l kind = O := ⟨_, rfl⟩
  rw [hO]
  have HO := Lib.hid hO
  clear hr hx hA hn hO
  go_enter Try.func113, Try.ntmps113
  go_wp2
  go_loopw [16] (fun i wr => ∃ k : Nat, k ≤ n ∧ i = .int .i64 k ∧ findS (l.drop k) kind = O ∧ Below (w.alloc (.cells #[.string ⟨#[]⟩, .slice none 0 0] 89)).heap.size (w.alloc (.cells #[.string ⟨#[]⟩, .slice none 0 0] 89)) wr) (fun i _ => n - (intOf i).toNat)
  case atStart => exact ⟨0, Nat.zero_le _, rfl, by rw [List.drop_zero]; exact HO.out, Below.refl _ _⟩
  case round =>
    obtain ⟨k, hk, rfl, hq2, hb⟩ := hrel
    have HQ := Lib.hid hq2
    have HB := Lib.hid hb
    have hba := (one_new w (.cells #[.string ⟨#[]⟩, .slice none 0 0] 89)).trans (hb.mono (by simp))
    have HBA := Lib.hid hba
    have r0 : wr.cell? ⟨w.heap.size, 0, none⟩ = some (.string ⟨#[]⟩) := (hb.cell (p := ⟨w.heap.size, 0, none⟩) (by simp)).trans (by simp [go_sem])
    have r1 : wr.cell? ⟨w.heap.size, 1, none⟩ = some (.slice none 0 0) := (hb.cell (p := ⟨w.heap.size, 1, none⟩) (by simp)).trans (by simp [go_sem])
    have f0 : wr.frozen? ⟨w.heap.size, 0, none⟩ = false := (hb.frozen (p := ⟨w.heap.size, 0, none⟩) (by simp)).trans (by simp [go_sem])
    have f1 : wr.frozen? ⟨w.heap.size, 1, none⟩ = false := (hb.frozen (p := ⟨w.heap.size, 1, none⟩) (by simp)).trans (by simp [go_sem])
    have hz : w.heap.size < wr.heap.size := Nat.lt_of_lt_of_le (by simp) hb.size
    clear hq2 hb hba
    by_cases h1 : k < n
    · obtain ⟨x, hxk⟩ : ∃ x, l[k]? = some x := ⟨_, List.getElem?_eq_getElem (by rw [HN.out]; exact h1)⟩
      obtain ⟨a, v, rfl, hv, ha, a0w, a1w⟩ := kind_get HR.out HX.out k x hxk
      have a0 := (HBA.out.cell (p := a.add (k * 2)) ha).trans a0w
      have a1 := (HBA.out.cell (p := { block := (a.add (k * 2)).block, off := (a.add (k * 2)).off + 1 }) ha).trans a1w
      have ha' : (a.add (k * 2)).block < wr.heap.size := Nat.lt_of_lt_of_le ha HBA.out.size
      clear a0w a1w
      have HV := Lib.hid hv
      obtain ⟨_, A2, c2, rfl, _, _, _⟩ := hv
      have hfd := find_drop l kind k x hxk
      rw [HQ.out] at hfd
      have HFD := Lib.hid hfd
      clear hxk hfd
      rcases Bool.eq_false_or_eq_true (sameNm x.nm kind) with hz2 | hz2
      · have bz : (x.nm.toList == kind.toList) = true := hz2
        have hO : O = some x := by rw [HFD.out, if_pos hz2]
        subst hO
        clear hz2
        go_wp2
        have hfin : ∀ u0 u1 o, Below w.heap.size w (((wr.setCell ⟨w.heap.size, 0, none⟩ u0).setCell ⟨w.heap.size, 1, none⟩ u1).alloc o) := fun u0 u1 o => (bsetG (bsetG HBA.out (Nat.le_refl _)) (Nat.le_refl _)).alloc (by simp; exact HBA.out.size) o
        exact bodyPost_ret (v := .tuple #[.agg #[.string x.nm, .slice A2 x.cols.length c2], .int .i64 0]) (by simp [results, Try.results113, go_sem, r0, r1, hz]) rfl
          ⟨hfin _ _ _, _, rfl, HV.out.below (hfin _ _ _)⟩
      · have bz : (x.nm.toList == kind.toList) = false := hz2
        have hO : findS (l.drop (k + 1)) kind = O := by rw [HFD.out, if_neg (by rw [hz2]; simp)]
        have HOx := Lib.hid hO
        clear hz2 hO
        go_wp2
        go_roundw
        case rel => exact ⟨k + 1, by omega, by go_num, HOx.out, HB.out.trans (one_new_far _ _ HB.out.size)⟩
        case measure => simp [intOf]; omega
    · have hO : O = none := by
        rw [← HQ.out, List.drop_of_length_le (by rw [HN.out]; omega)]
        rfl
      subst hO
      go_wp2
      exact bodyPost_ret (v := .tuple #[.agg #[.string ⟨#[]⟩, .slice none 0 0], .int .i64 20]) (by simp [results, Try.results113, go_sem, r0, r1]) rfl
        ⟨by repeat (first | exact HBA.out | (refine bsetG ?_ (by simp))), rfl⟩
end Go.Proofs.Ytmiagdmfgebfdaa
