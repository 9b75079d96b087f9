/-
  Add of a tenant, of the program's tree.
  Condition: names are no longer than texts can be; from the parent up it comes to an end; no more than a thousand tenants.
-/
import Derived.Test.YtoeggpoeongnhaaTnd
import Derived.Test.YtoeggpoeongnhaaSname
import Derived.Test.YtoeggpoeongnhaaTmem
namespace Go.Proofs.Ytoeggpoeongnhaa
open Go.RowKit Go.Maps

/-- What Add answers; ys: the parent and those above it. -/
def addRes (L : List Tn) (n p : ByteArray) (ys : List ByteArray) : Int :=
  if nameR n.data.toList = false then 3 else if (findN L n).isSome = true then 4 else if canT L p = false then 18 else if 5 < ys.length + 1 then 17 else if 24 ≤ L.length then 6 else 0
def addTn (L : List Tn) (n p : ByteArray) (ys : List ByteArray) : List Tn := if addRes L n p ys = 0 then (n, p) :: L else L
theorem findN_cons (L : List Tn) (n p c : ByteArray) : findN ((n, p) :: L) c = if c = n then some (n, p) else findN L c := by
  unfold findN
  rw [List.find?_cons]
  by_cases h : n = c
  · subst h
    simp
  · simp [h, Ne.symm h]
theorem cons_apart {L : List Tn} {n p : ByteArray} (hn : L.Pairwise fun a b => a.1 ≠ b.1) (hf : (findN L n).isSome = false) : ((n, p) :: L).Pairwise fun a b => a.1 ≠ b.1 := by
  refine List.pairwise_cons.2 ⟨fun x hx e => ?_, hn⟩
  have : findN L n = none := by simpa using hf
  unfold findN at this
  rw [List.find?_eq_none] at this
  have h := this x hx
  simp at h
  exact h e.symm
theorem only_grown {w w1 w' : World} {b : Nat} (h0 : Below w.heap.size w w1) (hb : b < w.heap.size) (h : w1.grownBy w' (some b)) : Only b w w' := by
  refine ⟨(h0.mono (Nat.le_of_lt hb)).trans ⟨h.os, h.tape, h.output, h.size, fun k hk => ?_⟩, fun k hk hne => ?_⟩
  · have := h0.size
    exact h.block k (by omega) (fun e => by injection e with e; omega)
  · exact (h.block k (Nat.lt_of_lt_of_le hk h0.size) (fun e => hne (by injection e))).trans (h0.block k hk)

set_option maxRecDepth 100000 in
set_option maxHeartbeats 4000000 in
theorem t_add (t b : Nat) (D : DataW Value) (L : List Tn) (w : World) (n p : ByteArray) (ys : List ByteArray) (hc : Chain L p ys) (hT : TreeB w t b D L) (hl : ∀ x ∈ L, x.2.size ≤ maxLen) (hn : n.size ≤ maxLen) (hp : p.size ≤ maxLen) (hy : ys.length ≤ 1000) (hL : L.length ≤ 1000) :
    Calls Try.prog 47 #[.pointer (some ⟨t, 0, none⟩), .string n, .string p] w fun e w' => e = .returned (.int .i64 (addRes L n p ys)) ∧ Only b w w' ∧ ∃ D', TreeB w' t b D' (addTn L n p ys) := by
  have HT := Lib.hid hT
  have HC := Lib.hid hc
  have HL := Lib.hid hl
  have HN := Lib.hid hn
  have HP := Lib.hid hp
  have hbl : b < w.heap.size := hT.2.2.2.2.2
  have htl : t < w.heap.size := hT.2.2.2.2.1
  have cT := cell_rowT w t _ _ hT.1
  have HO := Lib.hid hT.2.1
  have stay : ∀ w', Below w.heap.size w w' → ∀ r : Int, addRes L n p ys = r → r ≠ 0 → (Only b w w' ∧ ∃ D', TreeB w' t b D' (addTn L n p ys)) := by
    intro w' hb r hr h0
    refine ⟨Only.of_below hb (Nat.le_of_lt hbl), D, ?_⟩
    unfold addTn
    rw [if_neg (by rw [hr]; exact h0)]
    exact hT.below hb
  have HST := Lib.hid stay
  clear hc hT hl hn hp stay
  go_enter Try.func47, Try.ntmps47
  go_wp2_with fail
  refine (s_name n w).mono ?_
  rintro e w1 ⟨rfl, rfl⟩
  rcases Bool.eq_false_or_eq_true (nameR n.data.toList) with h1 | h1
  · rw [h1]
    have H1 := Lib.hid h1
    clear h1
    go_wp2_with fail
    refine (t_has t b D L n _ HT.out HN.out).mono ?_
    rintro e w2 ⟨rfl, hb2⟩
    have HB2 := Lib.hid hb2
    rcases Bool.eq_false_or_eq_true (findN L n).isSome with h2 | h2
    · rw [h2]
      have H2 := Lib.hid h2
      clear h2 hb2
      go_wp2
      go_ret
      have hr : addRes L n p ys = 4 := by unfold addRes; rw [if_neg (by rw [H1.out]; simp), if_pos H2.out]
      exact ⟨by rw [hr]; rfl, HST.out _ HB2.out 4 hr (by decide)⟩
    · rw [h2]
      have H2 := Lib.hid h2
      have HT2 := Lib.hid (HT.out.below hb2)
      clear h2 hb2
      go_wp2_with fail
      refine (t_can t b D L p _ HT2.out HP.out).mono ?_
      rintro e w3 ⟨rfl, hb3⟩
      have HB3 := Lib.hid (HB2.out.trans (hb3.mono HB2.out.size))
      clear hb3
      rcases Bool.eq_false_or_eq_true (canT L p) with h3 | h3
      · rw [h3]
        have H3 := Lib.hid h3
        have HT3 := Lib.hid (HT.out.below HB3.out)
        clear h3
        go_wp2_with fail
        refine (t_depth t b D L _ p ys HC.out HT3.out HL.out HP.out hy).mono ?_
        rintro e w4 ⟨rfl, hb4⟩
        have HB4 := Lib.hid (HB3.out.trans (hb4.mono HB3.out.size))
        have cT4 := (HB4.out.cell (p := ⟨t, 0, none⟩) htl).trans cT
        clear hb4
        by_cases h4 : 5 < ys.length + 1
        · go_wp2
          go_ret
          have hr : addRes L n p ys = 17 := by unfold addRes; rw [if_neg (by rw [H1.out]; simp), if_neg (by rw [H2.out]; simp), if_neg (by rw [H3.out]; simp), if_pos h4]
          exact ⟨by rw [hr]; rfl, HST.out _ HB4.out 17 hr (by decide)⟩
        · have hyl : ((ys.length : Int) + 1) ≤ 5 := by omega
          have hd5 : decide (5 < (ys.length : Int) + 1) = false := by simp; omega
          have hlen := fun ty => (HT.out.below HB4.out).2.1.len Try.underlying119 ty
          rw [HT.out.2.2.1.2.2.1] at hlen
          by_cases h5 : 24 ≤ L.length
          · have hg1 : decide ((24 : Int) ≤ (L.length : Int)) = true := by simp; omega
            go_wp2
            go_ret
            have hr : addRes L n p ys = 6 := by unfold addRes; rw [if_neg (by rw [H1.out]; simp), if_neg (by rw [H2.out]; simp), if_neg (by rw [H3.out]; simp), if_neg h4, if_pos h5]
            exact ⟨by rw [hr]; rfl, HST.out _ HB4.out 6 hr (by decide)⟩
          · have hg1 : decide ((24 : Int) ≤ (L.length : Int)) = false := by simp; omega
            go_wp2_with fail
            refine (t_put t b D L ((n, p) :: L) n p _ (HT.out.below HB4.out) (by omega) HN.out (findN_cons L n p) (by rw [H2.out]; simp) (cons_apart HT.out.2.2.1.2.2.2 H2.out)).mono ?_
            rintro e w5 ⟨rfl, hT5, hg5⟩
            have HT5 := Lib.hid hT5
            have HG5 := Lib.hid (only_grown HB4.out hbl hg5)
            clear hT5 hg5
            go_wp2
            go_ret
            have hr : addRes L n p ys = 0 := by unfold addRes; rw [if_neg (by rw [H1.out]; simp), if_neg (by rw [H2.out]; simp), if_neg (by rw [H3.out]; simp), if_neg h4, if_neg h5]
            refine ⟨by rw [hr]; rfl, HG5.out, D.put (kt n) (.held (tnV (n, p))), ?_⟩
            unfold addTn
            rw [if_pos hr]
            exact HT5.out
      · rw [h3]
        have H3 := Lib.hid h3
        clear h3
        go_wp2
        go_ret
        have hr : addRes L n p ys = 18 := by unfold addRes; rw [if_neg (by rw [H1.out]; simp), if_neg (by rw [H2.out]; simp), if_pos H3.out]
        exact ⟨by rw [hr]; rfl, HST.out _ HB3.out 18 hr (by decide)⟩
  · rw [h1]
    have H1 := Lib.hid h1
    clear h1
    go_wp2
    go_ret
    have hr : addRes L n p ys = 3 := by unfold addRes; rw [if_pos H1.out]
    exact ⟨by rw [hr]; rfl, HST.out _ (Below.refl _ _) 3 hr (by decide)⟩
end Go.Proofs.Ytoeggpoeongnhaa
