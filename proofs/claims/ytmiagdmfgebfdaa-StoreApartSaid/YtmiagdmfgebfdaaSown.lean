/-
  Clone at columns, own, ownAll and New of package schema: kinds of one's own, whose cells are those of the ones that came, or why they can not be; nothing that was there is changed.
  No condition but that a list has no more than a million.
-/
import Derived.Test.YtmiagdmfgebfdaaSfault
import Derived.Test.YtmiagdmfgebfdaaSapp
import Derived.Lib.Hide
namespace Go.Proofs.Ytmiagdmfgebfdaa
open Go.RowKit

/-- The blocks that came behind w. -/
def Behind (w : World) (j : Nat) : Prop := w.heap.size ≤ j

set_option maxHeartbeats 400000 in
theorem clone_C (A : Option Addr) (cs : List Co) (n c : Nat) (Q : Nat → Prop) (w : World) (hn : n = cs.length) (hc : A = none → c = 0) (hl : cs.length ≤ 1000000) (hx : CellsQ w Q A (flatC cs)) :
    Calls Try.prog 112 #[.slice A n c] w fun e w' => ∃ v, e = .returned v ∧ IsCols w' (Behind w) v cs ∧ Below w.heap.size w w' := by
  have HX := Lib.hid hx
  have HN := Lib.hid hn
  clear hx hn
  cases A with
  | none =>
    have hxs : cs = [] := by
      cases cs with
      | nil => rfl
      | cons y ys =>
        obtain ⟨a, ha, _⟩ := HX.out 0 _ rfl
        cases ha
    subst hxs
    obtain rfl : n = 0 := HN.out
    obtain rfl : c = 0 := hc rfl
    have q := fun w : World => Lib.run_eql_slice_nil (P := Try.prog) w 87 105 none 0 0 0 0 Try.underlying87
    go_enter Try.func112, Try.ntmps112
    go_wp2
    go_ret
    exact ⟨_, rfl, IsCols.nil _ _, Below.refl _ _⟩
  | some a =>
    clear hc
    have q := fun w : World => Lib.run_eql_slice_nil (P := Try.prog) w 87 105 (some a) n c 0 0 Try.underlying87
    have hown : OwnC (w.alloc (.cells #[] 105)) w.heap.size (.slice (some ⟨w.heap.size, 0, none⟩) 0 0) [] := World.ownsRow_made w #[] 0 (Nat.le_refl _) (by unfold maxLen; omega) rfl
    have HO := Lib.hid hown
    clear hown
    go_enter Try.func112, Try.ntmps112
    go_wp2_with (at_builtin; go_must (refine wp_append_C _ rfl (.tmp 5) (.tmp 6) rfl w.heap.size _ [] cs rfl HO.out (some a) n c rfl HN.out Q (HX.out.below (one_new _ _)) (flatC_one _) (by simp; omega) (by simp) ?_; intro v' w1 hown1 hb1 _ _))
    go_ret
    have hown2 : OwnC w1 w.heap.size v' cs := by simpa using hown1
    obtain ⟨A', c', hv, hA, hcap, hcells⟩ := hown2.slice (Behind w) (fun k hk => hk)
    exact ⟨v', rfl, ⟨hl, A', c', hv, hA, hcap, hcells⟩, (one_new _ _).trans hb1⟩

theorem keep_set {w : World} {Q : Nat → Prop} {p : Addr} {u : Value} (h : ¬ Q p.block) : KeepQ Q w (w.setCell p u) := fun k hq _ => Below.heap_setCell w p u k (fun e => h (e ▸ hq))
theorem bsetG {w w' : World} {p : Addr} {u : Value} (h : Below w.heap.size w w') (hp : w.heap.size ≤ p.block) : Below w.heap.size w (w'.setCell p u) := h.setCell (p := p) hp u

set_option maxHeartbeats 1000000 in
theorem s_own (nm : ByteArray) (v : Value) (cs : List Co) (Q : Nat → Prop) (w : World) (hv : IsCols w Q v cs) :
    Calls Try.prog 88 #[.agg #[.string nm, v]] w fun e w' => ∃ v', e = .returned (.agg #[.string nm, v']) ∧ IsCols w' (Behind w) v' cs ∧ Below w.heap.size w w' := by
  obtain ⟨hl, A, c, rfl, hA, hcap, hcs⟩ := hv
  have HCS := Lib.hid hcs
  have HA := Lib.hid hA
  clear hcs hA
  go_enter Try.func88, Try.ntmps88
  go_wp2_with fail
  refine (clone_C A cs _ c Q _ rfl HA.out hl (HCS.out.below (two_new _ _ _))).mono ?_
  rintro e w2 ⟨v', rfl, hv', hb2⟩
  have b0 : w2.cell? ⟨w.heap.size, 0, none⟩ = some (.string nm) := (hb2.cell (p := ⟨w.heap.size, 0, none⟩) (by simp; omega)).trans (by simp [go_sem])
  have b1 : w2.cell? ⟨w.heap.size, 1, none⟩ = some (.slice A cs.length c) := (hb2.cell (p := ⟨w.heap.size, 1, none⟩) (by simp; omega)).trans (by simp [go_sem])
  have f1 : w2.frozen? ⟨w.heap.size, 1, none⟩ = false := (hb2.frozen (p := ⟨w.heap.size, 1, none⟩) (by simp; omega)).trans (by simp [go_sem])
  have c0 : w2.cell? ⟨w.heap.size + 1, 0, none⟩ = some (.string ⟨#[]⟩) := (hb2.cell (p := ⟨w.heap.size + 1, 0, none⟩) (by simp)).trans (by simp [go_sem])
  have c1 : w2.cell? ⟨w.heap.size + 1, 1, none⟩ = some (.slice none 0 0) := (hb2.cell (p := ⟨w.heap.size + 1, 1, none⟩) (by simp)).trans (by simp [go_sem])
  have g0 : w2.frozen? ⟨w.heap.size + 1, 0, none⟩ = false := (hb2.frozen (p := ⟨w.heap.size + 1, 0, none⟩) (by simp)).trans (by simp [go_sem])
  have g1 : w2.frozen? ⟨w.heap.size + 1, 1, none⟩ = false := (hb2.frozen (p := ⟨w.heap.size + 1, 1, none⟩) (by simp)).trans (by simp [go_sem])
  have HV := Lib.hid (hv'.imp (Q' := fun j => w.heap.size + 2 ≤ j) (fun k _ hk => by simpa [Behind] using hk))
  have HB := Lib.hid ((two_new w _ _).trans (hb2.mono (by simp; omega)))
  obtain ⟨_, A', c', rfl, _⟩ := hv'
  have hz : w.heap.size + 1 < w2.heap.size := Nat.lt_of_lt_of_le (by simp) hb2.size
  clear hb2
  go_wp2
  exact bodyPost_ret (v := .agg #[.string nm, .slice A' cs.length c']) (by simp [results, Try.results88, go_sem, c0, c1]) rfl
    ⟨_, rfl, (((HV.out.keep (keep_set (by simp))).keep (keep_set (by simp))).keep (keep_set (by simp))).imp (fun k _ hk => by unfold Behind; omega),
      by repeat (first | exact HB.out | (refine bsetG ?_ (by simp; omega)) | (refine bsetG ?_ (by simp)))⟩

/-- A list of kinds as it is being made: the slice's own block is none of those that hold columns. -/
def Making (w0 w : World) (v : Value) (l : List Sc) : Prop := ∃ ls, OwnS w w0.heap.size v ls ∧ ScR w (fun j => w0.heap.size ≤ j ∧ v.ownBlock ≠ some j) ls l

theorem ScR.snoc {w : World} {Q : Nat → Prop} {ls : List RS} {l : List Sc} (h : ScR w Q ls l) (x : Sc) (v : Value) (hv : IsCols w Q v x.cols) : ScR w Q (ls ++ [(x.nm, v)]) (l ++ [x]) := h.append ⟨rfl, hv, trivial⟩

theorem making_step (w0 w w1 : World) (v v1 : Value) (ls : List RS) (l : List Sc) (x : Sc) (vx : Value) (hr : ScR w (fun j => w0.heap.size ≤ j ∧ v.ownBlock ≠ some j) ls l) (hx : IsCols w (fun j => w0.heap.size ≤ j ∧ v.ownBlock ≠ some j) vx x.cols)
    (hown : OwnS w1 w0.heap.size v1 (ls ++ [(x.nm, vx)])) (hg : w.grownBy w1 v.ownBlock) (hv : v1.ownBlock = v.ownBlock ∨ v1.ownBlock = some w.heap.size) : Making w0 w1 v1 (l ++ [x]) := by
  refine ⟨_, hown, ?_⟩
  have hq : ∀ k, k < w.heap.size → (w0.heap.size ≤ k ∧ v.ownBlock ≠ some k) → (w0.heap.size ≤ k ∧ v.ownBlock ≠ some k ∧ v1.ownBlock ≠ some k) := by
    intro k hk ⟨h1, h2⟩
    refine ⟨h1, h2, ?_⟩
    rcases hv with h | h
    · rw [h]; exact h2
    · rw [h]
      intro e
      injection e with e
      omega
  have hk : KeepQ (fun k => w0.heap.size ≤ k ∧ v.ownBlock ≠ some k ∧ v1.ownBlock ≠ some k) w w1 := fun k hq hk => hg.block k hk (fun e => hq.2.1 e.symm)
  exact (((hr.snoc x vx hx).imp hq).keep hk).imp (fun k _ h => ⟨h.1, h.2.2⟩)

theorem sc_lit1 (w : World) (nm : ByteArray) (v : Value) : CellsQ (w.alloc (.cells #[.string nm, v] 89)) (fun _ => True) (some ⟨w.heap.size, 0, none⟩) (flatS [(nm, v)]) := by
  intro j u hj
  refine ⟨_, rfl, trivial, ?_⟩
  rw [show ((⟨w.heap.size, 0, none⟩ : Addr).add j) = ⟨w.heap.size, j, none⟩ from by unfold Addr.add; split <;> simp_all, alloc_new_cells]
  simpa [flatS] using hj

set_option maxRecDepth 100000 in
set_option maxHeartbeats 2000000 in
theorem s_ownAll (Q : Nat → Prop) (v : Value) (l : List Sc) (w : World) (hv : IsKinds w Q v l) :
    Calls Try.prog 64 #[v] w fun e w' => ∃ v', e = .returned v' ∧ IsKinds w' (Behind w) v' l ∧ Below w.heap.size w w' := by
  obtain ⟨hl, A, c, rfl, hA, hcap, ls, hr, hx⟩ := hv
  obtain ⟨n, hn⟩ : ∃ n, l.length = n := ⟨_, rfl⟩
  have HR := Lib.hid hr
  have HX := Lib.hid hx
  have HN := Lib.hid hn
  rw [hn] at hl ⊢
  clear hr hx hA hcap hn
  go_enter Try.func64, Try.ntmps64
  go_wp2_with (at_make; go_must (refine wp_make_S _ rfl _ _ rfl w.heap.size n rfl rfl (by omega) (Nat.le_refl _) ?_; intro v0 w0 hown0 hb0; have HMK := Lib.hid (show Making w w0 v0 [] from ⟨[], hown0, trivial⟩); obtain ⟨A0, cc0, hv0, _, _, _⟩ := hown0.slice (fun _ => True) (fun _ _ => trivial); subst hv0))
  have HB0 := Lib.hid hb0
  clear hb0 hown0
  go_loopw [3, 11] (fun vv i wr => ∃ k : Nat, k ≤ n ∧ i = .int .i64 k ∧ Making w wr vv (l.take k) ∧ Below w.heap.size w wr) (fun _ i _ => n - (intOf i).toNat)
  case atStart => exact ⟨0, Nat.zero_le _, rfl, by rw [List.take_zero]; exact HMK.out, HB0.out⟩
  case round =>
    obtain ⟨k, hk, rfl, hmk, hb⟩ := hrel
    obtain ⟨ls', hown, hsc⟩ := hmk
    have HOWN := Lib.hid hown
    have HSC := Lib.hid hsc
    have HB := Lib.hid hb
    have hsz : w.heap.size ≤ wr.heap.size := hb.size
    have hlen : ls'.length = (l.take k).length := hsc.len
    rw [List.length_take, HN.out] at hlen
    obtain ⟨A3, c3, hv3, _, _, _⟩ := hown.slice (fun _ => True) (fun _ _ => trivial)
    subst hv3
    have HLEN := Lib.hid hlen
    clear hown hsc hb hlen
    by_cases h1 : k < n
    · obtain ⟨x, hxk⟩ : ∃ x, l[k]? = some x := ⟨_, List.getElem?_eq_getElem (by rw [HN.out]; exact h1)⟩
      obtain ⟨a, v, rfl, hv, ha, a0, a1⟩ := kind_get (HR.out.keep (Below.keepQ HB.out Q)) (HX.out.below HB.out) k x hxk
      have HV := Lib.hid hv
      obtain ⟨_, A2, c2, rfl, _, _, _⟩ := hv
      have htk : l.take (k + 1) = l.take k ++ [x] := by
        rw [List.take_add_one, hxk]
        rfl
      have HTK := Lib.hid htk
      clear hxk htk
      go_wp2_with fail
      refine (s_own x.nm _ x.cols Q _ (HV.out.below (one_new _ _))).mono ?_
      rintro e w2 ⟨vx, rfl, hvx, hb2⟩
      have HVX := Lib.hid hvx
      obtain ⟨_, A4, c4, rfl, _⟩ := hvx
      have HB2 := Lib.hid ((one_new wr (.cells #[.string x.nm, .slice A2 x.cols.length c2] 89)).trans (hb2.mono (by simp)))
      have hs2 := HB2.out.size
      have hs3 := hb2.size
      rw [World.size_alloc] at hs3
      clear hb2
      go_wp2_with (at_builtin; go_must (refine wp_append_S _ rfl (.tmp 15) (.tmp 18) rfl w.heap.size _ ls' [(x.nm, .slice A4 x.cols.length c4)] rfl ((HOWN.out.below HB2.out).alloc _) (some ⟨w2.heap.size, 0, none⟩) 1 1 rfl rfl (fun _ => True) (sc_lit1 _ _ _) (by intro u hu; simp [flatS] at hu; rcases hu with rfl | rfl <;> rfl) (by have := HLEN.out; simp; omega) (by simp; omega) ?_; intro v1 w3 hown3 hb3 hg3 hv3))
      have hne : ∀ j, wr.heap.size + 1 ≤ j → (Value.slice A3 ls'.length c3).ownBlock ≠ some j := by
        intro j hj e
        have := (World.ownsRow.lt HOWN.out j e).2
        omega
      have hmk := making_step w (w2.alloc (.cells #[.string x.nm, .slice A4 x.cols.length c4] 89)) w3 _ v1 ls' (l.take k) x _
        (HSC.out.keep (Below.keepQ (HB2.out.trans ((one_new w2 _).mono hs2)) _))
        ((HVX.out.imp (fun j _ hj => ⟨by simp [Behind] at hj; omega, hne j (by simpa [Behind] using hj)⟩)).below (one_new w2 _)) hown3 hg3 hv3
      have HMK2 := Lib.hid hmk
      have HB3 := Lib.hid ((HB.out.trans (HB2.out.mono hsz)).trans (((one_new w2 (.cells #[.string x.nm, .slice A4 x.cols.length c4] 89)).mono (by omega)).trans hb3))
      clear hmk hg3 hv3 hown3 hb3 hne
      go_roundw
      case rel => exact ⟨k + 1, by omega, by go_num, by rw [HTK.out]; exact HMK2.out, HB3.out⟩
      case measure => simp [intOf]; omega
    · obtain rfl : k = n := by omega
      go_wp2
      go_ret
      refine ⟨_, rfl, ⟨by rw [HN.out]; exact hl, ?_⟩, HB.out⟩
      obtain ⟨A5, c5, hv5, hA5, hcap5, hcells5⟩ := HOWN.out.slice (Behind w) (fun k hk => hk)
      have hsc := HSC.out
      rw [List.take_of_length_le (by rw [HN.out]; exact Nat.le_refl _)] at hsc
      have hll : ls'.length = l.length := hsc.len
      exact ⟨A5, c5, by rw [hv5, hll]; exact rfl, hA5, by rw [← hll]; exact hcap5, ls', hsc.imp (fun k _ h => h.1), hcells5⟩
end Go.Proofs.Ytmiagdmfgebfdaa
