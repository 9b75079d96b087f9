/-
  Clone at columns, own, ownAll and New of package schema: kinds of one's own, whose cells are those of the ones that came, or why they can not be; nothing that was there is changed.
  No condition but that a list has no more than a million.
  New and find of package schema: a set of the kinds that came, or why they can not be; a kind of a set, by its name.
  No condition but that a list has no more than a million.
  texts and Columns of package schema: the columns of a relation, at every set and relation; nothing that was there is changed.
  No condition but that a list has no more than a million.
-/
import Derived.Lib.Hide
import Derived.Test.YthdjkagodccdbaaM18
import Derived.Test.YthdjkagodccdbaaM31
namespace Go.Proofs.Ythdjkagodccdbaa
section
open Go.RowKit

/-- The blocks that came behind w. -/
def Behind (w : World) (j : Nat) : Prop := w.heap.size ≤ j

set_option maxHeartbeats 400000 in
theorem clone_C (A : Option Addr) (cs : List Co) (n c : Nat) (Q : Nat → Prop) (w : World) (hn : n = cs.length) (hc : A = none → c = 0) (hl : cs.length ≤ 1000000) (hx : CellsQ w Q A (flatC cs)) :
    Calls Try.prog 68 #[.slice A n c] w fun e w' => ∃ v, e = .returned v ∧ IsCols w' (Behind w) v cs ∧ Below w.heap.size w w' := by
  have HX := Lib.hid hx
  have HN := Lib.hid hn
  clear hx hn
  cases A with
  | none =>
    have hxs : cs = [] := by
      cases cs with
      | nil => rfl
      | cons y ys =>
        obtain ⟨a, ha, _⟩ := HX.out 0 _ rfl
        cases ha
    subst hxs
    obtain rfl : n = 0 := HN.out
    obtain rfl : c = 0 := hc rfl
    have q := fun w : World => Lib.run_eql_slice_nil (P := Try.prog) w 35 49 none 0 0 0 0 Try.underlying35
    go_enter Try.func68, Try.ntmps68
    go_wp2
    go_ret
    exact ⟨_, rfl, IsCols.nil _ _, Below.refl _ _⟩
  | some a =>
    clear hc
    have q := fun w : World => Lib.run_eql_slice_nil (P := Try.prog) w 35 49 (some a) n c 0 0 Try.underlying35
    have hown : OwnC (w.alloc (.cells #[] 49)) w.heap.size (.slice (some ⟨w.heap.size, 0, none⟩) 0 0) [] := World.ownsRow_made w #[] 0 (Nat.le_refl _) (by unfold maxLen; omega) rfl
    have HO := Lib.hid hown
    clear hown
    go_enter Try.func68, Try.ntmps68
    go_wp2_with (at_builtin; go_must (refine wp_append_C _ rfl (.tmp 5) (.tmp 6) rfl w.heap.size _ [] cs rfl HO.out (some a) n c rfl HN.out Q (HX.out.below (one_new _ _)) (flatC_one _) (by simp; omega) (by simp) ?_; intro v' w1 hown1 hb1 _ _))
    go_ret
    have hown2 : OwnC w1 w.heap.size v' cs := by simpa using hown1
    obtain ⟨A', c', hv, hA, hcap, hcells⟩ := hown2.slice (Behind w) (fun k hk => hk)
    exact ⟨v', rfl, ⟨hl, A', c', hv, hA, hcap, hcells⟩, (one_new _ _).trans hb1⟩

theorem keep_set {w : World} {Q : Nat → Prop} {p : Addr} {u : Value} (h : ¬ Q p.block) : KeepQ Q w (w.setCell p u) := fun k hq _ => Below.heap_setCell w p u k (fun e => h (e ▸ hq))
theorem bsetG {w w' : World} {p : Addr} {u : Value} (h : Below w.heap.size w w') (hp : w.heap.size ≤ p.block) : Below w.heap.size w (w'.setCell p u) := h.setCell (p := p) hp u

set_option maxHeartbeats 1000000 in
theorem s_own (nm : ByteArray) (v : Value) (cs : List Co) (Q : Nat → Prop) (w : World) (hv : IsCols w Q v cs) :
    Calls Try.prog 47 #[.agg #[.string nm, v]] w fun e w' => ∃ v', e = .returned (.agg #[.string nm, v']) ∧ IsCols w' (Behind w) v' cs ∧ Below w.heap.size w w' := by
  obtain ⟨hl, A, c, rfl, hA, hcap, hcs⟩ := hv
  have HCS := Lib.hid hcs
  have HA := Lib.hid hA
  clear hcs hA
  go_enter Try.func47, Try.ntmps47
  go_wp2_with fail
  refine (clone_C A cs _ c Q _ rfl HA.out hl (HCS.out.below (two_new _ _ _))).mono ?_
  rintro e w2 ⟨v', rfl, hv', hb2⟩
  have b0 : w2.cell? ⟨w.heap.size, 0, none⟩ = some (.string nm) := (hb2.cell (p := ⟨w.heap.size, 0, none⟩) (by simp; omega)).trans (by simp [go_sem])
  have b1 : w2.cell? ⟨w.heap.size, 1, none⟩ = some (.slice A cs.length c) := (hb2.cell (p := ⟨w.heap.size, 1, none⟩) (by simp; omega)).trans (by simp [go_sem])
  have f1 : w2.frozen? ⟨w.heap.size, 1, none⟩ = false := (hb2.frozen (p := ⟨w.heap.size, 1, none⟩) (by simp; omega)).trans (by simp [go_sem])
  have c0 : w2.cell? ⟨w.heap.size + 1, 0, none⟩ = some (.string ⟨#[]⟩) := (hb2.cell (p := ⟨w.heap.size + 1, 0, none⟩) (by simp)).trans (by simp [go_sem])
  have c1 : w2.cell? ⟨w.heap.size + 1, 1, none⟩ = some (.slice none 0 0) := (hb2.cell (p := ⟨w.heap.size + 1, 1, none⟩) (by simp)).trans (by simp [go_sem])
  have g0 : w2.frozen? ⟨w.heap.size + 1, 0, none⟩ = false := (hb2.frozen (p := ⟨w.heap.size + 1, 0, none⟩) (by simp)).trans (by simp [go_sem])
  have g1 : w2.frozen? ⟨w.heap.size + 1, 1, none⟩ = false := (hb2.frozen (p := ⟨w.heap.size + 1, 1, none⟩) (by simp)).trans (by simp [go_sem])
  have HV := Lib.hid (hv'.imp (Q' := fun j => w.heap.size + 2 ≤ j) (fun k _ hk => by simpa [Behind] using hk))
  have HB := Lib.hid ((two_new w _ _).trans (hb2.mono (by simp; omega)))
  obtain ⟨_, A', c', rfl, _⟩ := hv'
  have hz : w.heap.size + 1 < w2.heap.size := Nat.lt_of_lt_of_le (by simp) hb2.size
  clear hb2
  go_wp2
  exact bodyPost_ret (v := .agg #[.string nm, .slice A' cs.length c']) (by simp [results, Try.results47, go_sem, c0, c1]) rfl
    ⟨_, rfl, (((HV.out.keep (keep_set (by simp))).keep (keep_set (by simp))).keep (keep_set (by simp))).imp (fun k _ hk => by unfold Behind; omega),
      by repeat (first | exact HB.out | (refine bsetG ?_ (by simp; omega)) | (refine bsetG ?_ (by simp)))⟩

/-- A list of kinds as it is being made: the slice's own block is none of those that hold columns. -/
def Making (w0 w : World) (v : Value) (l : List Sc) : Prop := ∃ ls, OwnS w w0.heap.size v ls ∧ ScR w (fun j => w0.heap.size ≤ j ∧ v.ownBlock ≠ some j) ls l

theorem ScR.snoc {w : World} {Q : Nat → Prop} {ls : List RS} {l : List Sc} (h : ScR w Q ls l) (x : Sc) (v : Value) (hv : IsCols w Q v x.cols) : ScR w Q (ls ++ [(x.nm, v)]) (l ++ [x]) := h.append ⟨rfl, hv, trivial⟩

theorem making_step (w0 w w1 : World) (v v1 : Value) (ls : List RS) (l : List Sc) (x : Sc) (vx : Value) (hr : ScR w (fun j => w0.heap.size ≤ j ∧ v.ownBlock ≠ some j) ls l) (hx : IsCols w (fun j => w0.heap.size ≤ j ∧ v.ownBlock ≠ some j) vx x.cols)
    (hown : OwnS w1 w0.heap.size v1 (ls ++ [(x.nm, vx)])) (hg : w.grownBy w1 v.ownBlock) (hv : v1.ownBlock = v.ownBlock ∨ v1.ownBlock = some w.heap.size) : Making w0 w1 v1 (l ++ [x]) := by
  refine ⟨_, hown, ?_⟩
  have hq : ∀ k, k < w.heap.size → (w0.heap.size ≤ k ∧ v.ownBlock ≠ some k) → (w0.heap.size ≤ k ∧ v.ownBlock ≠ some k ∧ v1.ownBlock ≠ some k) := by
    intro k hk ⟨h1, h2⟩
    refine ⟨h1, h2, ?_⟩
    rcases hv with h | h
    · rw [h]; exact h2
    · rw [h]
      intro e
      injection e with e
      omega
  have hk : KeepQ (fun k => w0.heap.size ≤ k ∧ v.ownBlock ≠ some k ∧ v1.ownBlock ≠ some k) w w1 := fun k hq hk => hg.block k hk (fun e => hq.2.1 e.symm)
  exact (((hr.snoc x vx hx).imp hq).keep hk).imp (fun k _ h => ⟨h.1, h.2.2⟩)

theorem sc_lit1 (w : World) (nm : ByteArray) (v : Value) : CellsQ (w.alloc (.cells #[.string nm, v] 71)) (fun _ => True) (some ⟨w.heap.size, 0, none⟩) (flatS [(nm, v)]) := by
  intro j u hj
  refine ⟨_, rfl, trivial, ?_⟩
  rw [show ((⟨w.heap.size, 0, none⟩ : Addr).add j) = ⟨w.heap.size, j, none⟩ from by unfold Addr.add; split <;> simp_all, alloc_new_cells]
  simpa [flatS] using hj

set_option maxRecDepth 100000 in
set_option maxHeartbeats 2000000 in
theorem s_ownAll (Q : Nat → Prop) (v : Value) (l : List Sc) (w : World) (hv : IsKinds w Q v l) :
    Calls Try.prog 27 #[v] w fun e w' => ∃ v', e = .returned v' ∧ IsKinds w' (Behind w) v' l ∧ Below w.heap.size w w' := by
  obtain ⟨hl, A, c, rfl, hA, hcap, ls, hr, hx⟩ := hv
  obtain ⟨n, hn⟩ : ∃ n, l.length = n := ⟨_, rfl⟩
  have HR := Lib.hid hr
  have HX := Lib.hid hx
  have HN := Lib.hid hn
  rw [hn] at hl ⊢
  clear hr hx hA hcap hn
  go_enter Try.func27, Try.ntmps27
  go_wp2_with (at_make; go_must (refine wp_make_S _ rfl _ _ rfl w.heap.size n rfl rfl (by omega) (Nat.le_refl _) ?_; intro v0 w0 hown0 hb0; have HMK := Lib.hid (show Making w w0 v0 [] from ⟨[], hown0, trivial⟩); obtain ⟨A0, cc0, hv0, _, _, _⟩ := hown0.slice (fun _ => True) (fun _ _ => trivial); subst hv0))
  have HB0 := Lib.hid hb0
  clear hb0 hown0
  go_loopw [3, 11] (fun vv i wr => ∃ k : Nat, k ≤ n ∧ i = .int .i64 k ∧ Making w wr vv (l.take k) ∧ Below w.heap.size w wr) (fun _ i _ => n - (intOf i).toNat)
  case atStart => exact ⟨0, Nat.zero_le _, rfl, by rw [List.take_zero]; exact HMK.out, HB0.out⟩
  case round =>
    obtain ⟨k, hk, rfl, hmk, hb⟩ := hrel
    obtain ⟨ls', hown, hsc⟩ := hmk
    have HOWN := Lib.hid hown
    have HSC := Lib.hid hsc
    have HB := Lib.hid hb
    have hsz : w.heap.size ≤ wr.heap.size := hb.size
    have hlen : ls'.length = (l.take k).length := hsc.len
    rw [List.length_take, HN.out] at hlen
    obtain ⟨A3, c3, hv3, _, _, _⟩ := hown.slice (fun _ => True) (fun _ _ => trivial)
    subst hv3
    have HLEN := Lib.hid hlen
    clear hown hsc hb hlen
    by_cases h1 : k < n
    · obtain ⟨x, hxk⟩ : ∃ x, l[k]? = some x := ⟨_, List.getElem?_eq_getElem (by rw [HN.out]; exact h1)⟩
      obtain ⟨a, v, rfl, hv, ha, a0, a1⟩ := kind_get (HR.out.keep (Below.keepQ HB.out Q)) (HX.out.below HB.out) k x hxk
      have HV := Lib.hid hv
      obtain ⟨_, A2, c2, rfl, _, _, _⟩ := hv
      have htk : l.take (k + 1) = l.take k ++ [x] := by
        rw [List.take_add_one, hxk]
        rfl
      have HTK := Lib.hid htk
      clear hxk htk
      go_wp2_with fail
      refine (s_own x.nm _ x.cols Q _ (HV.out.below (one_new _ _))).mono ?_
      rintro e w2 ⟨vx, rfl, hvx, hb2⟩
      have HVX := Lib.hid hvx
      obtain ⟨_, A4, c4, rfl, _⟩ := hvx
      have HB2 := Lib.hid ((one_new wr (.cells #[.string x.nm, .slice A2 x.cols.length c2] 71)).trans (hb2.mono (by simp)))
      have hs2 := HB2.out.size
      have hs3 := hb2.size
      rw [World.size_alloc] at hs3
      clear hb2
      go_wp2_with (at_builtin; go_must (refine wp_append_S _ rfl (.tmp 15) (.tmp 18) rfl w.heap.size _ ls' [(x.nm, .slice A4 x.cols.length c4)] rfl ((HOWN.out.below HB2.out).alloc _) (some ⟨w2.heap.size, 0, none⟩) 1 1 rfl rfl (fun _ => True) (sc_lit1 _ _ _) (by intro u hu; simp [flatS] at hu; rcases hu with rfl | rfl <;> rfl) (by have := HLEN.out; simp; omega) (by simp; omega) ?_; intro v1 w3 hown3 hb3 hg3 hv3))
      have hne : ∀ j, wr.heap.size + 1 ≤ j → (Value.slice A3 ls'.length c3).ownBlock ≠ some j := by
        intro j hj e
        have := (World.ownsRow.lt HOWN.out j e).2
        omega
      have hmk := making_step w (w2.alloc (.cells #[.string x.nm, .slice A4 x.cols.length c4] 71)) w3 _ v1 ls' (l.take k) x _
        (HSC.out.keep (Below.keepQ (HB2.out.trans ((one_new w2 _).mono hs2)) _))
        ((HVX.out.imp (fun j _ hj => ⟨by simp [Behind] at hj; omega, hne j (by simpa [Behind] using hj)⟩)).below (one_new w2 _)) hown3 hg3 hv3
      have HMK2 := Lib.hid hmk
      have HB3 := Lib.hid ((HB.out.trans (HB2.out.mono hsz)).trans (((one_new w2 (.cells #[.string x.nm, .slice A4 x.cols.length c4] 71)).mono (by omega)).trans hb3))
      clear hmk hg3 hv3 hown3 hb3 hne
      go_roundw
      case rel => exact ⟨k + 1, by omega, by go_num, by rw [HTK.out]; exact HMK2.out, HB3.out⟩
      case measure => simp [intOf]; omega
    · obtain rfl : k = n := by omega
      go_wp2
      go_ret
      refine ⟨_, rfl, ⟨by rw [HN.out]; exact hl, ?_⟩, HB.out⟩
      obtain ⟨A5, c5, hv5, hA5, hcap5, hcells5⟩ := HOWN.out.slice (Behind w) (fun k hk => hk)
      have hsc := HSC.out
      rw [List.take_of_length_le (by rw [HN.out]; exact Nat.le_refl _)] at hsc
      have hll : ls'.length = l.length := hsc.len
      exact ⟨A5, c5, by rw [hv5, hll]; exact rfl, hA5, by rw [← hll]; exact hcap5, ls', hsc.imp (fun k _ h => h.1), hcells5⟩
end
end Go.Proofs.Ythdjkagodccdbaa
namespace Go.Proofs.Ythdjkagodccdbaa
section
open Go.RowKit

/-- A set of these kinds lies at block g, in blocks of Q. -/
def SetIs (w : World) (Q : Nat → Prop) (g : Nat) (l : List Sc) : Prop := ∃ v, w.cell? ⟨g, 0, none⟩ = some v ∧ Q g ∧ IsKinds w Q v l
theorem SetIs.lt {w : World} {Q : Nat → Prop} {g : Nat} {l : List Sc} (h : SetIs w Q g l) : g < w.heap.size := by
  obtain ⟨v, hc, _⟩ := h
  exact World.block_lt_of_cell? w _ hc
theorem SetIs.keep {w w' : World} {Q : Nat → Prop} {g : Nat} {l : List Sc} (h : SetIs w Q g l) (hk : KeepQ Q w w') : SetIs w' Q g l := by
  have hlt := h.lt
  obtain ⟨v, hc, hq, hv⟩ := h
  exact ⟨v, (World.cell?_of_block (w := w) (hk _ hq hlt)).trans hc, hq, hv.keep hk⟩
theorem SetIs.below {w w' : World} {Q : Nat → Prop} {g : Nat} {l : List Sc} (h : SetIs w Q g l) (hb : Below w.heap.size w w') : SetIs w' Q g l := h.keep (Below.keepQ hb Q)

/-- What New answers. -/
def NewIs (w : World) (l : List Sc) (e : Ending) (w' : World) : Prop :=
  Below w.heap.size w w' ∧ ((faultR l = 0 ∧ ∃ g, e = .returned (.tuple #[.pointer (some ⟨g, 0, none⟩), .int .i64 0]) ∧ SetIs w' (Behind w) g l) ∨ (faultR l ≠ 0 ∧ e = .returned (.tuple #[.pointer none, .int .i64 (faultR l)])))

set_option maxRecDepth 100000 in
set_option maxHeartbeats 1000000 in
theorem s_new (Q : Nat → Prop) (v : Value) (l : List Sc) (w : World) (hv : IsKinds w Q v l) : Calls Try.prog 8 #[v] w (NewIs w l) := by
  have HV := Lib.hid hv
  obtain ⟨hl, A, c, rfl, hA, hcap, ls, hr, hx⟩ := hv
  have HF := Lib.hid (s_fault Q A ls l _ c w rfl hl hcap hr hx)
  have HL := Lib.hid hl
  obtain ⟨n, hn⟩ : ∃ n, l.length = n := ⟨_, rfl⟩
  have HN := Lib.hid hn
  rw [hn] at HF HV ⊢
  clear hr hx hA hcap hl hn
  obtain ⟨R, hR⟩ : ∃ R, faultR l = R := ⟨_, rfl⟩
  rw [hR] at HF
  have HR := Lib.hid hR
  clear hR
  by_cases h0 : R = 0
  · have b0 : (R == 0) = true := by simpa using h0
    go_enter Try.func8, Try.ntmps8
    go_wp2_with fail
    refine HF.out.mono ?_
    rintro e w1 ⟨rfl, hb1⟩
    go_wp2_with fail
    refine (s_ownAll Q _ l _ (by have := HV.out.below hb1; exact this)).mono ?_
    rintro e w2 ⟨v', rfl, hv', hb2⟩
    have HV2 := Lib.hid hv'
    have HB := Lib.hid (hb1.trans (hb2.mono hb1.size))
    have hs1 := hb1.size
    obtain ⟨_, A', c', rfl, _⟩ := hv'
    clear hb1 hb2
    go_wp2
    go_ret2
    refine ⟨HB.out.trans ((one_new _ _).mono HB.out.size), .inl ⟨by rw [HR.out]; exact h0, w2.heap.size, rfl, _, new_cell w2 _ _ 0 _ rfl, HB.out.size, ?_⟩⟩
    exact (HV2.out.below (one_new _ _)).imp (fun k _ hk => Nat.le_trans hs1 hk)
  · have b0 : (R == 0) = false := by simpa using h0
    go_enter Try.func8, Try.ntmps8
    go_wp2_with fail
    refine HF.out.mono ?_
    rintro e w1 ⟨rfl, hb1⟩
    go_wp2
    go_ret2
    exact ⟨hb1, .inr ⟨by rw [HR.out]; exact h0, by rw [HR.out]; exact rfl⟩⟩

/-- The kind that bears a name. -/
def findS (l : List Sc) (kind : ByteArray) : Option Sc := l.find? fun x => sameNm x.nm kind
/-- What find answers. -/
def FoundIs (w : World) (Q : Nat → Prop) (o : Option Sc) (none' : Int) (e : Ending) (w' : World) : Prop :=
  Below w.heap.size w w' ∧ match o with
  | some x => ∃ v, e = .returned (.tuple #[.agg #[.string x.nm, v], .int .i64 0]) ∧ IsCols w' Q v x.cols
  | none => e = .returned (.tuple #[.agg #[.string ⟨#[]⟩, .slice none 0 0], .int .i64 none'])

theorem find_drop (l : List Sc) (kind : ByteArray) (k : Nat) (x : Sc) (h : l[k]? = some x) : findS (l.drop k) kind = if sameNm x.nm kind = true then some x else findS (l.drop (k + 1)) kind := by
  obtain ⟨h1, h2⟩ := List.getElem?_eq_some_iff.1 h
  rw [List.drop_eq_getElem_cons h1, h2]
  unfold findS
  rw [List.find?_cons]
  split
  · rename_i hh; rw [if_pos hh]
  · rename_i hh; rw [if_neg (by rw [hh]; simp)]

set_option maxRecDepth 100000 in
set_option maxHeartbeats 2000000 in
theorem s_find (Q : Nat → Prop) (g : Nat) (l : List Sc) (kind : ByteArray) (w : World) (hs : SetIs w Q g l) :
    Calls Try.prog 94 #[.pointer (some ⟨g, 0, none⟩), .string kind] w (FoundIs w Q (findS l kind) 20) := by
  have hg := hs.lt
  obtain ⟨v, hc, hq, hl, A, c, rfl, hA, hcap, ls, hr, hx⟩ := hs
  have HR := Lib.hid hr
  have HX := Lib.hid hx
  obtain ⟨n, hn⟩ : ∃ n, l.length = n := ⟨_, rfl⟩
  have HN := Lib.hid hn
  rw [hn] at hl hc hcap
  obtain ⟨O, hO⟩ : ∃ O, findS l kind = O := ⟨_, rfl⟩
  rw [hO]
  have HO := Lib.hid hO
  clear hr hx hA hn hO
  go_enter Try.func94, Try.ntmps94
  go_wp2
  go_loopw [16] (fun i wr => ∃ k : Nat, k ≤ n ∧ i = .int .i64 k ∧ findS (l.drop k) kind = O ∧ Below (w.alloc (.cells #[.string ⟨#[]⟩, .slice none 0 0] 71)).heap.size (w.alloc (.cells #[.string ⟨#[]⟩, .slice none 0 0] 71)) wr) (fun i _ => n - (intOf i).toNat)
  case atStart => exact ⟨0, Nat.zero_le _, rfl, by rw [List.drop_zero]; exact HO.out, Below.refl _ _⟩
  case round =>
    obtain ⟨k, hk, rfl, hq2, hb⟩ := hrel
    have HQ := Lib.hid hq2
    have HB := Lib.hid hb
    have hba := (one_new w (.cells #[.string ⟨#[]⟩, .slice none 0 0] 71)).trans (hb.mono (by simp))
    have HBA := Lib.hid hba
    have r0 : wr.cell? ⟨w.heap.size, 0, none⟩ = some (.string ⟨#[]⟩) := (hb.cell (p := ⟨w.heap.size, 0, none⟩) (by simp)).trans (by simp [go_sem])
    have r1 : wr.cell? ⟨w.heap.size, 1, none⟩ = some (.slice none 0 0) := (hb.cell (p := ⟨w.heap.size, 1, none⟩) (by simp)).trans (by simp [go_sem])
    have f0 : wr.frozen? ⟨w.heap.size, 0, none⟩ = false := (hb.frozen (p := ⟨w.heap.size, 0, none⟩) (by simp)).trans (by simp [go_sem])
    have f1 : wr.frozen? ⟨w.heap.size, 1, none⟩ = false := (hb.frozen (p := ⟨w.heap.size, 1, none⟩) (by simp)).trans (by simp [go_sem])
    have hz : w.heap.size < wr.heap.size := Nat.lt_of_lt_of_le (by simp) hb.size
    clear hq2 hb hba
    by_cases h1 : k < n
    · obtain ⟨x, hxk⟩ : ∃ x, l[k]? = some x := ⟨_, List.getElem?_eq_getElem (by rw [HN.out]; exact h1)⟩
      obtain ⟨a, v, rfl, hv, ha, a0w, a1w⟩ := kind_get HR.out HX.out k x hxk
      have a0 := (HBA.out.cell (p := a.add (k * 2)) ha).trans a0w
      have a1 := (HBA.out.cell (p := { block := (a.add (k * 2)).block, off := (a.add (k * 2)).off + 1 }) ha).trans a1w
      have ha' : (a.add (k * 2)).block < wr.heap.size := Nat.lt_of_lt_of_le ha HBA.out.size
      clear a0w a1w
      have HV := Lib.hid hv
      obtain ⟨_, A2, c2, rfl, _, _, _⟩ := hv
      have hfd := find_drop l kind k x hxk
      rw [HQ.out] at hfd
      have HFD := Lib.hid hfd
      clear hxk hfd
      rcases Bool.eq_false_or_eq_true (sameNm x.nm kind) with hz2 | hz2
      · have bz : (x.nm.toList == kind.toList) = true := hz2
        have hO : O = some x := by rw [HFD.out, if_pos hz2]
        subst hO
        clear hz2
        go_wp2
        have hfin : ∀ u0 u1 o, Below w.heap.size w (((wr.setCell ⟨w.heap.size, 0, none⟩ u0).setCell ⟨w.heap.size, 1, none⟩ u1).alloc o) := fun u0 u1 o => (bsetG (bsetG HBA.out (Nat.le_refl _)) (Nat.le_refl _)).alloc (by simp; exact HBA.out.size) o
        exact bodyPost_ret (v := .tuple #[.agg #[.string x.nm, .slice A2 x.cols.length c2], .int .i64 0]) (by simp [results, Try.results94, go_sem, r0, r1, hz]) rfl
          ⟨hfin _ _ _, _, rfl, HV.out.below (hfin _ _ _)⟩
      · have bz : (x.nm.toList == kind.toList) = false := hz2
        have hO : findS (l.drop (k + 1)) kind = O := by rw [HFD.out, if_neg (by rw [hz2]; simp)]
        have HOx := Lib.hid hO
        clear hz2 hO
        go_wp2
        go_roundw
        case rel => exact ⟨k + 1, by omega, by go_num, HOx.out, HB.out.trans (one_new_far _ _ HB.out.size)⟩
        case measure => simp [intOf]; omega
    · have hO : O = none := by
        rw [← HQ.out, List.drop_of_length_le (by rw [HN.out]; omega)]
        rfl
      subst hO
      go_wp2
      exact bodyPost_ret (v := .tuple #[.agg #[.string ⟨#[]⟩, .slice none 0 0], .int .i64 20]) (by simp [results, Try.results94, go_sem, r0, r1]) rfl
        ⟨by repeat (first | exact HBA.out | (refine bsetG ?_ (by simp))), rfl⟩
end
end Go.Proofs.Ythdjkagodccdbaa
namespace Go.Proofs.Ythdjkagodccdbaa
section
open Go.RowKit

/-- A column of texts that may not be null. -/
def textC (nm : ByteArray) : Co := ⟨nm, 3, false⟩
/-- Texts as they lie. -/
def TextsAt (w : World) (Q : Nat → Prop) (A : Option Addr) (ts : List ByteArray) : Prop := CellsQ w Q A (ts.map Value.string)
theorem TextsAt.get {w : World} {Q : Nat → Prop} {A : Option Addr} {ts : List ByteArray} (h : TextsAt w Q A ts) (i : Nat) (t : ByteArray) (ht : ts[i]? = some t) : ∃ a, A = some a ∧ (a.add i).block < w.heap.size ∧ w.cell? (a.add i) = some (.string t) := by
  obtain ⟨a, ha, _, hc⟩ := h i (.string t) (by rw [List.getElem?_map, ht]; rfl)
  exact ⟨a, ha, World.block_lt_of_cell? w _ hc, hc⟩

theorem c_lit1 (w : World) (c : Co) : CellsQ (w.alloc (.cells #[.string c.nm, .int .i64 c.k, .bool c.nl] 49)) (fun _ => True) (some ⟨w.heap.size, 0, none⟩) (flatC [c]) := by
  intro j u hj
  refine ⟨_, rfl, trivial, ?_⟩
  rw [show ((⟨w.heap.size, 0, none⟩ : Addr).add j) = ⟨w.heap.size, j, none⟩ from by unfold Addr.add; split <;> simp_all, alloc_new_cells]
  simpa [flatC, Co.cells] using hj

/-- A call that makes columns of its own. -/
def MakesC (w : World) (cs : List Co) (e : Ending) (w' : World) : Prop := ∃ v, e = .returned v ∧ OwnC w' w.heap.size v cs ∧ Below w.heap.size w w'

set_option maxRecDepth 100000 in
set_option maxHeartbeats 2000000 in
theorem s_texts (Q : Nat → Prop) (A : Option Addr) (ts : List ByteArray) (n c : Nat) (w : World) (hn : n = ts.length) (hl : n ≤ 1000000) (hx : TextsAt w Q A ts) :
    Calls Try.prog 93 #[.slice A n c] w (MakesC w (ts.map textC)) := by
  have HX := Lib.hid hx
  have HN := Lib.hid hn
  clear hx hn
  go_enter Try.func93, Try.ntmps93
  go_wp2
  go_loopw [3, 8] (fun v i wr => ∃ k : Nat, k ≤ n ∧ i = .int .i64 k ∧ OwnC wr w.heap.size v ((ts.take k).map textC) ∧ Below w.heap.size w wr) (fun _ i _ => n - (intOf i).toNat)
  case atStart => exact ⟨0, Nat.zero_le _, rfl, by rw [List.take_zero]; exact OwnC.nil _ _, Below.refl _ _⟩
  case round =>
    obtain ⟨k, hk, rfl, hown, hb⟩ := hrel
    have HOWN := Lib.hid hown
    have HB := Lib.hid hb
    have hsz : w.heap.size ≤ wr.heap.size := hb.size
    clear hown hb
    by_cases h1 : k < n
    · obtain ⟨t, ht⟩ : ∃ t, ts[k]? = some t := ⟨_, List.getElem?_eq_getElem (by rw [← HN.out]; exact h1)⟩
      obtain ⟨a, rfl, ha, a0⟩ := (show TextsAt wr Q A ts from HX.out.below HB.out).get k t ht
      have htk : (ts.take (k + 1)).map textC = (ts.take k).map textC ++ [textC t] := by
        rw [List.take_add_one, ht]
        simp
      have HTK := Lib.hid htk
      clear ht htk
      go_wp2_with (at_builtin; go_must (refine wp_append_C _ rfl (.tmp 12) (.tmp 15) rfl w.heap.size _ ((ts.take k).map textC) [textC t] rfl (HOWN.out.alloc _) (some ⟨wr.heap.size, 0, none⟩) 1 1 rfl rfl (fun _ => True) (c_lit1 _ (textC t)) (flatC_one _) (by simp; omega) (by simp; omega) ?_; intro v1 w3 hown3 hb3 _ _))
      have HO3 := Lib.hid hown3
      have HB3 := Lib.hid (HB.out.trans ((one_new_far wr _ hsz).trans hb3))
      clear hown3 hb3
      go_roundw
      case rel => exact ⟨k + 1, by omega, by go_num, by rw [HTK.out]; exact HO3.out, HB3.out⟩
      case measure => simp [intOf]; omega
    · obtain rfl : k = n := by omega
      go_wp2
      go_ret
      have h2 := HOWN.out
      rw [List.take_of_length_le (by rw [← HN.out]; exact Nat.le_refl _)] at h2
      exact ⟨_, rfl, h2, HB.out⟩
end
end Go.Proofs.Ythdjkagodccdbaa
