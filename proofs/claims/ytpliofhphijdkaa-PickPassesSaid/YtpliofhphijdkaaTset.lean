/-
  with, without and plus answer the plain trees: with a row more, or less.
  No condition but that a tree has no more rows, and a row no more cells, than fits; without is asked of a row that is there.
-/
import Derived.Test.YtpliofhphijdkaaTfind
import Derived.Test.YtpliofhphijdkaaTbal2
import Derived.Test.YtpliofhphijdkaaOf
namespace Go.Proofs.Ytpliofhphijdkaa
open Go.RowKit

theorem IsRow.own {w w' : World} {Q : Nat → Prop} {v : Value} {xs : List V} (h : Own w' w.heap.size v xs) (hl : xs.length ≤ 1000000) (hQ : ∀ k, w.heap.size ≤ k → Q k) : IsRow w' Q v xs := by
  obtain ⟨A, c, rfl, hA, hr⟩ := h.row
  refine ⟨hl, A, c, rfl, hA, fun i x hi => ?_⟩
  obtain ⟨a, ha, hb, hv⟩ := hr i x hi
  refine ⟨a, ha, hQ _ ?_, hv⟩
  subst ha
  have := h.base_le (a.add (i * 4)).block
  rcases h.2 with ⟨hn, _⟩ | ⟨g, cap, cur, hv', hg, _⟩
  · cases hn
  · injection hv' with h1
    injection h1 with h1
    subst h1
    rw [show ((⟨g, 0, none⟩ : Addr).add (i * 4)).block = g from by unfold Addr.add; split <;> rfl]
    exact hg
theorem of_rows (R : Nat → Prop) (Q : Nat → Prop) (v : Value) (xs : List V) (w : World) (hQ : ∀ k, w.heap.size ≤ k → Q k) (hx : IsRow w R v xs) : Calls Try.prog 27 #[v] w fun e w' => ∃ u, e = .returned u ∧ IsRow w' Q u xs ∧ Below w.heap.size w w' := by
  obtain ⟨h0, A, c, rfl, hA, h1⟩ := hx
  refine (row_of A xs _ c w rfl hA h0 h1.at).mono ?_
  rintro e w' ⟨u, rfl, ho, hb⟩
  exact ⟨u, rfl, IsRow.own ho h0 hQ, hb⟩

theorem Tr.cnt_put (x : List V) (k : Int) : ∀ t : Tr, (t.put x k).cnt ≤ t.cnt + 1
  | .nil => by show 0 + 1 + 0 ≤ 0 + 1; omega
  | .node r m l h => by
    have h1 := Tr.cnt_put x k l
    have h2 := Tr.cnt_put x k h
    have e : (Tr.node r m l h).cnt = l.cnt + 1 + h.cnt := rfl
    unfold Tr.put
    split
    · rw [Tr.cnt_bal]
      omega
    · split
      · rw [Tr.cnt_bal]
        omega
      · have e2 : (Tr.node r k l h).cnt = l.cnt + 1 + h.cnt := rfl
        omega

set_option maxRecDepth 100000 in
set_option maxHeartbeats 4000000 in
theorem b_putT (R : Nat → Prop) (v : Value) (x : List V) (k : Int) (Q : Nat → Prop) : ∀ (t : Tr) (p : Option Addr) (w : World), (∀ k, w.heap.size ≤ k → Q k) → IsRow w R v x → TreeAt w Q p t → t.cnt ≤ 800000 →
    Calls Try.prog 66 #[.pointer p, v, .int .i64 k] w (Trees w Q (t.put x k))
  | .nil, p, w, hQ, hx, ht, hc => by
    obtain rfl : p = none := ht
    have HX := Lib.hid hx
    have HQ := Lib.hid hQ
    obtain ⟨_, A, c, rfl, _, _⟩ := hx
    clear hQ hc
    go_enter Try.func66, Try.ntmps66
    go_wp2_with fail
    refine (of_rows R Q _ x _ HQ.out HX.out).mono ?_
    rintro e w1 ⟨u, rfl, hu, hb⟩
    have HU := Lib.hid hu
    have HB := Lib.hid hb
    obtain ⟨_, A', c', rfl, _, _⟩ := hu
    clear hb
    go_wp2_with fail
    refine (t_fork _ x k none none .nil .nil _ Q (fun j hj => HQ.out j (by have := HB.out.size; omega)) HU.out rfl rfl (by show 0 ≤ _; omega) (by show 0 ≤ _; omega)).mono ?_
    rintro e w2 ⟨q, rfl, hT, hb2⟩
    go_wp2
    go_ret
    exact ⟨q, rfl, hT, HB.out.trans (hb2.mono HB.out.size)⟩
  | .node r m l h, p, w, hQ, hx, ht, hc => by
    obtain ⟨b, pl, ph, rfl, ⟨hb0, hb1, ⟨lv, hlv, c0⟩, c1, c2, c3, c4⟩, hl, hh⟩ := ht
    have hcn : l.cnt + 1 + h.cnt ≤ 800000 := hc
    have HX := Lib.hid hx
    have HQ := Lib.hid hQ
    have HV := Lib.hid hlv
    have HL := Lib.hid hl
    have HH := Lib.hid hh
    have ihl := b_putT R v x k Q l pl
    have ihh := b_putT R v x k Q h ph
    obtain ⟨_, A, c, rfl, _, _⟩ := hx
    have IHl := Lib.hid ihl
    have IHh := Lib.hid ihh
    have hcl := Tr.cnt_put x k l
    have hch := Tr.cnt_put x k h
    obtain ⟨_, A', c', rfl, _, _⟩ := hlv
    clear hQ hc hl hh ihl ihh
    by_cases h1 : cmpR x r = -1
    · have hE : (Tr.node r m l h).put x k = .bal r m (l.put x k) h := if_pos h1
      rw [hE]
      have HZ := Lib.hid h1
      clear hE h1
      go_enter Try.func66, Try.ntmps66
      go_wp2_with fail
      refine (cmp_rows R Q _ _ x r _ HX.out HV.out).mono ?_
      rintro e w1 ⟨rfl, hbw⟩
      rw [HZ.out]
      have hcb := fun i => cl_of hbw b i hb1
      have HB := Lib.hid hbw
      have HB' := Lib.hid (hbw.trans (below_drew w.heap.size w1))
      have hs1 := hbw.size
      clear hbw
      go_wp2
      go_region_held3 (fun w' => w'.cell? { block := b, off := 0 } = some (.slice A' r.length c') ∧ w'.cell? { block := b, off := 1 } = some (.int .i64 m) ∧ w'.cell? { block := b, off := 3 } = some (.pointer pl) ∧ w'.cell? { block := b, off := 4 } = some (.pointer ph)) (go_keep)
        (first
        | (go_at_call 66; refine (IHl.out _ (by intro j hj; exact HQ.out j (by have := HB'.out.size; omega)) (by exact HX.out.below HB'.out) (by exact HL.out.below HB'.out) (by omega)).mono ?_; rintro e w2 ⟨q, rfl, hT1, hbw⟩; have hbb := HB'.out.trans (hbw.mono HB'.out.size); have hcb2 := fun i => cl_of hbb b i hb1)
        | (go_at_call 75; refine (t_bal _ r m q ph (l.put _ k) h _ Q (by intro j hj; exact HQ.out j (by have := hbb.size; omega)) (by exact HV.out.below hbb) (by exact hT1) (by exact HH.out.below hbb) (by omega)).mono ?_; rintro e w3 ⟨q2, rfl, hT2, hbw3⟩; have hbb3 := hbb.trans (hbw3.mono hbb.size); have hcb3 := fun i => cl_of hbb3 b i hb1))
      go_wp2
      go_ret
      exact ⟨_, rfl, hT2, hbb3⟩
    · by_cases h2 : cmpR x r = 1
      · have hE : (Tr.node r m l h).put x k = .bal r m l (h.put x k) := (if_neg h1).trans (if_pos h2)
        rw [hE]
        have HZ := Lib.hid h2
        clear hE h1 h2
        go_enter Try.func66, Try.ntmps66
        go_wp2_with fail
        refine (cmp_rows R Q _ _ x r _ HX.out HV.out).mono ?_
        rintro e w1 ⟨rfl, hbw⟩
        rw [HZ.out]
        have hcb := fun i => cl_of hbw b i hb1
        have HB := Lib.hid hbw
        have HB' := Lib.hid (hbw.trans (below_drew w.heap.size w1))
        have hs1 := hbw.size
        clear hbw
        go_wp2
        go_region_held3 (fun w' => w'.cell? { block := b, off := 0 } = some (.slice A' r.length c') ∧ w'.cell? { block := b, off := 1 } = some (.int .i64 m) ∧ w'.cell? { block := b, off := 3 } = some (.pointer pl) ∧ w'.cell? { block := b, off := 4 } = some (.pointer ph)) (go_keep)
          (first
          | (go_at_call 66; refine (IHh.out _ (by intro j hj; exact HQ.out j (by have := HB'.out.size; omega)) (by exact HX.out.below HB'.out) (by exact HH.out.below HB'.out) (by omega)).mono ?_; rintro e w2 ⟨q, rfl, hT1, hbw⟩; have hbb := HB'.out.trans (hbw.mono HB'.out.size); have hcb2 := fun i => cl_of hbb b i hb1)
          | (go_at_call 75; refine (t_bal _ r m pl q l (h.put _ k) _ Q (by intro j hj; exact HQ.out j (by have := hbb.size; omega)) (by exact HV.out.below hbb) (by exact HL.out.below hbb) (by exact hT1) (by omega)).mono ?_; rintro e w3 ⟨q2, rfl, hT2, hbw3⟩; have hbb3 := hbb.trans (hbw3.mono hbb.size); have hcb3 := fun i => cl_of hbb3 b i hb1))
        go_wp2
        go_ret
        exact ⟨_, rfl, hT2, hbb3⟩
      · have hE : (Tr.node r m l h).put x k = .node r k l h := (if_neg h1).trans (if_neg h2)
        rw [hE]
        have h0 : cmpR x r = 0 := by have := cmpR_rng x r; omega
        have HZ := Lib.hid h0
        clear hE h1 h2 h0
        go_enter Try.func66, Try.ntmps66
        go_wp2_with fail
        refine (cmp_rows R Q _ _ x r _ HX.out HV.out).mono ?_
        rintro e w1 ⟨rfl, hbw⟩
        rw [HZ.out]
        have hcb := fun i => cl_of hbw b i hb1
        have HB := Lib.hid hbw
        have HB' := Lib.hid (hbw.trans (below_drew w.heap.size w1))
        have hs1 := hbw.size
        clear hbw
        go_wp2
        go_region_held3 (fun w' => w'.cell? { block := b, off := 0 } = some (.slice A' r.length c') ∧ w'.cell? { block := b, off := 3 } = some (.pointer pl) ∧ w'.cell? { block := b, off := 4 } = some (.pointer ph)) (go_keep)
          (first
          | (go_at_call 77; refine (t_fork _ r k pl ph l h _ Q (by intro j hj; exact HQ.out j (by have := HB'.out.size; omega)) (by exact HV.out.below HB'.out) (by exact HL.out.below HB'.out) (by exact HH.out.below HB'.out) (by omega) (by omega)).mono ?_; rintro e w3 ⟨q2, rfl, hT2, hbw3⟩; have hbb3 := HB'.out.trans (hbw3.mono HB'.out.size); have hcb3 := fun i => cl_of hbb3 b i hb1))
        go_wp2
        go_ret
        exact ⟨_, rfl, hT2, hbb3⟩
end Go.Proofs.Ytpliofhphijdkaa
