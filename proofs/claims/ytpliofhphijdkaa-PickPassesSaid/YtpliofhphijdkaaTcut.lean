/-
  without and plus answer the plain trees.
  No condition but that a tree has no more rows, and a row no more cells, than fits; without is asked of a row that is there.
-/
import Derived.Test.YtpliofhphijdkaaTset
namespace Go.Proofs.Ytpliofhphijdkaa
open Go.RowKit

theorem setL_len (x : List V) : ∀ l : List En, (setL x 0 l).length ≤ l.length
  | [] => by simp [setL]
  | e :: l => by
    have ih := setL_len x l
    rw [setL_cons]
    split
    · simp only [List.length_cons]; omega
    · split
      · simp
      · simp
theorem Tr.cnt_cut : ∀ (t : Tr) (x : List V), (t.cut x).cnt ≤ t.cnt
  | .nil, x => Nat.le_refl _
  | .node r m l h, x => by
    have e : (Tr.node r m l h).cnt = l.cnt + 1 + h.cnt := rfl
    have h1 := Tr.cnt_cut l x
    have h2 := Tr.cnt_cut h x
    have h3 := Tr.cnt_cut h h.least.rootD.1
    unfold Tr.cut
    split
    · rw [Tr.cnt_bal]; omega
    · split
      · rw [Tr.cnt_bal]; omega
      · split
        · omega
        · rw [Tr.cnt_bal]; omega

set_option maxRecDepth 100000 in
set_option maxHeartbeats 4000000 in
theorem t_cut (Q : Nat → Prop) : ∀ (t : Tr) (R : Nat → Prop) (v : Value) (x : List V) (p : Option Addr) (w : World), Ord t.toL → t.has x = true → t.cnt ≤ 800000 → (∀ k, w.heap.size ≤ k → Q k) → IsRow w R v x → TreeAt w Q p t →
    Calls Try.prog 65 #[.pointer p, v] w (Trees w Q (t.cut x))
  | .nil, R, v, x, p, w, _, hh, _, _, _, _ => by cases hh
  | .node r m l h, R, v, x, p, w, ho, hhas, hc, hQ, hx, ht => by
    obtain ⟨b, pl, ph, rfl, ⟨hb0, hb1, ⟨lv, hlv, c0⟩, c1, c2, c3, c4⟩, hl, hh⟩ := ht
    have hcn : l.cnt + 1 + h.cnt ≤ 800000 := hc
    obtain ⟨hol, hoh, _, _, _⟩ := ord_node ho
    have HX := Lib.hid hx
    have HQ := Lib.hid hQ
    have HV := Lib.hid hlv
    have HL := Lib.hid hl
    have HH := Lib.hid hh
    have ihl := t_cut Q l R v x pl
    have ihh := t_cut Q h R v x ph
    have ihm := fun u => t_cut Q h Q u h.least.rootD.1 ph
    obtain ⟨_, A, c, rfl, _, _⟩ := hx
    have hcl := Tr.cnt_cut l x
    have hch := Tr.cnt_cut h x
    have hcm := Tr.cnt_cut h h.least.rootD.1
    obtain ⟨_, A', c', rfl, _, _⟩ := hlv
    have HAS := Lib.hid hhas
    have HOL := Lib.hid hol
    have HOH := Lib.hid hoh
    clear hQ hc hl hh hhas hol hoh ho
    by_cases h1 : cmpR x r = -1
    · have hE : (Tr.node r m l h).cut x = .bal r m (l.cut x) h := if_pos h1
      have hF : (Tr.node r m l h).has x = l.has x := if_pos h1
      have IHl := Lib.hid fun w => ihl w HOL.out (hF ▸ HAS.out) (by omega)
      rw [hE]
      clear hF ihl ihh ihm
      have HZ := Lib.hid h1
      clear hE h1
      go_enter Try.func65, Try.ntmps65
      go_wp2_with fail
      refine (cmp_rows R Q _ _ x r _ HX.out HV.out).mono ?_
      rintro e w1 ⟨rfl, hbw⟩
      rw [HZ.out]
      have hcb := fun i => cl_of hbw b i hb1
      have HB := Lib.hid hbw
      have HB' := Lib.hid (hbw.trans (below_drew w.heap.size w1))
      have hs1 := hbw.size
      clear hbw
      go_wp2
      go_region_held3 (fun w' => w'.cell? { block := b, off := 0 } = some (.slice A' r.length c') ∧ w'.cell? { block := b, off := 1 } = some (.int .i64 m) ∧ w'.cell? { block := b, off := 3 } = some (.pointer pl) ∧ w'.cell? { block := b, off := 4 } = some (.pointer ph)) (go_keep)
        (first
        | (go_at_call 65; refine (IHl.out _ (by intro j hj; exact HQ.out j (by have := HB'.out.size; omega)) (by exact HX.out.below HB'.out) (by exact HL.out.below HB'.out)).mono ?_; rintro e w2 ⟨q, rfl, hT1, hbw⟩; have hbb := HB'.out.trans (hbw.mono HB'.out.size); have hcb2 := fun i => cl_of hbb b i hb1)
        | (go_at_call 75; refine (t_bal _ r m q ph (l.cut _) h _ Q (by intro j hj; exact HQ.out j (by have := hbb.size; omega)) (by exact HV.out.below hbb) (by exact hT1) (by exact HH.out.below hbb) (by omega)).mono ?_; rintro e w3 ⟨q2, rfl, hT2, hbw3⟩; have hbb3 := hbb.trans (hbw3.mono hbb.size); have hcb3 := fun i => cl_of hbb3 b i hb1))
      go_wp2
      go_ret
      exact ⟨_, rfl, hT2, hbb3⟩
    · by_cases h2 : cmpR x r = 1
      · have hE : (Tr.node r m l h).cut x = .bal r m l (h.cut x) := (if_neg h1).trans (if_pos h2)
        have hF : (Tr.node r m l h).has x = h.has x := (if_neg h1).trans (if_pos h2)
        have IHh := Lib.hid fun w => ihh w HOH.out (hF ▸ HAS.out) (by omega)
        rw [hE]
        clear hF ihl ihh ihm
        have HZ := Lib.hid h2
        clear hE h1 h2
        go_enter Try.func65, Try.ntmps65
        go_wp2_with fail
        refine (cmp_rows R Q _ _ x r _ HX.out HV.out).mono ?_
        rintro e w1 ⟨rfl, hbw⟩
        rw [HZ.out]
        have hcb := fun i => cl_of hbw b i hb1
        have HB := Lib.hid hbw
        have HB' := Lib.hid (hbw.trans (below_drew w.heap.size w1))
        have hs1 := hbw.size
        clear hbw
        go_wp2
        go_region_held3 (fun w' => w'.cell? { block := b, off := 0 } = some (.slice A' r.length c') ∧ w'.cell? { block := b, off := 1 } = some (.int .i64 m) ∧ w'.cell? { block := b, off := 3 } = some (.pointer pl) ∧ w'.cell? { block := b, off := 4 } = some (.pointer ph)) (go_keep)
          (first
          | (go_at_call 65; refine (IHh.out _ (by intro j hj; exact HQ.out j (by have := HB'.out.size; omega)) (by exact HX.out.below HB'.out) (by exact HH.out.below HB'.out)).mono ?_; rintro e w2 ⟨q, rfl, hT1, hbw⟩; have hbb := HB'.out.trans (hbw.mono HB'.out.size); have hcb2 := fun i => cl_of hbb b i hb1)
          | (go_at_call 75; refine (t_bal _ r m pl q l (h.cut _) _ Q (by intro j hj; exact HQ.out j (by have := hbb.size; omega)) (by exact HV.out.below hbb) (by exact HL.out.below hbb) (by exact hT1) (by omega)).mono ?_; rintro e w3 ⟨q2, rfl, hT2, hbw3⟩; have hbb3 := hbb.trans (hbw3.mono hbb.size); have hcb3 := fun i => cl_of hbb3 b i hb1))
        go_wp2
        go_ret
        exact ⟨_, rfl, hT2, hbb3⟩
      · have h0 : cmpR x r = 0 := by have := cmpR_rng x r; omega
        have HZ := Lib.hid h0
        have hE : (Tr.node r m l h).cut x = if h.isNil = true then l else .bal h.least.rootD.1 h.least.rootD.2 l (h.cut h.least.rootD.1) := (if_neg h1).trans (if_neg h2)
        clear h0 h1 h2 ihl ihh
        by_cases hn : h.isNil = true
        · have hph : ph = none := HH.out.nil_iff.1 hn
          subst hph
          rw [hE, if_pos hn]
          clear hE hn ihm
          go_enter Try.func65, Try.ntmps65
          go_wp2_with fail
          refine (cmp_rows R Q _ _ x r _ HX.out HV.out).mono ?_
          rintro e w1 ⟨rfl, hbw⟩
          rw [HZ.out]
          have hcb := fun i => cl_of hbw b i hb1
          go_wp2
          go_ret
          exact ⟨_, rfl, HL.out.below hbw, hbw⟩
        · have hpn : ¬ ph = none := fun e => hn (HH.out.nil_iff.2 e)
          obtain ⟨nr, nm, nh, hleast, rest, hrest⟩ := Tr.least_toL h hn
          have hrd : h.least.rootD = (nr, nm) := by rw [hleast]; rfl
          have hhas2 : h.has nr = true := Tr.has_toL nr h HOH.out ⟨(nr, nm), by rw [hrest]; simp, cmpR_ordered.self nr⟩
          rw [hE, if_neg hn, hrd]
          rw [hrd] at ihm hcm
          have IHm := Lib.hid fun u w => ihm u w HOH.out hhas2 (by omega)
          have HLE := Lib.hid hleast
          obtain ⟨ah, rfl⟩ : ∃ ah, ph = some ah := by
            cases ph with
            | none => exact absurd rfl hpn
            | some a => exact ⟨a, rfl⟩
          clear hE hn ihm hpn hrest hrd hleast hhas2
          go_enter Try.func65, Try.ntmps65
          go_wp2_with fail
          refine (cmp_rows R Q _ _ x r _ HX.out HV.out).mono ?_
          rintro e w1 ⟨rfl, hbw⟩
          rw [HZ.out]
          have hcb := fun i => cl_of hbw b i hb1
          have HB := Lib.hid hbw
          have hs1 := hbw.size
          clear hbw
          go_wp2_with fail
          refine (t_least _ h _ Q (HH.out.below HB.out)).mono ?_
          rintro e w2 ⟨q, rfl, hT, rfl⟩
          rw [HLE.out] at hT
          obtain ⟨b2, pl2, ph2, rfl, ⟨hb20, hb21, ⟨nv, hnv, d0⟩, d1, d2, d3, d4⟩, _, _⟩ := hT
          have HNV := Lib.hid hnv
          obtain ⟨_, A2, c2', rfl, _, _⟩ := hnv
          have hb1' : b < w1.heap.size := by omega
          have HB' := Lib.hid (HB.out.trans ((box_drew w1 (.cells #[.slice A2 nr.length c2', .int .i64 nm] 46)).mono hs1))
          go_wp2
          go_region_held3 (fun w' => w'.cell? { block := w1.heap.size, off := 0 } = some (.slice A2 nr.length c2') ∧ w'.cell? { block := w1.heap.size, off := 1 } = some (.int .i64 nm) ∧ w'.cell? { block := b, off := 3 } = some (.pointer pl) ∧ w'.cell? { block := b, off := 4 } = some (.pointer (some ah))) (go_keep)
            (first
            | (go_at_call 65; refine (IHm.out _ _ (by intro j hj; exact HQ.out j (by have := HB'.out.size; omega)) (by exact HNV.out.below (box_drew _ _)) (by exact HH.out.below HB'.out)).mono ?_; rintro e w2 ⟨q, rfl, hT1, hbw⟩; have hbb := HB'.out.trans (hbw.mono HB'.out.size); have hbb1 := (box_drew w1 _).trans (hbw.mono (box_drew w1 _).size); have hcb2 := fun i => cl_of hbb b i hb1; have hcn2 := fun i => cl_of hbw w1.heap.size i (by simp))
            | (go_at_call 75; refine (t_bal _ nr nm pl q l (h.cut nr) _ Q (by intro j hj; exact HQ.out j (by have := hbb.size; omega)) (by exact HNV.out.below hbb1) (by exact HL.out.below hbb) (by exact hT1) (by omega)).mono ?_; rintro e w3 ⟨q2, rfl, hT2, hbw3⟩; have hbb3 := hbb.trans (hbw3.mono hbb.size); have hcb3 := fun i => cl_of hbb3 b i hb1; have hcn3 := fun i => cl_of hbw3 w1.heap.size i (by have := hbw.size; simp at this; omega)))
          go_wp2
          go_ret
          exact ⟨_, rfl, hT2, hbb3⟩

/-- What plus answers: the tree, and the error's number. -/
def plusT (x : List V) (k : Int) (t : Tr) : Tr × Int :=
  if k < -1073741824 - t.many x ∨ 1073741824 - t.many x < k then (.nil, 10) else if k = 0 then (t, 0) else if t.many x + k = 0 then (t.cut x, 0) else (t.put x (t.many x + k), 0)
/-- A call that answers a tree and an error's number, and changes nothing that was there. -/
def TreesErr (w : World) (Q : Nat → Prop) (r : Tr × Int) (e : Ending) (w' : World) : Prop := ∃ p, e = .returned (.tuple #[.pointer p, .int .i64 r.2]) ∧ TreeAt w' Q p r.1 ∧ Below w.heap.size w w'

theorem manyL_mem (x : List V) : ∀ l : List En, ¬ manyL x l = 0 → ∃ e ∈ l, cmpR x e.1 = 0
  | [], h => absurd rfl h
  | e :: l, h => by
    rw [manyL_cons] at h
    split at h
    · obtain ⟨f, hf, h0⟩ := manyL_mem x l h
      exact ⟨f, by simp [hf], h0⟩
    · split at h
      · next h0 => exact ⟨e, by simp, by have := cmpR_flip (a := e.1) (b := x); omega⟩
      · exact absurd rfl h

set_option maxHeartbeats 2000000 in
theorem t_plus (R : Nat → Prop) (v : Value) (x : List V) (k : Int) (Q : Nat → Prop) (t : Tr) (p : Option Addr) (w : World) (ho : Ord t.toL) (hb : -1073741824 ≤ t.many x ∧ t.many x ≤ 1073741824) (hk : -9223372036854775808 ≤ k ∧ k ≤ 9223372036854775807) (hQ : ∀ k, w.heap.size ≤ k → Q k) (hx : IsRow w R v x) (ht : TreeAt w Q p t) (hc : t.cnt ≤ 800000) :
    Calls Try.prog 49 #[.pointer p, v, .int .i64 k] w (TreesErr w Q (plusT x k t)) := by
  have HX := Lib.hid hx
  have HQ := Lib.hid hQ
  have HT := Lib.hid ht
  have HO := Lib.hid ho
  have HM := Lib.hid (t_many R v x p t w Q hx ht)
  have HMT := Lib.hid (Tr.many_toL x t ho)
  obtain ⟨_, A, c, rfl, _, _⟩ := hx
  clear hQ ht ho
  unfold plusT
  generalize hm : t.many x = m at *
  have HMM := Lib.hid hm
  clear hm
  obtain ⟨hb1, hb2⟩ := hb
  by_cases h1 : k < -1073741824 - m
  · have e : (if k < -1073741824 - m ∨ 1073741824 - m < k then ((.nil, 10) : Tr × Int) else if k = 0 then (t, 0) else if m + k = 0 then (t.cut x, 0) else (t.put x (m + k), 0)) = (.nil, 10) := if_pos (Or.inl h1)
    rw [e]
    clear e
    go_enter Try.func49, Try.ntmps49
    go_wp2_with fail
    refine HM.out.mono ?_
    rintro e w1 ⟨rfl, hbw⟩
    go_wp2
    go_ret2
    exact ⟨none, rfl, rfl, hbw⟩
  · by_cases h2 : 1073741824 - m < k
    · have e : (if k < -1073741824 - m ∨ 1073741824 - m < k then ((.nil, 10) : Tr × Int) else if k = 0 then (t, 0) else if m + k = 0 then (t.cut x, 0) else (t.put x (m + k), 0)) = (.nil, 10) := if_pos (Or.inr h2)
      rw [e]
      clear e
      go_enter Try.func49, Try.ntmps49
      go_wp2_with fail
      refine HM.out.mono ?_
      rintro e w1 ⟨rfl, hbw⟩
      go_wp2
      go_ret2
      exact ⟨none, rfl, rfl, hbw⟩
    · have e : (if k < -1073741824 - m ∨ 1073741824 - m < k then ((.nil, 10) : Tr × Int) else if k = 0 then (t, 0) else if m + k = 0 then (t.cut x, 0) else (t.put x (m + k), 0)) = if k = 0 then (t, 0) else if m + k = 0 then (t.cut x, 0) else (t.put x (m + k), 0) := if_neg (by omega)
      rw [e]
      clear e
      by_cases h3 : k = 0
      · subst h3
        rw [if_pos rfl]
        go_enter Try.func49, Try.ntmps49
        go_wp2_with fail
        refine HM.out.mono ?_
        rintro e w1 ⟨rfl, hbw⟩
        go_wp2
        go_ret2
        exact ⟨p, rfl, HT.out.below hbw, hbw⟩
      · rw [if_neg h3]
        have h3' : (k == 0) = false := by simpa using h3
        by_cases h4 : m + k = 0
        · rw [if_pos h4]
          have h4' : (m + k == 0) = true := by simpa using h4
          have hin : t.has x = true := Tr.has_toL x t HO.out (manyL_mem x t.toL (by rw [← HMT.out]; omega))
          have HI := Lib.hid hin
          clear hin h4
          go_enter Try.func49, Try.ntmps49
          go_wp2_with fail
          refine HM.out.mono ?_
          rintro e w1 ⟨rfl, hbw⟩
          go_wp2_with fail
          refine (t_cut Q t R _ x p _ HO.out HI.out hc (fun j hj => HQ.out j (by have := hbw.size; omega)) (HX.out.below hbw) (HT.out.below hbw)).mono ?_
          rintro e w2 ⟨q, rfl, hT1, hbw2⟩
          go_wp2
          go_ret2
          exact ⟨q, rfl, hT1, hbw.trans (hbw2.mono hbw.size)⟩
        · rw [if_neg h4]
          have h4' : (m + k == 0) = false := by simpa using h4
          clear h4
          go_enter Try.func49, Try.ntmps49
          go_wp2_with fail
          refine HM.out.mono ?_
          rintro e w1 ⟨rfl, hbw⟩
          go_wp2_with fail
          refine (b_putT R _ x (m + k) Q t p _ (fun j hj => HQ.out j (by have := hbw.size; omega)) (HX.out.below hbw) (HT.out.below hbw) hc).mono ?_
          rintro e w2 ⟨q, rfl, hT1, hbw2⟩
          go_wp2
          go_ret2
          exact ⟨q, rfl, hT1, hbw.trans (hbw2.mono hbw.size)⟩
end Go.Proofs.Ytpliofhphijdkaa
