/-
  Add of a tenant, of the program's tree.
  Condition: names are no longer than texts can be; from the parent up it comes to an end; no more than a thousand tenants.
  Trees of tenants as plain lists, by rising names: what adding, moving and dropping leave, that from each one up it comes to an end behind five names at most; who stands under one, and how high that is.
  No Go in it.
  What a tree that is not there answers.
  No condition.
-/
import Derived.Test.YtdhpoaecedpbdaaGreatZ10
import Derived.Test.YtdhpoaecedpbdaaGreatZ12
import Derived.Test.YtdhpoaecedpbdaaGreatZ2
import Derived.Test.YtdhpoaecedpbdaaGreatZ6
namespace Go.Proofs.YtdhpoaecedpbdaaGreat
section
open Go.RowKit Go.Maps

/-- What Add answers; ys: the parent and those above it. -/
def addRes (L : List Tn) (n p : ByteArray) (ys : List ByteArray) : Int :=
  if nameR n.data.toList = false then 3 else if (findN L n).isSome = true then 4 else if canT L p = false then 18 else if 5 < ys.length + 1 then 17 else if 24 ≤ L.length then 6 else 0
def addTn (L : List Tn) (n p : ByteArray) (ys : List ByteArray) : List Tn := if addRes L n p ys = 0 then (n, p) :: L else L
theorem findN_cons (L : List Tn) (n p c : ByteArray) : findN ((n, p) :: L) c = if c = n then some (n, p) else findN L c := by
  unfold findN
  rw [List.find?_cons]
  by_cases h : n = c
  · subst h
    simp
  · simp [h, Ne.symm h]
theorem cons_apart {L : List Tn} {n p : ByteArray} (hn : L.Pairwise fun a b => a.1 ≠ b.1) (hf : (findN L n).isSome = false) : ((n, p) :: L).Pairwise fun a b => a.1 ≠ b.1 := by
  refine List.pairwise_cons.2 ⟨fun x hx e => ?_, hn⟩
  have : findN L n = none := by simpa using hf
  unfold findN at this
  rw [List.find?_eq_none] at this
  have h := this x hx
  simp at h
  exact h e.symm
theorem only_grown {w w1 w' : World} {b : Nat} (h0 : Below w.heap.size w w1) (hb : b < w.heap.size) (h : w1.grownBy w' (some b)) : Only b w w' := by
  refine ⟨(h0.mono (Nat.le_of_lt hb)).trans ⟨h.os, h.tape, h.output, h.size, fun k hk => ?_⟩, fun k hk hne => ?_⟩
  · have := h0.size
    exact h.block k (by omega) (fun e => by injection e with e; omega)
  · exact (h.block k (Nat.lt_of_lt_of_le hk h0.size) (fun e => hne (by injection e))).trans (h0.block k hk)

set_option maxRecDepth 100000 in
set_option maxHeartbeats 4000000 in
theorem t_add (t b : Nat) (D : DataW Value) (L : List Tn) (w : World) (n p : ByteArray) (ys : List ByteArray) (hc : Chain L p ys) (hT : TreeB w t b D L) (hl : ∀ x ∈ L, x.2.size ≤ maxLen) (hn : n.size ≤ maxLen) (hp : p.size ≤ maxLen) (hy : ys.length ≤ 1000) (hL : L.length ≤ 1000) :
    Calls Tryz.prog 30 #[.pointer (some ⟨t, 0, none⟩), .string n, .string p] w fun e w' => e = .returned (.int .i64 (addRes L n p ys)) ∧ Only b w w' ∧ ∃ D', TreeB w' t b D' (addTn L n p ys) := by
  have HT := Lib.hid hT
  have HC := Lib.hid hc
  have HL := Lib.hid hl
  have HN := Lib.hid hn
  have HP := Lib.hid hp
  have hbl : b < w.heap.size := hT.2.2.2.2.2
  have htl : t < w.heap.size := hT.2.2.2.2.1
  have cT := cell_rowT w t _ _ hT.1
  have HO := Lib.hid hT.2.1
  have stay : ∀ w', Below w.heap.size w w' → ∀ r : Int, addRes L n p ys = r → r ≠ 0 → (Only b w w' ∧ ∃ D', TreeB w' t b D' (addTn L n p ys)) := by
    intro w' hb r hr h0
    refine ⟨Only.of_below hb (Nat.le_of_lt hbl), D, ?_⟩
    unfold addTn
    rw [if_neg (by rw [hr]; exact h0)]
    exact hT.below hb
  have HST := Lib.hid stay
  clear hc hT hl hn hp stay
  go_enter Tryz.func30, Tryz.ntmps30
  go_wp2_with fail
  refine (s_name n w).mono ?_
  rintro e w1 ⟨rfl, rfl⟩
  rcases Bool.eq_false_or_eq_true (nameR n.data.toList) with h1 | h1
  · rw [h1]
    have H1 := Lib.hid h1
    clear h1
    go_wp2_with fail
    refine (t_has t b D L n _ HT.out HN.out).mono ?_
    rintro e w2 ⟨rfl, hb2⟩
    have HB2 := Lib.hid hb2
    rcases Bool.eq_false_or_eq_true (findN L n).isSome with h2 | h2
    · rw [h2]
      have H2 := Lib.hid h2
      clear h2 hb2
      go_wp2
      go_ret
      have hr : addRes L n p ys = 4 := by unfold addRes; rw [if_neg (by rw [H1.out]; simp), if_pos H2.out]
      exact ⟨by rw [hr]; rfl, HST.out _ HB2.out 4 hr (by decide)⟩
    · rw [h2]
      have H2 := Lib.hid h2
      have HT2 := Lib.hid (HT.out.below hb2)
      clear h2 hb2
      go_wp2_with fail
      refine (t_can t b D L p _ HT2.out HP.out).mono ?_
      rintro e w3 ⟨rfl, hb3⟩
      have HB3 := Lib.hid (HB2.out.trans (hb3.mono HB2.out.size))
      clear hb3
      rcases Bool.eq_false_or_eq_true (canT L p) with h3 | h3
      · rw [h3]
        have H3 := Lib.hid h3
        have HT3 := Lib.hid (HT.out.below HB3.out)
        clear h3
        go_wp2_with fail
        refine (t_depth t b D L _ p ys HC.out HT3.out HL.out HP.out hy).mono ?_
        rintro e w4 ⟨rfl, hb4⟩
        have HB4 := Lib.hid (HB3.out.trans (hb4.mono HB3.out.size))
        have cT4 := (HB4.out.cell (p := ⟨t, 0, none⟩) htl).trans cT
        clear hb4
        by_cases h4 : 5 < ys.length + 1
        · go_wp2
          go_ret
          have hr : addRes L n p ys = 17 := by unfold addRes; rw [if_neg (by rw [H1.out]; simp), if_neg (by rw [H2.out]; simp), if_neg (by rw [H3.out]; simp), if_pos h4]
          exact ⟨by rw [hr]; rfl, HST.out _ HB4.out 17 hr (by decide)⟩
        · have hyl : ((ys.length : Int) + 1) ≤ 5 := by omega
          have hd5 : decide (5 < (ys.length : Int) + 1) = false := by simp; omega
          have hlen := fun ty => (HT.out.below HB4.out).2.1.len Tryz.underlying104 ty
          rw [HT.out.2.2.1.2.2.1] at hlen
          by_cases h5 : 24 ≤ L.length
          · have hg1 : decide ((24 : Int) ≤ (L.length : Int)) = true := by simp; omega
            go_wp2
            go_ret
            have hr : addRes L n p ys = 6 := by unfold addRes; rw [if_neg (by rw [H1.out]; simp), if_neg (by rw [H2.out]; simp), if_neg (by rw [H3.out]; simp), if_neg h4, if_pos h5]
            exact ⟨by rw [hr]; rfl, HST.out _ HB4.out 6 hr (by decide)⟩
          · have hg1 : decide ((24 : Int) ≤ (L.length : Int)) = false := by simp; omega
            go_wp2_with fail
            refine (t_put t b D L ((n, p) :: L) n p _ (HT.out.below HB4.out) (by omega) HN.out (findN_cons L n p) (by rw [H2.out]; simp) (cons_apart HT.out.2.2.1.2.2.2 H2.out)).mono ?_
            rintro e w5 ⟨rfl, hT5, hg5⟩
            have HT5 := Lib.hid hT5
            have HG5 := Lib.hid (only_grown HB4.out hbl hg5)
            clear hT5 hg5
            go_wp2
            go_ret
            have hr : addRes L n p ys = 0 := by unfold addRes; rw [if_neg (by rw [H1.out]; simp), if_neg (by rw [H2.out]; simp), if_neg (by rw [H3.out]; simp), if_neg h4, if_neg h5]
            refine ⟨by rw [hr]; rfl, HG5.out, D.put (kt n) (.held (tnV (n, p))), ?_⟩
            unfold addTn
            rw [if_pos hr]
            exact HT5.out
      · rw [h3]
        have H3 := Lib.hid h3
        clear h3
        go_wp2
        go_ret
        have hr : addRes L n p ys = 18 := by unfold addRes; rw [if_neg (by rw [H1.out]; simp), if_neg (by rw [H2.out]; simp), if_pos H3.out]
        exact ⟨by rw [hr]; rfl, HST.out _ HB3.out 18 hr (by decide)⟩
  · rw [h1]
    have H1 := Lib.hid h1
    clear h1
    go_wp2
    go_ret
    have hr : addRes L n p ys = 3 := by unfold addRes; rw [if_pos H1.out]
    exact ⟨by rw [hr]; rfl, HST.out _ (Below.refl _ _) 3 hr (by decide)⟩
end
end Go.Proofs.YtdhpoaecedpbdaaGreat
namespace Go.Proofs.YtdhpoaecedpbdaaGreat
section

theorem cmpL_eqT : ∀ (x y : List UInt8), cmpL x y = 0 → x = y
  | [], [], _ => rfl
  | [], b :: y, h => by simp [cmpL] at h
  | a :: x, [], h => by simp [cmpL] at h
  | a :: x, b :: y, h => by
    unfold cmpL at h
    by_cases h1 : a < b
    · rw [if_pos h1] at h
      omega
    · by_cases h2 : b < a
      · rw [if_neg h1, if_pos h2] at h
        omega
      · rw [if_neg h1, if_neg h2] at h
        have e : a = b := by
          apply UInt8.toNat_inj.1
          rw [UInt8.lt_iff_toNat_lt] at h1 h2
          omega
        rw [e, cmpL_eqT x y h]
theorem cmpS_eqT (a b : ByteArray) (h : cmpS a b = 0) : a = b := by
  rw [cmpS_list] at h
  have := cmpL_eqT _ _ h
  obtain ⟨⟨l⟩⟩ := a
  obtain ⟨⟨l'⟩⟩ := b
  have e : l = l' := this
  rw [e]
theorem cmpS_ne {a b : ByteArray} (h : cmpS a b < 0) : a ≠ b := by
  intro e
  rw [e, cmpS_ordered.self] at h
  omega
theorem cmpS_tr {a b c : ByteArray} (h1 : cmpS a b < 0) (h2 : cmpS b c < 0) : cmpS a c < 0 := cmpS_ordered.trl a b c (by omega) (by omega) (.inl h1)

/-- Tenants by rising names. -/
def SrtT (L : List Tn) : Prop := L.Pairwise fun a b => cmpS a.1 b.1 < 0
theorem SrtT.apart {L : List Tn} (h : SrtT L) : L.Pairwise fun a b => a.1 ≠ b.1 := List.Pairwise.imp (fun h => cmpS_ne h) h
theorem findN_some {L : List Tn} {n : ByteArray} {x : Tn} (h : findN L n = some x) : x ∈ L ∧ x.1 = n := by
  unfold findN at h
  exact ⟨List.mem_of_find?_eq_some h, by simpa using List.find?_some h⟩
theorem findN_none {L : List Tn} {n : ByteArray} : findN L n = none ↔ ∀ x ∈ L, x.1 ≠ n := by
  unfold findN
  rw [List.find?_eq_none]
  simp
theorem findN_mem {L : List Tn} (ha : L.Pairwise fun a b => a.1 ≠ b.1) {x : Tn} (hx : x ∈ L) : findN L x.1 = some x := by
  induction L with
  | nil => cases hx
  | cons y L ih =>
    rw [List.pairwise_cons] at ha
    obtain ⟨n, p⟩ := y
    rw [findN_cons]
    rcases List.mem_cons.1 hx with rfl | h
    · simp
    · rw [if_neg (fun e => ha.1 x h e.symm), ih ha.2 h]
theorem findN_same {L L' : List Tn} (_ha : L.Pairwise fun a b => a.1 ≠ b.1) (hb : L'.Pairwise fun a b => a.1 ≠ b.1) (h : ∀ x, x ∈ L ↔ x ∈ L') (c : ByteArray) : findN L' c = findN L c := by
  cases hf : findN L c with
  | none =>
    rw [findN_none] at hf ⊢
    exact fun x hx => hf x ((h x).2 hx)
  | some x =>
    obtain ⟨h1, rfl⟩ := findN_some hf
    exact findN_mem hb ((h x).1 h1)
theorem SrtT.ext {L : List Tn} (h : SrtT L) : ∀ {L' : List Tn}, SrtT L' → (∀ x, x ∈ L ↔ x ∈ L') → L = L' := by
  induction L with
  | nil =>
    intro L' _ hm
    cases L' with
    | nil => rfl
    | cons y L' => exact absurd ((hm y).2 (by simp)) (by simp)
  | cons x L ih =>
    intro L' h' hm
    cases L' with
    | nil => exact absurd ((hm x).1 (by simp)) (by simp)
    | cons y L' =>
      have h1 := List.pairwise_cons.1 h
      have h2 := List.pairwise_cons.1 h'
      have e : x = y := by
        rcases List.mem_cons.1 ((hm x).1 (by simp)) with e | hx
        · exact e
        · rcases List.mem_cons.1 ((hm y).2 (by simp)) with e | hy
          · exact e.symm
          · have := cmpS_tr (h2.1 x hx) (h1.1 y hy)
            rw [cmpS_ordered.self] at this
            omega
      subst e
      rw [ih h1.2 h2.2 fun z => ?_]
      constructor
      · intro hz
        rcases List.mem_cons.1 ((hm z).1 (List.mem_cons_of_mem _ hz)) with e | hz'
        · subst e
          exact absurd rfl (cmpS_ne (h1.1 z hz))
        · exact hz'
      · intro hz
        rcases List.mem_cons.1 ((hm z).2 (List.mem_cons_of_mem _ hz)) with e | hz'
        · subst e
          exact absurd rfl (cmpS_ne (h2.1 z hz))
        · exact hz'

/-- One more, in its place. -/
def insT (x : Tn) : List Tn → List Tn
  | [] => [x]
  | y :: L => if cmpS y.1 x.1 < 0 then y :: insT x L else x :: y :: L
theorem insT_mem (x : Tn) : ∀ (L : List Tn) (z : Tn), z ∈ insT x L ↔ z = x ∨ z ∈ L
  | [], z => by simp [insT]
  | y :: L, z => by
    unfold insT
    by_cases h : cmpS y.1 x.1 < 0
    · rw [if_pos h, List.mem_cons, insT_mem x L z, List.mem_cons]
      constructor
      · rintro (h | h | h)
        · exact .inr (.inl h)
        · exact .inl h
        · exact .inr (.inr h)
      · rintro (h | h | h)
        · exact .inr (.inl h)
        · exact .inl h
        · exact .inr (.inr h)
    · rw [if_neg h, List.mem_cons]
theorem insT_len (x : Tn) : ∀ L : List Tn, (insT x L).length = L.length + 1
  | [] => rfl
  | y :: L => by
    unfold insT
    by_cases h : cmpS y.1 x.1 < 0
    · rw [if_pos h, List.length_cons, insT_len x L, List.length_cons]
    · rw [if_neg h, List.length_cons]
theorem insT_srt (x : Tn) : ∀ L : List Tn, SrtT L → findN L x.1 = none → SrtT (insT x L)
  | [], _, _ => List.pairwise_singleton _ _
  | y :: L, h, hf => by
    have h1 := List.pairwise_cons.1 h
    rw [findN_none] at hf
    unfold insT
    by_cases hc : cmpS y.1 x.1 < 0
    · rw [if_pos hc]
      refine List.pairwise_cons.2 ⟨fun z hz => ?_, insT_srt x L h1.2 (findN_none.2 fun z hz => hf z (List.mem_cons_of_mem _ hz))⟩
      rcases (insT_mem x L z).1 hz with rfl | hz
      · exact hc
      · exact h1.1 z hz
    · rw [if_neg hc]
      have hxy : cmpS x.1 y.1 < 0 := by
        have ha := cmpS_ordered.anti y.1 x.1
        have hne : cmpS y.1 x.1 ≠ 0 := fun e => hf y (by simp) (cmpS_eqT _ _ e)
        omega
      refine List.pairwise_cons.2 ⟨fun z hz => ?_, h⟩
      rcases List.mem_cons.1 hz with rfl | hz
      · exact hxy
      · exact cmpS_tr hxy (h1.1 z hz)
/-- One that stands below another one now. -/
def setT (L : List Tn) (n p : ByteArray) : List Tn := L.map fun x => if x.1 = n then (n, p) else x
theorem setT_names (L : List Tn) (n p : ByteArray) : (setT L n p).map (·.1) = L.map (·.1) := by
  unfold setT
  rw [List.map_map]
  refine List.map_congr_left fun x _ => ?_
  simp only [Function.comp]
  by_cases h : x.1 = n
  · rw [if_pos h, h]
  · rw [if_neg h]
theorem setT_srt {L : List Tn} (h : SrtT L) (n p : ByteArray) : SrtT (setT L n p) := by
  have h1 : (L.map (·.1)).Pairwise fun a b => cmpS a b < 0 := List.pairwise_map.2 h
  rw [← setT_names L n p] at h1
  exact List.pairwise_map.1 h1
theorem setT_find (L : List Tn) (n p c : ByteArray) (hn : (findN L n).isSome = true) : findN (setT L n p) c = if c = n then some (n, p) else findN L c := by
  induction L with
  | nil => cases hn
  | cons y L ih =>
    obtain ⟨a, q⟩ := y
    rw [findN_cons] at hn
    show findN ((if a = n then (n, p) else (a, q)) :: setT L n p) c = _
    by_cases h : a = n
    · subst h
      rw [if_pos rfl, findN_cons, findN_cons]
      by_cases hc : c = a
      · rw [if_pos hc, if_pos hc]
      · rw [if_neg hc, if_neg hc, if_neg hc]
        by_cases hs : (findN L a).isSome = true
        · rw [ih hs, if_neg hc]
        · have hz : setT L a p = L := by
            unfold setT
            have hf : findN L a = none := by simpa using hs
            rw [findN_none] at hf
            refine (List.map_congr_left fun x hx => ?_).trans (List.map_id L)
            rw [if_neg (hf x hx)]
            rfl
          rw [hz]
    · rw [if_neg (fun e => h e.symm)] at hn
      rw [if_neg h, findN_cons, ih hn, findN_cons]
      by_cases hc : c = n
      · subst hc
        rw [if_neg (fun e => h e.symm), if_pos rfl, if_pos rfl]
      · rw [if_neg hc, if_neg hc]
/-- One less. -/
def delT (L : List Tn) (n : ByteArray) : List Tn := L.filter fun x => decide (x.1 ≠ n)
theorem delT_srt {L : List Tn} (h : SrtT L) (n : ByteArray) : SrtT (delT L n) := List.Pairwise.filter _ h
theorem delT_find (L : List Tn) (n c : ByteArray) : findN (delT L n) c = if c = n then none else findN L c := by
  by_cases hc : c = n
  · rw [if_pos hc, findN_none]
    intro x hx
    have := (List.mem_filter.1 hx).2
    rw [hc]
    simpa using this
  · rw [if_neg hc]
    unfold findN delT
    rw [List.find?_filter]
    congr 1
    funext x
    by_cases h : x.1 = c
    · rw [h]
      simp [hc]
    · simp [h]
theorem delT_len {L : List Tn} (ha : L.Pairwise fun a b => a.1 ≠ b.1) {n : ByteArray} (hn : (findN L n).isSome = true) : (delT L n).length + 1 = L.length := by
  induction L with
  | nil => cases hn
  | cons y L ih =>
    obtain ⟨a, q⟩ := y
    rw [List.pairwise_cons] at ha
    rw [findN_cons] at hn
    by_cases h : a = n
    · subst h
      have hz : delT L a = L := by
        unfold delT
        rw [List.filter_eq_self]
        intro x hx
        have := ha.1 x hx
        simp [Ne.symm this]
      have : delT ((a, q) :: L) a = L := by
        conv => rhs; rw [← hz]
        unfold delT
        rw [List.filter_cons_of_neg (by simp)]
      rw [this, List.length_cons]
    · rw [if_neg (fun e => h e.symm)] at hn
      have : delT ((a, q) :: L) n = (a, q) :: delT L n := by
        unfold delT
        rw [List.filter_cons_of_pos (by simpa using h)]
      rw [this, List.length_cons, List.length_cons, ih ha.2 hn]

/-! ### going up -/
/-- At most so many names, from one up. -/
def upK (L : List Tn) : Nat → ByteArray → List ByteArray
  | 0, _ => []
  | k + 1, n => match findN L n with
    | none => []
    | some x => n :: upK L k x.2
theorem Chain.upK {L : List Tn} {n : ByteArray} {c : List ByteArray} (h : Chain L n c) : ∀ k, c.length ≤ k → upK L k n = c := by
  induction h with
  | stop hf =>
    intro k _
    cases k with
    | zero => rfl
    | succ k => unfold Go.Proofs.YtdhpoaecedpbdaaGreat.upK; rw [hf]
  | step hf _ ih =>
    intro k hk
    cases k with
    | zero => simp at hk
    | succ k =>
      unfold Go.Proofs.YtdhpoaecedpbdaaGreat.upK
      rw [hf]
      simp only
      rw [ih k (by simpa using hk)]
theorem Chain.has {L : List Tn} {n : ByteArray} {c : List ByteArray} (h : Chain L n c) : ∀ y ∈ c, (findN L y).isSome = true := by
  induction h with
  | stop hf => intro y hy; cases hy
  | step hf _ ih =>
    intro y hy
    rcases List.mem_cons.1 hy with rfl | hy
    · rw [hf]; rfl
    · exact ih y hy
theorem Chain.at {L : List Tn} {n : ByteArray} {c : List ByteArray} (h : Chain L n c) : ∀ y ∈ c, ∃ e, Chain L y e ∧ e.length ≤ c.length := by
  induction h with
  | stop hf => intro y hy; cases hy
  | step hf hc ih =>
    intro y hy
    rcases List.mem_cons.1 hy with rfl | hy
    · exact ⟨_, .step hf hc, Nat.le_refl _⟩
    · obtain ⟨e, h1, h2⟩ := ih y hy
      exact ⟨e, h1, by rw [List.length_cons]; omega⟩
theorem Chain.nodup {L : List Tn} {n : ByteArray} {c : List ByteArray} (h : Chain L n c) : c.Nodup := by
  induction h with
  | stop hf => exact List.nodup_nil
  | step hf hc ih =>
    refine List.nodup_cons.2 ⟨fun hm => ?_, ih⟩
    obtain ⟨e, h1, h2⟩ := hc.at _ hm
    have := h1.det (.step hf hc)
    rw [this, List.length_cons] at h2
    omega
theorem nodup_len {α : Type} [DecidableEq α] : ∀ (c M : List α), c.Nodup → (∀ y ∈ c, y ∈ M) → c.length ≤ M.length
  | [], _, _, _ => Nat.zero_le _
  | y :: c, M, hn, hm => by
    have h1 := List.nodup_cons.1 hn
    have hy := hm y (by simp)
    have h2 := nodup_len c (M.erase y) h1.2 fun z hz => (List.mem_erase_of_ne (show z ≠ y from fun e => h1.1 (by rw [← e]; exact hz))).2 (hm z (List.mem_cons_of_mem _ hz))
    rw [List.length_erase_of_mem hy] at h2
    have := List.length_pos_of_mem hy
    rw [List.length_cons]
    omega
theorem Chain.len {L : List Tn} {n : ByteArray} {c : List ByteArray} (h : Chain L n c) : c.length ≤ L.length := by
  have := nodup_len c (L.map (·.1)) h.nodup fun y hy => by
    obtain ⟨x, hx⟩ := Option.isSome_iff_exists.1 (h.has y hy)
    obtain ⟨h1, h2⟩ := findN_some hx
    exact List.mem_map.2 ⟨x, h1, h2⟩
  rwa [List.length_map] at this
/-- The names from one up. -/
def chn (L : List Tn) (n : ByteArray) : List ByteArray := upK L (L.length + 1) n
theorem Chain.chn {L : List Tn} {n : ByteArray} {c : List ByteArray} (h : Chain L n c) : chn L n = c := h.upK _ (Nat.le_succ_of_le h.len)
theorem Chain.own {L : List Tn} {n : ByteArray} {c : List ByteArray} (h : Chain L n c) (hn : (findN L n).isSome = true) : n ∈ c := by
  rcases h.parts with ⟨hf, _⟩ | ⟨x, d, _, rfl, _⟩
  · rw [hf] at hn; cases hn
  · simp

theorem toList_eqT {a b : ByteArray} : (a.toList == b.toList) = true ↔ a = b := by
  constructor
  · intro h
    have h := eq_of_beq h
    rw [ByteArray.toList_eq, ByteArray.toList_eq] at h
    obtain ⟨⟨l⟩⟩ := a
    obtain ⟨⟨l'⟩⟩ := b
    have e : l = l' := h
    rw [e]
  · rintro rfl; simp
theorem hasX_iff {ab : ByteArray} {ys : List ByteArray} : hasX ab ys = true ↔ ab ∈ ys := by
  unfold hasX
  rw [List.any_eq_true]
  constructor
  · rintro ⟨x, hx, h⟩
    rw [toList_eqT] at h
    exact h ▸ hx
  · intro h
    exact ⟨ab, h, toList_eqT.2 rfl⟩
theorem empty_iffT {p : ByteArray} : (p.toList == []) = true ↔ p = ⟨#[]⟩ := by
  have h := @toList_eqT p ⟨#[]⟩
  have e : (⟨#[]⟩ : ByteArray).toList = [] := by rw [ByteArray.toList_eq]
  rw [e] at h
  exact h

/-! ### trees that can be -/
structure GoodT (L : List Tn) : Prop where
  srt : SrtT L
  few : L.length ≤ 24
  nam : ∀ x ∈ L, nameR x.1.data.toList = true
  up : ∀ x ∈ L, canT L x.2 = true
  low : ∀ x ∈ L, ∃ c, Chain L x.1 c ∧ c.length ≤ 5
theorem nameR_ne {s : ByteArray} (h : nameR s.data.toList = true) : s ≠ ⟨#[]⟩ := by
  intro e
  subst e
  cases h
theorem nameR_short {s : ByteArray} (h : nameR s.data.toList = true) : s.size ≤ 16 := by
  unfold nameR at h
  have hs : s.size = s.data.toList.length := rfl
  revert h
  rw [hs]
  cases s.data.toList with
  | nil => intro h; cases h
  | cons c r =>
    intro h
    simp only [Bool.and_eq_true, decide_eq_true_eq] at h
    exact h.1.1
theorem GoodT.bare {L : List Tn} (g : GoodT L) : findN L ⟨#[]⟩ = none := findN_none.2 fun x hx e => nameR_ne (g.nam x hx) e
theorem canT_iff {L : List Tn} {p : ByteArray} : canT L p = true ↔ p = ⟨#[]⟩ ∨ (findN L p).isSome = true := by
  unfold canT
  rw [Bool.or_eq_true, empty_iffT]
theorem GoodT.chain {L : List Tn} (g : GoodT L) (n : ByteArray) : Chain L n (chn L n) ∧ (chn L n).length ≤ 5 := by
  cases hf : findN L n with
  | none =>
    have h : Chain L n [] := .stop hf
    rw [h.chn]
    exact ⟨h, Nat.zero_le _⟩
  | some x =>
    obtain ⟨h1, rfl⟩ := findN_some hf
    obtain ⟨c, h2, h3⟩ := g.low x h1
    rw [h2.chn]
    exact ⟨h2, h3⟩
theorem GoodT.par {L : List Tn} (g : GoodT L) : ∀ x ∈ L, x.2.size ≤ 16 := by
  intro x hx
  rcases canT_iff.1 (g.up x hx) with h | h
  · rw [h]; exact Nat.zero_le _
  · obtain ⟨y, hy⟩ := Option.isSome_iff_exists.1 h
    obtain ⟨h1, h2⟩ := findN_some hy
    rw [← h2]
    exact nameR_short (g.nam y h1)
theorem GoodT.empty : GoodT [] := ⟨List.Pairwise.nil, by simp, by simp, by simp, by simp⟩
/-- What is under one, with it. -/
def underL (L : List Tn) (n : ByteArray) : List ByteArray := (L.filter fun x => hasX n (chn L x.1)).map (·.1)
theorem underL_mem {L : List Tn} {n m : ByteArray} : m ∈ underL L n ↔ (findN L m).isSome = true ∧ n ∈ chn L m := by
  unfold underL
  rw [List.mem_map]
  constructor
  · rintro ⟨x, hx, rfl⟩
    obtain ⟨h1, h2⟩ := List.mem_filter.1 hx
    refine ⟨?_, hasX_iff.1 h2⟩
    have : findN L x.1 ≠ none := fun h => findN_none.1 h x h1 rfl
    exact Option.isSome_iff_ne_none.2 this
  · rintro ⟨h1, h2⟩
    obtain ⟨x, hx⟩ := Option.isSome_iff_exists.1 h1
    obtain ⟨h3, rfl⟩ := findN_some hx
    exact ⟨x, List.mem_filter.2 ⟨h3, hasX_iff.2 h2⟩, rfl⟩
/-- How deep the deepest one under one is. -/
def deepT (L : List Tn) (n : ByteArray) : Nat := ((underL L n).map fun m => (chn L m).length).foldl max 0
theorem foldl_max_ge : ∀ (l : List Nat) (a : Nat), a ≤ l.foldl max a ∧ ∀ x ∈ l, x ≤ l.foldl max a
  | [], a => ⟨Nat.le_refl _, by simp⟩
  | y :: l, a => by
    obtain ⟨h1, h2⟩ := foldl_max_ge l (max a y)
    refine ⟨Nat.le_trans (Nat.le_max_left _ _) h1, fun x hx => ?_⟩
    rcases List.mem_cons.1 hx with rfl | hx
    · exact Nat.le_trans (Nat.le_max_right _ _) h1
    · exact h2 x hx
theorem deepT_ge {L : List Tn} {n m : ByteArray} (h : m ∈ underL L n) : (chn L m).length ≤ deepT L n :=
  (foldl_max_ge _ 0).2 _ (List.mem_map.2 ⟨m, h, rfl⟩)
/-- How many stand from the deepest one under one up to it. -/
def heightT (L : List Tn) (n : ByteArray) : Int := (deepT L n : Int) - (chn L n).length + 1

/-! ### what is done keeps it so -/
theorem Chain.added {L : List Tn} {n p : ByteArray} (g : GoodT L) (hn : findN L n = none) (hne : n ≠ ⟨#[]⟩) {m : ByteArray} {c : List ByteArray} (h : Chain L m c) :
    canT L m = true → Chain (insT (n, p) L) m c := by
  have hf : ∀ k, findN (insT (n, p) L) k = if k = n then some (n, p) else findN L k := fun k => by
    rw [← findN_cons]
    exact findN_same (cons_apart g.srt.apart (by rw [hn]; rfl)) (insT_srt (n, p) L g.srt hn).apart (fun x => by rw [insT_mem, List.mem_cons]) k
  induction h with
  | stop h1 =>
    intro hm
    rcases canT_iff.1 hm with rfl | hm
    · exact .stop (by rw [hf, if_neg (fun e => hne e.symm), h1])
    · rw [h1] at hm; cases hm
  | @step m x c h1 h2 ih =>
    intro _
    have hmn : m ≠ n := fun e => by rw [e, hn] at h1; cases h1
    exact .step (by rw [hf, if_neg hmn, h1]) (ih (g.up x (findN_some h1).1))
theorem insT_find {L : List Tn} (hs : SrtT L) {n p : ByteArray} (hn : findN L n = none) (k : ByteArray) : findN (insT (n, p) L) k = if k = n then some (n, p) else findN L k := by
  rw [← findN_cons]
  exact findN_same (cons_apart hs.apart (by rw [hn]; rfl)) (insT_srt (n, p) L hs hn).apart (fun x => by rw [insT_mem, List.mem_cons]) k
theorem GoodT.add {L : List Tn} (g : GoodT L) {n p : ByteArray} (hn : findN L n = none) (hr : nameR n.data.toList = true) (hp : canT L p = true) (hl : L.length < 24) (hd : (chn L p).length + 1 ≤ 5) : GoodT (insT (n, p) L) := by
  have hf := insT_find (p := p) g.srt hn
  have hcan : ∀ q, canT L q = true → canT (insT (n, p) L) q = true := fun q hq => by
    rw [canT_iff] at hq ⊢
    rw [hf]
    by_cases e : q = n
    · rw [if_pos e]; exact .inr rfl
    · rw [if_neg e]; exact hq
  refine ⟨insT_srt _ _ g.srt hn, by rw [insT_len]; omega, fun x hx => ?_, fun x hx => ?_, fun x hx => ?_⟩
  · rcases (insT_mem _ _ _).1 hx with rfl | hx
    · exact hr
    · exact g.nam x hx
  · rcases (insT_mem _ _ _).1 hx with rfl | hx
    · exact hcan p hp
    · exact hcan _ (g.up x hx)
  · rcases (insT_mem _ _ _).1 hx with rfl | hx
    · exact ⟨n :: chn L p, .step (by rw [hf, if_pos rfl]) ((g.chain p).1.added g hn (nameR_ne hr) hp), by rw [List.length_cons]; exact hd⟩
    · obtain ⟨c, h1, h2⟩ := g.low x hx
      refine ⟨c, h1.added g hn (nameR_ne hr) (canT_iff.2 (.inr ?_)), h2⟩
      rw [findN_mem g.srt.apart hx]; rfl
theorem Chain.moved {L : List Tn} {n p : ByteArray} (hn : (findN L n).isSome = true) {m : ByteArray} {c : List ByteArray} (h : Chain L m c) : n ∉ c → Chain (setT L n p) m c := by
  induction h with
  | @stop m h1 =>
    intro _
    have hmn : m ≠ n := fun e => by rw [← e, h1] at hn; cases hn
    exact .stop (by rw [setT_find L n p m hn, if_neg hmn, h1])
  | @step m x c h1 h2 ih =>
    intro hnc
    have hmn : m ≠ n := fun e => hnc (by rw [e]; simp)
    exact .step (by rw [setT_find L n p m hn, if_neg hmn, h1]) (ih fun h => hnc (List.mem_cons_of_mem _ h))
theorem Chain.movedU {L : List Tn} {n p : ByteArray} (hn : (findN L n).isSome = true) {cn cp : List ByteArray} (hcn : Chain L n cn) (hcp : Chain L p cp) (hnp : n ∉ cp) {m : ByteArray} {c : List ByteArray} (h : Chain L m c) :
    n ∈ c → ∃ pre, c = pre ++ cn ∧ Chain (setT L n p) m (pre ++ n :: cp) := by
  induction h with
  | stop h1 => intro h; cases h
  | @step m x c h1 h2 ih =>
    intro hm
    by_cases e : m = n
    · subst e
      refine ⟨[], by rw [List.nil_append]; exact Chain.det (.step h1 h2) hcn, ?_⟩
      exact .step (by rw [setT_find L m p m hn, if_pos rfl]) (hcp.moved hn hnp)
    · obtain ⟨pre, h3, h4⟩ := ih ((List.mem_cons.1 hm).resolve_left fun h => e h.symm)
      exact ⟨m :: pre, by rw [h3]; rfl, .step (by rw [setT_find L n p m hn, if_neg e, h1]) h4⟩
theorem setT_mem {L : List Tn} {n p : ByteArray} {z : Tn} (h : z ∈ setT L n p) : z = (n, p) ∨ z ∈ L := by
  obtain ⟨x, hx, rfl⟩ := List.mem_map.1 h
  by_cases e : x.1 = n
  · rw [if_pos e]; exact .inl rfl
  · rw [if_neg e]; exact .inr hx
theorem GoodT.move {L : List Tn} (g : GoodT L) {n p : ByteArray} (hn : (findN L n).isSome = true) (hp : canT L p = true) (hu : hasX n (chn L p) = false) (hd : ((chn L p).length : Int) + heightT L n ≤ 5) : GoodT (setT L n p) := by
  have hf := fun c => setT_find L n p c hn
  have hnr : nameR n.data.toList = true := by
    obtain ⟨y, hy⟩ := Option.isSome_iff_exists.1 hn
    obtain ⟨h1, rfl⟩ := findN_some hy
    exact g.nam y h1
  have hnp : n ∉ chn L p := fun h => by rw [hasX_iff.2 h] at hu; cases hu
  have hcan : ∀ q, canT L q = true → canT (setT L n p) q = true := fun q hq => by
    rw [canT_iff] at hq ⊢
    rw [hf]
    by_cases e : q = n
    · rw [if_pos e]; exact .inr rfl
    · rw [if_neg e]; exact hq
  have hlow : ∀ m, (findN L m).isSome = true → ∃ c, Chain (setT L n p) m c ∧ c.length ≤ 5 := fun m hm => by
    obtain ⟨h1, h2⟩ := g.chain m
    by_cases hc : n ∈ chn L m
    · obtain ⟨pre, h3, h4⟩ := Chain.movedU hn (g.chain n).1 (g.chain p).1 hnp h1 hc
      refine ⟨_, h4, ?_⟩
      have h5 := deepT_ge (underL_mem.2 ⟨hm, hc⟩)
      have h6 : (chn L m).length = pre.length + (chn L n).length := by rw [h3, List.length_append]
      unfold heightT at hd
      rw [List.length_append, List.length_cons]
      omega
    · exact ⟨_, h1.moved hn hc, h2⟩
  refine ⟨setT_srt g.srt n p, by unfold setT; rw [List.length_map]; exact g.few, fun x hx => ?_, fun x hx => ?_, fun x hx => ?_⟩
  · rcases setT_mem hx with rfl | hx
    · exact hnr
    · exact g.nam x hx
  · rcases setT_mem hx with rfl | hx
    · exact hcan p hp
    · exact hcan _ (g.up x hx)
  · rcases setT_mem hx with rfl | hx
    · exact hlow n hn
    · exact hlow x.1 (by rw [findN_mem g.srt.apart hx]; rfl)
theorem Chain.dropped {L : List Tn} {n : ByteArray} {m : ByteArray} {c : List ByteArray} (h : Chain L m c) : n ∉ c → Chain (delT L n) m c := by
  induction h with
  | @stop m h1 =>
    intro _
    refine .stop ?_
    rw [delT_find]
    by_cases e : m = n
    · rw [if_pos e]
    · rw [if_neg e, h1]
  | @step m x c h1 h2 ih =>
    intro hnc
    have hmn : m ≠ n := fun e => hnc (by rw [e]; simp)
    exact .step (by rw [delT_find, if_neg hmn, h1]) (ih fun h => hnc (List.mem_cons_of_mem _ h))
theorem under_apart {L : List Tn} (g : GoodT L) (n : ByteArray) : (underL L n).Nodup := by
  have h1 : (L.filter fun x => hasX n (chn L x.1)).Pairwise fun a b => a.1 ≠ b.1 := List.Pairwise.filter _ g.srt.apart
  exact List.pairwise_map.2 h1
theorem GoodT.drop {L : List Tn} (g : GoodT L) {n : ByteArray} (hn : (findN L n).isSome = true) (hu : (underL L n).length ≤ 1) : GoodT (delT L n) := by
  have hself : n ∈ underL L n := underL_mem.2 ⟨hn, (g.chain n).1.own hn⟩
  have hone : ∀ m ∈ underL L n, m = n := by
    intro m hm
    match hc : underL L n, hu with
    | [], _ => rw [hc] at hself; cases hself
    | [a], _ =>
      rw [hc] at hself hm
      rw [List.mem_singleton.1 hself, List.mem_singleton.1 hm]
  have hnot : ∀ x ∈ L, x.1 ≠ n → n ∉ chn L x.1 := fun x hx hne hm => hne (hone x.1 (underL_mem.2 ⟨by rw [findN_mem g.srt.apart hx]; rfl, hm⟩))
  have hin : ∀ x ∈ delT L n, x ∈ L ∧ x.1 ≠ n := fun x hx => by
    obtain ⟨h1, h2⟩ := List.mem_filter.1 hx
    exact ⟨h1, by simpa using h2⟩
  refine ⟨delT_srt g.srt n, ?_, fun x hx => g.nam x (hin x hx).1, fun x hx => ?_, fun x hx => ?_⟩
  · have := delT_len g.srt.apart hn
    have := g.few
    omega
  · obtain ⟨h1, h2⟩ := hin x hx
    have h3 := g.up x h1
    rw [canT_iff] at h3 ⊢
    rw [delT_find]
    by_cases e : x.2 = n
    · exfalso
      refine hnot x h1 h2 ?_
      have hc : Chain L x.1 (x.1 :: chn L x.2) := .step (findN_mem g.srt.apart h1) (g.chain x.2).1
      rw [hc.chn, e]
      exact List.mem_cons_of_mem _ ((g.chain n).1.own hn)
    · rw [if_neg e]; exact h3
  · obtain ⟨h1, h2⟩ := hin x hx
    exact ⟨_, (g.chain x.1).1.dropped (hnot x h1 h2), (g.chain x.1).2⟩
end
end Go.Proofs.YtdhpoaecedpbdaaGreat
namespace Go.Proofs.YtdhpoaecedpbdaaGreat
section
open Go.RowKit Go.Maps Go.Shelf

attribute [local go_sem] Oper.semAt_some

set_option maxHeartbeats 400000 in
theorem t_add_nil (n p : ByteArray) (w : World) : Calls Tryz.prog 30 #[.pointer none, .string n, .string p] w fun e w' => e = .returned (.int .i64 1) ∧ w = w' := by
  go_enter Tryz.func30, Tryz.ntmps30
  go_wp2
  go_ret
  exact ⟨rfl, rfl⟩
set_option maxHeartbeats 400000 in
theorem t_move_nil (n p : ByteArray) (w : World) : Calls Tryz.prog 32 #[.pointer none, .string n, .string p] w fun e w' => e = .returned (.int .i64 1) ∧ w = w' := by
  go_enter Tryz.func32, Tryz.ntmps32
  go_wp2
  go_ret
  exact ⟨rfl, rfl⟩
set_option maxHeartbeats 400000 in
theorem t_drop_nil (n : ByteArray) (w : World) : Calls Tryz.prog 34 #[.pointer none, .string n] w fun e w' => e = .returned (.int .i64 1) ∧ w = w' := by
  go_enter Tryz.func34, Tryz.ntmps34
  go_wp2
  go_ret
  exact ⟨rfl, rfl⟩
set_option maxHeartbeats 400000 in
theorem t_copy_nil (w : World) : Calls Tryz.prog 18 #[.pointer none] w fun e w' => e = .returned (.pointer none) ∧ w = w' := by
  go_enter Tryz.func18, Tryz.ntmps18
  go_wp2
  go_ret
  exact ⟨rfl, rfl⟩
set_option maxHeartbeats 400000 in
theorem t_all_nil (w : World) : Calls Tryz.prog 43 #[.pointer none] w fun e w' => e = .returned (.slice none 0 0) ∧ w = w' := by
  go_enter Tryz.func43, Tryz.ntmps43
  go_wp2
  go_ret
  exact ⟨rfl, rfl⟩
set_option maxHeartbeats 1000000 in
theorem t_under_nil (n : ByteArray) (w : World) : Calls Tryz.prog 73 #[.pointer none, .string n] w fun e w' => e = .returned (.slice none 0 0) ∧ w = w' := by
  go_enter Tryz.func73, Tryz.ntmps73
  go_wp2_with fail
  refine (t_all_nil w).mono ?_
  rintro e w1 ⟨rfl, rfl⟩
  go_wp2
  go_loopw [5, 11] (fun v i wr => v = .slice none 0 0 ∧ i = .int .i64 0 ∧ w = wr) (fun _ _ _ => 0)
  case atStart => exact ⟨rfl, rfl, rfl⟩
  case round =>
    obtain ⟨rfl, rfl, rfl⟩ := hrel
    go_wp2
    go_ret
    exact ⟨rfl, rfl⟩

set_option maxRecDepth 100000 in
set_option maxHeartbeats 2000000 in
theorem up_stops_nil (n Bt Bp : Nat) (w0 : World) (nm : ByteArray) (hBt : w0.cell? ⟨Bt, 0, none⟩ = some (.string nm)) (hBp : w0.cell? ⟨Bp, 0, none⟩ = some (.pointer none)) (W0 : World) (hb0 : Below w0.heap.size w0 W0) :
    SeqStopsK Fence.wide n Tryz.prog 131 #[.pointer (some ⟨Bt, 0, none⟩), .pointer (some ⟨Bp, 0, none⟩)] (fun x : ByteArray => #[.string x]) (Below w0.heap.size) (fun zs => zs = []) (fun pre => pre <+: []) 0 W0 := by
  intro l J Jx W hW hJ _ hY h0
  have hb := hb0.trans (hW.mono hb0.size)
  have cT := (hb.cell (p := ⟨Bt, 0, none⟩) (World.block_lt_of_cell? w0 _ hBt)).trans hBt
  have cP := (hb.cell (p := ⟨Bp, 0, none⟩) (World.block_lt_of_cell? w0 _ hBp)).trans hBp
  have hdd : ∀ k : Nat, (Fence.wide.depth.isSome = true → 1 ≤ k) := fun k h => by cases h
  have HJ := Lib.hid (fun (B : World) (hb : Below W.heap.size W B) => hJ [] W B none h0 ⟨hb.os, hb.tape, hb.output, hb.size, fun k hk _ => hb.block k hk⟩ (fun r e => by cases e))
  clear hJ hY h0 hW hb hb0 hBt hBp
  show CallsIn Fence.wide n Tryz.prog 131 #[.func (.yield l) #[] #[], .pointer (some ⟨Bt, 0, none⟩), .pointer (some ⟨Bp, 0, none⟩)] W _
  refine callsIn_of_wp Tryz.func131 rfl trivial ?_ rfl
  simp only [Tryz.ntmps131, List.size_toArray, List.length_cons, List.length_nil, Nat.reduceAdd, Nat.reduceSub, Array.replicate_succ, Array.replicate_zero, List.push_toArray, List.append_toArray, List.nil_append, List.cons_append]
  gi_wp2
  gi_loopw [4] (fun v wr => v = .string nm ∧ W = wr) (fun _ _ => 0)
  case atStart => exact ⟨rfl, rfl⟩
  case round =>
    obtain ⟨rfl, rfl⟩ := hrel
    gi_wp2_with (fail)
    refine ⟨trivial, hdd _, ?_⟩
    refine (callsIn_wide.2 (t_has_nil nm _)).mono ?_
    rintro e w1 ⟨rfl, hb1⟩
    have HB1 := Lib.hid hb1
    clear hb1
    gi_wp2
    refine ⟨fun _ h => (by cases h), ?_⟩
    gi_wp2
    go_end0
    exact ⟨⟨_, rfl⟩, .inl ⟨[], rfl, HJ.out _ HB1.out⟩⟩
set_option maxHeartbeats 1000000 in
theorem t_above_nil (nm : ByteArray) (w : World) : Calls Tryz.prog 105 #[.pointer none, .string nm] w fun e w' => ∃ v, e = .returned v ∧ OwnL w' w.heap.size v [] ∧ Below w.heap.size w w' := by
  have hb2 := two_new w (.cells #[.pointer none] 29) (.cells #[.string nm] 9)
  have hA : Calls Tryz.prog 130 #[.func (.func 131) #[] #[.pointer (some ⟨w.heap.size + 1, 0, none⟩), .pointer (some ⟨w.heap.size, 0, none⟩)]] ((w.alloc (.cells #[.pointer none] 29)).alloc (.cells #[.string nm] 9)) _ := t_collect_g (w.heap.size + 1) w.heap.size _ [] (fun n W0 hb => up_stops_nil n _ _ _ nm
    (by have h := new_cellT (w.alloc (.cells #[.pointer none] 29)) #[.string nm] 9 0; rw [World.size_alloc] at h; exact h)
    (((one_new _ _).cell (p := ⟨w.heap.size, 0, none⟩) (by simp)).trans (new_cellT _ _ _ 0)) W0 hb) (by simp)
  have HA := Lib.hid hA
  have HB2 := Lib.hid hb2
  clear hb2 hA
  go_enter Tryz.func105, Tryz.ntmps105
  go_wp2_with fail
  refine (t_up _ nm w).mono ?_
  rintro e w1 ⟨rfl, rfl⟩
  go_wp2_with fail
  refine HA.out.mono ?_
  rintro e w2 ⟨v, rfl, hown, hb⟩
  have HO := Lib.hid (OwnL.lower (b2 := w.heap.size) hown (by simp; omega))
  have HB := Lib.hid (HB2.out.trans (hb.mono (by simp; omega)))
  clear hown hb
  go_wp2
  go_ret
  exact ⟨v, rfl, HO.out, HB.out⟩
set_option maxHeartbeats 1000000 in
theorem t_depth_nil (nm : ByteArray) (w : World) : Calls Tryz.prog 63 #[.pointer none, .string nm] w fun e w' => e = .returned (.int .i64 0) ∧ Below w.heap.size w w' := by
  have HA := Lib.hid (t_above_nil nm w)
  go_enter Tryz.func63, Tryz.ntmps63
  go_wp2_with fail
  refine HA.out.mono ?_
  rintro e w2 ⟨v, rfl, hown, hb⟩
  obtain ⟨A, c, rfl⟩ := hown.form
  have HB := Lib.hid hb
  clear hown hb
  go_wp2
  go_ret
  exact ⟨rfl, HB.out⟩
end
end Go.Proofs.YtdhpoaecedpbdaaGreat
