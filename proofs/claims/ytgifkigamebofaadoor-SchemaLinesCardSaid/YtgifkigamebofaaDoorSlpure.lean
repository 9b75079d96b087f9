/-
  Lines of kinds as plain lists of bytes: what is a line is read as the kind, by package schema's way and by the document's; both ways answer alike.
  No condition.
-/
import Derived.Test.YtgifkigamebofaaDoorSread
namespace Go.Proofs.YtgifkigamebofaaDoor
open Go.RowKit

/-! ### parts with a byte between -/
def joinK (c : UInt8) (p0 : List UInt8) (ps : List (List UInt8)) : List UInt8 := p0 ++ ps.flatMap fun p => c :: p
theorem indexByte_no (c : UInt8) : ∀ (p : List UInt8), c ∉ p → Lib.indexByte p c = -1
  | [], _ => rfl
  | b :: l, h => by
    have hb : (b == c) = false := by rw [beq_eq_false_iff_ne]; intro e; exact h (by simp [e])
    rw [Lib.indexByte, if_neg (by rw [hb]; simp), if_pos (by rw [indexByte_no c l (fun hm => h (by simp [hm]))]; rfl)]
theorem indexByte_at (c : UInt8) : ∀ (p r : List UInt8), c ∉ p → Lib.indexByte (p ++ c :: r) c = (p.length : Int)
  | [], r, _ => by simp [Lib.indexByte]
  | b :: l, r, h => by
    have hb : (b == c) = false := by rw [beq_eq_false_iff_ne]; intro e; exact h (by simp [e])
    have ih := indexByte_at c l r (fun hm => h (by simp [hm]))
    rw [List.cons_append, Lib.indexByte, if_neg (by rw [hb]; simp), ih, if_neg (by simp <;> omega), List.length_cons]
    omega
theorem splitK_join (c : UInt8) : ∀ (ps : List (List UInt8)) (p0 : List UInt8) (k : Nat), c ∉ p0 → (∀ p ∈ ps, c ∉ p) → ps.length ≤ k → Lib.splitK [c] 0 k (joinK c p0 ps) = p0 :: ps
  | [], p0, k, h0, _, _ => by
    have e : joinK c p0 [] = p0 := by simp [joinK]
    rw [e]
    cases k with
    | zero => rfl
    | succ k => rw [Lib.splitK, Lib.index_one, indexByte_no c p0 h0]; rfl
  | p :: ps, p0, 0, _, _, hk => by simp at hk
  | p :: ps, p0, k + 1, h0, hp, hk => by
    have e : joinK c p0 (p :: ps) = p0 ++ c :: joinK c p ps := by simp [joinK]
    have hn : ((p0.length : Int)).toNat = p0.length := by omega
    rw [e, Lib.splitK, Lib.index_one, indexByte_at c p0 _ h0, if_neg (by simp <;> omega), hn]
    have e1 : (p0 ++ c :: joinK c p ps).take (p0.length + 0) = p0 := by simp
    have e2 : (p0 ++ c :: joinK c p ps).drop (p0.length + [c].length) = joinK c p ps := by
      simp [List.drop_append]
    rw [e1, e2, splitK_join c ps p k (hp p (by simp)) (fun q hq => hp q (by simp [hq])) (by simp at hk; omega)]

/-! ### the document's way -/
def stepS (c : UInt8) (acc : List (List UInt8)) (x : UInt8) : List (List UInt8) := if x = c then acc ++ [[]] else acc.dropLast ++ [acc.getLast?.getD [] ++ [x]]
def splitF (c : UInt8) (s : List UInt8) : List (List UInt8) := s.foldl (stepS c) [[]]
theorem fold_part (c : UInt8) : ∀ (p : List UInt8) (a : List (List UInt8)) (q : List UInt8), c ∉ p → p.foldl (stepS c) (a ++ [q]) = a ++ [q ++ p]
  | [], a, q, _ => by simp
  | x :: p, a, q, h => by
    have hx : ¬ x = c := fun e => h (by simp [e])
    have e : stepS c (a ++ [q]) x = a ++ [q ++ [x]] := by
      unfold stepS
      rw [if_neg hx]
      simp
    rw [List.foldl_cons, e, fold_part c p a _ (fun hm => h (by simp [hm]))]
    simp
theorem fold_join (c : UInt8) : ∀ (ps : List (List UInt8)) (p0 q : List UInt8) (a : List (List UInt8)), c ∉ p0 → (∀ p ∈ ps, c ∉ p) → (joinK c p0 ps).foldl (stepS c) (a ++ [q]) = a ++ (q ++ p0) :: ps
  | [], p0, q, a, h0, _ => by
    have e : joinK c p0 [] = p0 := by simp [joinK]
    rw [e, fold_part c p0 a q h0]
  | p :: ps, p0, q, a, h0, hp => by
    have e : joinK c p0 (p :: ps) = p0 ++ c :: joinK c p ps := by simp [joinK]
    have e2 : stepS c (a ++ [q ++ p0]) c = (a ++ [q ++ p0]) ++ [[]] := by unfold stepS; rw [if_pos rfl]
    rw [e, List.foldl_append, fold_part c p0 a q h0, List.foldl_cons, e2, fold_join c ps p [] _ (hp p (by simp)) (fun r hr => hp r (by simp [hr]))]
    simp
theorem splitF_join (c : UInt8) (ps : List (List UInt8)) (p0 : List UInt8) (h0 : c ∉ p0) (hp : ∀ p ∈ ps, c ∉ p) : splitF c (joinK c p0 ps) = p0 :: ps := by
  have h := fold_join c ps p0 [] [] h0 hp
  simpa [splitF] using h

def stepG (b : ByteArray) (c : Co) (k : Int) : Co := if sameNm b (wordR k) = true ∨ sameNm b (wordR k ++ ⟨#[63]⟩) = true then ⟨c.nm, k, sameNm b (wordR k ++ ⟨#[63]⟩)⟩ else c
def colG (a b : ByteArray) : Co := stepG b (stepG b (stepG b ⟨a, 0, false⟩ 1) 2) 3
def partG (p : List UInt8) : Option Co := match splitF 58 p with
  | [a, b] => some (colG ⟨a.toArray⟩ ⟨b.toArray⟩)
  | _ => none
def partsG : List (List UInt8) → Option (List Co)
  | [] => some []
  | p :: ps => match partG p with
    | none => none
    | some c => (partsG ps).map (c :: ·)
def readF (s : List UInt8) : Option Sc := match splitF 32 s with
  | _ :: nm :: rest => (partsG rest).map fun cs => ⟨⟨nm.toArray⟩, cs⟩
  | _ => none
/-- What the document's Read answers. -/
def readR (s : ByteArray) : Sc × Int := if 400 < s.size then (noS, 7) else match readF s.data.toList with
  | none => (noS, 7)
  | some x => if lineS x = s.data.toList then (x, 0) else (noS, 7)

/-! ### the line of a kind that can be -/
def colT (c : Co) : List UInt8 := c.nm.data.toList ++ [58] ++ (wordR c.k).data.toList ++ (if c.nl then [63] else [])
theorem name_chars (s : List UInt8) (h : nameR s = true) (c : UInt8) (hc : c ∈ s) : c ≠ 32 ∧ c ≠ 58 ∧ c ≠ 63 := by
  cases s with
  | nil => simp at hc
  | cons d r =>
    simp only [nameR, Bool.and_eq_true] at h
    have hr := List.all_eq_true.1 h.2 c hc
    refine ⟨?_, ?_, ?_⟩ <;> (rintro rfl; revert hr; decide)
theorem word_chars (k : Int) (c : UInt8) (hc : c ∈ (wordR k).data.toList) : c ≠ 32 ∧ c ≠ 58 ∧ c ≠ 63 := by
  have h1 : ∀ c ∈ ([98, 111, 111, 108] : List UInt8), c ≠ 32 ∧ c ≠ 58 ∧ c ≠ 63 := by decide
  have h2 : ∀ c ∈ ([105, 110, 116] : List UInt8), c ≠ 32 ∧ c ≠ 58 ∧ c ≠ 63 := by decide
  have h3 : ∀ c ∈ ([116, 101, 120, 116] : List UInt8), c ≠ 32 ∧ c ≠ 58 ∧ c ≠ 63 := by decide
  unfold wordR at hc
  split at hc
  · exact h1 c hc
  · split at hc
    · exact h2 c hc
    · split at hc
      · exact h3 c hc
      · cases hc

theorem colF_okn (ah : List Co) (c : Co) (h : colF ah c = 0) : nameR c.nm.data.toList = true ∧ 1 ≤ c.k ∧ c.k ≤ 3 := by
  unfold colF at h
  split at h
  · cases h
  · rename_i h1
    split at h
    · cases h
    · exact ⟨by simpa using h1, by omega, by omega⟩
theorem colsF_okn (cs : List Co) : ∀ (f k : Nat), colsF cs f k = 0 → cs.length ≤ f + k → ∀ (i : Nat) (c : Co), k ≤ i → cs[i]? = some c → nameR c.nm.data.toList = true ∧ 1 ≤ c.k ∧ c.k ≤ 3
  | 0, k, _, hl, i, c, hi, hc => by
    have := (List.getElem?_eq_some_iff.1 hc).1
    omega
  | f + 1, k, h, hl, i, c, hi, hc => by
    have hil := (List.getElem?_eq_some_iff.1 hc).1
    obtain ⟨d, hd⟩ : ∃ d, cs[k]? = some d := ⟨_, List.getElem?_eq_getElem (by omega)⟩
    rw [colsF_step cs f k d hd] at h
    by_cases h0 : colF (cs.take k) d = 0
    · rw [if_pos h0] at h
      by_cases hik : i = k
      · subst hik
        rw [hd] at hc
        injection hc with hc
        subst hc
        exact colF_okn _ _ h0
      · exact colsF_okn cs f (k + 1) h (by omega) i c (by omega) hc
    · rw [if_neg h0] at h
      exact absurd h h0
theorem fault_okn (x : Sc) (h : faultR [x] = 0) : nameR x.nm.data.toList = true ∧ x.cols.length ≤ 6 ∧ ∀ c ∈ x.cols, nameR c.nm.data.toList = true ∧ 1 ≤ c.k ∧ c.k ≤ 3 := by
  have h1 : kindF [] x = 0 := by
    unfold faultR at h
    rw [if_neg (by simp)] at h
    have hs := kindsF_step [x] 0 0 x rfl
    rw [show kindsF [x] [x].length 0 = kindsF [x] (0 + 1) 0 from rfl, hs] at h
    by_cases h0 : kindF ([x].take 0) x = 0
    · exact h0
    · rw [if_neg h0] at h
      exact absurd h h0
  unfold kindF at h1
  split at h1
  · cases h1
  · rename_i g1
    rw [if_neg (by simp)] at h1
    split at h1
    · cases h1
    · rename_i g2
      refine ⟨by simp only [not_or] at g1; simpa using g1.1, by omega, fun c hc => ?_⟩
      obtain ⟨i, hi⟩ := List.mem_iff_getElem?.1 hc
      exact colsF_okn x.cols _ 0 h1 (by omega) i c (Nat.zero_le _) hi

theorem colL_eq (c : Co) : colL c = 32 :: colT c := by simp [colL, colT]
theorem line_join (x : Sc) (h : faultR [x] = 0) : lineS x = joinK 32 [107, 105, 110, 100] (x.nm.data.toList :: x.cols.map colT) := by
  have e : x.cols.flatMap colL = (x.cols.map colT).flatMap fun p => 32 :: p := by
    rw [List.flatMap_map, show colL = fun c => 32 :: colT c from funext colL_eq]
  unfold lineS joinK
  rw [if_pos h, e]
  simp
theorem colT_no (c : Co) (h : nameR c.nm.data.toList = true) : (32 : UInt8) ∉ colT c := by
  intro hm
  unfold colT at hm
  simp only [List.mem_append, List.mem_singleton] at hm
  rcases hm with ((hm | hm) | hm) | hm
  · exact (name_chars _ h _ hm).1 rfl
  · cases hm
  · exact (word_chars _ _ hm).1 rfl
  · split at hm <;> simp at hm

theorem byteArray_back (b : ByteArray) : (⟨b.data.toList.toArray⟩ : ByteArray) = b := by
  obtain ⟨⟨l⟩⟩ := b
  rfl
theorem map_data_inj {a : List ByteArray} {b : List (List UInt8)} (h : a.map (·.data.toList) = b) : a = b.map fun l => ⟨l.toArray⟩ := by
  subst h
  rw [List.map_map]
  have e : ((fun l : List UInt8 => (⟨l.toArray⟩ : ByteArray)) ∘ fun b : ByteArray => b.data.toList) = id := by funext b; exact byteArray_back b
  rw [e, List.map_id]
theorem same_self (b : ByteArray) : sameNm b b = true := by simp [sameNm]

theorem w12 : sameNm (wordR 1) (wordR 2) = false := by kernel_rfl
theorem w13 : sameNm (wordR 1) (wordR 3) = false := by kernel_rfl
theorem w23 : sameNm (wordR 2) (wordR 3) = false := by kernel_rfl
theorem guessC_col (c : Co) (h : nameR c.nm.data.toList = true) (h1 : 1 ≤ c.k) (h3 : c.k ≤ 3) : guessC ⟨(colT c).toArray⟩ = c := by
  obtain ⟨nm, k, nl⟩ := c
  have hno : (58 : UInt8) ∉ nm.data.toList := fun hm => (name_chars _ h _ hm).2.1 rfl
  have hsuf : Lib.hasSuffix (colT ⟨nm, k, nl⟩) [63] = nl := by
    unfold Lib.hasSuffix colT List.isSuffixOf
    simp only at h1 h3 ⊢
    cases nl with
    | true => simp
    | false =>
      rcases (show k = 1 ∨ k = 2 ∨ k = 3 by omega) with rfl | rfl | rfl <;> simp [wordR, List.isPrefixOf]
  have htr : Lib.trimSuffix (colT ⟨nm, k, nl⟩) [63] = nm.data.toList ++ 58 :: (wordR k).data.toList := by
    unfold Lib.trimSuffix
    rw [hsuf]
    cases nl with
    | true =>
      have e : colT ⟨nm, k, true⟩ = (nm.data.toList ++ 58 :: (wordR k).data.toList) ++ [63] := by simp [colT]
      rw [if_pos rfl, e]
      exact List.take_left' (by simp)
    | false => simp [colT]
  have hcut : Lib.cut (nm.data.toList ++ 58 :: (wordR k).data.toList) [58] = (nm.data.toList, (wordR k).data.toList, true) := by
    unfold Lib.cut
    rw [Lib.index_one, indexByte_at 58 _ _ hno, if_pos (by omega)]
    simp [List.drop_append]
  unfold guessC
  simp only
  rw [hsuf, htr, hcut]
  simp only
  rw [byteArray_back, byteArray_back]
  simp only at h1 h3
  rcases (show k = 1 ∨ k = 2 ∨ k = 3 by omega) with rfl | rfl | rfl
  · unfold pickC; rw [if_pos (same_self _)]
  · unfold pickC; rw [if_neg (by rw [w12]; simp), if_pos (same_self _)]
  · unfold pickC; rw [if_neg (by rw [w13]; simp), if_neg (by rw [w23]; simp), if_pos (same_self _)]

theorem guess_line (x : Sc) (h : faultR [x] = 0) (s : ByteArray) (hs : s.data.toList = lineS x) : guessS s = x := by
  obtain ⟨h1, h2, h3⟩ := fault_okn x h
  have hsz : s.size = (lineS x).length := by rw [← hs]; rfl
  have hl := line_join x h
  have hk : (x.nm.data.toList :: x.cols.map colT).length ≤ min 8 (s.size + 1) - 1 := by
    have : (x.nm.data.toList :: x.cols.map colT).length ≤ s.size := by
      rw [hsz, hl]
      unfold joinK
      rw [List.length_append, List.length_flatMap]
      have hg : ∀ (ps : List (List UInt8)), ps.length ≤ (ps.map fun p => ((32 : UInt8) :: p).length).sum := by
        intro ps
        induction ps with
        | nil => simp
        | cons p ps ih => simp only [List.length_cons, List.map_cons, List.sum_cons] at ih ⊢; omega
      have := hg (x.nm.data.toList :: x.cols.map colT)
      omega
    simp only [List.length_cons, List.length_map] at this ⊢
    omega
  have hp : (partsS s).map (·.data.toList) = [107, 105, 110, 100] :: x.nm.data.toList :: x.cols.map colT := by
    unfold partsS
    rw [Lib.splitB_data, hs, hl]
    refine splitK_join 32 _ _ _ (by decide) ?_ hk
    intro p hp
    rcases List.mem_cons.1 hp with rfl | hp
    · exact fun hm => (name_chars _ h1 _ hm).1 rfl
    · obtain ⟨c, hc, rfl⟩ := List.mem_map.1 hp
      exact colT_no c (h3 c hc).1
  have hps := map_data_inj hp
  unfold guessS
  rw [hps]
  simp only [List.map_cons]
  rw [byteArray_back]
  obtain ⟨nm, cs⟩ := x
  simp only at h3 ⊢
  congr 1
  rw [List.map_map, List.map_map]
  have : ∀ c ∈ cs, ((guessC ∘ fun l : List UInt8 => (⟨l.toArray⟩ : ByteArray)) ∘ colT) c = id c := fun c hc => guessC_col c (h3 c hc).1 (h3 c hc).2.1 (h3 c hc).2.2
  rw [List.map_congr_left this, List.map_id]

theorem partG_col (c : Co) (h : nameR c.nm.data.toList = true) (h1 : 1 ≤ c.k) (h3 : c.k ≤ 3) : partG (colT c) = some c := by
  obtain ⟨nm, k, nl⟩ := c
  simp only at h1 h3
  have hno : (58 : UInt8) ∉ nm.data.toList := fun hm => (name_chars _ h _ hm).2.1 rfl
  have hno2 : (58 : UInt8) ∉ (wordR k).data.toList ++ (if nl then [63] else []) := by
    intro hm
    rcases List.mem_append.1 hm with hm | hm
    · exact (word_chars _ _ hm).2.1 rfl
    · split at hm <;> simp at hm
  have e : colT ⟨nm, k, nl⟩ = joinK 58 nm.data.toList [(wordR k).data.toList ++ (if nl then [63] else [])] := by simp [colT, joinK]
  unfold partG
  rw [e, splitF_join 58 _ _ hno (by intro p hp; rw [List.mem_singleton.1 hp]; exact hno2)]
  simp only
  rw [byteArray_back]
  congr 1
  have eb : (⟨((wordR k).data.toList ++ (if nl then [63] else [])).toArray⟩ : ByteArray) = if nl then wordR k ++ ⟨#[63]⟩ else wordR k := by
    cases nl with
    | true => rw [if_pos rfl, if_pos rfl, ← line_cat2, byteArray_back]
    | false => rw [if_neg (by simp), if_neg (by simp), List.append_nil, byteArray_back]
  rw [eb]
  rcases (show k = 1 ∨ k = 2 ∨ k = 3 by omega) with rfl | rfl | rfl <;> cases nl <;> (unfold colG stepG sameNm; simp only [ByteArray.toList_eq]; simp [wordR])

theorem partsG_cols : ∀ (cs : List Co), (∀ c ∈ cs, nameR c.nm.data.toList = true ∧ 1 ≤ c.k ∧ c.k ≤ 3) → partsG (cs.map colT) = some cs
  | [], _ => rfl
  | c :: cs, h => by
    obtain ⟨h1, h2, h3⟩ := h c (by simp)
    rw [List.map_cons, partsG, partG_col c h1 h2 h3, partsG_cols cs (fun d hd => h d (by simp [hd]))]
    rfl
theorem readF_line (x : Sc) (h : faultR [x] = 0) : readF (lineS x) = some x := by
  obtain ⟨h1, h2, h3⟩ := fault_okn x h
  unfold readF
  rw [line_join x h, splitF_join 32 _ _ (by decide) ?_]
  · simp only
    rw [partsG_cols x.cols h3, byteArray_back]
    rfl
  · intro p hp
    rcases List.mem_cons.1 hp with rfl | hp
    · exact fun hm => (name_chars _ h1 _ hm).1 rfl
    · obtain ⟨c, hc, rfl⟩ := List.mem_map.1 hp
      exact colT_no c (h3 c hc).1

theorem line_some (x : Sc) (h : lineS x ≠ []) : faultR [x] = 0 := by
  by_cases h0 : faultR [x] = 0
  · exact h0
  · unfold lineS at h; rw [if_neg h0] at h; exact absurd rfl h
/-- Both ways answer alike. -/
theorem read_alike (s : ByteArray) (hs : s.size ≤ 400) : readS s = readR s := by
  unfold readR
  rw [if_neg (by omega)]
  by_cases h : ∃ x, faultR [x] = 0 ∧ lineS x = s.data.toList
  · obtain ⟨x, h1, h2⟩ := h
    have hne : s.data.toList ≠ [] := by rw [← h2]; unfold lineS; rw [if_pos h1]; simp
    unfold readS
    rw [guess_line x h1 s h2.symm, if_pos ⟨hne, h2⟩, ← h2, readF_line x h1]
    simp
  · have hno : ∀ x, s.data.toList ≠ [] → lineS x ≠ s.data.toList := fun x hne e => h ⟨x, line_some x (by rw [e]; exact hne), e⟩
    unfold readS
    by_cases hne : s.data.toList = []
    · rw [if_neg (by rw [hne]; simp), hne]
      rfl
    · rw [if_neg (by intro hh; exact hno _ hne hh.2)]
      cases hr : readF s.data.toList with
      | none => rfl
      | some x => simp only; rw [if_neg (hno x hne)]
/-- A line is read as the kind. -/
theorem read_line (x : Sc) (h : lineS x ≠ []) : readS ⟨(lineS x).toArray⟩ = (x, 0) := by
  have h1 := line_some x h
  unfold readS
  rw [guess_line x h1 _ rfl, if_pos ⟨h, rfl⟩]
/-- What was read has the line. -/
theorem line_read (s : ByteArray) (h : (readS s).2 = 0) : lineS (readS s).1 = s.data.toList := by
  unfold readS at h ⊢
  split
  · rename_i hh; exact hh.2
  · rename_i hh; rw [if_neg hh] at h; cases h
end Go.Proofs.YtgifkigamebofaaDoor
