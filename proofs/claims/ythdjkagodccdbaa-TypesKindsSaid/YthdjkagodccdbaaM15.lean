/-
  Trees of rows, each so many times, as plain things: what turning, putting in and taking out leave of the list of their rows in order, and what a search finds.
  No Go in it.
-/
import Derived.Test.YthdjkagodccdbaaM2
namespace Go.Proofs.Ythdjkagodccdbaa

/-- A row, and how often it is there. -/
abbrev En := List V × Int
/-- A tree of rows. -/
inductive Tr where
  | nil : Tr
  | node : List V → Int → Tr → Tr → Tr

def Tr.cnt : Tr → Nat
  | .nil => 0
  | .node _ _ l h => l.cnt + 1 + h.cnt
def Tr.toL : Tr → List En
  | .nil => []
  | .node r m l h => l.toL ++ (r, m) :: h.toL
theorem Tr.len_toL : ∀ t : Tr, t.toL.length = t.cnt
  | .nil => rfl
  | .node r m l h => by
    simp only [Tr.toL, Tr.cnt, List.length_append, List.length_cons, Tr.len_toL l, Tr.len_toL h]
    omega

def Tr.raiseLow (r : List V) (m : Int) : Tr → Tr → Tr
  | .nil, h => .node r m .nil h
  | .node lr lm ll lh, h => .node lr lm ll (.node r m lh h)
def Tr.raiseHigh (r : List V) (m : Int) (l : Tr) : Tr → Tr
  | .nil => .node r m l .nil
  | .node hr hm hl hh => .node hr hm (.node r m l hl) hh
def Tr.leanLow : Tr → Tr
  | .nil => .nil
  | .node lr lm ll lh => if 2 * (ll.cnt + 1) ≤ lh.cnt + 1 then .raiseHigh lr lm ll lh else .node lr lm ll lh
def Tr.leanHigh : Tr → Tr
  | .nil => .nil
  | .node hr hm hl hh => if 2 * (hh.cnt + 1) ≤ hl.cnt + 1 then .raiseLow hr hm hl hh else .node hr hm hl hh
def Tr.bal (r : List V) (m : Int) (l h : Tr) : Tr :=
  if 3 * (h.cnt + 1) < l.cnt + 1 then .raiseLow r m l.leanLow h
  else if 3 * (l.cnt + 1) < h.cnt + 1 then .raiseHigh r m l h.leanHigh
  else .node r m l h

theorem Tr.toL_raiseLow (r : List V) (m : Int) (l h : Tr) : (Tr.raiseLow r m l h).toL = l.toL ++ (r, m) :: h.toL := by
  cases l with
  | nil => rfl
  | node lr lm ll lh => simp [Tr.raiseLow, Tr.toL]
theorem Tr.toL_raiseHigh (r : List V) (m : Int) (l h : Tr) : (Tr.raiseHigh r m l h).toL = l.toL ++ (r, m) :: h.toL := by
  cases h with
  | nil => rfl
  | node lr lm ll lh => simp [Tr.raiseHigh, Tr.toL]
theorem Tr.toL_leanLow (l : Tr) : l.leanLow.toL = l.toL := by
  cases l with
  | nil => rfl
  | node lr lm ll lh =>
    show (if 2 * (ll.cnt + 1) ≤ lh.cnt + 1 then Tr.raiseHigh lr lm ll lh else .node lr lm ll lh).toL = _
    split
    · rw [Tr.toL_raiseHigh]; rfl
    · rfl
theorem Tr.toL_leanHigh (l : Tr) : l.leanHigh.toL = l.toL := by
  cases l with
  | nil => rfl
  | node lr lm ll lh =>
    show (if 2 * (lh.cnt + 1) ≤ ll.cnt + 1 then Tr.raiseLow lr lm ll lh else .node lr lm ll lh).toL = _
    split
    · rw [Tr.toL_raiseLow]; rfl
    · rfl
theorem Tr.toL_bal (r : List V) (m : Int) (l h : Tr) : (Tr.bal r m l h).toL = l.toL ++ (r, m) :: h.toL := by
  unfold Tr.bal
  split
  · rw [Tr.toL_raiseLow, Tr.toL_leanLow]
  · split
    · rw [Tr.toL_raiseHigh, Tr.toL_leanHigh]
    · rfl
theorem Tr.cnt_bal (r : List V) (m : Int) (l h : Tr) : (Tr.bal r m l h).cnt = l.cnt + 1 + h.cnt := by
  rw [← Tr.len_toL, Tr.toL_bal, List.length_append, List.length_cons, Tr.len_toL, Tr.len_toL]
  omega

/-- The tree in which x is there k times. -/
def Tr.put (x : List V) (k : Int) : Tr → Tr
  | .nil => .node x k .nil .nil
  | .node r m l h => if cmpR x r = -1 then .bal r m (Tr.put x k l) h else if cmpR x r = 1 then .bal r m l (Tr.put x k h) else .node r k l h
/-- The node of the first row. -/
def Tr.least : Tr → Tr
  | .nil => .nil
  | .node r m .nil h => .node r m .nil h
  | .node _ _ (.node lr lm ll lh) _ => Tr.least (.node lr lm ll lh)
def Tr.most : Tr → Tr
  | .nil => .nil
  | .node r m l .nil => .node r m l .nil
  | .node _ _ _ (.node lr lm ll lh) => Tr.most (.node lr lm ll lh)
/-- The row of a node, and how often. -/
def Tr.root : Tr → Option En
  | .nil => none
  | .node r m _ _ => some (r, m)
def Tr.rootD (t : Tr) : En := t.root.getD ([], 0)
def Tr.isNil : Tr → Bool
  | .nil => true
  | .node _ _ _ _ => false
/-- The tree less x. -/
def Tr.cut : Tr → List V → Tr
  | .nil, _ => .nil
  | .node r m l h, x => if cmpR x r = -1 then .bal r m (l.cut x) h else if cmpR x r = 1 then .bal r m l (h.cut x) else if h.isNil = true then l else .bal h.least.rootD.1 h.least.rootD.2 l (h.cut h.least.rootD.1)
/-- Does the way down to x end at a row? -/
def Tr.has (x : List V) : Tr → Bool
  | .nil => false
  | .node r _ l h => if cmpR x r = -1 then Tr.has x l else if cmpR x r = 1 then Tr.has x h else true
/-- The first node whose row is not ahead of x. -/
def Tr.fromD (x : List V) : Tr → Tr → Tr
  | fi, .nil => fi
  | fi, .node r m l h => if cmpR r x < 0 then Tr.fromD x fi h else Tr.fromD x (.node r m l h) l

/-- Rows in order, no two the same. -/
def Ord : List En → Prop
  | [] => True
  | e :: l => (∀ f ∈ l, cmpR e.1 f.1 < 0) ∧ Ord l
theorem ord_append : ∀ (a b : List En), Ord (a ++ b) ↔ Ord a ∧ Ord b ∧ ∀ e ∈ a, ∀ f ∈ b, cmpR e.1 f.1 < 0
  | [], b => by simp [Ord]
  | e :: a, b => by
    have ih := ord_append a b
    simp only [List.cons_append, Ord, ih, List.mem_append, List.mem_cons]
    constructor
    · rintro ⟨h1, h2, h3, h4⟩
      refine ⟨⟨fun f hf => h1 f (Or.inl hf), h2⟩, h3, ?_⟩
      rintro g (rfl | hg) f hf
      · exact h1 f (Or.inr hf)
      · exact h4 g hg f hf
    · rintro ⟨⟨h1, h2⟩, h3, h4⟩
      refine ⟨?_, h2, h3, fun g hg f hf => h4 g (Or.inr hg) f hf⟩
      rintro f (hf | hf)
      · exact h1 f hf
      · exact h4 e (Or.inl rfl) f hf

theorem cmpR_flip {a b : List V} : cmpR b a = -cmpR a b := cmpR_ordered.anti a b
theorem cmpR_lt3 {a b c : List V} (h1 : cmpR a b < 0) (h2 : cmpR b c < 0) : cmpR a c < 0 := cmpR_ordered.trl a b c (by omega) (by omega) (Or.inl h1)
theorem cmpR_le_lt {a b c : List V} (h1 : cmpR a b ≤ 0) (h2 : cmpR b c < 0) : cmpR a c < 0 := cmpR_ordered.trl a b c h1 (by omega) (Or.inr h2)
theorem cmpR_lt_le {a b c : List V} (h1 : cmpR a b < 0) (h2 : cmpR b c ≤ 0) : cmpR a c < 0 := cmpR_ordered.trl a b c (by omega) h2 (Or.inl h1)
theorem cmpR_rng (a b : List V) : cmpR a b = -1 ∨ cmpR a b = 0 ∨ cmpR a b = 1 := cmpR_ordered.rng a b

/-- x is there k times, k = 0: not at all. -/
def setL (x : List V) (k : Int) : List En → List En
  | [] => if k = 0 then [] else [(x, k)]
  | e :: l => if cmpR e.1 x < 0 then e :: setL x k l else if cmpR e.1 x = 0 then (if k = 0 then l else (e.1, k) :: l) else (if k = 0 then e :: l else (x, k) :: e :: l)
/-- How often x is there. -/
def manyL (x : List V) : List En → Int
  | [] => 0
  | e :: l => if cmpR e.1 x < 0 then manyL x l else if cmpR e.1 x = 0 then e.2 else 0
/-- The first row that is not ahead of x, and those behind it. -/
def fromL (x : List V) (l : List En) : List En := l.dropWhile fun e => decide (cmpR e.1 x < 0)

theorem setL_cons (x : List V) (k : Int) (e : En) (l : List En) : setL x k (e :: l) = if cmpR e.1 x < 0 then e :: setL x k l else if cmpR e.1 x = 0 then (if k = 0 then l else (e.1, k) :: l) else (if k = 0 then e :: l else (x, k) :: e :: l) := rfl
theorem manyL_cons (x : List V) (e : En) (l : List En) : manyL x (e :: l) = if cmpR e.1 x < 0 then manyL x l else if cmpR e.1 x = 0 then e.2 else 0 := rfl
theorem setL_low (x : List V) (k : Int) : ∀ (a b : List En), (∀ e ∈ a, cmpR e.1 x < 0) → setL x k (a ++ b) = a ++ setL x k b
  | [], _, _ => rfl
  | e :: a, b, h => by
    rw [List.cons_append, setL_cons, if_pos (h e (by simp)), setL_low x k a b (fun f hf => h f (by simp [hf])), List.cons_append]
theorem setL_high (x : List V) (k : Int) (e : En) (b : List En) (h : cmpR x e.1 < 0) : ∀ (a : List En), setL x k (a ++ e :: b) = setL x k a ++ e :: b
  | [] => by
    have h1 : ¬ cmpR e.1 x < 0 := by have := cmpR_flip (a := x) (b := e.1); omega
    have h2 : ¬ cmpR e.1 x = 0 := by have := cmpR_flip (a := x) (b := e.1); omega
    simp only [List.nil_append, setL, if_neg h1, if_neg h2]
    split <;> rfl
  | f :: a => by
    have ih := setL_high x k e b h a
    simp only [List.cons_append, setL, ih]
    split
    · rfl
    · split
      · split <;> rfl
      · split <;> rfl
theorem manyL_low (x : List V) : ∀ (a b : List En), (∀ e ∈ a, cmpR e.1 x < 0) → manyL x (a ++ b) = manyL x b
  | [], _, _ => rfl
  | e :: a, b, h => by
    rw [List.cons_append, manyL_cons, if_pos (h e (by simp)), manyL_low x a b (fun f hf => h f (by simp [hf]))]
theorem manyL_high (x : List V) (e : En) (b : List En) (h : cmpR x e.1 < 0) : ∀ (a : List En), manyL x (a ++ e :: b) = manyL x a
  | [] => by
    have h1 : ¬ cmpR e.1 x < 0 := by have := cmpR_flip (a := x) (b := e.1); omega
    have h2 : ¬ cmpR e.1 x = 0 := by have := cmpR_flip (a := x) (b := e.1); omega
    simp only [List.nil_append, manyL, if_neg h1, if_neg h2]
  | f :: a => by
    have ih := manyL_high x e b h a
    simp only [List.cons_append, manyL, ih]

theorem ord_node {r : List V} {m : Int} {l h : Tr} (ho : Ord (Tr.node r m l h).toL) : Ord l.toL ∧ Ord h.toL ∧ (∀ e ∈ l.toL, cmpR e.1 r < 0) ∧ (∀ e ∈ h.toL, cmpR r e.1 < 0) ∧ ∀ e ∈ l.toL, ∀ f ∈ h.toL, cmpR e.1 f.1 < 0 := by
  unfold Tr.toL at ho
  obtain ⟨h1, ⟨h2, h3⟩, h4⟩ := (ord_append _ _).1 ho
  exact ⟨h1, h3, fun e he => h4 e he (r, m) (by simp), h2, fun e he f hf => h4 e he f (by simp [hf])⟩

theorem Tr.toL_put (x : List V) (k : Int) (hk : ¬ k = 0) : ∀ t : Tr, Ord t.toL → (t.put x k).toL = setL x k t.toL
  | .nil, _ => by simp [Tr.put, Tr.toL, setL, hk]
  | .node r m l h, ho => by
    obtain ⟨h1, h2, h3, h4, _⟩ := ord_node ho
    have hf := cmpR_flip (a := x) (b := r)
    unfold Tr.put
    split
    · next hc =>
      rw [Tr.toL_bal, Tr.toL_put x k hk l h1]
      show _ = setL x k (l.toL ++ (r, m) :: h.toL)
      rw [setL_high x k (r, m) h.toL (by show cmpR x r < 0; omega)]
    · split
      · next hc =>
        rw [Tr.toL_bal, Tr.toL_put x k hk h h2]
        show _ = setL x k (l.toL ++ (r, m) :: h.toL)
        have hr : cmpR r x < 0 := by omega
        rw [setL_low x k l.toL _ fun e he => cmpR_lt3 (h3 e he) hr]
        show _ = l.toL ++ setL x k ((r, m) :: h.toL)
        rw [show setL x k ((r, m) :: h.toL) = (r, m) :: setL x k h.toL from by rw [setL, if_pos hr]]
      · next hn1 hn2 =>
        have h0 : cmpR x r = 0 := by have := cmpR_rng x r; omega
        have hr : cmpR r x = 0 := by omega
        show l.toL ++ (r, k) :: h.toL = setL x k (l.toL ++ (r, m) :: h.toL)
        rw [setL_low x k l.toL _ fun e he => cmpR_lt_le (h3 e he) (by omega)]
        rw [show setL x k ((r, m) :: h.toL) = (r, k) :: h.toL from by rw [setL, if_neg (by show ¬ cmpR r x < 0; omega), if_pos hr, if_neg hk]]

theorem Tr.least_toL : ∀ t : Tr, ¬ t.isNil = true → ∃ r m h, t.least = .node r m .nil h ∧ ∃ rest, t.toL = (r, m) :: rest
  | .nil, h => absurd rfl h
  | .node r m .nil h, _ => ⟨r, m, h, rfl, h.toL, rfl⟩
  | .node r m (.node lr lm ll lh) h, _ => by
    obtain ⟨a, b, c, h1, rest, h2⟩ := Tr.least_toL (.node lr lm ll lh) (by simp [Tr.isNil])
    refine ⟨a, b, c, h1, rest ++ (r, m) :: h.toL, ?_⟩
    show (Tr.node lr lm ll lh).toL ++ (r, m) :: h.toL = _
    rw [h2]
    rfl
theorem Tr.most_toL : ∀ t : Tr, ¬ t.isNil = true → ∃ r m l, t.most = .node r m l .nil ∧ ∃ rest, t.toL = rest ++ [(r, m)]
  | .nil, h => absurd rfl h
  | .node r m l .nil, _ => ⟨r, m, l, rfl, l.toL, rfl⟩
  | .node r m l (.node lr lm ll lh), _ => by
    obtain ⟨a, b, c, h1, rest, h2⟩ := Tr.most_toL (.node lr lm ll lh) (by simp [Tr.isNil])
    refine ⟨a, b, c, h1, l.toL ++ (r, m) :: rest, ?_⟩
    show l.toL ++ (r, m) :: (Tr.node lr lm ll lh).toL = _
    rw [h2]
    simp
theorem Tr.isNil_toL (t : Tr) : t.isNil = true ↔ t.toL = [] := by
  cases t with
  | nil => simp [Tr.isNil, Tr.toL]
  | node r m l h => simp [Tr.isNil, Tr.toL]
theorem Tr.isNil_cnt (t : Tr) : t.isNil = true ↔ t.cnt = 0 := by
  rw [Tr.isNil_toL, ← Tr.len_toL]
  simp

theorem Tr.toL_cut : ∀ (t : Tr) (x : List V), Ord t.toL → (∃ e ∈ t.toL, cmpR x e.1 = 0) → (t.cut x).toL = setL x 0 t.toL
  | .nil, x, _, h => by
    obtain ⟨e, he, _⟩ := h
    cases he
  | .node r m l h, x, ho, hx => by
    obtain ⟨h1, h2, h3, h4, h5⟩ := ord_node ho
    have hf := cmpR_flip (a := x) (b := r)
    unfold Tr.cut
    split
    · next hc =>
      have hin : ∃ e ∈ l.toL, cmpR x e.1 = 0 := by
        obtain ⟨e, he, h0⟩ := hx
        simp only [Tr.toL, List.mem_append, List.mem_cons] at he
        rcases he with he | rfl | he
        · exact ⟨e, he, h0⟩
        · have : cmpR x r = 0 := h0
          omega
        · have := cmpR_lt3 (show cmpR x r < 0 by omega) (h4 e he)
          omega
      rw [Tr.toL_bal, Tr.toL_cut l x h1 hin]
      show _ = setL x 0 (l.toL ++ (r, m) :: h.toL)
      rw [setL_high x 0 (r, m) h.toL (by show cmpR x r < 0; omega)]
    · split
      · next hc =>
        have hr : cmpR r x < 0 := by omega
        have hin : ∃ e ∈ h.toL, cmpR x e.1 = 0 := by
          obtain ⟨e, he, h0⟩ := hx
          simp only [Tr.toL, List.mem_append, List.mem_cons] at he
          rcases he with he | rfl | he
          · have h6 := cmpR_lt3 (h3 e he) hr
            have h7 := cmpR_flip (a := e.1) (b := x)
            omega
          · have : cmpR x r = 0 := h0
            omega
          · exact ⟨e, he, h0⟩
        rw [Tr.toL_bal, Tr.toL_cut h x h2 hin]
        show _ = setL x 0 (l.toL ++ (r, m) :: h.toL)
        rw [setL_low x 0 l.toL _ fun e he => cmpR_lt3 (h3 e he) hr]
        rw [show setL x 0 ((r, m) :: h.toL) = (r, m) :: setL x 0 h.toL from by rw [setL, if_pos hr]]
      · next hn1 hn2 =>
        have h0 : cmpR x r = 0 := by have := cmpR_rng x r; omega
        have hr : cmpR r x = 0 := by omega
        have hset : setL x 0 (Tr.node r m l h).toL = l.toL ++ h.toL := by
          show setL x 0 (l.toL ++ (r, m) :: h.toL) = _
          rw [setL_low x 0 l.toL _ fun e he => cmpR_lt_le (h3 e he) (by omega)]
          rw [show setL x 0 ((r, m) :: h.toL) = h.toL from by rw [setL, if_neg (by show ¬ cmpR r x < 0; omega), if_pos hr, if_pos rfl]]
        rw [hset]
        split
        · next hnil => rw [(Tr.isNil_toL h).1 hnil, List.append_nil]
        · next hnil =>
          obtain ⟨a, b, c, hl, rest, ht⟩ := Tr.least_toL h hnil
          have hself : cmpR a a = 0 := cmpR_ordered.self a
          have e1 : h.least.rootD = (a, b) := by rw [hl]; rfl
          rw [Tr.toL_bal, e1, Tr.toL_cut h a h2 ⟨(a, b), by rw [ht]; simp, hself⟩, ht]
          rw [show setL a 0 ((a, b) :: rest) = rest from by rw [setL, if_neg (by show ¬ cmpR a a < 0; omega), if_pos hself, if_pos rfl]]

/-- What is in the list can be found in the tree. -/
theorem Tr.has_toL (x : List V) : ∀ t : Tr, Ord t.toL → (∃ e ∈ t.toL, cmpR x e.1 = 0) → t.has x = true
  | .nil, _, h => by
    obtain ⟨e, he, _⟩ := h
    cases he
  | .node r m l h, ho, hx => by
    obtain ⟨h1, h2, h3, h4, h5⟩ := ord_node ho
    have hf := cmpR_flip (a := x) (b := r)
    obtain ⟨e, he, h0⟩ := hx
    simp only [Tr.toL, List.mem_append, List.mem_cons] at he
    unfold Tr.has
    split
    · refine Tr.has_toL x l h1 ?_
      rcases he with he | rfl | he
      · exact ⟨e, he, h0⟩
      · have : cmpR x r = 0 := h0
        omega
      · have := cmpR_lt3 (show cmpR x r < 0 by omega) (h4 e he)
        omega
    · split
      · refine Tr.has_toL x h h2 ?_
        rcases he with he | rfl | he
        · have h6 := cmpR_lt3 (h3 e he) (show cmpR r x < 0 by omega)
          have h7 := cmpR_flip (a := e.1) (b := x)
          omega
        · have : cmpR x r = 0 := h0
          omega
        · exact ⟨e, he, h0⟩
      · rfl

theorem dropWhile_low {p : En → Bool} : ∀ (a b : List En), (∀ e ∈ a, p e = true) → (a ++ b).dropWhile p = b.dropWhile p
  | [], _, _ => rfl
  | e :: a, b, h => by
    show List.dropWhile p (e :: (a ++ b)) = _
    rw [List.dropWhile_cons, if_pos (h e (by simp)), dropWhile_low a b (fun f hf => h f (by simp [hf]))]

/-- What the search finds is the first row that is not ahead of x. -/
theorem Tr.fromD_root (x : List V) : ∀ (t fi : Tr) (rest : List En), Ord t.toL → (fi.root = rest.head?) → (∀ e ∈ rest.head?, ¬ cmpR e.1 x < 0) → (Tr.fromD x fi t).root = (fromL x (t.toL ++ rest)).head?
  | .nil, fi, rest, _, hh, hn => by
    show fi.root = _
    rw [hh]
    cases rest with
    | nil => rfl
    | cons e rest =>
      have h := hn e rfl
      show some e = _
      rw [show fromL x (Tr.nil.toL ++ e :: rest) = e :: rest from by
        show List.dropWhile _ (e :: rest) = _
        rw [List.dropWhile_cons, if_neg (by simp; omega)]]
      rfl
  | .node r m l h, fi, rest, ho, hh, hn => by
    obtain ⟨h1, h2, h3, h4, h5⟩ := ord_node ho
    unfold Tr.fromD
    split
    · next hc =>
      rw [Tr.fromD_root x h fi rest h2 hh hn]
      have e1 : (Tr.node r m l h).toL ++ rest = (l.toL ++ [(r, m)]) ++ (h.toL ++ rest) := by simp [Tr.toL]
      rw [e1]
      unfold fromL
      rw [dropWhile_low (l.toL ++ [(r, m)])]
      intro e he
      rw [List.mem_append, List.mem_singleton] at he
      rcases he with he | rfl
      · simpa using cmpR_lt3 (h3 e he) hc
      · simpa using hc
    · next hc =>
      rw [Tr.fromD_root x l (.node r m l h) ((r, m) :: (h.toL ++ rest)) h1 rfl (by intro e he; cases he; exact hc)]
      have e1 : (Tr.node r m l h).toL ++ rest = l.toL ++ (r, m) :: (h.toL ++ rest) := by simp [Tr.toL]
      rw [e1]

theorem manyL_from (x : List V) : ∀ l : List En, manyL x l = match (fromL x l).head? with | none => 0 | some e => if cmpR e.1 x = 0 then e.2 else 0
  | [] => rfl
  | e :: l => by
    have ih := manyL_from x l
    rw [manyL_cons]
    unfold fromL
    rw [List.dropWhile_cons]
    by_cases h : cmpR e.1 x < 0
    · rw [if_pos h, if_pos (by simpa using h), ih]
      rfl
    · have hd : ¬ decide (cmpR e.1 x < 0) = true := by simpa using h
      rw [if_neg h, if_neg hd, List.head?_cons]
/-- How often x is in the tree. -/
def Tr.many (x : List V) (t : Tr) : Int := match (Tr.fromD x .nil t).root with | none => 0 | some e => if cmpR e.1 x = 0 then e.2 else 0
theorem Tr.many_toL (x : List V) (t : Tr) (ho : Ord t.toL) : t.many x = manyL x t.toL := by
  unfold Tr.many
  rw [manyL_from, Tr.fromD_root x t .nil [] ho rfl (by intro e he; cases he), List.append_nil]
theorem Tr.from_toL (x : List V) (t : Tr) (ho : Ord t.toL) : (Tr.fromD x .nil t).root = (fromL x t.toL).head? := by
  rw [Tr.fromD_root x t .nil [] ho rfl (by intro e he; cases he), List.append_nil]
end Go.Proofs.Ythdjkagodccdbaa
