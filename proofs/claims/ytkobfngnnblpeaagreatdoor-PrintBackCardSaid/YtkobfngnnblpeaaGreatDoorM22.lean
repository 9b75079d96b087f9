/-
  Cells in memory, in blocks that stay as they are.
  No condition.
  Kinds of objects as plain things, why they can not be, and how columns and kinds lie in memory.
  No condition.
  Name, letter and word of package schema answer whether a name can be, and what kinds of values are called; the world stays as it was.
  No condition.
  Name of the document's schema answers whether a name can be; the world stays as it was.
  No condition.
-/
import Derived.Test.YtkobfngnnblpeaaGreatDoorM19
import Derived.Test.YtkobfngnnblpeaaGreatDoorM21
namespace Go.Proofs.YtkobfngnnblpeaaGreatDoor
section
open Go.RowKit

/-- The cells cs lie at A, in blocks of Q. -/
def CellsQ (w : World) (Q : Nat → Prop) (A : Option Addr) (cs : List Value) : Prop := ∀ (j : Nat) (u : Value), cs[j]? = some u → ∃ a : Addr, A = some a ∧ Q (a.add j).block ∧ w.cell? (a.add j) = some u
theorem CellsQ.keep {w w' : World} {Q : Nat → Prop} {A : Option Addr} {cs : List Value} (h : CellsQ w Q A cs) (hk : KeepQ Q w w') : CellsQ w' Q A cs := by
  intro j u hj
  obtain ⟨a, ha, hb, hc⟩ := h j u hj
  exact ⟨a, ha, hb, (World.cell?_of_block (w := w) (hk _ hb (World.block_lt_of_cell? w _ hc))).trans hc⟩
theorem CellsQ.imp {w : World} {Q Q' : Nat → Prop} {A : Option Addr} {cs : List Value} (h : CellsQ w Q A cs) (hq : ∀ k, k < w.heap.size → Q k → Q' k) : CellsQ w Q' A cs := by
  intro j u hj
  obtain ⟨a, ha, hb, hc⟩ := h j u hj
  exact ⟨a, ha, hq _ (World.block_lt_of_cell? w _ hc) hb, hc⟩
theorem CellsQ.take {w : World} {Q : Nat → Prop} {A : Option Addr} {cs : List Value} (h : CellsQ w Q A cs) (n : Nat) : CellsQ w Q A (cs.take n) := by
  intro j u hj
  rw [List.getElem?_take] at hj
  split at hj
  · exact h j u hj
  · cases hj
theorem CellsQ.drop {w : World} {Q : Nat → Prop} {a : Addr} {cs : List Value} (h : CellsQ w Q (some a) cs) (n : Nat) : CellsQ w Q (some (a.add n)) (cs.drop n) := by
  intro j u hj
  rw [List.getElem?_drop] at hj
  obtain ⟨a', ha, hb, hc⟩ := h _ u hj
  injection ha with ha
  subst ha
  have e : (a.add n).add j = a.add (n + j) := by
    unfold Addr.add
    by_cases h1 : n = 0
    · subst h1; simp
    · by_cases h2 : j = 0
      · subst h2; simp
      · simp [h1, h2, Nat.add_assoc]
  exact ⟨_, rfl, by rw [e]; exact hb, by rw [e]; exact hc⟩

theorem CellsQ.at {w : World} {Q : Nat → Prop} {A : Option Addr} {cs : List Value} (h : CellsQ w Q A cs) (j r : Nat) (u : Value) (a : Addr) (ha : A = some a) (hr : 0 < r) (hu : cs[j + r]? = some u) : w.cell? { block := (a.add j).block, off := (a.add j).off + r } = some u := by
  obtain ⟨a', ha', _, hc⟩ := h _ _ hu
  subst ha
  injection ha' with ha'
  subst ha'
  rw [add_off _ _ _ hr]
  exact hc
theorem CellsQ.below {w w' : World} {Q : Nat → Prop} {A : Option Addr} {cs : List Value} (h : CellsQ w Q A cs) (hb : Below w.heap.size w w') : CellsQ w' Q A cs := h.keep (Below.keepQ hb Q)
end
end Go.Proofs.YtkobfngnnblpeaaGreatDoor
namespace Go.Proofs.YtkobfngnnblpeaaGreatDoor
section
open Go.RowKit

/-- A column: its name, its values' kind, whether they may be null. -/
structure Co where
  nm : ByteArray
  k : Int
  nl : Bool
/-- A kind of objects: its name, its columns. -/
structure Sc where
  nm : ByteArray
  cols : List Co

/-! ### names -/
def letterB (c : UInt8) : Bool := decide (97 ≤ c.toNat) && decide (c.toNat ≤ 122)
def restB (c : UInt8) : Bool := letterB c || (decide (48 ≤ c.toNat) && decide (c.toNat ≤ 57)) || decide (c.toNat = 95)
/-- Can a name be? -/
def nameR (s : List UInt8) : Bool :=
  match s with
  | [] => false
  | c :: _ => decide (s.length ≤ 16) && letterB c && s.all restB

/-! ### why kinds can not be -/
def sameNm (a b : ByteArray) : Bool := a.toList == b.toList
def tenantB : ByteArray := ⟨#[116, 101, 110, 97, 110, 116]⟩
def colF (ahead : List Co) (c : Co) : Int := if nameR c.nm.data.toList = false then 3 else if c.k < 1 ∨ 3 < c.k then 11 else if ahead.any (fun d => sameNm d.nm c.nm) then 4 else 0
/-- Why columns can not be, from the k-th on. -/
def colsF (cs : List Co) : Nat → Nat → Int
  | 0, _ => 0
  | f + 1, k => match cs[k]? with
    | none => 0
    | some c => if colF (cs.take k) c = 0 then colsF cs f (k + 1) else colF (cs.take k) c
def kindF (ahead : List Sc) (x : Sc) : Int :=
  if nameR x.nm.data.toList = false ∨ sameNm x.nm tenantB = true then 3 else if ahead.any (fun d => sameNm d.nm x.nm) then 4 else if 6 < x.cols.length then 9 else colsF x.cols x.cols.length 0
def kindsF (l : List Sc) : Nat → Nat → Int
  | 0, _ => 0
  | f + 1, k => match l[k]? with
    | none => 0
    | some x => if kindF (l.take k) x = 0 then kindsF l f (k + 1) else kindF (l.take k) x
/-- Why kinds can not be beside each other; 0: they can. -/
def faultR (l : List Sc) : Int := if 8 < l.length then 9 else kindsF l l.length 0

theorem colsF_step (cs : List Co) (f k : Nat) (c : Co) (h : cs[k]? = some c) : colsF cs (f + 1) k = if colF (cs.take k) c = 0 then colsF cs f (k + 1) else colF (cs.take k) c := by
  rw [colsF, h]
theorem colsF_end (cs : List Co) (f k : Nat) (h : cs.length ≤ k) : colsF cs f k = 0 := by
  cases f with
  | zero => rfl
  | succ f => rw [colsF, List.getElem?_eq_none h]
theorem kindsF_step (l : List Sc) (f k : Nat) (x : Sc) (h : l[k]? = some x) : kindsF l (f + 1) k = if kindF (l.take k) x = 0 then kindsF l f (k + 1) else kindF (l.take k) x := by
  rw [kindsF, h]
theorem kindsF_end (l : List Sc) (f k : Nat) (h : l.length ≤ k) : kindsF l f k = 0 := by
  cases f with
  | zero => rfl
  | succ f => rw [kindsF, List.getElem?_eq_none h]

/-! ### how they lie in memory -/
def Co.cells (c : Co) : List Value := [.string c.nm, .int .i64 c.k, .bool c.nl]
def Co.val (c : Co) : Value := .agg #[.string c.nm, .int .i64 c.k, .bool c.nl]
def flatC (cs : List Co) : List Value := cs.flatMap Co.cells
theorem flatC_len (cs : List Co) : (flatC cs).length = cs.length * 3 := by
  induction cs with
  | nil => rfl
  | cons x xs ih =>
    have h : (flatC (x :: xs)).length = 3 + (flatC xs).length := by simp [flatC, Co.cells]; omega
    rw [h, ih, List.length_cons]
    omega
theorem flatC_append (a b : List Co) : flatC (a ++ b) = flatC a ++ flatC b := by simp [flatC]
theorem flatC_cons (x : Co) (xs : List Co) : flatC (x :: xs) = .string x.nm :: .int .i64 x.k :: .bool x.nl :: flatC xs := rfl
theorem flatC_at : ∀ (cs : List Co) (i : Nat) (c : Co), cs[i]? = some c → (flatC cs)[i * 3]? = some (.string c.nm) ∧ (flatC cs)[i * 3 + 1]? = some (.int .i64 c.k) ∧ (flatC cs)[i * 3 + 2]? = some (.bool c.nl)
  | [], _, _, h => by simp at h
  | x :: xs, 0, c, h => by
    have h' : x = c := by simpa using h
    subst h'
    exact ⟨rfl, rfl, rfl⟩
  | x :: xs, i + 1, c, h => by
    have ih := flatC_at xs i c (by simpa using h)
    rw [flatC_cons, show (i + 1) * 3 = i * 3 + 3 from by omega]
    exact ih
theorem flatC_one (cs : List Co) : ∀ u ∈ flatC cs, u.oneCell' = true := by
  intro u hu
  obtain ⟨x, _, hx⟩ := List.mem_flatMap.1 hu
  simp only [Co.cells, List.mem_cons, List.not_mem_nil, or_false] at hx
  rcases hx with rfl | rfl | rfl <;> rfl
theorem flatC_take : ∀ (cs : List Co) (n : Nat), flatC (cs.take n) = (flatC cs).take (n * 3)
  | [], n => by simp [flatC]
  | x :: xs, 0 => by simp [flatC]
  | x :: xs, n + 1 => by
    rw [List.take_succ_cons, flatC_cons, flatC_cons, flatC_take xs n, show (n + 1) * 3 = n * 3 + 1 + 1 + 1 from by omega]
    rfl

/-- v is a slice of these columns, in blocks of Q. -/
def IsCols (w : World) (Q : Nat → Prop) (v : Value) (cs : List Co) : Prop := cs.length ≤ 1000000 ∧ ∃ A c, v = .slice A cs.length c ∧ (A = none → c = 0) ∧ cs.length ≤ c ∧ CellsQ w Q A (flatC cs)
theorem IsCols.keep {w w' : World} {Q : Nat → Prop} {v : Value} {cs : List Co} (h : IsCols w Q v cs) (hk : KeepQ Q w w') : IsCols w' Q v cs := by
  obtain ⟨hl, A, c, e, hA, hc, h1⟩ := h
  exact ⟨hl, A, c, e, hA, hc, h1.keep hk⟩
theorem IsCols.imp {w : World} {Q Q' : Nat → Prop} {v : Value} {cs : List Co} (h : IsCols w Q v cs) (hq : ∀ k, k < w.heap.size → Q k → Q' k) : IsCols w Q' v cs := by
  obtain ⟨hl, A, c, e, hA, hc, h1⟩ := h
  exact ⟨hl, A, c, e, hA, hc, h1.imp hq⟩
theorem IsCols.below {w w' : World} {Q : Nat → Prop} {v : Value} {cs : List Co} (h : IsCols w Q v cs) (hb : Below w.heap.size w w') : IsCols w' Q v cs := h.keep (Below.keepQ hb Q)
theorem IsCols.nil (w : World) (Q : Nat → Prop) : IsCols w Q (.slice none 0 0) [] := ⟨by simp, none, 0, rfl, fun _ => rfl, by simp, fun j u hj => by simp [flatC] at hj⟩
/-- The cells of a column. -/
theorem CellsQ.col {w : World} {Q : Nat → Prop} {A : Option Addr} {cs : List Co} (h : CellsQ w Q A (flatC cs)) (i : Nat) (c : Co) (hc : cs[i]? = some c) :
    ∃ a, A = some a ∧ (a.add (i * 3)).block < w.heap.size ∧ w.cell? (a.add (i * 3)) = some (.string c.nm) ∧ w.cell? { block := (a.add (i * 3)).block, off := (a.add (i * 3)).off + 1 } = some (.int .i64 c.k) ∧ w.cell? { block := (a.add (i * 3)).block, off := (a.add (i * 3)).off + 2 } = some (.bool c.nl) := by
  obtain ⟨f0, f1, f2⟩ := flatC_at cs i c hc
  obtain ⟨a, ha, _, h0⟩ := h _ _ f0
  exact ⟨a, ha, World.block_lt_of_cell? w _ h0, h0, h.at _ _ _ _ ha (by omega) f1, h.at _ _ _ _ ha (by omega) f2⟩

/-- A kind as it lies: its name, its columns' slice. -/
abbrev RS := ByteArray × Value
def flatS (ls : List RS) : List Value := ls.flatMap fun e => [.string e.1, e.2]
theorem flatS_len (ls : List RS) : (flatS ls).length = ls.length * 2 := by
  induction ls with
  | nil => rfl
  | cons x xs ih =>
    have h : (flatS (x :: xs)).length = 2 + (flatS xs).length := by simp [flatS]; omega
    rw [h, ih, List.length_cons]
    omega
theorem flatS_append (a b : List RS) : flatS (a ++ b) = flatS a ++ flatS b := by simp [flatS]
theorem flatS_cons (x : RS) (xs : List RS) : flatS (x :: xs) = .string x.1 :: x.2 :: flatS xs := rfl
theorem flatS_at : ∀ (ls : List RS) (i : Nat) (e : RS), ls[i]? = some e → (flatS ls)[i * 2]? = some (.string e.1) ∧ (flatS ls)[i * 2 + 1]? = some e.2
  | [], _, _, h => by simp at h
  | x :: xs, 0, e, h => by
    have h' : x = e := by simpa using h
    subst h'
    exact ⟨rfl, rfl⟩
  | x :: xs, i + 1, e, h => by
    have ih := flatS_at xs i e (by simpa using h)
    rw [flatS_cons, show (i + 1) * 2 = i * 2 + 2 from by omega]
    exact ih
theorem flatS_take : ∀ (ls : List RS) (n : Nat), flatS (ls.take n) = (flatS ls).take (n * 2)
  | [], n => by simp [flatS]
  | x :: xs, 0 => by simp [flatS]
  | x :: xs, n + 1 => by
    rw [List.take_succ_cons, flatS_cons, flatS_cons, flatS_take xs n, show (n + 1) * 2 = n * 2 + 1 + 1 from by omega]
    rfl

/-- The kinds as they lie are these. -/
def ScR (w : World) (Q : Nat → Prop) : List RS → List Sc → Prop
  | [], [] => True
  | a :: ls, b :: l => a.1 = b.nm ∧ IsCols w Q a.2 b.cols ∧ ScR w Q ls l
  | _, _ => False
theorem ScR.len {w : World} {Q : Nat → Prop} : ∀ {ls : List RS} {l : List Sc}, ScR w Q ls l → ls.length = l.length
  | [], [], _ => rfl
  | _ :: _, _ :: _, h => by rw [List.length_cons, List.length_cons, ScR.len h.2.2]
theorem ScR.keep {w w' : World} {Q : Nat → Prop} (hk : KeepQ Q w w') : ∀ {ls : List RS} {l : List Sc}, ScR w Q ls l → ScR w' Q ls l
  | [], [], _ => trivial
  | _ :: _, _ :: _, h => ⟨h.1, h.2.1.keep hk, ScR.keep hk h.2.2⟩
theorem ScR.imp {w : World} {Q Q' : Nat → Prop} (hq : ∀ k, k < w.heap.size → Q k → Q' k) : ∀ {ls : List RS} {l : List Sc}, ScR w Q ls l → ScR w Q' ls l
  | [], [], _ => trivial
  | _ :: _, _ :: _, h => ⟨h.1, h.2.1.imp hq, ScR.imp hq h.2.2⟩
theorem ScR.append {w : World} {Q : Nat → Prop} : ∀ {a c : List RS} {b d : List Sc}, ScR w Q a b → ScR w Q c d → ScR w Q (a ++ c) (b ++ d)
  | [], _, [], _, _, h => h
  | _ :: _, _, _ :: _, _, h, h' => ⟨h.1, h.2.1, ScR.append h.2.2 h'⟩
theorem ScR.get {w : World} {Q : Nat → Prop} : ∀ {a : List RS} {b : List Sc} (i : Nat) (e : Sc), ScR w Q a b → b[i]? = some e → ∃ v, a[i]? = some (e.nm, v) ∧ IsCols w Q v e.cols
  | [], [], _, _, _, h => by simp at h
  | x :: _, y :: _, 0, e, h, he => by
    have e1 : y = e := by simpa using he
    subst e1
    exact ⟨x.2, by rw [← h.1]; rfl, h.2.1⟩
  | _ :: _, _ :: _, i + 1, e, h, he => by
    obtain ⟨v, h1, h2⟩ := ScR.get i e h.2.2 (by simpa using he)
    exact ⟨v, by simpa using h1, h2⟩
theorem ScR.one {w : World} {Q : Nat → Prop} : ∀ {a : List RS} {b : List Sc}, ScR w Q a b → ∀ u ∈ flatS a, u.oneCell' = true
  | [], [], _, u, hu => by simp [flatS] at hu
  | x :: xs, _ :: _, h, u, hu => by
    rw [flatS_cons, List.mem_cons, List.mem_cons] at hu
    rcases hu with rfl | rfl | hu
    · rfl
    · obtain ⟨_, A, c, e, _⟩ := h.2.1
      rw [e]
      rfl
    · exact ScR.one h.2.2 u hu
/-- v is a slice of these kinds, in blocks of Q. -/
def IsKinds (w : World) (Q : Nat → Prop) (v : Value) (l : List Sc) : Prop := l.length ≤ 1000000 ∧ ∃ A c, v = .slice A l.length c ∧ (A = none → c = 0) ∧ l.length ≤ c ∧ ∃ ls, ScR w Q ls l ∧ CellsQ w Q A (flatS ls)
theorem IsKinds.keep {w w' : World} {Q : Nat → Prop} {v : Value} {l : List Sc} (h : IsKinds w Q v l) (hk : KeepQ Q w w') : IsKinds w' Q v l := by
  obtain ⟨hl, A, c, e, hA, hc, ls, h1, h2⟩ := h
  exact ⟨hl, A, c, e, hA, hc, ls, h1.keep hk, h2.keep hk⟩
theorem IsKinds.imp {w : World} {Q Q' : Nat → Prop} {v : Value} {l : List Sc} (h : IsKinds w Q v l) (hq : ∀ k, k < w.heap.size → Q k → Q' k) : IsKinds w Q' v l := by
  obtain ⟨hl, A, c, e, hA, hc, ls, h1, h2⟩ := h
  exact ⟨hl, A, c, e, hA, hc, ls, h1.imp hq, h2.imp hq⟩
theorem IsKinds.below {w w' : World} {Q : Nat → Prop} {v : Value} {l : List Sc} (h : IsKinds w Q v l) (hb : Below w.heap.size w w') : IsKinds w' Q v l := h.keep (Below.keepQ hb Q)
/-- The cells of a kind. -/
theorem kind_get {w : World} {Q : Nat → Prop} {A : Option Addr} {ls : List RS} {l : List Sc} (h1 : ScR w Q ls l) (h2 : CellsQ w Q A (flatS ls)) (i : Nat) (x : Sc) (hx : l[i]? = some x) :
    ∃ a v, A = some a ∧ IsCols w Q v x.cols ∧ (a.add (i * 2)).block < w.heap.size ∧ w.cell? (a.add (i * 2)) = some (.string x.nm) ∧ w.cell? { block := (a.add (i * 2)).block, off := (a.add (i * 2)).off + 1 } = some v := by
  obtain ⟨v, h3, h4⟩ := h1.get i x hx
  obtain ⟨f0, f1⟩ := flatS_at ls i _ h3
  obtain ⟨a, ha, _, hc⟩ := h2 _ _ f0
  exact ⟨a, v, ha, h4, World.block_lt_of_cell? w _ hc, hc, h2.at _ _ _ _ ha (by omega) f1⟩
end
end Go.Proofs.YtkobfngnnblpeaaGreatDoor
namespace Go.Proofs.YtkobfngnnblpeaaGreatDoor
section
open Go.RowKit

/-- What a column of that kind is called; nothing, if none can be of it. -/
def wordR (k : Int) : ByteArray := if k = 1 then ⟨#[98, 111, 111, 108]⟩ else if k = 2 then ⟨#[105, 110, 116]⟩ else if k = 3 then ⟨#[116, 101, 120, 116]⟩ else ⟨#[]⟩

set_option maxHeartbeats 400000 in
theorem s_letter (c : UInt8) (w : World) : Calls Tryz.prog 132 #[.int .u8 (c.toNat : Int)] w fun e w' => e = .returned (.bool (letterB c)) ∧ w' = w := by
  have e : letterB c = (decide ((97 : Int) ≤ c.toNat) && decide ((c.toNat : Int) ≤ 122)) := by
    unfold letterB
    congr 1
    · simp only [decide_eq_decide]; omega
    · simp only [decide_eq_decide]; omega
  rw [e]
  clear e
  by_cases h : (97 : Int) ≤ c.toNat
  · go_enter Tryz.func132, Tryz.ntmps132
    go_wp2
    go_ret
    exact ⟨by simp [h], rfl⟩
  · go_enter Tryz.func132, Tryz.ntmps132
    go_wp2
    go_ret
    exact ⟨by simp; omega, rfl⟩

theorem restB_int (c : UInt8) : restB c = (letterB c || (decide ((48 : Int) ≤ c.toNat) && decide ((c.toNat : Int) ≤ 57)) || ((c.toNat : Int) == 95)) := by
  unfold restB
  have e1 : decide (48 ≤ c.toNat) = decide ((48 : Int) ≤ c.toNat) := by simp only [decide_eq_decide]; omega
  have e2 : decide (c.toNat ≤ 57) = decide ((c.toNat : Int) ≤ 57) := by simp only [decide_eq_decide]; omega
  have e3 : decide (c.toNat = 95) = ((c.toNat : Int) == 95) := by
    by_cases h : c.toNat = 95
    · rw [h]; rfl
    · have : ((c.toNat : Int) == 95) = false := by rw [beq_eq_false_iff_ne]; omega
      rw [this]
      simpa using h
  rw [e1, e2, e3]

theorem all_take_next (s : ByteArray) (k : Nat) (h : k < s.size) : (s.data.toList.take (k + 1)).all restB = ((s.data.toList.take k).all restB && restB s[k]) := by
  have h' : k < s.data.toList.length := h
  rw [List.take_add_one, List.getElem?_eq_getElem h', List.all_append]
  simp
  rfl
theorem all_false (s : ByteArray) (k : Nat) (h : k < s.size) (hr : restB s[k] = false) : s.data.toList.all restB = false := by
  rcases Bool.eq_false_or_eq_true (s.data.toList.all restB) with ha | ha
  · have := List.all_eq_true.1 ha s.data.toList[k] (List.getElem_mem h)
    exact absurd (this.symm.trans (show restB s.data.toList[k] = false from hr)) (by decide)
  · exact ha
/-- A name by its first byte. -/
theorem name_of (s : ByteArray) (h0 : 0 < s.size) : nameR s.data.toList = (decide (s.size ≤ 16) && letterB s[0] && s.data.toList.all restB) := by
  have hl : s.data.toList.length = s.size := rfl
  cases hd : s.data.toList with
  | nil => rw [hd] at hl; simp at hl; omega
  | cons c r =>
    have hc : s[0] = c := by
      have h1 : s.data.toList[0]? = some s[0] := by rw [List.getElem?_eq_getElem (by exact h0)]; rfl
      rw [hd] at h1
      simpa using h1.symm
    rw [hc, ← hl, hd]
    rfl

set_option maxRecDepth 100000 in
set_option maxHeartbeats 2000000 in
theorem s_name (s : ByteArray) (w : World) : Calls Tryz.prog 100 #[.string s] w fun e w' => e = .returned (.bool (nameR s.data.toList)) ∧ w' = w := by
  have hl : s.data.toList.length = s.size := rfl
  by_cases h0 : s.size = 0
  · have hs : s.data.toList = [] := List.eq_nil_of_length_eq_zero (by omega)
    have b0 : (s.toList == []) = true := by rw [ByteArray.toList_eq, hs]; rfl
    rw [hs]
    clear hs hl h0
    go_enter Tryz.func100, Tryz.ntmps100
    go_wp2
    go_ret
    exact ⟨rfl, rfl⟩
  have h1 : 0 < s.size := by omega
  have b0 : (s.toList == []) = false := by
    rw [ByteArray.toList_eq]
    cases hd : s.data.toList with
    | nil => rw [hd] at hl; simp at hl; omega
    | cons c r => rfl
  rw [name_of s h1]
  clear hl h0
  by_cases h2 : s.size ≤ 16
  · rcases Bool.eq_false_or_eq_true (letterB s[0]) with h3 | h3
    · have hd : decide (s.size ≤ 16) = true := by simpa using h2
      rw [hd, h3, Bool.true_and, Bool.true_and]
      have H3 := Lib.hid h3
      obtain ⟨A, hA⟩ : ∃ A, A = s.data.toList.all restB := ⟨_, rfl⟩
      rw [← hA]
      have HA := Lib.hid hA
      clear h3 hd hA
      go_enter Tryz.func100, Tryz.ntmps100
      go_wp2_with (go_at_call 132; refine (s_letter _ _).mono ?_; rintro e w1 ⟨rfl, rfl⟩; rw [H3.out])
      go_loopw [20] (fun i wr => ∃ k : Nat, k ≤ s.size ∧ i = .int .i64 k ∧ (s.data.toList.take k).all restB = true ∧ wr = w1) (fun i _ => s.size - (intOf i).toNat)
      case atStart => exact ⟨0, Nat.zero_le _, rfl, by simp, rfl⟩
      case round =>
        obtain ⟨k, hk, rfl, ha, rfl⟩ := hrel
        have HT := Lib.hid ha
        clear ha
        by_cases h4 : k < s.size
        · have hc : s[k].toNat < 256 := s[k].toNat_lt
          have hc1 : (s[k].toNat : Int) < 256 := by omega
          have HR := Lib.hid (restB_int s[k])
          obtain ⟨L, hL⟩ : ∃ L, L = letterB s[k] := ⟨_, rfl⟩
          have HL := Lib.hid hL
          clear hL
          rcases Bool.eq_false_or_eq_true (restB s[k]) with h5 | h5
          · have H5 := Lib.hid h5
            have HN := Lib.hid (all_take_next s k h4)
            have hend : (s.data.toList.take (k + 1)).all restB = true := by rw [HN.out, HT.out, h5]; rfl
            have HE := Lib.hid hend
            clear hend
            have hcs := h5.symm.trans HR.out
            rw [← HL.out] at hcs
            clear h5
            cases L with
            | true =>
              clear hcs
              go_wp2_with (go_at_call 132; refine (s_letter _ _).mono ?_; rintro e w1 ⟨rfl, rfl⟩; rw [← HL.out])
              exact ⟨⟨k + 1, by omega, by go_num, HE.out, trivial⟩, by simp [intOf]; omega⟩
            | false =>
              by_cases h6 : (48 : Int) ≤ s[k].toNat
              · by_cases h7 : (s[k].toNat : Int) ≤ 57
                · clear hcs
                  go_wp2_with (go_at_call 132; refine (s_letter _ _).mono ?_; rintro e w1 ⟨rfl, rfl⟩; rw [← HL.out])
                  exact ⟨⟨k + 1, by omega, by go_num, HE.out, trivial⟩, by simp [intOf]; omega⟩
                · have h8 : ((s[k].toNat : Int) == 95) = true := by simpa [h7] using hcs.symm
                  have h9 : 57 < (s[k].toNat : Int) := by omega
                  clear hcs h7
                  go_wp2_with (go_at_call 132; refine (s_letter _ _).mono ?_; rintro e w1 ⟨rfl, rfl⟩; rw [← HL.out])
                  exact ⟨⟨k + 1, by omega, by go_num, HE.out, trivial⟩, by simp [intOf]; omega⟩
              · have h8 : ((s[k].toNat : Int) == 95) = true := by simpa [h6] using hcs.symm
                have h9 : (s[k].toNat : Int) = 95 := by simpa using h8
                omega
          · have H5 := Lib.hid h5
            have hend : A = false := by rw [HA.out]; exact all_false s k h4 H5.out
            subst hend
            have hcs := h5.symm.trans HR.out
            rw [← HL.out] at hcs
            clear h5
            cases L with
            | true => simp at hcs
            | false =>
              have h8 : ((s[k].toNat : Int) == 95) = false := by
                rcases Bool.eq_false_or_eq_true ((s[k].toNat : Int) == 95) with h | h
                · rw [h] at hcs; simp at hcs
                · exact h
              by_cases h6 : (48 : Int) ≤ s[k].toNat
              · have h7 : 57 < (s[k].toNat : Int) := by
                  by_cases h7 : (s[k].toNat : Int) ≤ 57
                  · simp [h6, h7] at hcs
                  · omega
                clear hcs
                go_wp2_with (go_at_call 132; refine (s_letter _ _).mono ?_; rintro e w1 ⟨rfl, rfl⟩; rw [← HL.out])
                go_ret
                exact ⟨rfl, rfl⟩
              · have h7 : (s[k].toNat : Int) < 48 := by omega
                clear hcs h6
                go_wp2_with (go_at_call 132; refine (s_letter _ _).mono ?_; rintro e w1 ⟨rfl, rfl⟩; rw [← HL.out])
                go_ret
                exact ⟨rfl, rfl⟩
        · have hend : A = true := by
            rw [HA.out]
            have := HT.out
            rwa [List.take_of_length_le (by show s.size ≤ k; omega)] at this
          subst hend
          go_wp2
          go_ret
          exact ⟨rfl, rfl⟩
    · have hd : decide (s.size ≤ 16) = true := by simpa using h2
      rw [hd, h3, Bool.true_and, Bool.false_and]
      have H3 := Lib.hid h3
      clear h3 hd
      go_enter Tryz.func100, Tryz.ntmps100
      go_wp2_with (go_at_call 132; refine (s_letter _ _).mono ?_; rintro e w1 ⟨rfl, rfl⟩; rw [H3.out])
      go_ret
      exact ⟨rfl, rfl⟩
  · have hd : decide (s.size ≤ 16) = false := by simpa using h2
    rw [hd, Bool.false_and, Bool.false_and]
    have h3 : 16 < s.size := by omega
    clear hd h2
    go_enter Tryz.func100, Tryz.ntmps100
    go_wp2
    go_ret
    exact ⟨rfl, rfl⟩
end
end Go.Proofs.YtkobfngnnblpeaaGreatDoor
namespace Go.Proofs.YtkobfngnnblpeaaGreatDoor
section
open Go.RowKit

set_option maxRecDepth 100000 in
set_option maxHeartbeats 4000000 in
theorem ref_name (s : ByteArray) (w : World) : Calls Tryz.prog 80 #[.string s] w fun e w' => e = .returned (.bool (nameR s.data.toList)) ∧ w' = w := by
  have hl : s.data.toList.length = s.size := rfl
  by_cases h0 : s.size = 0
  · have hs : s.data.toList = [] := List.eq_nil_of_length_eq_zero (by omega)
    rw [hs]
    have h1 : (s.size : Int) < 1 := by omega
    clear hs hl h0
    go_enter Tryz.func80, Tryz.ntmps80
    go_wp2
    go_ret
    exact ⟨rfl, rfl⟩
  have h1 : 0 < s.size := by omega
  have h1' : 1 ≤ (s.size : Int) := by omega
  rw [name_of s h1]
  clear hl h0
  by_cases h2 : s.size ≤ 16
  · have hd : decide (s.size ≤ 16) = true := by simpa using h2
    rw [hd, Bool.true_and]
    obtain ⟨A, hA⟩ : ∃ A, A = (letterB s[0] && s.data.toList.all restB) := ⟨_, rfl⟩
    rw [← hA]
    have HA := Lib.hid hA
    clear hd hA
    go_enter Tryz.func80, Tryz.ntmps80
    go_wp2
    go_loopw [3] (fun i wr => ∃ k : Nat, k ≤ s.size ∧ i = .int .i64 k ∧ (s.data.toList.take k).all restB = true ∧ (0 < k → letterB s[0] = true) ∧ wr = w) (fun i _ => s.size - (intOf i).toNat)
    case atStart => exact ⟨0, Nat.zero_le _, rfl, by simp, (fun h => by omega), rfl⟩
    case round =>
      obtain ⟨k, hk, rfl, ha, hf, rfl⟩ := hrel
      have HT := Lib.hid ha
      have HF := Lib.hid hf
      clear ha hf
      by_cases h4 : k < s.size
      · have hc : s[k].toNat < 256 := s[k].toNat_lt
        have hc1 : (s[k].toNat : Int) < 256 := by omega
        have HR := Lib.hid (restB_int s[k])
        have HN := Lib.hid (all_take_next s k h4)
        have hlet : letterB s[k] = (decide ((97 : Int) ≤ s[k].toNat) && decide ((s[k].toNat : Int) ≤ 122)) := by
          unfold letterB
          congr 1
          · simp only [decide_eq_decide]; omega
          · simp only [decide_eq_decide]; omega
        have HLT := Lib.hid hlet
        clear hlet
        rcases Bool.eq_false_or_eq_true (letterB s[k]) with h5 | h5
        · have hr : restB s[k] = true := by unfold restB; rw [h5]; rfl
          have hend : (s.data.toList.take (k + 1)).all restB = true := by rw [HN.out, HT.out, hr]; rfl
          have hlet0 : letterB s[0] = true := by
            by_cases hk0 : k = 0
            · subst hk0; exact h5
            · exact HF.out (by omega)
          have HE := Lib.hid (And.intro hend hlet0)
          have h6 := h5.symm.trans HLT.out
          have h7 : (97 : Int) ≤ s[k].toNat := by simp at h6; omega
          have h8 : (s[k].toNat : Int) ≤ 122 := by simp at h6; omega
          clear hr hend hlet0 h5 h6
          go_wp2
          exact ⟨⟨k + 1, by omega, by go_num, HE.out.1, fun _ => HE.out.2, by trivial⟩, by simp [intOf]; omega⟩
        · have h6 := h5.symm.trans HLT.out
          by_cases hk0 : k = 0
          · subst hk0
            have hz : A = false := by rw [HA.out, h5]; rfl
            subst hz
            by_cases h7 : (97 : Int) ≤ s[0].toNat
            · have h8 : 122 < (s[0].toNat : Int) := by simp at h6; omega
              have p122 : decide ((s[0].toNat : Int) ≤ 122) = false := by simp; omega
              clear h5 h6
              go_wp2
              go_ret
              exact ⟨rfl, rfl⟩
            · have h8 : (s[0].toNat : Int) < 97 := by omega
              clear h5 h6 h7
              go_wp2
              go_ret
              exact ⟨rfl, rfl⟩
          · have hl0 := HF.out (by omega)
            have HL0 := Lib.hid hl0
            have bk : ((k : Int) == 0) = false := by rw [beq_eq_false_iff_ne]; omega
            have hrest : restB s[k] = ((decide ((48 : Int) ≤ s[k].toNat) && decide ((s[k].toNat : Int) ≤ 57)) || ((s[k].toNat : Int) == 95)) := by rw [HR.out, h5, Bool.false_or]
            have h7 : (s[k].toNat : Int) < 97 ∨ 122 < (s[k].toNat : Int) := by simp at h6; omega
            clear hl0 h5 h6
            rcases Bool.eq_false_or_eq_true (restB s[k]) with h9 | h9
            · have hend : (s.data.toList.take (k + 1)).all restB = true := by rw [HN.out, HT.out, h9]; rfl
              have HE := Lib.hid hend
              rw [h9] at hrest
              clear hend h9
              by_cases g1 : (s[k].toNat : Int) = 95
              · have g2 : ((s[k].toNat : Int) == 95) = true := by simpa using g1
                have g3 : (s[k].toNat : Int) < 97 := by omega
                have p97 : decide ((97 : Int) ≤ s[k].toNat) = false := by simp; omega
                have g4 : (48 : Int) ≤ s[k].toNat := by omega
                have g5 : 57 < (s[k].toNat : Int) := by omega
                clear hrest h7 g1
                go_wp2
                exact ⟨⟨k + 1, by omega, by go_num, HE.out, fun _ => HL0.out, by trivial⟩, by simp [intOf]; omega⟩
              · have g2 : ((s[k].toNat : Int) == 95) = false := by simpa using g1
                have g3 : (48 : Int) ≤ s[k].toNat := by simp [g2] at hrest; omega
                have g4 : (s[k].toNat : Int) ≤ 57 := by simp [g2] at hrest; omega
                have g5 : (s[k].toNat : Int) < 97 := by omega
                have p97 : decide ((97 : Int) ≤ s[k].toNat) = false := by simp; omega
                clear hrest h7 g1
                go_wp2
                exact ⟨⟨k + 1, by omega, by go_num, HE.out, fun _ => HL0.out, by trivial⟩, by simp [intOf]; omega⟩
            · have hz : A = false := by rw [HA.out, all_false s k h4 h9, Bool.and_false]
              subst hz
              rw [h9] at hrest
              have g2 : ((s[k].toNat : Int) == 95) = false := by
                rcases Bool.eq_false_or_eq_true ((s[k].toNat : Int) == 95) with h | h
                · rw [h] at hrest; simp at hrest
                · exact h
              have g6 : ((s[k].toNat : Int) != 95) = true := by unfold bne; rw [g2]; rfl
              clear h9
              by_cases g3 : (48 : Int) ≤ s[k].toNat
              · have g4 : 57 < (s[k].toNat : Int) := by simp [g2] at hrest; omega
                clear hrest
                rcases h7 with h7 | h7
                · have p97 : decide ((97 : Int) ≤ s[k].toNat) = false := by simp; omega
                  go_wp2
                  go_ret
                  exact ⟨rfl, rfl⟩
                · have h8 : (97 : Int) ≤ s[k].toNat := by omega
                  have p122 : decide ((s[k].toNat : Int) ≤ 122) = false := by simp; omega
                  go_wp2
                  go_ret
                  exact ⟨rfl, rfl⟩
              · have g4 : (s[k].toNat : Int) < 48 := by omega
                have h8 : (s[k].toNat : Int) < 97 := by omega
                clear hrest h7 g3
                go_wp2
                go_ret
                exact ⟨rfl, rfl⟩
      · have hz : A = true := by
          have h9 := HT.out
          rw [List.take_of_length_le (by show s.size ≤ k; omega)] at h9
          rw [HA.out, h9, HF.out (by omega)]
          rfl
        subst hz
        go_wp2
        go_ret
        exact ⟨rfl, rfl⟩
  · have hd : decide (s.size ≤ 16) = false := by simpa using h2
    rw [hd, Bool.false_and, Bool.false_and]
    have h3 : 16 < s.size := by omega
    clear hd h2
    go_enter Tryz.func80, Tryz.ntmps80
    go_wp2
    go_ret
    exact ⟨rfl, rfl⟩
end
end Go.Proofs.YtkobfngnnblpeaaGreatDoor
