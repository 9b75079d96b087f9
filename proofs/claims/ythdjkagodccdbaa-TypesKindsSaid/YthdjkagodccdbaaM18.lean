/-
  Cells in memory, in blocks that stay as they are.
  No condition.
  Kinds of objects as plain things, why they can not be, and how columns and kinds lie in memory.
  No condition.
  Columns and kinds that a call makes itself: what append leaves behind it.
  No condition but that a list is no longer than it can be.
-/
import Derived.Test.YthdjkagodccdbaaM16
import Derived.Test.YthdjkagodccdbaaM17
namespace Go.Proofs.Ythdjkagodccdbaa
section
open Go.RowKit

/-- The cells cs lie at A, in blocks of Q. -/
def CellsQ (w : World) (Q : Nat → Prop) (A : Option Addr) (cs : List Value) : Prop := ∀ (j : Nat) (u : Value), cs[j]? = some u → ∃ a : Addr, A = some a ∧ Q (a.add j).block ∧ w.cell? (a.add j) = some u
theorem CellsQ.keep {w w' : World} {Q : Nat → Prop} {A : Option Addr} {cs : List Value} (h : CellsQ w Q A cs) (hk : KeepQ Q w w') : CellsQ w' Q A cs := by
  intro j u hj
  obtain ⟨a, ha, hb, hc⟩ := h j u hj
  exact ⟨a, ha, hb, (World.cell?_of_block (w := w) (hk _ hb (World.block_lt_of_cell? w _ hc))).trans hc⟩
theorem CellsQ.imp {w : World} {Q Q' : Nat → Prop} {A : Option Addr} {cs : List Value} (h : CellsQ w Q A cs) (hq : ∀ k, k < w.heap.size → Q k → Q' k) : CellsQ w Q' A cs := by
  intro j u hj
  obtain ⟨a, ha, hb, hc⟩ := h j u hj
  exact ⟨a, ha, hq _ (World.block_lt_of_cell? w _ hc) hb, hc⟩
theorem CellsQ.take {w : World} {Q : Nat → Prop} {A : Option Addr} {cs : List Value} (h : CellsQ w Q A cs) (n : Nat) : CellsQ w Q A (cs.take n) := by
  intro j u hj
  rw [List.getElem?_take] at hj
  split at hj
  · exact h j u hj
  · cases hj
theorem CellsQ.drop {w : World} {Q : Nat → Prop} {a : Addr} {cs : List Value} (h : CellsQ w Q (some a) cs) (n : Nat) : CellsQ w Q (some (a.add n)) (cs.drop n) := by
  intro j u hj
  rw [List.getElem?_drop] at hj
  obtain ⟨a', ha, hb, hc⟩ := h _ u hj
  injection ha with ha
  subst ha
  have e : (a.add n).add j = a.add (n + j) := by
    unfold Addr.add
    by_cases h1 : n = 0
    · subst h1; simp
    · by_cases h2 : j = 0
      · subst h2; simp
      · simp [h1, h2, Nat.add_assoc]
  exact ⟨_, rfl, by rw [e]; exact hb, by rw [e]; exact hc⟩

theorem CellsQ.at {w : World} {Q : Nat → Prop} {A : Option Addr} {cs : List Value} (h : CellsQ w Q A cs) (j r : Nat) (u : Value) (a : Addr) (ha : A = some a) (hr : 0 < r) (hu : cs[j + r]? = some u) : w.cell? { block := (a.add j).block, off := (a.add j).off + r } = some u := by
  obtain ⟨a', ha', _, hc⟩ := h _ _ hu
  subst ha
  injection ha' with ha'
  subst ha'
  rw [add_off _ _ _ hr]
  exact hc
theorem CellsQ.below {w w' : World} {Q : Nat → Prop} {A : Option Addr} {cs : List Value} (h : CellsQ w Q A cs) (hb : Below w.heap.size w w') : CellsQ w' Q A cs := h.keep (Below.keepQ hb Q)
end
end Go.Proofs.Ythdjkagodccdbaa
namespace Go.Proofs.Ythdjkagodccdbaa
section
open Go.RowKit

/-- A column: its name, its values' kind, whether they may be null. -/
structure Co where
  nm : ByteArray
  k : Int
  nl : Bool
/-- A kind of objects: its name, its columns. -/
structure Sc where
  nm : ByteArray
  cols : List Co

/-! ### names -/
def letterB (c : UInt8) : Bool := decide (97 ≤ c.toNat) && decide (c.toNat ≤ 122)
def restB (c : UInt8) : Bool := letterB c || (decide (48 ≤ c.toNat) && decide (c.toNat ≤ 57)) || decide (c.toNat = 95)
/-- Can a name be? -/
def nameR (s : List UInt8) : Bool :=
  match s with
  | [] => false
  | c :: _ => decide (s.length ≤ 16) && letterB c && s.all restB

/-! ### why kinds can not be -/
def sameNm (a b : ByteArray) : Bool := a.toList == b.toList
def tenantB : ByteArray := ⟨#[116, 101, 110, 97, 110, 116]⟩
def colF (ahead : List Co) (c : Co) : Int := if nameR c.nm.data.toList = false then 3 else if c.k < 1 ∨ 3 < c.k then 11 else if ahead.any (fun d => sameNm d.nm c.nm) then 4 else 0
/-- Why columns can not be, from the k-th on. -/
def colsF (cs : List Co) : Nat → Nat → Int
  | 0, _ => 0
  | f + 1, k => match cs[k]? with
    | none => 0
    | some c => if colF (cs.take k) c = 0 then colsF cs f (k + 1) else colF (cs.take k) c
def kindF (ahead : List Sc) (x : Sc) : Int :=
  if nameR x.nm.data.toList = false ∨ sameNm x.nm tenantB = true then 3 else if ahead.any (fun d => sameNm d.nm x.nm) then 4 else if 6 < x.cols.length then 9 else colsF x.cols x.cols.length 0
def kindsF (l : List Sc) : Nat → Nat → Int
  | 0, _ => 0
  | f + 1, k => match l[k]? with
    | none => 0
    | some x => if kindF (l.take k) x = 0 then kindsF l f (k + 1) else kindF (l.take k) x
/-- Why kinds can not be beside each other; 0: they can. -/
def faultR (l : List Sc) : Int := if 8 < l.length then 9 else kindsF l l.length 0

theorem colsF_step (cs : List Co) (f k : Nat) (c : Co) (h : cs[k]? = some c) : colsF cs (f + 1) k = if colF (cs.take k) c = 0 then colsF cs f (k + 1) else colF (cs.take k) c := by
  rw [colsF, h]
theorem colsF_end (cs : List Co) (f k : Nat) (h : cs.length ≤ k) : colsF cs f k = 0 := by
  cases f with
  | zero => rfl
  | succ f => rw [colsF, List.getElem?_eq_none h]
theorem kindsF_step (l : List Sc) (f k : Nat) (x : Sc) (h : l[k]? = some x) : kindsF l (f + 1) k = if kindF (l.take k) x = 0 then kindsF l f (k + 1) else kindF (l.take k) x := by
  rw [kindsF, h]
theorem kindsF_end (l : List Sc) (f k : Nat) (h : l.length ≤ k) : kindsF l f k = 0 := by
  cases f with
  | zero => rfl
  | succ f => rw [kindsF, List.getElem?_eq_none h]

/-! ### how they lie in memory -/
def Co.cells (c : Co) : List Value := [.string c.nm, .int .i64 c.k, .bool c.nl]
def Co.val (c : Co) : Value := .agg #[.string c.nm, .int .i64 c.k, .bool c.nl]
def flatC (cs : List Co) : List Value := cs.flatMap Co.cells
theorem flatC_len (cs : List Co) : (flatC cs).length = cs.length * 3 := by
  induction cs with
  | nil => rfl
  | cons x xs ih =>
    have h : (flatC (x :: xs)).length = 3 + (flatC xs).length := by simp [flatC, Co.cells]; omega
    rw [h, ih, List.length_cons]
    omega
theorem flatC_append (a b : List Co) : flatC (a ++ b) = flatC a ++ flatC b := by simp [flatC]
theorem flatC_cons (x : Co) (xs : List Co) : flatC (x :: xs) = .string x.nm :: .int .i64 x.k :: .bool x.nl :: flatC xs := rfl
theorem flatC_at : ∀ (cs : List Co) (i : Nat) (c : Co), cs[i]? = some c → (flatC cs)[i * 3]? = some (.string c.nm) ∧ (flatC cs)[i * 3 + 1]? = some (.int .i64 c.k) ∧ (flatC cs)[i * 3 + 2]? = some (.bool c.nl)
  | [], _, _, h => by simp at h
  | x :: xs, 0, c, h => by
    have h' : x = c := by simpa using h
    subst h'
    exact ⟨rfl, rfl, rfl⟩
  | x :: xs, i + 1, c, h => by
    have ih := flatC_at xs i c (by simpa using h)
    rw [flatC_cons, show (i + 1) * 3 = i * 3 + 3 from by omega]
    exact ih
theorem flatC_one (cs : List Co) : ∀ u ∈ flatC cs, u.oneCell' = true := by
  intro u hu
  obtain ⟨x, _, hx⟩ := List.mem_flatMap.1 hu
  simp only [Co.cells, List.mem_cons, List.not_mem_nil, or_false] at hx
  rcases hx with rfl | rfl | rfl <;> rfl
theorem flatC_take : ∀ (cs : List Co) (n : Nat), flatC (cs.take n) = (flatC cs).take (n * 3)
  | [], n => by simp [flatC]
  | x :: xs, 0 => by simp [flatC]
  | x :: xs, n + 1 => by
    rw [List.take_succ_cons, flatC_cons, flatC_cons, flatC_take xs n, show (n + 1) * 3 = n * 3 + 1 + 1 + 1 from by omega]
    rfl

/-- v is a slice of these columns, in blocks of Q. -/
def IsCols (w : World) (Q : Nat → Prop) (v : Value) (cs : List Co) : Prop := cs.length ≤ 1000000 ∧ ∃ A c, v = .slice A cs.length c ∧ (A = none → c = 0) ∧ cs.length ≤ c ∧ CellsQ w Q A (flatC cs)
theorem IsCols.keep {w w' : World} {Q : Nat → Prop} {v : Value} {cs : List Co} (h : IsCols w Q v cs) (hk : KeepQ Q w w') : IsCols w' Q v cs := by
  obtain ⟨hl, A, c, e, hA, hc, h1⟩ := h
  exact ⟨hl, A, c, e, hA, hc, h1.keep hk⟩
theorem IsCols.imp {w : World} {Q Q' : Nat → Prop} {v : Value} {cs : List Co} (h : IsCols w Q v cs) (hq : ∀ k, k < w.heap.size → Q k → Q' k) : IsCols w Q' v cs := by
  obtain ⟨hl, A, c, e, hA, hc, h1⟩ := h
  exact ⟨hl, A, c, e, hA, hc, h1.imp hq⟩
theorem IsCols.below {w w' : World} {Q : Nat → Prop} {v : Value} {cs : List Co} (h : IsCols w Q v cs) (hb : Below w.heap.size w w') : IsCols w' Q v cs := h.keep (Below.keepQ hb Q)
theorem IsCols.nil (w : World) (Q : Nat → Prop) : IsCols w Q (.slice none 0 0) [] := ⟨by simp, none, 0, rfl, fun _ => rfl, by simp, fun j u hj => by simp [flatC] at hj⟩
/-- The cells of a column. -/
theorem CellsQ.col {w : World} {Q : Nat → Prop} {A : Option Addr} {cs : List Co} (h : CellsQ w Q A (flatC cs)) (i : Nat) (c : Co) (hc : cs[i]? = some c) :
    ∃ a, A = some a ∧ (a.add (i * 3)).block < w.heap.size ∧ w.cell? (a.add (i * 3)) = some (.string c.nm) ∧ w.cell? { block := (a.add (i * 3)).block, off := (a.add (i * 3)).off + 1 } = some (.int .i64 c.k) ∧ w.cell? { block := (a.add (i * 3)).block, off := (a.add (i * 3)).off + 2 } = some (.bool c.nl) := by
  obtain ⟨f0, f1, f2⟩ := flatC_at cs i c hc
  obtain ⟨a, ha, _, h0⟩ := h _ _ f0
  exact ⟨a, ha, World.block_lt_of_cell? w _ h0, h0, h.at _ _ _ _ ha (by omega) f1, h.at _ _ _ _ ha (by omega) f2⟩

/-- A kind as it lies: its name, its columns' slice. -/
abbrev RS := ByteArray × Value
def flatS (ls : List RS) : List Value := ls.flatMap fun e => [.string e.1, e.2]
theorem flatS_len (ls : List RS) : (flatS ls).length = ls.length * 2 := by
  induction ls with
  | nil => rfl
  | cons x xs ih =>
    have h : (flatS (x :: xs)).length = 2 + (flatS xs).length := by simp [flatS]; omega
    rw [h, ih, List.length_cons]
    omega
theorem flatS_append (a b : List RS) : flatS (a ++ b) = flatS a ++ flatS b := by simp [flatS]
theorem flatS_cons (x : RS) (xs : List RS) : flatS (x :: xs) = .string x.1 :: x.2 :: flatS xs := rfl
theorem flatS_at : ∀ (ls : List RS) (i : Nat) (e : RS), ls[i]? = some e → (flatS ls)[i * 2]? = some (.string e.1) ∧ (flatS ls)[i * 2 + 1]? = some e.2
  | [], _, _, h => by simp at h
  | x :: xs, 0, e, h => by
    have h' : x = e := by simpa using h
    subst h'
    exact ⟨rfl, rfl⟩
  | x :: xs, i + 1, e, h => by
    have ih := flatS_at xs i e (by simpa using h)
    rw [flatS_cons, show (i + 1) * 2 = i * 2 + 2 from by omega]
    exact ih
theorem flatS_take : ∀ (ls : List RS) (n : Nat), flatS (ls.take n) = (flatS ls).take (n * 2)
  | [], n => by simp [flatS]
  | x :: xs, 0 => by simp [flatS]
  | x :: xs, n + 1 => by
    rw [List.take_succ_cons, flatS_cons, flatS_cons, flatS_take xs n, show (n + 1) * 2 = n * 2 + 1 + 1 from by omega]
    rfl

/-- The kinds as they lie are these. -/
def ScR (w : World) (Q : Nat → Prop) : List RS → List Sc → Prop
  | [], [] => True
  | a :: ls, b :: l => a.1 = b.nm ∧ IsCols w Q a.2 b.cols ∧ ScR w Q ls l
  | _, _ => False
theorem ScR.len {w : World} {Q : Nat → Prop} : ∀ {ls : List RS} {l : List Sc}, ScR w Q ls l → ls.length = l.length
  | [], [], _ => rfl
  | _ :: _, _ :: _, h => by rw [List.length_cons, List.length_cons, ScR.len h.2.2]
theorem ScR.keep {w w' : World} {Q : Nat → Prop} (hk : KeepQ Q w w') : ∀ {ls : List RS} {l : List Sc}, ScR w Q ls l → ScR w' Q ls l
  | [], [], _ => trivial
  | _ :: _, _ :: _, h => ⟨h.1, h.2.1.keep hk, ScR.keep hk h.2.2⟩
theorem ScR.imp {w : World} {Q Q' : Nat → Prop} (hq : ∀ k, k < w.heap.size → Q k → Q' k) : ∀ {ls : List RS} {l : List Sc}, ScR w Q ls l → ScR w Q' ls l
  | [], [], _ => trivial
  | _ :: _, _ :: _, h => ⟨h.1, h.2.1.imp hq, ScR.imp hq h.2.2⟩
theorem ScR.append {w : World} {Q : Nat → Prop} : ∀ {a c : List RS} {b d : List Sc}, ScR w Q a b → ScR w Q c d → ScR w Q (a ++ c) (b ++ d)
  | [], _, [], _, _, h => h
  | _ :: _, _, _ :: _, _, h, h' => ⟨h.1, h.2.1, ScR.append h.2.2 h'⟩
theorem ScR.get {w : World} {Q : Nat → Prop} : ∀ {a : List RS} {b : List Sc} (i : Nat) (e : Sc), ScR w Q a b → b[i]? = some e → ∃ v, a[i]? = some (e.nm, v) ∧ IsCols w Q v e.cols
  | [], [], _, _, _, h => by simp at h
  | x :: _, y :: _, 0, e, h, he => by
    have e1 : y = e := by simpa using he
    subst e1
    exact ⟨x.2, by rw [← h.1]; rfl, h.2.1⟩
  | _ :: _, _ :: _, i + 1, e, h, he => by
    obtain ⟨v, h1, h2⟩ := ScR.get i e h.2.2 (by simpa using he)
    exact ⟨v, by simpa using h1, h2⟩
theorem ScR.one {w : World} {Q : Nat → Prop} : ∀ {a : List RS} {b : List Sc}, ScR w Q a b → ∀ u ∈ flatS a, u.oneCell' = true
  | [], [], _, u, hu => by simp [flatS] at hu
  | x :: xs, _ :: _, h, u, hu => by
    rw [flatS_cons, List.mem_cons, List.mem_cons] at hu
    rcases hu with rfl | rfl | hu
    · rfl
    · obtain ⟨_, A, c, e, _⟩ := h.2.1
      rw [e]
      rfl
    · exact ScR.one h.2.2 u hu
/-- v is a slice of these kinds, in blocks of Q. -/
def IsKinds (w : World) (Q : Nat → Prop) (v : Value) (l : List Sc) : Prop := l.length ≤ 1000000 ∧ ∃ A c, v = .slice A l.length c ∧ (A = none → c = 0) ∧ l.length ≤ c ∧ ∃ ls, ScR w Q ls l ∧ CellsQ w Q A (flatS ls)
theorem IsKinds.keep {w w' : World} {Q : Nat → Prop} {v : Value} {l : List Sc} (h : IsKinds w Q v l) (hk : KeepQ Q w w') : IsKinds w' Q v l := by
  obtain ⟨hl, A, c, e, hA, hc, ls, h1, h2⟩ := h
  exact ⟨hl, A, c, e, hA, hc, ls, h1.keep hk, h2.keep hk⟩
theorem IsKinds.imp {w : World} {Q Q' : Nat → Prop} {v : Value} {l : List Sc} (h : IsKinds w Q v l) (hq : ∀ k, k < w.heap.size → Q k → Q' k) : IsKinds w Q' v l := by
  obtain ⟨hl, A, c, e, hA, hc, ls, h1, h2⟩ := h
  exact ⟨hl, A, c, e, hA, hc, ls, h1.imp hq, h2.imp hq⟩
theorem IsKinds.below {w w' : World} {Q : Nat → Prop} {v : Value} {l : List Sc} (h : IsKinds w Q v l) (hb : Below w.heap.size w w') : IsKinds w' Q v l := h.keep (Below.keepQ hb Q)
/-- The cells of a kind. -/
theorem kind_get {w : World} {Q : Nat → Prop} {A : Option Addr} {ls : List RS} {l : List Sc} (h1 : ScR w Q ls l) (h2 : CellsQ w Q A (flatS ls)) (i : Nat) (x : Sc) (hx : l[i]? = some x) :
    ∃ a v, A = some a ∧ IsCols w Q v x.cols ∧ (a.add (i * 2)).block < w.heap.size ∧ w.cell? (a.add (i * 2)) = some (.string x.nm) ∧ w.cell? { block := (a.add (i * 2)).block, off := (a.add (i * 2)).off + 1 } = some v := by
  obtain ⟨v, h3, h4⟩ := h1.get i x hx
  obtain ⟨f0, f1⟩ := flatS_at ls i _ h3
  obtain ⟨a, ha, _, hc⟩ := h2 _ _ f0
  exact ⟨a, v, ha, h4, World.block_lt_of_cell? w _ hc, hc, h2.at _ _ _ _ ha (by omega) f1⟩
end
end Go.Proofs.Ythdjkagodccdbaa
namespace Go.Proofs.Ythdjkagodccdbaa
section
open Go.RowKit

/-- v is a list of entries of the call's own. -/
def OwnC (w : World) (base : Nat) (v : Value) (ls : List Co) : Prop := w.ownsRow base 49 3 v ls.length (flatC ls)
theorem OwnC.nil (w : World) (base : Nat) : OwnC w base (.slice none 0 0) [] := World.ownsRow_nil w base _ _
theorem OwnC.base_le {w : World} {base : Nat} {v : Value} {ls : List Co} (h : OwnC w base v ls) : ∀ k, v.ownBlock = some k → base ≤ k := fun k hk => (World.ownsRow.lt h k hk).1
theorem OwnC.alloc {w : World} {base : Nat} {v : Value} {ls : List Co} (h : OwnC w base v ls) (o : Obj) : OwnC (w.alloc o) base v ls := World.ownsRow.alloc h o
theorem OwnC.below {w w' : World} {base : Nat} {v : Value} {ls : List Co} (h : OwnC w base v ls) (hb : Below w.heap.size w w') : OwnC w' base v ls := by
  refine ⟨h.1, ?_⟩
  rcases h.2 with hn | ⟨g, cap, cur, hv, hg, hh, r⟩
  · exact Or.inl hn
  · have hlt : g < w.heap.size := (Array.getElem?_eq_some_iff.1 hh).1
    exact Or.inr ⟨g, cap, cur, hv, hg, (hb.block g hlt).trans hh, r⟩
theorem OwnC.slice {w : World} {base : Nat} {v : Value} {ls : List Co} (h : OwnC w base v ls) (Q : Nat → Prop) (hQ : ∀ k, base ≤ k → Q k) : ∃ A c, v = .slice A ls.length c ∧ (A = none → c = 0) ∧ ls.length ≤ c ∧ CellsQ w Q A (flatC ls) := by
  rcases h.2 with ⟨rfl, hn⟩ | ⟨g, cap, cur, rfl, hb, hg, hcap, _⟩
  · refine ⟨none, 0, by rw [hn], fun _ => rfl, by omega, fun j u hj => ?_⟩
    have h1 := (List.getElem?_eq_some_iff.1 hj).1
    rw [flatC_len] at h1
    omega
  · refine ⟨_, _, rfl, fun h => by simp at h, hcap, fun j u hj => ⟨_, rfl, ?_, ?_⟩⟩
    · rw [show ((⟨g, 0, none⟩ : Addr).add j).block = g from by unfold Addr.add; split <;> rfl]
      exact hQ _ hb
    · exact World.ownsRow.cells h (g := g) rfl _ _ hj

theorem info_C : (Try.prog.info? 49).map (fun i => (i.zero, i.size, i.bytes)) = some (some (.agg #[.string ⟨#[]⟩, .int .i64 0, .bool false]), 3, 32) := by kernel_rfl

set_option maxRecDepth 10000 in
theorem append_C (w : World) (ty : TypeId) (base : Nat) (v : Value) (xs ys : List Co) (hown : OwnC w base v xs) (A : Option Addr) (m c : Nat) (hm : m = ys.length) (Q : Nat → Prop) (hr : CellsQ w Q A (flatC ys)) (h1 : ∀ u ∈ flatC ys, u.oneCell' = true)
    (hroom : xs.length + ys.length ≤ 3000000) (hbase : base ≤ w.heap.size) :
    ∃ v' w', (Builtin.append_ #[35, 35] ty #[v, .slice A m c]).run Try.prog w = .ok v' w' ∧ OwnC w' base v' (xs ++ ys) ∧ w.grownBy w' v.ownBlock ∧ (v'.ownBlock = v.ownBlock ∨ v'.ownBlock = some w.heap.size) := by
  obtain ⟨i, hi, hz, hsize, hby⟩ := info_parts info_C
  cases A with
  | none =>
    have hy : ys = [] := by
      cases ys with
      | nil => rfl
      | cons y ys =>
        obtain ⟨a, ha, _⟩ := hr 0 _ rfl
        cases ha
    subst hy
    subst hm
    refine ⟨v, w, ?_, by simpa using hown, World.grownBy.refl _ _, Or.inl rfl⟩
    rcases hown.2 with ⟨rfl, _⟩ | ⟨g, cap, cur, rfl, _, _, hnc, _⟩
    · simp [Builtin.append_, run_underlying Try.underlying35, sizeOf, typeInfo, hi, Builtin.lenOf, Builtin.firstCells]
    · simp [Builtin.append_, run_underlying Try.underlying35, sizeOf, typeInfo, hi, Builtin.lenOf, Builtin.firstCells, hnc, storeCells]
  | some ad =>
    obtain ⟨v', w', h2, h3, h4, _, h5⟩ := run_append_own_at (P := Try.prog) w base 35 ty 49 i _ 3 32 Try.underlying35 hi hz hsize hby rfl (by omega) v xs.length (flatC xs) hown ad m c (flatC ys)
      (by rw [flatC_len, hm]) (fun j u hj => by obtain ⟨a, ha, _, hc⟩ := hr j u hj; injection ha with ha; subst ha; exact hc) h1 (by unfold maxLen; omega) (by omega) hbase
    refine ⟨v', w', h2, ?_, h4, h5⟩
    unfold OwnC
    rw [flatC_append, List.length_append, ← hm]
    exact h3

theorem wp_append_C {ops : Array Oper} {rest : List Oper} {o : Oper} {a : Act} {Q : Exit → Act → World → Prop} (w : World) (hgd : o.guard = none) (s x : Operand)
    (ho : o.op = .call { callee := .builtin .append, args := #[s, x], argTypes := #[35, 35] })
    (base : Nat) (v : Value) (xs ys : List Co) (hs : a.eval s = v) (hown : OwnC w base v xs) (A : Option Addr) (m c : Nat) (hx : a.eval x = .slice A m c) (hm : m = ys.length) (R : Nat → Prop) (hr : CellsQ w R A (flatC ys)) (h1 : ∀ u ∈ flatC ys, u.oneCell' = true)
    (hroom : xs.length + ys.length ≤ 3000000) (hbase : base ≤ w.heap.size)
    (h : ∀ v' w', OwnC w' base v' (xs ++ ys) → Below base w w' → w.grownBy w' v.ownBlock → (v'.ownBlock = v.ownBlock ∨ v'.ownBlock = some w.heap.size) → wpList Try.prog ops Q rest (a.put o.dst v') w') : wpList Try.prog ops Q (o :: rest) a w := by
  refine wpList_plain hgd fun K hK => ?_
  obtain ⟨v', w', hrun, h2, h3, h4⟩ := append_C w o.type base v xs ys hown A m c hm R hr h1 hroom hbase
  unfold Oper.wp execOp
  simp only [ho, resolve, invoke, builtin, Sem.run_bind, Sem.run_pure, Result.andThen_ok, List.map_toArray, List.map_cons, List.map_nil, hs, hx, hrun]
  exact hK _ _ (h v' w' h2 ((Below.refl _ _).grown h3 hbase (fun k hk => hown.base_le k hk)) h3 h4)
theorem op_append_C {o : Oper} {a : Act} {K : Act → World → Prop} {Q : Exit → Act → World → Prop} (w : World) (s x : Operand)
    (ho : o.op = .call { callee := .builtin .append, args := #[s, x], argTypes := #[35, 35] })
    (base : Nat) (v : Value) (xs ys : List Co) (hs : a.eval s = v) (hown : OwnC w base v xs) (A : Option Addr) (m c : Nat) (hx : a.eval x = .slice A m c) (hm : m = ys.length) (R : Nat → Prop) (hr : CellsQ w R A (flatC ys)) (h1 : ∀ u ∈ flatC ys, u.oneCell' = true)
    (hroom : xs.length + ys.length ≤ 3000000) (hbase : base ≤ w.heap.size)
    (h : ∀ v' w', OwnC w' base v' (xs ++ ys) → Below base w w' → w.grownBy w' v.ownBlock → (v'.ownBlock = v.ownBlock ∨ v'.ownBlock = some w.heap.size) → K (a.put o.dst v') w') : Oper.wp Try.prog o a w K Q := by
  obtain ⟨v', w', hrun, h2, h3, h4⟩ := append_C w o.type base v xs ys hown A m c hm R hr h1 hroom hbase
  unfold Oper.wp execOp
  simp only [ho, resolve, invoke, builtin, Sem.run_bind, Sem.run_pure, Result.andThen_ok, List.map_toArray, List.map_cons, List.map_nil, hs, hx, hrun]
  exact h v' w' h2 ((Below.refl _ _).grown h3 hbase (fun k hk => hown.base_le k hk)) h3 h4
theorem op_append_Cd {o : Oper} {a : Act} {K : Act → World → Prop} {Q : Exit → Act → World → Prop} (w : World) (s x : Operand) (d : Nat) (hd : o.dst = some d)
    (ho : o.op = .call { callee := .builtin .append, args := #[s, x], argTypes := #[35, 35] })
    (base : Nat) (v : Value) (xs ys : List Co) (hs : a.eval s = v) (hown : OwnC w base v xs) (A : Option Addr) (m c : Nat) (hx : a.eval x = .slice A m c) (hm : m = ys.length) (R : Nat → Prop) (hr : CellsQ w R A (flatC ys)) (h1 : ∀ u ∈ flatC ys, u.oneCell' = true)
    (hroom : xs.length + ys.length ≤ 3000000) (hbase : base ≤ w.heap.size)
    (h : ∀ v' w', OwnC w' base v' (xs ++ ys) → Below base w w' → w.grownBy w' v.ownBlock → (v'.ownBlock = v.ownBlock ∨ v'.ownBlock = some w.heap.size) → K { tmps := a.tmps.setIfInBounds d v', defers := a.defers } w') : Oper.wp Try.prog o a w K Q := by
  refine op_append_C w s x ho base v xs ys hs hown A m c hx hm R hr h1 hroom hbase ?_
  intro v' w' h2 h3 h4 h5
  rw [hd]
  exact h v' w' h2 h3 h4 h5
theorem OwnC.succ {w : World} {base : Nat} {v : Value} {ls : List Co} {e : Co} (h : OwnC w base v (ls ++ [e])) : ∃ g cap, v = .slice (some ⟨g, 0, none⟩) (ls.length + 1) cap := by
  rcases h.2 with ⟨_, h0⟩ | ⟨g, cap, _, hv, _⟩
  · simp at h0
  · exact ⟨g, cap, by rw [hv, List.length_append]; rfl⟩
theorem wp_make_C {ops : Array Oper} {rest : List Oper} {o : Oper} {a : Act} {Q : Exit → Act → World → Prop} (w : World) (hg : o.guard = none) (l c : Operand) (hop : o.op = Op.makeSlice 35 l c)
    (base : Nat) (n : Nat) (hl : a.eval l = .int .i64 0) (hc : a.eval c = .int .i64 (n : Int)) (hn : n ≤ 3000000) (hbase : base ≤ w.heap.size)
    (h : ∀ v' w', OwnC w' base v' [] → Below base w w' → wpList Try.prog ops Q rest (a.put o.dst v') w') : wpList Try.prog ops Q (o :: rest) a w := by
  obtain ⟨i, hi, hz, hsize, hby⟩ := info_parts info_C
  exact wpList_make_own w hg l c 35 hop base 49 i _ 3 Try.underlying35 hi hz hsize .i64 .i64 _ n hl hc rfl (by rw [hby]; omega) (by unfold maxLen; omega) hbase
    fun w' h1 h2 => h _ w' h1 ((Below.refl _ _).grown h2 hbase (fun k hk => by cases hk))

/-- v is a list of entries of the call's own. -/
def OwnS (w : World) (base : Nat) (v : Value) (ls : List RS) : Prop := w.ownsRow base 71 2 v ls.length (flatS ls)
theorem OwnS.nil (w : World) (base : Nat) : OwnS w base (.slice none 0 0) [] := World.ownsRow_nil w base _ _
theorem OwnS.base_le {w : World} {base : Nat} {v : Value} {ls : List RS} (h : OwnS w base v ls) : ∀ k, v.ownBlock = some k → base ≤ k := fun k hk => (World.ownsRow.lt h k hk).1
theorem OwnS.alloc {w : World} {base : Nat} {v : Value} {ls : List RS} (h : OwnS w base v ls) (o : Obj) : OwnS (w.alloc o) base v ls := World.ownsRow.alloc h o
theorem OwnS.below {w w' : World} {base : Nat} {v : Value} {ls : List RS} (h : OwnS w base v ls) (hb : Below w.heap.size w w') : OwnS w' base v ls := by
  refine ⟨h.1, ?_⟩
  rcases h.2 with hn | ⟨g, cap, cur, hv, hg, hh, r⟩
  · exact Or.inl hn
  · have hlt : g < w.heap.size := (Array.getElem?_eq_some_iff.1 hh).1
    exact Or.inr ⟨g, cap, cur, hv, hg, (hb.block g hlt).trans hh, r⟩
theorem OwnS.slice {w : World} {base : Nat} {v : Value} {ls : List RS} (h : OwnS w base v ls) (Q : Nat → Prop) (hQ : ∀ k, base ≤ k → Q k) : ∃ A c, v = .slice A ls.length c ∧ (A = none → c = 0) ∧ ls.length ≤ c ∧ CellsQ w Q A (flatS ls) := by
  rcases h.2 with ⟨rfl, hn⟩ | ⟨g, cap, cur, rfl, hb, hg, hcap, _⟩
  · refine ⟨none, 0, by rw [hn], fun _ => rfl, by omega, fun j u hj => ?_⟩
    have h1 := (List.getElem?_eq_some_iff.1 hj).1
    rw [flatS_len] at h1
    omega
  · refine ⟨_, _, rfl, fun h => by simp at h, hcap, fun j u hj => ⟨_, rfl, ?_, ?_⟩⟩
    · rw [show ((⟨g, 0, none⟩ : Addr).add j).block = g from by unfold Addr.add; split <;> rfl]
      exact hQ _ hb
    · exact World.ownsRow.cells h (g := g) rfl _ _ hj

theorem info_S : (Try.prog.info? 71).map (fun i => (i.zero, i.size, i.bytes)) = some (some (.agg #[.string ⟨#[]⟩, .slice none 0 0]), 2, 40) := by kernel_rfl

set_option maxRecDepth 10000 in
theorem append_S (w : World) (ty : TypeId) (base : Nat) (v : Value) (xs ys : List RS) (hown : OwnS w base v xs) (A : Option Addr) (m c : Nat) (hm : m = ys.length) (Q : Nat → Prop) (hr : CellsQ w Q A (flatS ys)) (h1 : ∀ u ∈ flatS ys, u.oneCell' = true)
    (hroom : xs.length + ys.length ≤ 3000000) (hbase : base ≤ w.heap.size) :
    ∃ v' w', (Builtin.append_ #[22, 22] ty #[v, .slice A m c]).run Try.prog w = .ok v' w' ∧ OwnS w' base v' (xs ++ ys) ∧ w.grownBy w' v.ownBlock ∧ (v'.ownBlock = v.ownBlock ∨ v'.ownBlock = some w.heap.size) := by
  obtain ⟨i, hi, hz, hsize, hby⟩ := info_parts info_S
  cases A with
  | none =>
    have hy : ys = [] := by
      cases ys with
      | nil => rfl
      | cons y ys =>
        obtain ⟨a, ha, _⟩ := hr 0 _ rfl
        cases ha
    subst hy
    subst hm
    refine ⟨v, w, ?_, by simpa using hown, World.grownBy.refl _ _, Or.inl rfl⟩
    rcases hown.2 with ⟨rfl, _⟩ | ⟨g, cap, cur, rfl, _, _, hnc, _⟩
    · simp [Builtin.append_, run_underlying Try.underlying22, sizeOf, typeInfo, hi, Builtin.lenOf, Builtin.firstCells]
    · simp [Builtin.append_, run_underlying Try.underlying22, sizeOf, typeInfo, hi, Builtin.lenOf, Builtin.firstCells, hnc, storeCells]
  | some ad =>
    obtain ⟨v', w', h2, h3, h4, _, h5⟩ := run_append_own_at (P := Try.prog) w base 22 ty 71 i _ 2 40 Try.underlying22 hi hz hsize hby rfl (by omega) v xs.length (flatS xs) hown ad m c (flatS ys)
      (by rw [flatS_len, hm]) (fun j u hj => by obtain ⟨a, ha, _, hc⟩ := hr j u hj; injection ha with ha; subst ha; exact hc) h1 (by unfold maxLen; omega) (by omega) hbase
    refine ⟨v', w', h2, ?_, h4, h5⟩
    unfold OwnS
    rw [flatS_append, List.length_append, ← hm]
    exact h3

theorem wp_append_S {ops : Array Oper} {rest : List Oper} {o : Oper} {a : Act} {Q : Exit → Act → World → Prop} (w : World) (hgd : o.guard = none) (s x : Operand)
    (ho : o.op = .call { callee := .builtin .append, args := #[s, x], argTypes := #[22, 22] })
    (base : Nat) (v : Value) (xs ys : List RS) (hs : a.eval s = v) (hown : OwnS w base v xs) (A : Option Addr) (m c : Nat) (hx : a.eval x = .slice A m c) (hm : m = ys.length) (R : Nat → Prop) (hr : CellsQ w R A (flatS ys)) (h1 : ∀ u ∈ flatS ys, u.oneCell' = true)
    (hroom : xs.length + ys.length ≤ 3000000) (hbase : base ≤ w.heap.size)
    (h : ∀ v' w', OwnS w' base v' (xs ++ ys) → Below base w w' → w.grownBy w' v.ownBlock → (v'.ownBlock = v.ownBlock ∨ v'.ownBlock = some w.heap.size) → wpList Try.prog ops Q rest (a.put o.dst v') w') : wpList Try.prog ops Q (o :: rest) a w := by
  refine wpList_plain hgd fun K hK => ?_
  obtain ⟨v', w', hrun, h2, h3, h4⟩ := append_S w o.type base v xs ys hown A m c hm R hr h1 hroom hbase
  unfold Oper.wp execOp
  simp only [ho, resolve, invoke, builtin, Sem.run_bind, Sem.run_pure, Result.andThen_ok, List.map_toArray, List.map_cons, List.map_nil, hs, hx, hrun]
  exact hK _ _ (h v' w' h2 ((Below.refl _ _).grown h3 hbase (fun k hk => hown.base_le k hk)) h3 h4)
theorem op_append_S {o : Oper} {a : Act} {K : Act → World → Prop} {Q : Exit → Act → World → Prop} (w : World) (s x : Operand)
    (ho : o.op = .call { callee := .builtin .append, args := #[s, x], argTypes := #[22, 22] })
    (base : Nat) (v : Value) (xs ys : List RS) (hs : a.eval s = v) (hown : OwnS w base v xs) (A : Option Addr) (m c : Nat) (hx : a.eval x = .slice A m c) (hm : m = ys.length) (R : Nat → Prop) (hr : CellsQ w R A (flatS ys)) (h1 : ∀ u ∈ flatS ys, u.oneCell' = true)
    (hroom : xs.length + ys.length ≤ 3000000) (hbase : base ≤ w.heap.size)
    (h : ∀ v' w', OwnS w' base v' (xs ++ ys) → Below base w w' → w.grownBy w' v.ownBlock → (v'.ownBlock = v.ownBlock ∨ v'.ownBlock = some w.heap.size) → K (a.put o.dst v') w') : Oper.wp Try.prog o a w K Q := by
  obtain ⟨v', w', hrun, h2, h3, h4⟩ := append_S w o.type base v xs ys hown A m c hm R hr h1 hroom hbase
  unfold Oper.wp execOp
  simp only [ho, resolve, invoke, builtin, Sem.run_bind, Sem.run_pure, Result.andThen_ok, List.map_toArray, List.map_cons, List.map_nil, hs, hx, hrun]
  exact h v' w' h2 ((Below.refl _ _).grown h3 hbase (fun k hk => hown.base_le k hk)) h3 h4
theorem op_append_Sd {o : Oper} {a : Act} {K : Act → World → Prop} {Q : Exit → Act → World → Prop} (w : World) (s x : Operand) (d : Nat) (hd : o.dst = some d)
    (ho : o.op = .call { callee := .builtin .append, args := #[s, x], argTypes := #[22, 22] })
    (base : Nat) (v : Value) (xs ys : List RS) (hs : a.eval s = v) (hown : OwnS w base v xs) (A : Option Addr) (m c : Nat) (hx : a.eval x = .slice A m c) (hm : m = ys.length) (R : Nat → Prop) (hr : CellsQ w R A (flatS ys)) (h1 : ∀ u ∈ flatS ys, u.oneCell' = true)
    (hroom : xs.length + ys.length ≤ 3000000) (hbase : base ≤ w.heap.size)
    (h : ∀ v' w', OwnS w' base v' (xs ++ ys) → Below base w w' → w.grownBy w' v.ownBlock → (v'.ownBlock = v.ownBlock ∨ v'.ownBlock = some w.heap.size) → K { tmps := a.tmps.setIfInBounds d v', defers := a.defers } w') : Oper.wp Try.prog o a w K Q := by
  refine op_append_S w s x ho base v xs ys hs hown A m c hx hm R hr h1 hroom hbase ?_
  intro v' w' h2 h3 h4 h5
  rw [hd]
  exact h v' w' h2 h3 h4 h5
theorem OwnS.succ {w : World} {base : Nat} {v : Value} {ls : List RS} {e : RS} (h : OwnS w base v (ls ++ [e])) : ∃ g cap, v = .slice (some ⟨g, 0, none⟩) (ls.length + 1) cap := by
  rcases h.2 with ⟨_, h0⟩ | ⟨g, cap, _, hv, _⟩
  · simp at h0
  · exact ⟨g, cap, by rw [hv, List.length_append]; rfl⟩
theorem wp_make_S {ops : Array Oper} {rest : List Oper} {o : Oper} {a : Act} {Q : Exit → Act → World → Prop} (w : World) (hg : o.guard = none) (l c : Operand) (hop : o.op = Op.makeSlice 22 l c)
    (base : Nat) (n : Nat) (hl : a.eval l = .int .i64 0) (hc : a.eval c = .int .i64 (n : Int)) (hn : n ≤ 3000000) (hbase : base ≤ w.heap.size)
    (h : ∀ v' w', OwnS w' base v' [] → Below base w w' → wpList Try.prog ops Q rest (a.put o.dst v') w') : wpList Try.prog ops Q (o :: rest) a w := by
  obtain ⟨i, hi, hz, hsize, hby⟩ := info_parts info_S
  exact wpList_make_own w hg l c 22 hop base 71 i _ 2 Try.underlying22 hi hz hsize .i64 .i64 _ n hl hc rfl (by rw [hby]; omega) (by unfold maxLen; omega) hbase
    fun w' h1 h2 => h _ w' h1 ((Below.refl _ _).grown h2 hbase (fun k hk => by cases hk))
end
end Go.Proofs.Ythdjkagodccdbaa
