/-
  Null, Bool, Int and Text of package value make the value that the document names; two values are one for the program just if all their four parts are; Right, and the document's own Right, tell whether a value can be.
  At every input and in every world; nothing that was there is changed. No condition but that a text is no longer than a text can be.
  The document's own Right of a value tells whether a value can be, as Right of package value does; Test of package value and the document's own Test tell the same, at every input and in every world; nothing that was there is changed.
  No condition but that a text is no longer than a text can be.
  Compare of package row, and the document's own comparison of two rows, answer the plain order of two rows, at every two rows and in every world; nothing that was there is changed.
  No condition but that a row, and a text, is no longer than it can be.
  The plain order of numbers, truths, texts, values and rows is one order: of two one goes ahead or neither, the other way round the other, and it hands on from the first to the third. Two values that can be are one just if neither goes ahead.
  No Go in it.
  Compare and Same of package row, and the document's own Compare, Same and Equal of two rows, answer the plain order and the plain oneness of two rows, at every two rows and in every world; nothing that was there is changed.
  No condition but that a row, and a text, is no longer than it can be.
  Texts in order, each once, as plain things: putting one more; the names that a body asks.
-/
import Derived.Laws.StructEq
import Derived.Deep.RegionHeld3
import Derived.Test.YthdjkagodccdbaaM1
namespace Go.Proofs.Ythdjkagodccdbaa
section
open Go.RowKit

/-- Are two values one, part by part? -/
def eqV (a b : V) : Bool := a.k == b.k && a.f == b.f && a.n == b.n && a.t.toList == b.t.toList

theorem eqV_iff (a b : V) : eqV a b = true ↔ a = b := by
  obtain ⟨k, f, n, t⟩ := a
  obtain ⟨k', f', n', t'⟩ := b
  unfold eqV
  rw [ByteArray.toList_eq, ByteArray.toList_eq]
  obtain ⟨⟨l⟩⟩ := t
  obtain ⟨⟨l'⟩⟩ := t'
  simp [and_assoc]

/-- Can a value be? -/
def rightV (v : V) : Bool := decide (0 ≤ v.k) && decide (v.k ≤ 3) && (v.k == 1 || !v.f) && (v.k == 2 || v.n == 0) && (v.k == 3 || v.t.size == 0) && decide (v.t.size ≤ 60)

theorem equal_val (k : Int) (f : Bool) (n : Int) (t : ByteArray) (k' : Int) (f' : Bool) (n' : Int) (t' : ByteArray) (w : World) :
    (Op.equalIn 10000 59 (.agg #[.int .i64 k, .bool f, .int .i64 n, .string t]) (.agg #[.int .i64 k', .bool f', .int .i64 n', .string t'])).run Try.prog w = .ok (eqV ⟨k, f, n, t⟩ ⟨k', f', n', t'⟩) w := by
  have hS : Try.prog.underlying 59 = some (.struct (Try.prog.fieldsOf 59)) := by kernel_rfl
  rw [show (10000 : Nat) = 9999 + 1 from rfl, run_equalIn_agg w 9999 59 _ _ hS (by kernel_rfl)]
  simp only [Program.fieldsOf, Try.underlying59]
  go_simp
  unfold eqV
  by_cases h1 : k = k' <;> by_cases h2 : f = f' <;> by_cases h3 : n = n' <;> by_cases h4 : t.toList = t'.toList <;> simp [h1, h2, h3, h4]

attribute [local go_sem high] equal_val

theorem empty_text (t : ByteArray) : (t.toList == (⟨#[]⟩ : ByteArray).toList) = (t.size == 0) := by
  rw [ByteArray.toList_eq, ByteArray.toList_eq]
  obtain ⟨⟨l⟩⟩ := t
  cases l <;> simp [ByteArray.size]
theorem right0 (f : Bool) (n : Int) (t : ByteArray) : eqV ⟨0, f, n, t⟩ ⟨0, false, 0, ⟨#[]⟩⟩ = rightV ⟨0, f, n, t⟩ := by
  unfold eqV rightV
  simp only [empty_text]
  by_cases ht : t.size = 0
  · cases f <;> by_cases hn : n = 0 <;> simp [ht, hn]
  · cases f <;> by_cases hn : n = 0 <;> simp [ht, hn]
theorem right1 (f : Bool) (n : Int) (t : ByteArray) : eqV ⟨1, f, n, t⟩ ⟨1, f, 0, ⟨#[]⟩⟩ = rightV ⟨1, f, n, t⟩ := by
  unfold eqV rightV
  simp only [empty_text]
  by_cases ht : t.size = 0
  · cases f <;> by_cases hn : n = 0 <;> simp [ht, hn]
  · cases f <;> by_cases hn : n = 0 <;> simp [ht, hn]
theorem right2 (f : Bool) (n : Int) (t : ByteArray) : eqV ⟨2, f, n, t⟩ ⟨2, false, n, ⟨#[]⟩⟩ = rightV ⟨2, f, n, t⟩ := by
  unfold eqV rightV
  simp only [empty_text]
  by_cases ht : t.size = 0
  · cases f <;> by_cases hn : n = 0 <;> simp [ht, hn]
  · cases f <;> by_cases hn : n = 0 <;> simp [ht, hn]
theorem right3 (f : Bool) (n : Int) (t : ByteArray) (ht : t.size ≤ 60) : eqV ⟨3, f, n, t⟩ ⟨3, false, 0, t⟩ = rightV ⟨3, f, n, t⟩ := by
  unfold eqV rightV
  cases f <;> by_cases hn : n = 0 <;> simp [ht, hn]
theorem right3n (f : Bool) (n : Int) (t : ByteArray) (ht : ¬ t.size ≤ 60) : false = rightV ⟨3, f, n, t⟩ := by
  unfold rightV
  cases f <;> by_cases hn : n = 0 <;> simp [ht, hn]
theorem right_no (k : Int) (f : Bool) (n : Int) (t : ByteArray) (h0 : ¬ k = 0) (h1 : ¬ k = 1) (h2 : ¬ k = 2) (h3 : ¬ k = 3) : false = rightV ⟨k, f, n, t⟩ := by
  unfold rightV
  have h : ¬ (0 ≤ k ∧ k ≤ 3) := by omega
  by_cases hk : 0 ≤ k
  · have hk' : ¬ k ≤ 3 := by omega
    simp [hk']
  · simp [hk]
end
end Go.Proofs.Ythdjkagodccdbaa
namespace Go.Proofs.Ythdjkagodccdbaa
section
open Go.RowKit

theorem empty_size (t : ByteArray) (h : t.toList = []) : t.size = 0 := by
  rw [ByteArray.toList_eq] at h
  obtain ⟨⟨l⟩⟩ := t
  have h' : l = [] := h
  subst h'
  rfl
theorem nonempty_size (t : ByteArray) (h : t.toList.isEmpty = false) : ¬ t.size = 0 := by
  rw [ByteArray.toList_eq] at h
  obtain ⟨⟨l⟩⟩ := t
  cases l
  · simp at h
  · simp [ByteArray.size]

set_option maxHeartbeats 4000000 in
theorem ref_right (v : V) (w : World) : Calls Try.prog 87 #[v.val] w fun e w' => e = .returned (.bool (rightV v)) ∧ Below w.heap.size w w' := by
  obtain ⟨k, f, n, t⟩ := v
  show Calls Try.prog 87 #[.agg #[.int .i64 k, .bool f, .int .i64 n, .string t]] w _
  by_cases hk : k < 0
  · go_enter Try.func87, Try.ntmps87
    go_wp2
    go_ret
    exact ⟨ret_bool (by have h : ¬ 0 ≤ k := by omega
                        simp [rightV, h]), one_new _ _⟩
  by_cases hk' : 3 < k
  · go_enter Try.func87, Try.ntmps87
    go_wp2
    go_ret
    exact ⟨ret_bool (by have h : ¬ k ≤ 3 := by omega
                        simp [rightV, h]), one_new _ _⟩
  have hkk : k = 0 ∨ k = 1 ∨ k = 2 ∨ k = 3 := by omega
  clear hk hk'
  rcases Bool.eq_false_or_eq_true t.toList.isEmpty with ht | ht
  · have h4 : t.toList = [] := List.isEmpty_iff.1 ht
    have HS := Lib.hid (empty_size t h4)
    clear ht
    by_cases hn : n = 0
    · subst hn
      rcases hkk with rfl | rfl | rfl | rfl <;> cases f
      all_goals
        go_enter Try.func87, Try.ntmps87
        go_wp2
        go_ret
        exact ⟨ret_bool (by first | (simp [rightV, HS.out]; done) | (simp [rightV]; omega)), one_new _ _⟩
    · rcases hkk with rfl | rfl | rfl | rfl <;> cases f
      all_goals
        go_enter Try.func87, Try.ntmps87
        go_wp2
        go_ret
        exact ⟨ret_bool (by simp [rightV, HS.out, hn]), one_new _ _⟩
  · have HS := Lib.hid (nonempty_size t ht)
    by_cases hn : n = 0
    · subst hn
      rcases hkk with rfl | rfl | rfl | rfl <;> cases f
      all_goals
        go_enter Try.func87, Try.ntmps87
        go_wp2
        go_ret
        exact ⟨ret_bool (by first | (simp [rightV, HS.out]; done) | (simp [rightV]; omega)), one_new _ _⟩
    · rcases hkk with rfl | rfl | rfl | rfl <;> cases f
      all_goals
        go_enter Try.func87, Try.ntmps87
        go_wp2
        go_ret
        exact ⟨ret_bool (by simp [rightV, HS.out, hn]), one_new _ _⟩
end
end Go.Proofs.Ythdjkagodccdbaa
namespace Go.Proofs.Ythdjkagodccdbaa
section
open Go.RowKit

/-- Value v lies at place p. -/
def At (w : World) (p : Addr) (v : V) : Prop :=
  w.cell? p = some (.int .i64 v.k) ∧ w.cell? { block := p.block, off := p.off + 1 } = some (.bool v.f) ∧ w.cell? { block := p.block, off := p.off + 2 } = some (.int .i64 v.n) ∧ w.cell? { block := p.block, off := p.off + 3 } = some (.string v.t)

/-- The row xs lies at A, below block B. -/
def RowAt (w : World) (B : Nat) (A : Option Addr) (xs : List V) : Prop :=
  ∀ (i : Nat) (v : V), xs[i]? = some v → ∃ a : Addr, A = some a ∧ (a.add (i * 4)).block < B ∧ At w (a.add (i * 4)) v

theorem At.keep {w w' : World} {p : Addr} {v : V} (h : At w p v) (hk : ∀ q : Addr, q.block = p.block → w'.cell? q = w.cell? q) : At w' p v :=
  ⟨(hk p rfl).trans h.1, (hk { block := p.block, off := p.off + 1 } rfl).trans h.2.1, (hk { block := p.block, off := p.off + 2 } rfl).trans h.2.2.1, (hk { block := p.block, off := p.off + 3 } rfl).trans h.2.2.2⟩
theorem RowAt.keep {w w' : World} {B : Nat} {A : Option Addr} {xs : List V} (h : RowAt w B A xs) (hk : ∀ q : Addr, q.block < B → w'.cell? q = w.cell? q) : RowAt w' B A xs := by
  intro i v hi
  obtain ⟨a, ha, hb, hv⟩ := h i v hi
  exact ⟨a, ha, hb, hv.keep fun q hq => hk q (by omega)⟩
theorem RowAt.below {w w' : World} {B : Nat} {A : Option Addr} {xs : List V} (h : RowAt w B A xs) (hb : Below B w w') : RowAt w' B A xs := h.keep fun _ hq => hb.cell hq
theorem RowAt.more {w : World} {B B' : Nat} {A : Option Addr} {xs : List V} (h : RowAt w B A xs) (hB : B ≤ B') : RowAt w B' A xs := by
  intro i v hi
  obtain ⟨a, ha, hb, hv⟩ := h i v hi
  exact ⟨a, ha, by omega, hv⟩
/-- A row at a later world, spoken of from there. -/
theorem RowAt.later {w w' : World} {A : Option Addr} {xs : List V} (h : RowAt w w.heap.size A xs) (hb : Below w.heap.size w w') : RowAt w' w'.heap.size A xs := (h.below hb).more hb.size

/-- -1, 0, 1: which of two rows goes ahead. -/
def cmpR : List V → List V → Int
  | [], [] => 0
  | [], _ :: _ => -1
  | _ :: _, [] => 1
  | a :: x, b :: y => if cmpV a b = 0 then cmpR x y else cmpV a b

theorem cmpR_step (xs ys : List V) (k : Nat) (a b : V) (ha : xs[k]? = some a) (hb : ys[k]? = some b) : cmpR (xs.drop k) (ys.drop k) = if cmpV a b = 0 then cmpR (xs.drop (k + 1)) (ys.drop (k + 1)) else cmpV a b := by
  obtain ⟨h1, h2⟩ := List.getElem?_eq_some_iff.1 ha
  obtain ⟨h3, h4⟩ := List.getElem?_eq_some_iff.1 hb
  rw [List.drop_eq_getElem_cons h1, List.drop_eq_getElem_cons h3, h2, h4]
  rfl
theorem cmpR_endl (xs ys : List V) (k : Nat) (h : k = xs.length) (hy : k ≤ ys.length) : cmpR (xs.drop k) (ys.drop k) = if xs.length < ys.length then -1 else 0 := by
  subst h
  rw [List.drop_length]
  by_cases hl : xs.length < ys.length
  · rw [List.drop_eq_getElem_cons hl, if_pos hl]
    rfl
  · rw [if_neg hl, List.drop_of_length_le (by omega)]
    rfl
theorem cmpR_endr (xs ys : List V) (k : Nat) (h : k = ys.length) (hx : k < xs.length) : cmpR (xs.drop k) (ys.drop k) = 1 := by
  subst h
  rw [List.drop_length, List.drop_eq_getElem_cons hx]
  rfl

theorem one_new_far (w : World) (o : Obj) {B : Nat} (h : B ≤ w.heap.size) : Below B w (w.alloc o) := (one_new w o).mono h
theorem two_new_far (w : World) (o p : Obj) {B : Nat} (h : B ≤ w.heap.size) : Below B w ((w.alloc o).alloc p) := (two_new w o p).mono h
end
end Go.Proofs.Ythdjkagodccdbaa
namespace Go.Proofs.Ythdjkagodccdbaa
section

/-- A comparison that is one order. -/
structure Ordered {α : Type} (c : α → α → Int) : Prop where
  rng : ∀ a b, c a b = -1 ∨ c a b = 0 ∨ c a b = 1
  anti : ∀ a b, c b a = -c a b
  tr0 : ∀ a b d, c a b = 0 → c b d = 0 → c a d = 0
  trl : ∀ a b d, c a b ≤ 0 → c b d ≤ 0 → (c a b < 0 ∨ c b d < 0) → c a d < 0

theorem Ordered.le {α : Type} {c : α → α → Int} (h : Ordered c) (a b d : α) (h1 : c a b ≤ 0) (h2 : c b d ≤ 0) : c a d ≤ 0 := by
  by_cases h3 : c a b < 0 ∨ c b d < 0
  · have := h.trl a b d h1 h2 h3
    omega
  · have := h.tr0 a b d (by omega) (by omega)
    omega
theorem Ordered.self {α : Type} {c : α → α → Int} (h : Ordered c) (a : α) : c a a = 0 := by
  have := h.anti a a
  omega

theorem cmpI_ordered : Ordered cmpI := by
  refine ⟨fun a b => ?_, fun a b => ?_, fun a b d => ?_, fun a b d => ?_⟩
  · unfold cmpI; split <;> (try split) <;> omega
  · unfold cmpI
    by_cases h : a < b
    · have h' : ¬ b < a := by omega
      simp [h, h']
    · by_cases h' : b < a <;> simp [h, h']
  · unfold cmpI
    intro h1 h2
    split at h1
    · omega
    · split at h1
      · omega
      · split at h2
        · omega
        · split at h2
          · omega
          · rw [if_neg (by omega), if_neg (by omega)]
  · unfold cmpI
    intro h1 h2 h3
    rw [if_pos]
    · omega
    · by_cases a1 : a < b
      · by_cases a2 : b < d
        · omega
        · rw [if_neg a2] at h2
          split at h2 <;> omega
      · rw [if_neg a1] at h1 h3
        by_cases a2 : b < d
        · split at h1 <;> omega
        · rw [if_neg a2] at h2 h3
          split at h1 <;> split at h2 <;> simp_all

theorem cmpB_ordered : Ordered cmpB := by
  refine ⟨fun a b => ?_, fun a b => ?_, fun a b d => ?_, fun a b d => ?_⟩
  · cases a <;> cases b <;> decide
  · cases a <;> cases b <;> decide
  · cases a <;> cases b <;> cases d <;> decide
  · cases a <;> cases b <;> cases d <;> decide

/-- The order of lists that an order of their cells makes. -/
def lexC {α : Type} (c : α → α → Int) : List α → List α → Int
  | [], [] => 0
  | [], _ :: _ => -1
  | _ :: _, [] => 1
  | a :: x, b :: y => if c a b = 0 then lexC c x y else c a b

theorem lexC_ordered {α : Type} {c : α → α → Int} (h : Ordered c) : Ordered (lexC c) := by
  refine ⟨?_, ?_, ?_, ?_⟩
  · intro x
    induction x with
    | nil => intro y; cases y <;> simp [lexC]
    | cons a x ih =>
      intro y
      cases y with
      | nil => simp [lexC]
      | cons b y =>
        unfold lexC
        split
        · exact ih y
        · exact h.rng a b
  · intro x
    induction x with
    | nil => intro y; cases y <;> simp [lexC]
    | cons a x ih =>
      intro y
      cases y with
      | nil => simp [lexC]
      | cons b y =>
        have ha := h.anti a b
        unfold lexC
        by_cases h0 : c a b = 0
        · rw [if_pos h0, if_pos (by omega)]
          exact ih y
        · rw [if_neg h0, if_neg (by omega)]
          exact ha
  · intro x
    induction x with
    | nil => intro y z; cases y <;> cases z <;> simp [lexC]
    | cons a x ih =>
      intro y z
      cases y with
      | nil => simp [lexC]
      | cons b y =>
        cases z with
        | nil => simp [lexC]
        | cons d z =>
          unfold lexC
          intro h1 h2
          by_cases e1 : c a b = 0
          · rw [if_pos e1] at h1
            by_cases e2 : c b d = 0
            · rw [if_pos e2] at h2
              rw [if_pos (h.tr0 a b d e1 e2)]
              exact ih y z h1 h2
            · rw [if_neg e2] at h2
              omega
          · rw [if_neg e1] at h1
            omega
  · intro x
    induction x with
    | nil => intro y z; cases y <;> cases z <;> simp [lexC]
    | cons a x ih =>
      intro y z
      cases y with
      | nil => simp [lexC]
      | cons b y =>
        cases z with
        | nil => simp [lexC]
        | cons d z =>
          unfold lexC
          intro h1 h2 h3
          by_cases e1 : c a b = 0
          · rw [if_pos e1] at h1 h3
            by_cases e2 : c b d = 0
            · rw [if_pos e2] at h2 h3
              rw [if_pos (h.tr0 a b d e1 e2)]
              exact ih y z h1 h2 h3
            · rw [if_neg e2] at h2 h3
              have := h.trl a b d (by omega) h2 (by omega)
              rw [if_neg (by omega)]
              exact this
          · rw [if_neg e1] at h1 h3
            by_cases e2 : c b d = 0
            · have := h.trl a b d h1 (by omega) (by omega)
              rw [if_neg (by omega)]
              exact this
            · rw [if_neg e2] at h2 h3
              have := h.trl a b d h1 h2 (by omega)
              rw [if_neg (by omega)]
              exact this

theorem map_ordered {α β : Type} {c : β → β → Int} (h : Ordered c) (f : α → β) : Ordered (fun a b => c (f a) (f b)) :=
  ⟨fun _ _ => h.rng _ _, fun _ _ => h.anti _ _, fun _ _ _ => h.tr0 _ _ _, fun _ _ _ => h.trl _ _ _⟩

theorem cmpL_lex : ∀ (x y : List UInt8), cmpL x y = lexC (fun a b : UInt8 => cmpI a.toNat b.toNat) x y
  | [], [] => rfl
  | [], _ :: _ => rfl
  | _ :: _, [] => rfl
  | a :: x, b :: y => by
    have ih := cmpL_lex x y
    unfold cmpL lexC
    rw [ih]
    simp only [UInt8.lt_iff_toNat_lt]
    unfold cmpI
    by_cases h1 : a.toNat < b.toNat
    · simp [h1]
    · by_cases h2 : b.toNat < a.toNat <;> simp [h1, h2]

theorem cmpS_ordered : Ordered cmpS := by
  have h : cmpS = fun a b => lexC (fun a b : UInt8 => cmpI a.toNat b.toNat) a.data.toList b.data.toList := by
    funext a b
    rw [cmpS_list, cmpL_lex]
  rw [h]
  exact map_ordered (lexC_ordered (map_ordered cmpI_ordered (fun a : UInt8 => (a.toNat : Int)))) (fun a : ByteArray => a.data.toList)

/-- The comparison of two values of one kind. -/
def sameKind (k : Int) (a b : V) : Int := if k = 1 then cmpB a.f b.f else if k = 2 then cmpI a.n b.n else if k = 3 then cmpS a.t b.t else 0
theorem sameKind_ordered (k : Int) : Ordered (sameKind k) := by
  unfold sameKind
  by_cases h1 : k = 1
  · simp only [if_pos h1]
    exact map_ordered cmpB_ordered V.f
  · by_cases h2 : k = 2
    · simp only [if_neg h1, if_pos h2]
      exact map_ordered cmpI_ordered V.n
    · by_cases h3 : k = 3
      · simp only [if_neg h1, if_neg h2, if_pos h3]
        exact map_ordered cmpS_ordered V.t
      · simp only [if_neg h1, if_neg h2, if_neg h3]
        exact ⟨fun _ _ => by omega, fun _ _ => by omega, fun _ _ _ _ _ => rfl, fun _ _ _ _ _ h => by omega⟩
theorem cmpV_kind (a b : V) : cmpV a b = if a.k < b.k then -1 else if b.k < a.k then 1 else sameKind a.k a b := rfl

theorem cmpV_ordered : Ordered cmpV := by
  refine ⟨fun a b => ?_, fun a b => ?_, fun a b d => ?_, fun a b d => ?_⟩
  · rw [cmpV_kind]
    split
    · omega
    · split
      · omega
      · exact (sameKind_ordered a.k).rng a b
  · rw [cmpV_kind, cmpV_kind]
    by_cases h1 : a.k < b.k
    · have h2 : ¬ b.k < a.k := by omega
      simp [h1, h2]
    · by_cases h2 : b.k < a.k
      · simp [h1, h2]
      · rw [if_neg h1, if_neg h2, if_neg h2, if_neg h1]
        have e : a.k = b.k := by omega
        rw [← e]
        exact (sameKind_ordered a.k).anti a b
  · rw [cmpV_kind, cmpV_kind, cmpV_kind]
    intro h1 h2
    split at h1
    · omega
    · split at h1
      · omega
      · split at h2
        · omega
        · split at h2
          · omega
          · have e : a.k = b.k := by omega
            rw [if_neg (by omega), if_neg (by omega)]
            rw [← e] at h2
            exact (sameKind_ordered a.k).tr0 a b d h1 h2
  · rw [cmpV_kind, cmpV_kind, cmpV_kind]
    intro h1 h2 h3
    by_cases a1 : a.k < b.k
    · by_cases a2 : d.k < b.k
      · rw [if_neg (by omega), if_pos a2] at h2
        omega
      · rw [if_pos (by omega)]
        omega
    · by_cases a2 : b.k < a.k
      · rw [if_neg a1, if_pos a2] at h1
        omega
      · have e : a.k = b.k := by omega
        rw [if_neg a1, if_neg a2] at h1 h3
        by_cases b1 : b.k < d.k
        · rw [if_pos (by omega)]
          omega
        · by_cases b2 : d.k < b.k
          · rw [if_neg b1, if_pos b2] at h2
            omega
          · rw [if_neg b1, if_neg b2] at h2 h3
            rw [if_neg (by omega), if_neg (by omega)]
            rw [← e] at h2 h3
            exact (sameKind_ordered a.k).trl a b d h1 h2 h3

theorem cmpR_lex : ∀ (x y : List V), cmpR x y = lexC cmpV x y
  | [], [] => rfl
  | [], _ :: _ => rfl
  | _ :: _, [] => rfl
  | a :: x, b :: y => by
    have ih := cmpR_lex x y
    unfold cmpR lexC
    rw [ih]
theorem cmpR_ordered : Ordered cmpR := by
  have h : cmpR = lexC cmpV := by
    funext x y
    exact cmpR_lex x y
  rw [h]
  exact lexC_ordered cmpV_ordered
end
end Go.Proofs.Ythdjkagodccdbaa
namespace Go.Proofs.Ythdjkagodccdbaa
section
open Go.RowKit

attribute [local go_sem high] equal_val

theorem below_drew (B : Nat) (w : World) : Below B w w.drew := (Below.refl B w).drew

/-- No text of the row is longer than a text can be. -/
def Fit (xs : List V) : Prop := ∀ (i : Nat) (v : V), xs[i]? = some v → v.t.size ≤ maxLen

/-- Are two rows one, cell by cell? -/
def eqR : List V → List V → Bool
  | [], [] => true
  | [], _ :: _ => false
  | _ :: _, [] => false
  | a :: x, b :: y => eqV a b && eqR x y

theorem eqR_iff : ∀ (x y : List V), eqR x y = true ↔ x = y
  | [], [] => by simp [eqR]
  | [], _ :: _ => by simp [eqR]
  | _ :: _, [] => by simp [eqR]
  | a :: x, b :: y => by
    unfold eqR
    rw [Bool.and_eq_true, eqV_iff, eqR_iff x y]
    simp
theorem eqR_self (x : List V) : eqR x x = true := (eqR_iff x x).2 rfl
theorem eqR_len : ∀ (x y : List V), ¬ x.length = y.length → eqR x y = false
  | [], [], h => absurd rfl h
  | [], _ :: _, _ => rfl
  | _ :: _, [], _ => rfl
  | a :: x, b :: y, h => by
    unfold eqR
    rw [eqR_len x y (by simpa using h), Bool.and_false]
theorem eqR_step (xs ys : List V) (k : Nat) (a b : V) (ha : xs[k]? = some a) (hb : ys[k]? = some b) : eqR (xs.drop k) (ys.drop k) = (eqV a b && eqR (xs.drop (k + 1)) (ys.drop (k + 1))) := by
  obtain ⟨h1, h2⟩ := List.getElem?_eq_some_iff.1 ha
  obtain ⟨h3, h4⟩ := List.getElem?_eq_some_iff.1 hb
  rw [List.drop_eq_getElem_cons h1, List.drop_eq_getElem_cons h3, h2, h4]
  rfl
end
end Go.Proofs.Ythdjkagodccdbaa
namespace Go.Proofs.Ythdjkagodccdbaa
section
open Go.RowKit

/-- Texts that rise strictly. -/
def SrtS (l : List ByteArray) : Prop := l.Pairwise fun a b => cmpS a b < 0
theorem cmpL_eqY : ∀ (x y : List UInt8), cmpL x y = 0 → x = y
  | [], [], _ => rfl
  | [], _ :: _, h => by simp [cmpL] at h
  | _ :: _, [], h => by simp [cmpL] at h
  | a :: x, b :: y, h => by
    unfold cmpL at h
    by_cases h1 : a < b
    · rw [if_pos h1] at h
      omega
    · by_cases h2 : b < a
      · rw [if_neg h1, if_pos h2] at h
        omega
      · rw [if_neg h1, if_neg h2] at h
        have e : a = b := by
          apply UInt8.toNat_inj.1
          rw [UInt8.lt_iff_toNat_lt] at h1 h2
          omega
        rw [e, cmpL_eqY x y h]
theorem cmpS_eqY (a b : ByteArray) (h : cmpS a b = 0) : a = b := by
  rw [cmpS_list] at h
  have := cmpL_eqY _ _ h
  obtain ⟨⟨l⟩⟩ := a
  obtain ⟨⟨l'⟩⟩ := b
  have e : l = l' := this
  rw [e]
theorem cmpS_reflY (a : ByteArray) : cmpS a a = 0 := cmpS_ordered.self a
theorem cmpS_neY {a b : ByteArray} (h : cmpS a b < 0) : a ≠ b := by
  rintro rfl
  rw [cmpS_reflY] at h
  omega
theorem cmpS_trY {a b c : ByteArray} (h1 : cmpS a b < 0) (h2 : cmpS b c < 0) : cmpS a c < 0 := cmpS_ordered.trl a b c (by omega) (by omega) (.inl h1)
theorem cmpS_antiY (a b : ByteArray) : cmpS b a = - cmpS a b := cmpS_ordered.anti a b
theorem sortedS_one : ∀ (a b : List ByteArray), SrtS a → SrtS b → (∀ y, y ∈ a ↔ y ∈ b) → a = b
  | [], [], _, _, _ => rfl
  | [], y :: b, _, _, h => absurd ((h y).2 List.mem_cons_self) List.not_mem_nil
  | x :: a, [], _, _, h => absurd ((h x).1 List.mem_cons_self) List.not_mem_nil
  | x :: a, y :: b, ha, hb, h => by
    obtain ⟨ha1, ha2⟩ := List.pairwise_cons.1 ha
    obtain ⟨hb1, hb2⟩ := List.pairwise_cons.1 hb
    have e : x = y := by
      rcases List.mem_cons.1 ((h x).1 List.mem_cons_self) with e | hx
      · exact e
      · rcases List.mem_cons.1 ((h y).2 List.mem_cons_self) with e | hy
        · exact e.symm
        · have h1 := hb1 x hx
          have h2 := ha1 y hy
          have := cmpS_antiY x y
          omega
    subst e
    rw [sortedS_one a b ha2 hb2 fun z => ⟨fun hz => ?_, fun hz => ?_⟩]
    · rcases List.mem_cons.1 ((h z).1 (List.mem_cons_of_mem _ hz)) with e | h2
      · exact absurd e.symm (cmpS_neY (ha1 z hz))
      · exact h2
    · rcases List.mem_cons.1 ((h z).2 (List.mem_cons_of_mem _ hz)) with e | h2
      · exact absurd e.symm (cmpS_neY (hb1 z hz))
      · exact h2

/-- A text more, in order, once. -/
def putS : List ByteArray → ByteArray → List ByteArray
  | [], s => [s]
  | x :: l, s => if cmpS s x = 0 then x :: l else if cmpS s x < 0 then s :: x :: l else x :: putS l s
theorem putS_mem (l : List ByteArray) (s y : ByteArray) : y ∈ putS l s ↔ y = s ∨ y ∈ l := by
  induction l with
  | nil => simp [putS]
  | cons x l ih =>
    unfold putS
    by_cases h : cmpS s x = 0
    · rw [if_pos h]
      have := cmpS_eqY _ _ h
      subst this
      simp
    · rw [if_neg h]
      by_cases h2 : cmpS s x < 0
      · rw [if_pos h2]
        simp
      · rw [if_neg h2, List.mem_cons, ih, List.mem_cons]
        constructor
        · rintro (a | b | c)
          · exact .inr (.inl a)
          · exact .inl b
          · exact .inr (.inr c)
        · rintro (a | b | c)
          · exact .inr (.inl a)
          · exact .inl b
          · exact .inr (.inr c)
theorem putS_srt {l : List ByteArray} (h : SrtS l) (s : ByteArray) : SrtS (putS l s) := by
  induction l with
  | nil => exact List.pairwise_singleton _ _
  | cons x l ih =>
    obtain ⟨h1, h2⟩ := List.pairwise_cons.1 h
    unfold putS
    by_cases h0 : cmpS s x = 0
    · rw [if_pos h0]
      exact h
    · rw [if_neg h0]
      by_cases h3 : cmpS s x < 0
      · rw [if_pos h3]
        refine List.pairwise_cons.2 ⟨fun y hy => ?_, h⟩
        rcases List.mem_cons.1 hy with rfl | hy
        · exact h3
        · exact cmpS_trY h3 (h1 y hy)
      · rw [if_neg h3]
        refine List.pairwise_cons.2 ⟨fun y hy => ?_, ih h2⟩
        rcases (putS_mem l s y).1 hy with rfl | hy
        · have := cmpS_antiY y x
          omega
        · exact h1 y hy
theorem putS_len (l : List ByteArray) (s : ByteArray) : (putS l s).length ≤ l.length + 1 := by
  induction l with
  | nil => simp [putS]
  | cons x l ih =>
    unfold putS
    by_cases h : cmpS s x = 0
    · rw [if_pos h]
      omega
    · rw [if_neg h]
      by_cases h2 : cmpS s x < 0
      · rw [if_pos h2]
        simp
      · rw [if_neg h2]
        simpa using ih
theorem putS_in {l : List ByteArray} (h : SrtS l) {s : ByteArray} (hs : s ∈ l) : putS l s = l :=
  sortedS_one _ _ (putS_srt h s) h fun y => by
    rw [putS_mem]
    exact ⟨fun hy => hy.elim (fun e => e ▸ hs) id, .inr⟩
theorem putS_app {a : List ByteArray} {s : ByteArray} (h : ∀ y ∈ a, 0 < cmpS s y) (b : List ByteArray) : putS (a ++ b) s = a ++ putS b s := by
  induction a with
  | nil => rfl
  | cons x a ih =>
    have hx := h x List.mem_cons_self
    rw [List.cons_append]
    conv => lhs; unfold putS
    rw [if_neg (by omega), if_neg (by omega), ih fun y hy => h y (List.mem_cons_of_mem _ hy), List.cons_append]
/-- What stands of the list in the making, behind some of its texts: 'told' says whether the text is in already. -/
def PutAt (s : ByteArray) (done : List ByteArray) (told : Bool) (out : List ByteArray) : Prop :=
  (told = false ∧ (∀ y ∈ done, 0 < cmpS s y) ∧ out = done) ∨ (told = true ∧ ∃ a y b, done = a ++ y :: b ∧ (∀ z ∈ a, 0 < cmpS s z) ∧ cmpS s y < 0 ∧ out = a ++ s :: y :: b)
theorem PutAt.nil (s : ByteArray) : PutAt s [] false [] := .inl ⟨rfl, fun _ h => absurd h List.not_mem_nil, rfl⟩
theorem PutAt.one {s : ByteArray} {d o : List ByteArray} (h : PutAt s d false o) {x : ByteArray} (hx : cmpS s x < 0) : PutAt s (d ++ [x]) true (o ++ [s] ++ [x]) := by
  rcases h with ⟨_, h1, rfl⟩ | ⟨h, _⟩
  · exact .inr ⟨rfl, o, x, [], rfl, h1, hx, by simp⟩
  · cases h
theorem PutAt.past {s : ByteArray} {d o : List ByteArray} (h : PutAt s d false o) {x : ByteArray} (hx : 0 < cmpS s x) : PutAt s (d ++ [x]) false (o ++ [x]) := by
  rcases h with ⟨_, h1, rfl⟩ | ⟨h, _⟩
  · refine .inl ⟨rfl, fun y hy => ?_, rfl⟩
    rcases List.mem_append.1 hy with h | h
    · exact h1 y h
    · rw [List.mem_singleton.1 h]
      exact hx
  · cases h
theorem PutAt.more {s : ByteArray} {d o : List ByteArray} (h : PutAt s d true o) (x : ByteArray) : PutAt s (d ++ [x]) true (o ++ [x]) := by
  rcases h with ⟨h, _⟩ | ⟨_, a, y, b, rfl, h1, h2, rfl⟩
  · cases h
  · exact .inr ⟨rfl, a, y, b ++ [x], by simp, h1, h2, by simp⟩
theorem PutAt.lastIn {s : ByteArray} {d o : List ByteArray} (h : PutAt s d true o) : o = putS d s := by
  rcases h with ⟨h, _⟩ | ⟨_, a, y, b, rfl, h1, h2, rfl⟩
  · cases h
  · rw [putS_app h1]
    conv => rhs; unfold putS
    rw [if_neg (by omega), if_pos h2]
theorem PutAt.lastNot {s : ByteArray} {d o : List ByteArray} (h : PutAt s d false o) : o ++ [s] = putS d s := by
  rcases h with ⟨_, h1, rfl⟩ | ⟨h, _⟩
  · have := putS_app h1 []
    rw [List.append_nil] at this
    rw [this]
    rfl
  · cases h
theorem PutAt.len {s : ByteArray} {d o : List ByteArray} {t : Bool} (h : PutAt s d t o) : o.length ≤ d.length + 1 := by
  rcases h with ⟨_, _, rfl⟩ | ⟨_, a, y, b, rfl, _, _, rfl⟩
  · omega
  · simp
    omega

theorem toList_eqT {a b : ByteArray} : (a.toList == b.toList) = true ↔ a = b := by
  constructor
  · intro h
    have h := eq_of_beq h
    rw [ByteArray.toList_eq, ByteArray.toList_eq] at h
    obtain ⟨⟨l⟩⟩ := a
    obtain ⟨⟨l'⟩⟩ := b
    have e : l = l' := h
    rw [e]
  · rintro rfl; simp
/-- Whether a text is one of some. -/
def hasX (ab : ByteArray) (ys : List ByteArray) : Bool := ys.any fun x => x.toList == ab.toList
theorem hasX_iff {ab : ByteArray} {ys : List ByteArray} : hasX ab ys = true ↔ ab ∈ ys := by
  unfold hasX
  rw [List.any_eq_true]
  constructor
  · rintro ⟨x, hx, h⟩
    rw [toList_eqT] at h
    exact h ▸ hx
  · intro h
    exact ⟨ab, h, toList_eqT.2 rfl⟩
theorem hasX_succ (ab : ByteArray) (ss : List ByteArray) (k : Nat) (s : ByteArray) (hs : ss[k]? = some s) : hasX ab (ss.take (k + 1)) = (hasX ab (ss.take k) || (s.toList == ab.toList)) := by
  unfold hasX
  rw [List.take_add_one, hs, List.any_append]
  simp
/-- A literal as the layer sees it: its kind and its name. -/
abbrev Lt := Int × ByteArray
/-- The names that a body asks. -/
def asksS (b : List Lt) : List ByteArray := b.foldl (fun l x => if x.1 = 0 then putS l x.2 else l) []
theorem asksS_take (b : List Lt) (k : Nat) (x : Lt) (h : b[k]? = some x) : asksS (b.take (k + 1)) = if x.1 = 0 then putS (asksS (b.take k)) x.2 else asksS (b.take k) := by
  unfold asksS
  rw [List.take_add_one, h, Option.toList_some, List.foldl_append]
  rfl
theorem asks_goes (b : List Lt) : ∀ l : List ByteArray, SrtS l → SrtS (b.foldl (fun l x => if x.1 = 0 then putS l x.2 else l) l) ∧ (b.foldl (fun l x => if x.1 = 0 then putS l x.2 else l) l).length ≤ l.length + b.length ∧
    ∀ y, y ∈ b.foldl (fun l x => if x.1 = 0 then putS l x.2 else l) l ↔ y ∈ l ∨ ∃ x ∈ b, x.1 = 0 ∧ x.2 = y := by
  induction b with
  | nil => exact fun l h => ⟨h, by simp, fun y => by simp⟩
  | cons x b ih =>
    intro l h
    rw [List.foldl_cons]
    by_cases h0 : x.1 = 0
    · rw [if_pos h0]
      obtain ⟨h1, h2, h3⟩ := ih (putS l x.2) (putS_srt h _)
      refine ⟨h1, by have := putS_len l x.2; rw [List.length_cons]; omega, fun y => ?_⟩
      rw [h3, putS_mem]
      constructor
      · rintro ((rfl | hy) | ⟨z, hz, hz1, hz2⟩)
        · exact .inr ⟨x, List.mem_cons_self, h0, rfl⟩
        · exact .inl hy
        · exact .inr ⟨z, List.mem_cons_of_mem _ hz, hz1, hz2⟩
      · rintro (hy | ⟨z, hz, hz1, hz2⟩)
        · exact .inl (.inr hy)
        · rcases List.mem_cons.1 hz with rfl | hz
          · exact .inl (.inl hz2.symm)
          · exact .inr ⟨z, hz, hz1, hz2⟩
    · rw [if_neg h0]
      obtain ⟨h1, h2, h3⟩ := ih l h
      refine ⟨h1, by rw [List.length_cons]; omega, fun y => ?_⟩
      rw [h3]
      constructor
      · rintro (hy | ⟨z, hz, hz1, hz2⟩)
        · exact .inl hy
        · exact .inr ⟨z, List.mem_cons_of_mem _ hz, hz1, hz2⟩
      · rintro (hy | ⟨z, hz, hz1, hz2⟩)
        · exact .inl hy
        · rcases List.mem_cons.1 hz with rfl | hz
          · exact absurd hz1 h0
          · exact .inr ⟨z, hz, hz1, hz2⟩
theorem asksS_srt (b : List Lt) : SrtS (asksS b) := (asks_goes b [] List.Pairwise.nil).1
theorem asksS_len (b : List Lt) : (asksS b).length ≤ b.length := by
  have := (asks_goes b [] List.Pairwise.nil).2.1
  unfold asksS
  rwa [List.length_nil, Nat.zero_add] at this
theorem asksS_mem (b : List Lt) (y : ByteArray) : y ∈ asksS b ↔ ∃ x ∈ b, x.1 = 0 ∧ x.2 = y := by
  have := (asks_goes b [] List.Pairwise.nil).2.2 y
  unfold asksS
  rw [this]
  exact ⟨fun h => h.elim (fun h => absurd h List.not_mem_nil) id, .inr⟩
end
end Go.Proofs.Ythdjkagodccdbaa
