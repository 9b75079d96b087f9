/-
  The plain order of numbers, truths, texts, values and rows is one order: of two one goes ahead or neither, the other way round the other, and it hands on from the first to the third. Two values that can be are one just if neither goes ahead.
  No Go in it.
-/
import Derived.Test.YtojpccngcicbmaaRow
namespace Go.Proofs.Ytojpccngcicbmaa

/-- A comparison that is one order. -/
structure Ordered {α : Type} (c : α → α → Int) : Prop where
  rng : ∀ a b, c a b = -1 ∨ c a b = 0 ∨ c a b = 1
  anti : ∀ a b, c b a = -c a b
  tr0 : ∀ a b d, c a b = 0 → c b d = 0 → c a d = 0
  trl : ∀ a b d, c a b ≤ 0 → c b d ≤ 0 → (c a b < 0 ∨ c b d < 0) → c a d < 0

theorem Ordered.le {α : Type} {c : α → α → Int} (h : Ordered c) (a b d : α) (h1 : c a b ≤ 0) (h2 : c b d ≤ 0) : c a d ≤ 0 := by
  by_cases h3 : c a b < 0 ∨ c b d < 0
  · have := h.trl a b d h1 h2 h3
    omega
  · have := h.tr0 a b d (by omega) (by omega)
    omega
theorem Ordered.self {α : Type} {c : α → α → Int} (h : Ordered c) (a : α) : c a a = 0 := by
  have := h.anti a a
  omega

theorem cmpI_ordered : Ordered cmpI := by
  refine ⟨fun a b => ?_, fun a b => ?_, fun a b d => ?_, fun a b d => ?_⟩
  · unfold cmpI; split <;> (try split) <;> omega
  · unfold cmpI
    by_cases h : a < b
    · have h' : ¬ b < a := by omega
      simp [h, h']
    · by_cases h' : b < a <;> simp [h, h']
  · unfold cmpI
    intro h1 h2
    split at h1
    · omega
    · split at h1
      · omega
      · split at h2
        · omega
        · split at h2
          · omega
          · rw [if_neg (by omega), if_neg (by omega)]
  · unfold cmpI
    intro h1 h2 h3
    rw [if_pos]
    · omega
    · by_cases a1 : a < b
      · by_cases a2 : b < d
        · omega
        · rw [if_neg a2] at h2
          split at h2 <;> omega
      · rw [if_neg a1] at h1 h3
        by_cases a2 : b < d
        · split at h1 <;> omega
        · rw [if_neg a2] at h2 h3
          split at h1 <;> split at h2 <;> simp_all

theorem cmpB_ordered : Ordered cmpB := by
  refine ⟨fun a b => ?_, fun a b => ?_, fun a b d => ?_, fun a b d => ?_⟩
  · cases a <;> cases b <;> decide
  · cases a <;> cases b <;> decide
  · cases a <;> cases b <;> cases d <;> decide
  · cases a <;> cases b <;> cases d <;> decide

/-- The order of lists that an order of their cells makes. -/
def lexC {α : Type} (c : α → α → Int) : List α → List α → Int
  | [], [] => 0
  | [], _ :: _ => -1
  | _ :: _, [] => 1
  | a :: x, b :: y => if c a b = 0 then lexC c x y else c a b

theorem lexC_ordered {α : Type} {c : α → α → Int} (h : Ordered c) : Ordered (lexC c) := by
  refine ⟨?_, ?_, ?_, ?_⟩
  · intro x
    induction x with
    | nil => intro y; cases y <;> simp [lexC]
    | cons a x ih =>
      intro y
      cases y with
      | nil => simp [lexC]
      | cons b y =>
        unfold lexC
        split
        · exact ih y
        · exact h.rng a b
  · intro x
    induction x with
    | nil => intro y; cases y <;> simp [lexC]
    | cons a x ih =>
      intro y
      cases y with
      | nil => simp [lexC]
      | cons b y =>
        have ha := h.anti a b
        unfold lexC
        by_cases h0 : c a b = 0
        · rw [if_pos h0, if_pos (by omega)]
          exact ih y
        · rw [if_neg h0, if_neg (by omega)]
          exact ha
  · intro x
    induction x with
    | nil => intro y z; cases y <;> cases z <;> simp [lexC]
    | cons a x ih =>
      intro y z
      cases y with
      | nil => simp [lexC]
      | cons b y =>
        cases z with
        | nil => simp [lexC]
        | cons d z =>
          unfold lexC
          intro h1 h2
          by_cases e1 : c a b = 0
          · rw [if_pos e1] at h1
            by_cases e2 : c b d = 0
            · rw [if_pos e2] at h2
              rw [if_pos (h.tr0 a b d e1 e2)]
              exact ih y z h1 h2
            · rw [if_neg e2] at h2
              omega
          · rw [if_neg e1] at h1
            omega
  · intro x
    induction x with
    | nil => intro y z; cases y <;> cases z <;> simp [lexC]
    | cons a x ih =>
      intro y z
      cases y with
      | nil => simp [lexC]
      | cons b y =>
        cases z with
        | nil => simp [lexC]
        | cons d z =>
          unfold lexC
          intro h1 h2 h3
          by_cases e1 : c a b = 0
          · rw [if_pos e1] at h1 h3
            by_cases e2 : c b d = 0
            · rw [if_pos e2] at h2 h3
              rw [if_pos (h.tr0 a b d e1 e2)]
              exact ih y z h1 h2 h3
            · rw [if_neg e2] at h2 h3
              have := h.trl a b d (by omega) h2 (by omega)
              rw [if_neg (by omega)]
              exact this
          · rw [if_neg e1] at h1 h3
            by_cases e2 : c b d = 0
            · have := h.trl a b d h1 (by omega) (by omega)
              rw [if_neg (by omega)]
              exact this
            · rw [if_neg e2] at h2 h3
              have := h.trl a b d h1 h2 (by omega)
              rw [if_neg (by omega)]
              exact this

theorem map_ordered {α β : Type} {c : β → β → Int} (h : Ordered c) (f : α → β) : Ordered (fun a b => c (f a) (f b)) :=
  ⟨fun _ _ => h.rng _ _, fun _ _ => h.anti _ _, fun _ _ _ => h.tr0 _ _ _, fun _ _ _ => h.trl _ _ _⟩

theorem cmpL_lex : ∀ (x y : List UInt8), cmpL x y = lexC (fun a b : UInt8 => cmpI a.toNat b.toNat) x y
  | [], [] => rfl
  | [], _ :: _ => rfl
  | _ :: _, [] => rfl
  | a :: x, b :: y => by
    have ih := cmpL_lex x y
    unfold cmpL lexC
    rw [ih]
    simp only [UInt8.lt_iff_toNat_lt]
    unfold cmpI
    by_cases h1 : a.toNat < b.toNat
    · simp [h1]
    · by_cases h2 : b.toNat < a.toNat <;> simp [h1, h2]

theorem cmpS_ordered : Ordered cmpS := by
  have h : cmpS = fun a b => lexC (fun a b : UInt8 => cmpI a.toNat b.toNat) a.data.toList b.data.toList := by
    funext a b
    rw [cmpS_list, cmpL_lex]
  rw [h]
  exact map_ordered (lexC_ordered (map_ordered cmpI_ordered (fun a : UInt8 => (a.toNat : Int)))) (fun a : ByteArray => a.data.toList)

/-- The comparison of two values of one kind. -/
def sameKind (k : Int) (a b : V) : Int := if k = 1 then cmpB a.f b.f else if k = 2 then cmpI a.n b.n else if k = 3 then cmpS a.t b.t else 0
theorem sameKind_ordered (k : Int) : Ordered (sameKind k) := by
  unfold sameKind
  by_cases h1 : k = 1
  · simp only [if_pos h1]
    exact map_ordered cmpB_ordered V.f
  · by_cases h2 : k = 2
    · simp only [if_neg h1, if_pos h2]
      exact map_ordered cmpI_ordered V.n
    · by_cases h3 : k = 3
      · simp only [if_neg h1, if_neg h2, if_pos h3]
        exact map_ordered cmpS_ordered V.t
      · simp only [if_neg h1, if_neg h2, if_neg h3]
        exact ⟨fun _ _ => by omega, fun _ _ => by omega, fun _ _ _ _ _ => rfl, fun _ _ _ _ _ h => by omega⟩
theorem cmpV_kind (a b : V) : cmpV a b = if a.k < b.k then -1 else if b.k < a.k then 1 else sameKind a.k a b := rfl

theorem cmpV_ordered : Ordered cmpV := by
  refine ⟨fun a b => ?_, fun a b => ?_, fun a b d => ?_, fun a b d => ?_⟩
  · rw [cmpV_kind]
    split
    · omega
    · split
      · omega
      · exact (sameKind_ordered a.k).rng a b
  · rw [cmpV_kind, cmpV_kind]
    by_cases h1 : a.k < b.k
    · have h2 : ¬ b.k < a.k := by omega
      simp [h1, h2]
    · by_cases h2 : b.k < a.k
      · simp [h1, h2]
      · rw [if_neg h1, if_neg h2, if_neg h2, if_neg h1]
        have e : a.k = b.k := by omega
        rw [← e]
        exact (sameKind_ordered a.k).anti a b
  · rw [cmpV_kind, cmpV_kind, cmpV_kind]
    intro h1 h2
    split at h1
    · omega
    · split at h1
      · omega
      · split at h2
        · omega
        · split at h2
          · omega
          · have e : a.k = b.k := by omega
            rw [if_neg (by omega), if_neg (by omega)]
            rw [← e] at h2
            exact (sameKind_ordered a.k).tr0 a b d h1 h2
  · rw [cmpV_kind, cmpV_kind, cmpV_kind]
    intro h1 h2 h3
    by_cases a1 : a.k < b.k
    · by_cases a2 : d.k < b.k
      · rw [if_neg (by omega), if_pos a2] at h2
        omega
      · rw [if_pos (by omega)]
        omega
    · by_cases a2 : b.k < a.k
      · rw [if_neg a1, if_pos a2] at h1
        omega
      · have e : a.k = b.k := by omega
        rw [if_neg a1, if_neg a2] at h1 h3
        by_cases b1 : b.k < d.k
        · rw [if_pos (by omega)]
          omega
        · by_cases b2 : d.k < b.k
          · rw [if_neg b1, if_pos b2] at h2
            omega
          · rw [if_neg b1, if_neg b2] at h2 h3
            rw [if_neg (by omega), if_neg (by omega)]
            rw [← e] at h2 h3
            exact (sameKind_ordered a.k).trl a b d h1 h2 h3

theorem cmpR_lex : ∀ (x y : List V), cmpR x y = lexC cmpV x y
  | [], [] => rfl
  | [], _ :: _ => rfl
  | _ :: _, [] => rfl
  | a :: x, b :: y => by
    have ih := cmpR_lex x y
    unfold cmpR lexC
    rw [ih]
theorem cmpR_ordered : Ordered cmpR := by
  have h : cmpR = lexC cmpV := by
    funext x y
    exact cmpR_lex x y
  rw [h]
  exact lexC_ordered cmpV_ordered
end Go.Proofs.Ytojpccngcicbmaa
