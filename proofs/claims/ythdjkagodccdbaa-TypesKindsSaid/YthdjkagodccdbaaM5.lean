/-
  Show of package value answers the word of a value, at every value, where the library's three variables are as the program's text lays them; nothing that was there is changed.
  Condition: the text is no longer than a hundred thousand bytes.
  unquote of package value answers what its text says, at every text; it never panics and changes nothing that was there.
  Condition: the text is no longer than 242 bytes.
  Read of package value answers the value whose word shows as the text, and an error where there is none, at every text, where the library's three variables are as the program's text lays them; nothing that was there is changed.
  Condition: the text is no longer than a text can be.
  The word of a value that can be is read as that value: of the plain functions, no Go in it.
  digits of verdererref01 answers the decimal digits of a number, at every number of 64 bits, and changes nothing.
  No condition.
-/
import Derived.WalkSmall
import Derived.Deep.QuietTactic
import Derived.BigQuiet
import Derived.Lib.ItoaMem
import Derived.Lib.ItoaLen
import Derived.Lib.ParseIntBCases
import Derived.Test.YthdjkagodccdbaaM3
import Derived.Test.YthdjkagodccdbaaM4
namespace Go.Proofs.Ythdjkagodccdbaa
section
open Go.RowKit

theorem below_grow (w : World) (k : Nat) (os : Array Obj) : Below w.heap.size w (Sort.grow (w.drewN k) os) :=
  ⟨rfl, rfl, rfl, by simp [Sort.grow], fun i hi => by
    show (w.heap ++ os)[i]? = w.heap[i]?
    rw [Array.getElem?_append_left hi]⟩

/-- The word of a value. -/
def showV (v : V) : List UInt8 :=
  if rightV v = true then (if v.k = 1 then Lib.formatBool v.f else if v.k = 2 then Lib.itoa v.n else if v.k = 3 then qs v.t.data.toList else [110, 117, 108, 108]) else []

/-- The number of a value is one of 64 bits. -/
def Wide (v : V) : Prop := -9223372036854775808 ≤ v.n ∧ v.n ≤ 9223372036854775807

theorem ret_str {a b : List UInt8} (h : a = b) : Ending.returned (.string ⟨a.toArray⟩) = .returned (.string ⟨b.toArray⟩) := by rw [h]

theorem bcell {W w1 : World} (hb : Below W.heap.size W w1) : ∀ b o, b < W.heap.size → w1.cell? ⟨b, o, none⟩ = W.cell? ⟨b, o, none⟩ := fun b o h => hb.cell (p := ⟨b, o, none⟩) h

theorem right_size (v : V) (h : rightV v = true) : v.t.size ≤ 60 := by
  unfold rightV at h
  simp only [Bool.and_eq_true, decide_eq_true_eq] at h
  exact h.2
end
end Go.Proofs.Ythdjkagodccdbaa
namespace Go.Proofs.Ythdjkagodccdbaa
section
open Go.RowKit

/-- The digits of base 16. -/
def hexl : List UInt8 := [48, 49, 50, 51, 52, 53, 54, 55, 56, 57, 97, 98, 99, 100, 101, 102]
/-- The byte that a digit of base 16 is; 255 where it is none. -/
def dg (c : UInt8) : UInt8 := UInt8.ofNat (IntKind.u8.wrap (Lib.indexByte hexl c)).toNat
theorem dg_val (c : UInt8) : ((dg c).toNat : Int) = IntKind.u8.wrap (Lib.indexByte hexl c) := by
  have h : 0 ≤ IntKind.u8.wrap (Lib.indexByte hexl c) ∧ IntKind.u8.wrap (Lib.indexByte hexl c) < 256 := by
    rw [IntKind.wrap_u8]
    omega
  unfold dg
  have e : (UInt8.ofNat (IntKind.u8.wrap (Lib.indexByte hexl c)).toNat).toNat = (IntKind.u8.wrap (Lib.indexByte hexl c)).toNat := by
    rw [UInt8.toNat_ofNat_of_lt']
    show _ < 256
    omega
  rw [e]
  omega

theorem qadd_same {P : Program} {f : FuncId} {args : Array Value} {w : World} {a n : Nat} {v : Value} (h : Calls P f args (w.drewN (a + n)) fun e w' => e = .returned v ∧ w' = w.drewN (a + n)) :
    Calls P f args (w.drewN (a + n)) fun e w'' => e = .returned v ∧ ∃ m, w'' = w.drewN (a + m) := h.mono fun _ _ ⟨he, hm⟩ => ⟨he, n, hm⟩

/-- The byte that two digits of base 16 are. -/
def hx (a b : UInt8) : UInt8 := UInt8.ofNat (bits .or .u8 (IntKind.u8.wrap (((dg a).toNat : Int) * 16)) ((dg b).toNat : Int)).toNat
theorem hx_val (a b : UInt8) : ((hx a b).toNat : Int) = bits .or .u8 (IntKind.u8.wrap (((dg a).toNat : Int) * 16)) ((dg b).toNat : Int) := by
  have h0 : 0 ≤ IntKind.u8.wrap (((dg a).toNat : Int) * 16) ∧ IntKind.u8.wrap (((dg a).toNat : Int) * 16) < 256 := by
    rw [IntKind.wrap_u8]
    omega
  have h1 := (dg b).toNat_lt
  unfold hx
  rw [u8_or _ _ h0.1 h0.2 (by omega) (by omega)]
  have h2 : (IntKind.u8.wrap (((dg a).toNat : Int) * 16)).toNat ||| (((dg b).toNat : Int)).toNat < 2 ^ 8 := Nat.or_lt_two_pow (by omega) (by omega)
  rw [Int.toNat_natCast, UInt8.toNat_ofNat_of_lt' h2]
theorem hx_cell (a b : UInt8) : (#[Value.int .u8 (bits .or .u8 (IntKind.u8.wrap (((dg a).toNat : Int) * 16)) ((dg b).toNat : Int))] : Array Value).toList = [hx a b].map bv := by
  rw [← hx_val]
  rfl

/-- What unquote answers of s from place i on, in f rounds. -/
def unqF (s : List UInt8) : Nat → Nat → List UInt8
  | 0, _ => []
  | f + 1, i =>
    if i + 1 < s.length then
      (if (s.getD i 0).toNat = 92 then
        (if i + 3 < s.length ∧ (s.getD (i + 1) 0).toNat = 120 then hx (s.getD (i + 2) 0) (s.getD (i + 3) 0) :: unqF s f (i + 4) else s.getD (i + 1) 0 :: unqF s f (i + 2))
      else s.getD i 0 :: unqF s f (i + 1))
    else []

theorem getD_at (s : ByteArray) (i : Nat) (h : i < s.size) : s.data.toList.getD i 0 = s[i] := by
  have e : s.data.toList[i]? = some s[i] := by
    rw [List.getElem?_eq_getElem (by exact h)]
    rfl
  rw [List.getD_eq_getElem?_getD, e]
  rfl

theorem unq_hex (s : ByteArray) (g k : Nat) (h3 : k + 3 < s.size) (h2 : s[k].toNat = 92) (h4 : s[k + 1].toNat = 120) : unqF s.data.toList (g + 1) k = hx s[k + 2] s[k + 3] :: unqF s.data.toList g (k + 4) := by
  have hl : s.data.toList.length = s.size := rfl
  rw [unqF, if_pos (by omega), getD_at s k (by omega), getD_at s (k + 1) (by omega), getD_at s (k + 2) (by omega), getD_at s (k + 3) h3, if_pos h2, if_pos ⟨by omega, h4⟩]
theorem unq_esc (s : ByteArray) (g k : Nat) (h1 : k + 1 < s.size) (h2 : s[k].toNat = 92) (h4 : ¬ (k + 3 < s.size ∧ s[k + 1].toNat = 120)) : unqF s.data.toList (g + 1) k = s[k + 1] :: unqF s.data.toList g (k + 2) := by
  have hl : s.data.toList.length = s.size := rfl
  rw [unqF, if_pos (by omega), getD_at s k (by omega), getD_at s (k + 1) (by omega), if_pos h2, if_neg (by rw [hl]; exact h4)]
theorem unq_one (s : ByteArray) (g k : Nat) (h1 : k + 1 < s.size) (h2 : ¬ s[k].toNat = 92) : unqF s.data.toList (g + 1) k = s[k] :: unqF s.data.toList g (k + 1) := by
  have hl : s.data.toList.length = s.size := rfl
  rw [unqF, if_pos (by omega), getD_at s k (by omega), if_neg h2]
theorem unq_end (l : List UInt8) (f k : Nat) (h : ¬ k + 1 < l.length) : unqF l f k = [] := by
  cases f with
  | zero => rfl
  | succ f => rw [unqF, if_neg h]
theorem snoc (bs : List UInt8) (c : UInt8) (l : List UInt8) : bs ++ c :: l = bs ++ [c] ++ l := by simp
end
end Go.Proofs.Ythdjkagodccdbaa
namespace Go.Proofs.Ythdjkagodccdbaa
section
open Go.RowKit

/-- The number that ParseInt answers. -/
def numOf (l : List UInt8) : Int := match Lib.parseIntB 64 l with
  | .ok v => v
  | .range => Lib.intSat 64 l
  | _ => 0
theorem numOf_wide (l : List UInt8) : -9223372036854775808 ≤ numOf l ∧ numOf l ≤ 9223372036854775807 := by
  unfold numOf
  cases h : Lib.parseIntB 64 l
  · rename_i v
    simp only
    unfold Lib.parseIntB at h
    split at h
    · cases h
    · simp only at h
      split at h
      · cases h
      · cases h
      · split at h
        · cases h
        · split at h
          · cases h
          · simp only [Lib.NumEnd.ok.injEq] at h
            subst h
            split <;> omega
  · simp
  · simp only [Lib.intSat]
    split <;> omega

/-- A call that answers a number and an error. -/
def Parsed (w : World) (z : Int) (e : Ending) (w' : World) : Prop := ∃ err, e = .returned (.tuple #[.int .i64 z, err]) ∧ Below w.heap.size w w'
theorem below_bytes (w : World) (t : ByteArray) : Below w.heap.size w (Lib.bytesWorld w 5 t) := ⟨rfl, rfl, rfl, by rw [Lib.bytesWorld_size]; omega, fun k hk => Lib.bytesWorld_at_old w _ t k hk⟩
/-- The only value whose word l may be. -/
def guessV (l : List UInt8) : V :=
  if l = [110, 117, 108, 108] then ⟨0, false, 0, ⟨#[]⟩⟩
  else if l = [116, 114, 117, 101] then ⟨1, true, 0, ⟨#[]⟩⟩
  else if l = [102, 97, 108, 115, 101] then ⟨1, false, 0, ⟨#[]⟩⟩
  else if Lib.hasPrefix l [34] = true then ⟨3, false, 0, ⟨(unqF l l.length 1).toArray⟩⟩
  else ⟨2, false, numOf l, ⟨#[]⟩⟩
theorem guess_wide (l : List UInt8) : Wide (guessV l) := by
  have h := numOf_wide l
  unfold guessV Wide
  split
  · simp
  · split
    · simp
    · split
      · simp
      · split
        · simp
        · exact h

/-- A box of four cells, in a later world. -/
theorem box_later {w w2 : World} {a b c d : Value} {T : TypeId} (hb : Below (w.alloc (.cells #[a, b, c, d] T)).heap.size (w.alloc (.cells #[a, b, c, d] T)) w2) :
    w2.cell? ⟨w.heap.size, 0, none⟩ = some a ∧ w2.cell? ⟨w.heap.size, 1, none⟩ = some b ∧ w2.cell? ⟨w.heap.size, 2, none⟩ = some c ∧ w2.cell? ⟨w.heap.size, 3, none⟩ = some d ∧
    w2.frozen? ⟨w.heap.size, 0, none⟩ = false ∧ w2.frozen? ⟨w.heap.size, 1, none⟩ = false ∧ w2.frozen? ⟨w.heap.size, 2, none⟩ = false ∧ w2.frozen? ⟨w.heap.size, 3, none⟩ = false ∧ w.heap.size < w2.heap.size := by
  have hs : (w.alloc (.cells #[a, b, c, d] T)).heap.size = w.heap.size + 1 := by simp
  have hn := heap_alloc_new w (.cells #[a, b, c, d] T)
  have hz := hb.size
  have hc : ∀ o, w2.cell? ⟨w.heap.size, o, none⟩ = (#[a, b, c, d] : Array Value)[o]? := fun o => (hb.cell (p := ⟨w.heap.size, o, none⟩) (by rw [hs]; exact Nat.lt_succ_self _)).trans (cell_of_row _ w.heap.size o _ T (0, 0) hn)
  have hf : ∀ o, w2.frozen? ⟨w.heap.size, o, none⟩ = false := fun o => (hb.frozen (p := ⟨w.heap.size, o, none⟩) (by rw [hs]; exact Nat.lt_succ_self _)).trans (by unfold World.frozen?; rw [hn]; simp)
  exact ⟨hc 0, hc 1, hc 2, hc 3, hf 0, hf 1, hf 2, hf 3, by omega⟩
theorem bset {w w' : World} {o : Nat} {u : Value} (h : Below w.heap.size w w') : Below w.heap.size w (w'.setCell ⟨w.heap.size, o, none⟩ u) := h.setCell (p := ⟨w.heap.size, o, none⟩) (Nat.le_refl _) u
theorem bnew' {B : Nat} {a w : World} (h : Below B a w) (hB : B ≤ a.heap.size) (o : Obj) : Below B a (w.alloc o) := h.alloc (Nat.le_trans hB h.size) o

/-- What Read answers. -/
def readR (l : List UInt8) : V × Int := if l.length ≤ 242 ∧ showV (guessV l) = l then (guessV l, 0) else (⟨0, false, 0, ⟨#[]⟩⟩, 7)
end
end Go.Proofs.Ythdjkagodccdbaa
namespace Go.Proofs.Ythdjkagodccdbaa
section
open Go.RowKit

theorem parse_append (M : Nat) : ∀ (l r : List UInt8) (acc a : Nat), Lib.parseUintM M acc l = .ok a → Lib.parseUintM M acc (l ++ r) = Lib.parseUintM M a r
  | [], r, acc, a, h => by
    simp only [Lib.parseUintM, Lib.NumEnd.ok.injEq] at h
    rw [h]
    rfl
  | c :: l, r, acc, a, h => by
    unfold Lib.parseUintM at h
    rw [List.cons_append, Lib.parseUintM]
    split at h
    · rename_i h1
      rw [if_pos h1]
      split at h
      · cases h
      · rename_i h2
        rw [if_neg h2]
        split at h
        · cases h
        · rename_i h3
          rw [if_neg h3]
          exact parse_append M l r _ a h
    · cases h

theorem digit_nat (d : Nat) (hd : d < 10) : (UInt8.ofNat (48 + d)).toNat = 48 + d := by
  rw [UInt8.toNat_ofNat_of_lt']
  show 48 + d < 256
  omega

theorem parse_dec (u : Nat) (hu : u ≤ 18446744073709551615) : Lib.parseUintM 18446744073709551615 0 (Lib.decDigits u) = .ok u := by
  induction u using Nat.strongRecOn with
  | _ u ih =>
    rw [Lib.decDigits]
    by_cases h : u < 10
    · rw [dif_pos h, Lib.parseUintM, digit_nat u h, if_pos (by omega), if_neg (by omega), if_neg (by omega)]
      simp only [Lib.parseUintM]
      congr 1
      omega
    · rw [dif_neg h, parse_append _ _ _ 0 (u / 10) (ih (u / 10) (by omega) (by omega)), Lib.parseUintM, digit_nat (u % 10) (by omega), if_pos (by omega), if_neg (by omega), if_neg (by omega)]
      simp only [Lib.parseUintM]
      congr 1
      omega

theorem dec_head (u : Nat) : ∃ c r, Lib.decDigits u = c :: r ∧ 48 ≤ c.toNat ∧ c.toNat ≤ 57 := by
  induction u using Nat.strongRecOn with
  | _ u ih =>
    rw [Lib.decDigits]
    by_cases h : u < 10
    · rw [dif_pos h]
      exact ⟨_, _, rfl, by rw [digit_nat u h]; omega, by rw [digit_nat u h]; omega⟩
    · rw [dif_neg h]
      obtain ⟨c, r, e, h1, h2⟩ := ih (u / 10) (by omega)
      rw [e]
      exact ⟨c, r ++ _, rfl, h1, h2⟩

theorem num_itoa (n : Int) (h0 : -9223372036854775808 ≤ n) (h1 : n ≤ 9223372036854775807) : numOf (Lib.itoa n) = n := by
  unfold numOf Lib.itoa
  by_cases hn : n < 0
  · rw [if_pos hn]
    have hp := parse_dec n.natAbs (by omega)
    obtain ⟨c, r, e, _, _⟩ := dec_head n.natAbs
    have hq : Lib.parseIntB 64 (45 :: Lib.decDigits n.natAbs) = .ok n := by
      have hne : Lib.decDigits n.natAbs ≠ [] := by rw [e]; simp
      unfold Lib.parseIntB Lib.parseUintB
      have h45 : (45 : UInt8).toNat = 45 := rfl
      simp only [h45, or_true, if_true, if_neg hne]
      rw [show 2 ^ 64 - 1 = 18446744073709551615 from rfl, hp]
      simp only [Nat.reduceSub, Nat.reducePow]
      rw [if_neg (fun hx => hx.1 trivial), if_neg (fun hx => absurd hx.2 (by omega))]
      congr 1
      omega
    rw [hq]
  · rw [if_neg hn]
    have hp := parse_dec n.toNat (by omega)
    obtain ⟨c, r, e, c0, c1⟩ := dec_head n.toNat
    have hq : Lib.parseIntB 64 (Lib.decDigits n.toNat) = .ok n := by
      rw [e] at hp ⊢
      have hc1 : ¬ (c.toNat = 43 ∨ c.toNat = 45) := by omega
      have hc2 : ¬ c.toNat = 45 := by omega
      have hne : c :: r ≠ [] := by simp
      unfold Lib.parseIntB Lib.parseUintB
      simp only [if_neg hc1, if_neg hc2, if_neg hne]
      rw [show 2 ^ 64 - 1 = 18446744073709551615 from rfl, hp]
      simp only [Nat.reduceSub, Nat.reducePow]
      rw [if_neg (fun hx => absurd hx.2 (by omega)), if_neg (fun hx => hc2 hx.1)]
      congr 1
      omega
    rw [hq]

theorem hx_back (c : UInt8) : hx (hexd (c.toNat / 16)) (hexd (c.toNat % 16)) = c := by
  have h : ∀ n : Fin 256, hx (hexd (n.val / 16)) (hexd (n.val % 16)) = UInt8.ofNat n.val := by decide +kernel
  have h1 := h ⟨c.toNat, c.toNat_lt⟩
  simpa using h1

theorem getD_right (a b : List UInt8) (i : Nat) : (a ++ b).getD (a.length + i) 0 = b.getD i 0 := by
  rw [List.getD_eq_getElem?_getD, List.getD_eq_getElem?_getD, List.getElem?_append_right (by omega)]
  congr 2
  omega

/-- What unquote answers of a text between its quotes. -/
theorem unq_flat : ∀ (t pre : List UInt8) (f : Nat), t.length ≤ f → unqF (pre ++ (t.flatMap qb ++ [34])) f pre.length = t
  | [], pre, f, _ => unq_end _ _ _ (by simp)
  | c :: t, pre, 0, h => by simp at h
  | c :: t, pre, f + 1, h => by
    have hf : t.length ≤ f := by simpa using h
    have key : ∀ (q : List UInt8), unqF (pre ++ (q ++ (t.flatMap qb ++ [34]))) f (pre.length + q.length) = t := by
      intro q
      have := unq_flat t (pre ++ q) f hf
      simpa using this
    rw [List.flatMap_cons, List.append_assoc, unqF]
    have g0 := getD_right pre (qb c ++ (t.flatMap qb ++ [34])) 0
    have g1 := getD_right pre (qb c ++ (t.flatMap qb ++ [34])) 1
    have g2 := getD_right pre (qb c ++ (t.flatMap qb ++ [34])) 2
    have g3 := getD_right pre (qb c ++ (t.flatMap qb ++ [34])) 3
    have hk := key (qb c)
    clear key
    rw [Nat.add_zero] at g0
    rw [g0, g1, g2, g3]
    clear g0 g1 g2 g3
    have hl : (pre ++ (qb c ++ (t.flatMap qb ++ [34]))).length = pre.length + (qb c).length + (t.flatMap qb).length + 1 := by simp only [List.length_append, List.length_cons, List.length_nil]; omega
    unfold qb at hk hl ⊢
    by_cases h1 : c.toNat = 34 ∨ c.toNat = 92
    · simp only [if_pos h1] at hk hl ⊢
      have h120 : ¬ c.toNat = 120 := by omega
      simp only [List.length_cons, List.length_nil] at hk hl
      rw [if_pos (by omega)]
      simp only [List.cons_append, List.nil_append, List.getD_cons_zero, List.getD_cons_succ] at hk ⊢
      rw [if_pos (by rfl), if_neg (fun hx => h120 hx.2)]
      exact congrArg _ hk
    · by_cases h2 : c.toNat < 32 ∨ 126 < c.toNat
      · simp only [if_neg h1, if_pos h2] at hk hl ⊢
        simp only [List.length_cons, List.length_nil] at hk hl
        rw [if_pos (by omega)]
        simp only [List.cons_append, List.nil_append, List.getD_cons_zero, List.getD_cons_succ] at hk ⊢
        rw [if_pos (by rfl), if_pos ⟨by simp only [List.length_append, List.length_cons] at hl ⊢; omega, by rfl⟩, hx_back]
        exact congrArg _ hk
      · simp only [if_neg h1, if_neg h2] at hk hl ⊢
        simp only [List.length_cons, List.length_nil] at hk hl
        rw [if_pos (by omega)]
        simp only [List.cons_append, List.nil_append, List.getD_cons_zero, List.getD_cons_succ] at hk ⊢
        rw [if_neg (fun hx => h1 (.inr hx))]
        exact congrArg _ hk

theorem unq_qs (t : List UInt8) (f : Nat) (h : t.length ≤ f) : unqF (qs t) f 1 = t := by
  have := unq_flat t [34] f h
  unfold qs
  simpa using this

theorem itoa_head (n : Int) : ∃ c r, Lib.itoa n = c :: r ∧ c.toNat < 58 ∧ c.toNat ≠ 34 := by
  unfold Lib.itoa
  by_cases hn : n < 0
  · rw [if_pos hn]
    exact ⟨45, _, rfl, by decide, by decide⟩
  · rw [if_neg hn]
    obtain ⟨c, r, e, h0, h1⟩ := dec_head n.toNat
    exact ⟨c, r, e, by omega, by omega⟩

theorem empty_bytes {t : ByteArray} (h : t.size = 0) : t = ⟨#[]⟩ := by
  apply ByteArray.ext
  apply Array.eq_empty_of_size_eq_zero
  exact h

theorem back_list (t : ByteArray) : (⟨t.data.toList.toArray⟩ : ByteArray) = t := by
  apply ByteArray.ext
  simp

theorem guess_show (v : V) (hr : rightV v = true) (hw : Wide v) : guessV (showV v) = v := by
  obtain ⟨k, f, n, t⟩ := v
  unfold showV
  rw [if_pos hr]
  unfold rightV at hr
  simp only [Bool.and_eq_true, decide_eq_true_eq, Bool.or_eq_true, beq_iff_eq, Bool.not_eq_true'] at hr
  obtain ⟨⟨⟨⟨⟨k0, k3⟩, hf⟩, hn⟩, ht⟩, hl⟩ := hr
  simp only
  by_cases h1 : k = 1
  · subst h1
    rw [if_pos rfl]
    have e1 : n = 0 := by omega
    have e2 : t = ⟨#[]⟩ := empty_bytes (by omega)
    subst e1 e2
    cases f
    · rfl
    · rfl
  · have hff : f = false := by
      rcases hf with hf | hf
      · exact absurd hf h1
      · exact hf
    subst hff
    rw [if_neg h1]
    by_cases h2 : k = 2
    · subst h2
      rw [if_pos rfl]
      have e2 : t = ⟨#[]⟩ := empty_bytes (by omega)
      subst e2
      obtain ⟨c, r, e, c1, c2⟩ := itoa_head n
      have hnum := num_itoa n hw.1 hw.2
      unfold guessV
      rw [hnum, e]
      have q1 : ¬ (c :: r = [110, 117, 108, 108]) := fun hx => by
        have := (List.cons.inj hx).1
        subst this
        exact absurd c1 (by decide)
      have q2 : ¬ (c :: r = [116, 114, 117, 101]) := fun hx => by
        have := (List.cons.inj hx).1
        subst this
        exact absurd c1 (by decide)
      have q3 : ¬ (c :: r = [102, 97, 108, 115, 101]) := fun hx => by
        have := (List.cons.inj hx).1
        subst this
        exact absurd c1 (by decide)
      have q4 : ¬ (Lib.hasPrefix (c :: r) [34] = true) := fun hx => by
        simp only [Lib.hasPrefix, List.isPrefixOf, Bool.and_true, beq_iff_eq] at hx
        subst hx
        exact absurd rfl c2
      rw [if_neg q1, if_neg q2, if_neg q3, if_neg q4]
    · have e1 : n = 0 := by omega
      subst e1
      rw [if_neg h2]
      by_cases h3 : k = 3
      · subst h3
        rw [if_pos rfl]
        have hu := unq_qs t.data.toList (qs t.data.toList).length (by
          have : (t.data.toList.flatMap qb).length ≥ t.data.toList.length := by
            generalize t.data.toList = l
            induction l with
            | nil => simp
            | cons c l ih =>
              have hc : 1 ≤ (qb c).length := by
                unfold qb
                split
                · simp
                · split <;> simp
              simp only [List.flatMap_cons, List.length_append, List.length_cons]
              omega
          unfold qs
          simp only [List.length_append, List.length_cons]
          omega)
        unfold guessV
        rw [hu]
        have hq : ∃ r, qs t.data.toList = 34 :: r := ⟨_, rfl⟩
        obtain ⟨r, e⟩ := hq
        rw [e]
        have q1 : ¬ ((34 : UInt8) :: r = [110, 117, 108, 108]) := fun hx => absurd (List.cons.inj hx).1 (by decide)
        have q2 : ¬ ((34 : UInt8) :: r = [116, 114, 117, 101]) := fun hx => absurd (List.cons.inj hx).1 (by decide)
        have q3 : ¬ ((34 : UInt8) :: r = [102, 97, 108, 115, 101]) := fun hx => absurd (List.cons.inj hx).1 (by decide)
        rw [if_neg q1, if_neg q2, if_neg q3, if_pos (by rfl), back_list]
      · have e2 : t = ⟨#[]⟩ := empty_bytes (by omega)
        subst e2
        rw [if_neg h3]
        have e3 : k = 0 := by omega
        subst e3
        rfl

theorem show_len (v : V) (hr : rightV v = true) (hw : Wide v) : (showV v).length ≤ 242 := by
  unfold showV
  rw [if_pos hr]
  split
  · cases v.f <;> decide
  · split
    · have := Lib.itoa_length_le v.n hw.1 hw.2
      omega
    · split
      · have h1 := flat_len v.t.data.toList
        have h2 := right_size v hr
        have h3 : v.t.data.toList.length = v.t.size := rfl
        unfold qs
        simp only [List.length_append, List.length_cons, List.length_nil]
        omega
      · decide

/-- The word of a value that can be is read as that value. -/
theorem read_show (v : V) (hr : rightV v = true) (hw : Wide v) : readR (showV v) = (v, 0) := by
  unfold readR
  rw [guess_show v hr hw, if_pos ⟨show_len v hr hw, rfl⟩]
end
end Go.Proofs.Ythdjkagodccdbaa
namespace Go.Proofs.Ythdjkagodccdbaa
section
open Go.RowKit

theorem dig_cat (m : Nat) (l : List UInt8) : (⟨#[48, 49, 50, 51, 52, 53, 54, 55, 56, 57]⟩ : ByteArray).extract (m % 10) (m % 10 + 1) ++ ⟨l.toArray⟩ = ⟨(UInt8.ofNat (48 + m % 10) :: l).toArray⟩ := by
  have h : ∀ d : Fin 10, (⟨#[48, 49, 50, 51, 52, 53, 54, 55, 56, 57]⟩ : ByteArray).extract d.val (d.val + 1) = ⟨#[UInt8.ofNat (48 + d.val)]⟩ := by decide
  have h1 := h ⟨m % 10, Nat.mod_lt _ (by decide)⟩
  simp only at h1
  rw [h1]
  apply ByteArray.ext
  simp

theorem dig_step (m : Nat) (l : List UInt8) : Lib.decDigits m ++ l = (if m < 10 then UInt8.ofNat (48 + m % 10) :: l else Lib.decDigits (m / 10) ++ (UInt8.ofNat (48 + m % 10) :: l)) := by
  rw [Lib.decDigits]
  by_cases h : m < 10
  · rw [dif_pos h, if_pos h, Nat.mod_eq_of_lt h]
    rfl
  · rw [dif_neg h, if_neg h]
    simp

set_option maxHeartbeats 1000000 in
theorem ref_digits (u : Nat) (hu : u < 18446744073709551616) (w : World) : Calls Try.prog 92 #[.int .u64 (u : Int)] w fun e w' => e = .returned (.string ⟨(Lib.decDigits u).toArray⟩) ∧ w' = w := by
  obtain ⟨R, hR⟩ : ∃ R, R = Lib.decDigits u := ⟨_, rfl⟩
  rw [← hR]
  have HR := Lib.hid hR
  clear hR
  go_enter Try.func92, Try.ntmps92
  go_wp2
  go_loopw [0, 3, 4] (fun x s i wr => ∃ (k m : Nat) (l : List UInt8), k ≤ 20 ∧ l.length ≤ k ∧ x = .int .u64 (m : Int) ∧ s = .string ⟨l.toArray⟩ ∧ i = .int .i64 k ∧ m = u / 10 ^ k ∧ ((k = 0 ∧ l = []) ∨ (0 < k ∧ m = 0 ∧ l = R) ∨ (0 < k ∧ 0 < m ∧ Lib.decDigits m ++ l = R)) ∧ wr = w) (fun _ _ i _ => 20 - (intOf i).toNat)
  case atStart => exact ⟨0, u, [], by omega, by simp, rfl, rfl, rfl, by simp, .inl ⟨rfl, rfl⟩, rfl⟩
  case round =>
    obtain ⟨k, m, l, hk, hll, rfl, rfl, rfl, hm, hd, rfl⟩ := hrel
    have HM := Lib.hid hm
    have hmu : m < 18446744073709551616 := by
      rw [hm]
      exact Nat.lt_of_le_of_lt (Nat.div_le_self _ _) hu
    have HD := Lib.hid hd
    have hov : ¬ 9223372036854775807 < min (m % 10 + 1) 10 - m % 10 + l.length := by omega
    have hnext : m / 10 = u / 10 ^ (k + 1) := by rw [hm, Nat.div_div_eq_div_mul, Nat.pow_succ]
    have HN := Lib.hid hnext
    clear hnext
    clear hm hd
    by_cases hgo : k < 20 ∧ (k = 0 ∨ 0 < m)
    · have hr : Lib.decDigits m ++ l = R := by
        rcases HD.out with ⟨h0, h2⟩ | ⟨h0, h2, _⟩ | ⟨_, _, h2⟩
        · subst h0 h2
          have hmm := HM.out
          rw [Nat.pow_zero, Nat.div_one] at hmm
          rw [hmm, HR.out, List.append_nil]
        · omega
        · exact h2
      rw [dig_step] at hr
      have HS := Lib.hid hr
      clear hr
      have hdone : ∃ (k' m' : Nat) (l' : List UInt8), k' ≤ 20 ∧ l'.length ≤ k' ∧ Value.int IntKind.u64 ((m : Int) / 10) = Value.int IntKind.u64 (m' : Int) ∧ Value.string ((⟨#[48, 49, 50, 51, 52, 53, 54, 55, 56, 57]⟩ : ByteArray).extract (m % 10) (m % 10 + 1) ++ ⟨l.toArray⟩) = .string ⟨l'.toArray⟩ ∧ Value.int .i64 (((k + 1 : Nat)) : Int) = .int .i64 ((k' : Nat) : Int) ∧ m' = u / 10 ^ k' ∧ ((k' = 0 ∧ l' = []) ∨ (0 < k' ∧ m' = 0 ∧ l' = R) ∨ (0 < k' ∧ 0 < m' ∧ Lib.decDigits m' ++ l' = R)) := by
        refine ⟨k + 1, m / 10, UInt8.ofNat (48 + m % 10) :: l, by omega, by simp; omega, by simp, by rw [dig_cat], rfl, HN.out, ?_⟩
        by_cases h9 : m < 10
        · refine .inr (.inl ⟨by omega, by omega, ?_⟩)
          have := HS.out
          rwa [if_pos h9] at this
        · refine .inr (.inr ⟨by omega, by omega, ?_⟩)
          have := HS.out
          rwa [if_neg h9] at this
      have HDone := Lib.hid hdone
      clear hdone
      obtain ⟨h1, h2⟩ := hgo
      by_cases h3 : k = 0
      · subst h3
        clear h2
        go_wp2
        obtain ⟨k', m', l', a1, a2, a3, a4, a5, a6, a7⟩ := HDone.out
        exact ⟨⟨k', m', l', a1, a2, a3, a4, a5, a6, a7, trivial⟩, by simp [intOf]⟩
      · have h4 : 0 < m := by omega
        clear h2
        go_wp2
        obtain ⟨k', m', l', a1, a2, a3, a4, a5, a6, a7⟩ := HDone.out
        exact ⟨⟨k', m', l', a1, a2, a3, a4, by rw [← a5]; go_num, a6, a7, trivial⟩, by simp [intOf]; omega⟩
    · have hr : l = R := by
        rcases HD.out with ⟨h0, h2⟩ | ⟨h0, h2, h3⟩ | ⟨h0, h2, _⟩
        · omega
        · exact h3
        · have h20 : k = 20 := by omega
          have hmm := HM.out
          subst h20
          have : u / 10 ^ 20 = 0 := Nat.div_eq_of_lt (by omega)
          omega
      subst hr
      have h20 : ¬ k = 0 := by
        intro h0
        apply hgo
        exact ⟨by omega, .inl h0⟩
      by_cases h1 : k < 20
      · have h5 : m = 0 := by omega
        subst h5
        clear hgo
        go_wp2
        go_ret
        exact ⟨rfl, rfl⟩
      · clear hgo
        go_wp2
        go_ret
        exact ⟨rfl, rfl⟩

set_option maxHeartbeats 1000000 in
theorem ref_num (n : Int) (h0 : -9223372036854775808 ≤ n) (h1 : n ≤ 9223372036854775807) (w : World) : Calls Try.prog 85 #[.int .i64 n] w fun e w' => e = .returned (.string ⟨(Lib.itoa n).toArray⟩) ∧ w' = w := by
  by_cases hn : n < 0
  · have hd := ref_digits n.natAbs (by omega)
    have e : ((n.natAbs : Nat) : Int) = IntKind.u64.wrap (-IntKind.u64.wrap n) := by
      unfold IntKind.wrap
      simp [IntKind.bits, IntKind.signed]
      omega
    rw [e] at hd
    have HD := Lib.hid hd
    clear hd e
    have hi : Lib.itoa n = 45 :: Lib.decDigits n.natAbs := by unfold Lib.itoa; rw [if_pos hn]
    have hl := Lib.itoa_length_le n h0 h1
    rw [hi, List.length_cons] at hl
    have hov : ¬ 9223372036854775807 < 1 + (Lib.decDigits n.natAbs).length := by omega
    rw [hi]
    go_enter Try.func85, Try.ntmps85
    go_wp2_with (go_at_call 92; refine (HD.out _).mono ?_; rintro e w' ⟨rfl, rfl⟩)
    go_ret
    refine ⟨?_, rfl⟩
    congr 2
  · have hd := ref_digits n.toNat (by omega)
    have e : ((n.toNat : Nat) : Int) = n := by omega
    rw [e] at hd
    have HD := Lib.hid hd
    clear hd e
    have hi : Lib.itoa n = Lib.decDigits n.toNat := by unfold Lib.itoa; rw [if_neg hn]
    rw [hi]
    go_enter Try.func85, Try.ntmps85
    go_wp2_with (go_at_call 92; refine (HD.out _).mono ?_; rintro e w' ⟨rfl, rfl⟩)
    go_ret
    exact ⟨rfl, rfl⟩
end
end Go.Proofs.Ythdjkagodccdbaa
