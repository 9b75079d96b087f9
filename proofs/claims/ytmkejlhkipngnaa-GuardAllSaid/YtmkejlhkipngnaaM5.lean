/-
  Show of package value answers the word of a value, at every value, where the library's three variables are as the program's text lays them; nothing that was there is changed.
  Condition: the text is no longer than a hundred thousand bytes.
  unquote of package value answers what its text says, at every text; it never panics and changes nothing that was there.
  Condition: the text is no longer than 242 bytes.
  Read of package value answers the value whose word shows as the text, and an error where there is none, at every text, where the library's three variables are as the program's text lays them; nothing that was there is changed.
  Condition: the text is no longer than a text can be.
-/
import Derived.WalkSmall
import Derived.Deep.QuietTactic
import Derived.BigQuiet
import Derived.Test.YtmkejlhkipngnaaM3
import Derived.Test.YtmkejlhkipngnaaM4
namespace Go.Proofs.Ytmkejlhkipngnaa
section
open Go.RowKit

theorem below_grow (w : World) (k : Nat) (os : Array Obj) : Below w.heap.size w (Sort.grow (w.drewN k) os) :=
  ⟨rfl, rfl, rfl, by simp [Sort.grow], fun i hi => by
    show (w.heap ++ os)[i]? = w.heap[i]?
    rw [Array.getElem?_append_left hi]⟩

/-- The word of a value. -/
def showV (v : V) : List UInt8 :=
  if rightV v = true then (if v.k = 1 then Lib.formatBool v.f else if v.k = 2 then Lib.itoa v.n else if v.k = 3 then qs v.t.data.toList else [110, 117, 108, 108]) else []

/-- The number of a value is one of 64 bits. -/
def Wide (v : V) : Prop := -9223372036854775808 ≤ v.n ∧ v.n ≤ 9223372036854775807

theorem ret_str {a b : List UInt8} (h : a = b) : Ending.returned (.string ⟨a.toArray⟩) = .returned (.string ⟨b.toArray⟩) := by rw [h]

theorem bcell {W w1 : World} (hb : Below W.heap.size W w1) : ∀ b o, b < W.heap.size → w1.cell? ⟨b, o, none⟩ = W.cell? ⟨b, o, none⟩ := fun b o h => hb.cell (p := ⟨b, o, none⟩) h

theorem right_size (v : V) (h : rightV v = true) : v.t.size ≤ 60 := by
  unfold rightV at h
  simp only [Bool.and_eq_true, decide_eq_true_eq] at h
  exact h.2
end
end Go.Proofs.Ytmkejlhkipngnaa
namespace Go.Proofs.Ytmkejlhkipngnaa
section
open Go.RowKit

/-- The digits of base 16. -/
def hexl : List UInt8 := [48, 49, 50, 51, 52, 53, 54, 55, 56, 57, 97, 98, 99, 100, 101, 102]
/-- The byte that a digit of base 16 is; 255 where it is none. -/
def dg (c : UInt8) : UInt8 := UInt8.ofNat (IntKind.u8.wrap (Lib.indexByte hexl c)).toNat
theorem dg_val (c : UInt8) : ((dg c).toNat : Int) = IntKind.u8.wrap (Lib.indexByte hexl c) := by
  have h : 0 ≤ IntKind.u8.wrap (Lib.indexByte hexl c) ∧ IntKind.u8.wrap (Lib.indexByte hexl c) < 256 := by
    rw [IntKind.wrap_u8]
    omega
  unfold dg
  have e : (UInt8.ofNat (IntKind.u8.wrap (Lib.indexByte hexl c)).toNat).toNat = (IntKind.u8.wrap (Lib.indexByte hexl c)).toNat := by
    rw [UInt8.toNat_ofNat_of_lt']
    show _ < 256
    omega
  rw [e]
  omega

theorem qadd_same {P : Program} {f : FuncId} {args : Array Value} {w : World} {a n : Nat} {v : Value} (h : Calls P f args (w.drewN (a + n)) fun e w' => e = .returned v ∧ w' = w.drewN (a + n)) :
    Calls P f args (w.drewN (a + n)) fun e w'' => e = .returned v ∧ ∃ m, w'' = w.drewN (a + m) := h.mono fun _ _ ⟨he, hm⟩ => ⟨he, n, hm⟩

/-- The byte that two digits of base 16 are. -/
def hx (a b : UInt8) : UInt8 := UInt8.ofNat (bits .or .u8 (IntKind.u8.wrap (((dg a).toNat : Int) * 16)) ((dg b).toNat : Int)).toNat
theorem hx_val (a b : UInt8) : ((hx a b).toNat : Int) = bits .or .u8 (IntKind.u8.wrap (((dg a).toNat : Int) * 16)) ((dg b).toNat : Int) := by
  have h0 : 0 ≤ IntKind.u8.wrap (((dg a).toNat : Int) * 16) ∧ IntKind.u8.wrap (((dg a).toNat : Int) * 16) < 256 := by
    rw [IntKind.wrap_u8]
    omega
  have h1 := (dg b).toNat_lt
  unfold hx
  rw [u8_or _ _ h0.1 h0.2 (by omega) (by omega)]
  have h2 : (IntKind.u8.wrap (((dg a).toNat : Int) * 16)).toNat ||| (((dg b).toNat : Int)).toNat < 2 ^ 8 := Nat.or_lt_two_pow (by omega) (by omega)
  rw [Int.toNat_natCast, UInt8.toNat_ofNat_of_lt' h2]
theorem hx_cell (a b : UInt8) : (#[Value.int .u8 (bits .or .u8 (IntKind.u8.wrap (((dg a).toNat : Int) * 16)) ((dg b).toNat : Int))] : Array Value).toList = [hx a b].map bv := by
  rw [← hx_val]
  rfl

/-- What unquote answers of s from place i on, in f rounds. -/
def unqF (s : List UInt8) : Nat → Nat → List UInt8
  | 0, _ => []
  | f + 1, i =>
    if i + 1 < s.length then
      (if (s.getD i 0).toNat = 92 then
        (if i + 3 < s.length ∧ (s.getD (i + 1) 0).toNat = 120 then hx (s.getD (i + 2) 0) (s.getD (i + 3) 0) :: unqF s f (i + 4) else s.getD (i + 1) 0 :: unqF s f (i + 2))
      else s.getD i 0 :: unqF s f (i + 1))
    else []

theorem getD_at (s : ByteArray) (i : Nat) (h : i < s.size) : s.data.toList.getD i 0 = s[i] := by
  have e : s.data.toList[i]? = some s[i] := by
    rw [List.getElem?_eq_getElem (by exact h)]
    rfl
  rw [List.getD_eq_getElem?_getD, e]
  rfl

theorem unq_hex (s : ByteArray) (g k : Nat) (h3 : k + 3 < s.size) (h2 : s[k].toNat = 92) (h4 : s[k + 1].toNat = 120) : unqF s.data.toList (g + 1) k = hx s[k + 2] s[k + 3] :: unqF s.data.toList g (k + 4) := by
  have hl : s.data.toList.length = s.size := rfl
  rw [unqF, if_pos (by omega), getD_at s k (by omega), getD_at s (k + 1) (by omega), getD_at s (k + 2) (by omega), getD_at s (k + 3) h3, if_pos h2, if_pos ⟨by omega, h4⟩]
theorem unq_esc (s : ByteArray) (g k : Nat) (h1 : k + 1 < s.size) (h2 : s[k].toNat = 92) (h4 : ¬ (k + 3 < s.size ∧ s[k + 1].toNat = 120)) : unqF s.data.toList (g + 1) k = s[k + 1] :: unqF s.data.toList g (k + 2) := by
  have hl : s.data.toList.length = s.size := rfl
  rw [unqF, if_pos (by omega), getD_at s k (by omega), getD_at s (k + 1) (by omega), if_pos h2, if_neg (by rw [hl]; exact h4)]
theorem unq_one (s : ByteArray) (g k : Nat) (h1 : k + 1 < s.size) (h2 : ¬ s[k].toNat = 92) : unqF s.data.toList (g + 1) k = s[k] :: unqF s.data.toList g (k + 1) := by
  have hl : s.data.toList.length = s.size := rfl
  rw [unqF, if_pos (by omega), getD_at s k (by omega), if_neg h2]
theorem unq_end (l : List UInt8) (f k : Nat) (h : ¬ k + 1 < l.length) : unqF l f k = [] := by
  cases f with
  | zero => rfl
  | succ f => rw [unqF, if_neg h]
theorem snoc (bs : List UInt8) (c : UInt8) (l : List UInt8) : bs ++ c :: l = bs ++ [c] ++ l := by simp
end
end Go.Proofs.Ytmkejlhkipngnaa
namespace Go.Proofs.Ytmkejlhkipngnaa
section
open Go.RowKit

/-- The number that ParseInt answers. -/
def numOf (l : List UInt8) : Int := match Lib.parseIntB 64 l with
  | .ok v => v
  | .range => Lib.intSat 64 l
  | _ => 0
theorem numOf_wide (l : List UInt8) : -9223372036854775808 ≤ numOf l ∧ numOf l ≤ 9223372036854775807 := by
  unfold numOf
  cases h : Lib.parseIntB 64 l
  · rename_i v
    simp only
    unfold Lib.parseIntB at h
    split at h
    · cases h
    · simp only at h
      split at h
      · cases h
      · cases h
      · split at h
        · cases h
        · split at h
          · cases h
          · simp only [Lib.NumEnd.ok.injEq] at h
            subst h
            split <;> omega
  · simp
  · simp only [Lib.intSat]
    split <;> omega

/-- A call that answers a number and an error. -/
def Parsed (w : World) (z : Int) (e : Ending) (w' : World) : Prop := ∃ err, e = .returned (.tuple #[.int .i64 z, err]) ∧ Below w.heap.size w w'
theorem below_bytes (w : World) (t : ByteArray) : Below w.heap.size w (Lib.bytesWorld w 5 t) := ⟨rfl, rfl, rfl, by rw [Lib.bytesWorld_size]; omega, fun k hk => Lib.bytesWorld_at_old w _ t k hk⟩
/-- The only value whose word l may be. -/
def guessV (l : List UInt8) : V :=
  if l = [110, 117, 108, 108] then ⟨0, false, 0, ⟨#[]⟩⟩
  else if l = [116, 114, 117, 101] then ⟨1, true, 0, ⟨#[]⟩⟩
  else if l = [102, 97, 108, 115, 101] then ⟨1, false, 0, ⟨#[]⟩⟩
  else if Lib.hasPrefix l [34] = true then ⟨3, false, 0, ⟨(unqF l l.length 1).toArray⟩⟩
  else ⟨2, false, numOf l, ⟨#[]⟩⟩
theorem guess_wide (l : List UInt8) : Wide (guessV l) := by
  have h := numOf_wide l
  unfold guessV Wide
  split
  · simp
  · split
    · simp
    · split
      · simp
      · split
        · simp
        · exact h

/-- A box of four cells, in a later world. -/
theorem box_later {w w2 : World} {a b c d : Value} {T : TypeId} (hb : Below (w.alloc (.cells #[a, b, c, d] T)).heap.size (w.alloc (.cells #[a, b, c, d] T)) w2) :
    w2.cell? ⟨w.heap.size, 0, none⟩ = some a ∧ w2.cell? ⟨w.heap.size, 1, none⟩ = some b ∧ w2.cell? ⟨w.heap.size, 2, none⟩ = some c ∧ w2.cell? ⟨w.heap.size, 3, none⟩ = some d ∧
    w2.frozen? ⟨w.heap.size, 0, none⟩ = false ∧ w2.frozen? ⟨w.heap.size, 1, none⟩ = false ∧ w2.frozen? ⟨w.heap.size, 2, none⟩ = false ∧ w2.frozen? ⟨w.heap.size, 3, none⟩ = false ∧ w.heap.size < w2.heap.size := by
  have hs : (w.alloc (.cells #[a, b, c, d] T)).heap.size = w.heap.size + 1 := by simp
  have hn := heap_alloc_new w (.cells #[a, b, c, d] T)
  have hz := hb.size
  have hc : ∀ o, w2.cell? ⟨w.heap.size, o, none⟩ = (#[a, b, c, d] : Array Value)[o]? := fun o => (hb.cell (p := ⟨w.heap.size, o, none⟩) (by rw [hs]; exact Nat.lt_succ_self _)).trans (cell_of_row _ w.heap.size o _ T (0, 0) hn)
  have hf : ∀ o, w2.frozen? ⟨w.heap.size, o, none⟩ = false := fun o => (hb.frozen (p := ⟨w.heap.size, o, none⟩) (by rw [hs]; exact Nat.lt_succ_self _)).trans (by unfold World.frozen?; rw [hn]; simp)
  exact ⟨hc 0, hc 1, hc 2, hc 3, hf 0, hf 1, hf 2, hf 3, by omega⟩
theorem bset {w w' : World} {o : Nat} {u : Value} (h : Below w.heap.size w w') : Below w.heap.size w (w'.setCell ⟨w.heap.size, o, none⟩ u) := h.setCell (p := ⟨w.heap.size, o, none⟩) (Nat.le_refl _) u
theorem bnew' {B : Nat} {a w : World} (h : Below B a w) (hB : B ≤ a.heap.size) (o : Obj) : Below B a (w.alloc o) := h.alloc (Nat.le_trans hB h.size) o

/-- What Read answers. -/
def readR (l : List UInt8) : V × Int := if l.length ≤ 242 ∧ showV (guessV l) = l then (guessV l, 0) else (⟨0, false, 0, ⟨#[]⟩⟩, 7)
end
end Go.Proofs.Ytmkejlhkipngnaa
