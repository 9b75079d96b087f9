/-
  quote of package value answers the bytes that stand for a text between two quotes, at every text, and changes nothing that was there.
  No condition but that the text is no longer than a hundred thousand bytes.
-/
import Derived.Test.YtmdkjhnafnblkaaDoorBytes
import Derived.Laws.IdiomStrings
import Derived.Lib.BufferRead
namespace Go.Proofs.YtmdkjhnafnblkaaDoor
open Go.RowKit

/-- Bytes of the call's own, made a text. -/
theorem conv_B {w : World} {base : Nat} {v : Value} {bs : List UInt8} (h : OwnB w base v bs) : ∃ A n c, v = .slice A n c ∧ (convert 71 9 (.slice A n c)).run Tryd.prog w = .ok (.string ⟨bs.toArray⟩) w := by
  rcases h.2 with ⟨rfl, hn⟩ | ⟨g, cap, cur, rfl, _, hg, _, _, _, htk⟩
  · have hbs : bs = [] := by
      cases bs with
      | nil => rfl
      | cons b bs => simp at hn
    subst hbs
    exact ⟨none, 0, 0, rfl, Lib.run_convert_nil_bytes w _ _ 5 0 Tryd.underlying71 Tryd.underlying5 Tryd.underlying9⟩
  · refine ⟨_, _, _, rfl, run_convert_bytes_back w _ _ 5 _ cap bs Tryd.underlying71 Tryd.underlying5 Tryd.underlying9 ?_⟩
    intro j hj
    refine World.ownsRow.cells h (g := g) rfl j _ ?_
    rw [List.getElem?_map, List.getElem?_eq_getElem hj]
    rfl

/-- The bytes of a text between quotes. -/
def qs (l : List UInt8) : List UInt8 := [34] ++ l.flatMap qb ++ [34]
theorem qb_len (c : UInt8) : (qb c).length ≤ 4 := by
  unfold qb
  split
  · simp
  · split <;> simp
theorem flat_len (l : List UInt8) : (l.flatMap qb).length ≤ l.length * 4 := by
  induction l with
  | nil => simp
  | cons c l ih =>
    have := qb_len c
    simp only [List.flatMap_cons, List.length_append, List.length_cons]
    omega
theorem take_flat (s : ByteArray) (k : Nat) (h : k < s.size) : (s.data.toList.take (k + 1)).flatMap qb = (s.data.toList.take k).flatMap qb ++ qb s[k] := by
  have e : s.data.toList[k]? = some s[k] := by
    rw [List.getElem?_eq_getElem (by exact h)]
    rfl
  rw [List.take_add_one, e]
  simp

set_option maxHeartbeats 1000000 in
theorem quote_all (s : ByteArray) (w : World) (hs : s.size ≤ 100000) : Calls Tryd.prog 73 #[.string s] w fun e w' => e = .returned (.string ⟨(qs s.data.toList).toArray⟩) ∧ Below w.heap.size w w' := by
  have hown : OwnB (w.alloc (.cells #[.int .u8 34] 5)) w.heap.size (.slice (some ⟨w.heap.size, 0, none⟩) 1 1) [34] := World.ownsRow_lit w #[.int .u8 34] 1 (Nat.le_refl _) (by unfold maxLen; omega) rfl
  have HO := Lib.hid hown
  clear hown
  have hsl : s.data.toList.length = s.size := rfl
  have HL := Lib.hid hsl
  clear hsl
  go_enter Tryd.func73, Tryd.ntmps73
  go_wp2
  go_loopw [3, 8] (fun v i wr => ∃ k : Nat, k ≤ s.size ∧ i = .int .i64 k ∧ OwnB wr w.heap.size v ([34] ++ (s.data.toList.take k).flatMap qb) ∧ Below w.heap.size w wr) (fun _ i _ => s.size - (intOf i).toNat)
  case atStart => exact ⟨0, Nat.zero_le _, rfl, by simpa using HO.out, one_new _ _⟩
  case round =>
    obtain ⟨k, hk, rfl, hown, hb⟩ := hrel
    have HO := Lib.hid hown
    have HB := Lib.hid hb
    have hsz : w.heap.size ≤ wr.heap.size := hb.size
    clear hown hb
    by_cases h1 : k < s.size
    · have HT := Lib.hid (take_flat s k h1)
      have hlen : ([34] ++ (s.data.toList.take k).flatMap qb).length ≤ 999000 := by
        have h9 := flat_len (s.data.toList.take k)
        have h8 : (s.data.toList.take k).length ≤ k := List.length_take_le _ _
        simp only [List.length_append, List.length_cons, List.length_nil]
        omega
      go_wp2_with (go_at_call 81; refine (append_byte _ _ s[k] w.heap.size _ HO.out hlen hsz).mono ?_; rintro e w1 ⟨v1, rfl, ho1, hb1⟩)
      go_roundw
      case rel => exact ⟨k + 1, by omega, by go_num, by rw [HT.out, ← List.append_assoc]; exact ho1, HB.out.trans hb1⟩
      case measure => simp [intOf]; omega
    · obtain rfl : k = s.size := by omega
      have hq : [34] ++ (s.data.toList.take s.size).flatMap qb ++ [34] = qs s.data.toList := by
        rw [List.take_of_length_le (by rw [HL.out]; omega)]
        rfl
      have HQ := Lib.hid hq
      have hlen : ([34] ++ (s.data.toList.take s.size).flatMap qb).length + 1 ≤ 1000000 := by
        have h9 := flat_len (s.data.toList.take s.size)
        have h8 : (s.data.toList.take s.size).length ≤ s.size := List.length_take_le _ _
        simp only [List.length_append, List.length_cons, List.length_nil]
        omega
      clear hq
      go_wp2_with (at_builtin; refine wp_append_B _ rfl (.tmp 17) (.tmp 18) rfl w.heap.size _ _ [34] rfl HO.out _ rfl _ _ _ rfl rfl rfl hlen hsz ?_; intro v1 w1 ho1 hb1; obtain ⟨A, n, c, rfl, hcv⟩ := conv_B ho1; rw [HQ.out] at hcv; clear ho1)
      go_ret
      exact ⟨rfl, HB.out.trans hb1⟩
end Go.Proofs.YtmdkjhnafnblkaaDoor
