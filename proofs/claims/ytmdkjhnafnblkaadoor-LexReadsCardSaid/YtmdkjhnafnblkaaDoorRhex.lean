/-
  hex of verdererref01 answers the digit of base 16 that a byte is, and -1 where it is none; it changes nothing.
  No condition.
-/
import Derived.Test.YtmdkjhnafnblkaaDoorRshow
namespace Go.Proofs.YtmdkjhnafnblkaaDoor
open Go.RowKit

/-- The digit of base 16; -1: none. -/
def rhex (c : UInt8) : Int := if 48 ≤ c.toNat ∧ c.toNat ≤ 57 then (c.toNat : Int) - 48 else if 97 ≤ c.toNat ∧ c.toNat ≤ 102 then (c.toNat : Int) - 87 else -1

set_option maxRecDepth 100000 in
set_option maxHeartbeats 1000000 in
theorem ref_hex (c : UInt8) (w : World) : Calls Tryd.prog 50 #[.int .u8 (c.toNat : Int)] w fun e w' => e = .returned (.int .i64 (rhex c)) ∧ w' = w := by
  have hc : c.toNat < 256 := c.toNat_lt
  have hc1 : (c.toNat : Int) < 256 := by omega
  have w48 : 48 ≤ c.toNat → IntKind.u8.wrap ((c.toNat : Int) - 48) = (c.toNat : Int) - 48 := by intro h; rw [IntKind.wrap_u8]; omega
  have w97 : 97 ≤ c.toNat → IntKind.u8.wrap ((c.toNat : Int) - 97) = (c.toNat : Int) - 97 := by intro h; rw [IntKind.wrap_u8]; omega
  by_cases h1 : 48 ≤ c.toNat
  · by_cases h2 : c.toNat ≤ 57
    · have e : rhex c = (c.toNat : Int) - 48 := if_pos ⟨h1, h2⟩
      have q := w48 h1
      clear w48 w97
      rw [e]
      clear e
      go_enter Tryd.func50, Tryd.ntmps50
      go_wp2
      go_ret
      exact ⟨rfl, rfl⟩
    · by_cases h3 : 97 ≤ c.toNat
      · by_cases h4 : c.toNat ≤ 102
        · have e : rhex c = (c.toNat : Int) - 97 + 10 := by
            unfold rhex
            rw [if_neg (by omega), if_pos ⟨h3, h4⟩]
            omega
          have q := w97 h3
          clear w48 w97
          rw [e]
          clear e
          go_enter Tryd.func50, Tryd.ntmps50
          go_wp2
          go_ret
          exact ⟨rfl, rfl⟩
        · have e : rhex c = -1 := by
            unfold rhex
            rw [if_neg (by omega), if_neg (by omega)]
          clear w48 w97
          rw [e]
          clear e
          go_enter Tryd.func50, Tryd.ntmps50
          go_wp2
          go_ret
          exact ⟨rfl, rfl⟩
      · have e : rhex c = -1 := by
          unfold rhex
          rw [if_neg (by omega), if_neg (by omega)]
        clear w48 w97
        rw [e]
        clear e
        go_enter Tryd.func50, Tryd.ntmps50
        go_wp2
        go_ret
        exact ⟨rfl, rfl⟩
  · have e : rhex c = -1 := by
      unfold rhex
      rw [if_neg (by omega), if_neg (by omega)]
    clear w48 w97
    rw [e]
    clear e
    go_enter Tryd.func50, Tryd.ntmps50
    go_wp2
    go_ret
    exact ⟨rfl, rfl⟩
end Go.Proofs.YtmdkjhnafnblkaaDoor
