/-
  What is proved: a bit that is shifted into its place, and picked by and, tells whether it is set; the bits of a kind's fields are below 2047. Nothing of the program is in it. Condition: words below 2^63.
-/
import Derived.Test.YtihldenljddmoaaDoorBitU
import Derived.Test.YtihldenljddmoaaDoorMath4
namespace Go.Proofs.YtihldenljddmoaaDoor
open Go.RowKit

theorem shl_eq (x k : Nat) (hx : x < 9223372036854775808) (hk : k < 63) : ((bits BinOp.and IntKind.u64 (x : Int) (IntKind.u64.wrap (2 ^ k))) == 0) = !x.testBit k := by
  have e : IntKind.u64.wrap (2 ^ k : Int) = ((2 ^ k : Nat) : Int) := by
    have h : (2 : Nat) ^ k < 9223372036854775808 := Nat.lt_of_lt_of_le (Nat.pow_lt_pow_right (by omega) hk) (by decide)
    rw [IntKind.wrap_u64, show (2 ^ k : Int) = ((2 ^ k : Nat) : Int) by rw [Int.natCast_pow]; rfl]
    generalize 2 ^ k = y at h
    omega
  rw [e]
  have := bit_yes k hx hk
  rw [bne] at this
  rw [← this, Bool.not_not]
theorem mk_le (k : Nat) : mk k ≤ 2046 := by
  match k with
  | 0 | 1 | 2 | 3 | 4 | 5 | 6 | 7 | 8 | 9 | 10 | 11 | 12 | 13 | 14 => decide
  | n + 15 => exact Nat.zero_le _
end Go.Proofs.YtihldenljddmoaaDoor
