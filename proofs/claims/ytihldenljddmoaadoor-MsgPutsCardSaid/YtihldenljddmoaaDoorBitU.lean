/-
  What is proved: one bit of a word, picked by and, tells whether it is set. Nothing of the program is in it. Condition: words below 2^63.
-/
import Derived.WalkKit
import Derived.Laws.BitsAllLaws
namespace Go.Proofs.YtihldenljddmoaaDoor
open Go.RowKit

theorem and_pow (x k : Nat) : x &&& 2 ^ k = if x.testBit k then 2 ^ k else 0 := by
  apply Nat.eq_of_testBit_eq
  intro i
  rw [Nat.testBit_and, Nat.testBit_two_pow]
  by_cases h : k = i
  · subst h
    cases x.testBit k <;> simp
  · cases x.testBit k <;> simp [h]
theorem bvOfU (a : Nat) (h : a < 9223372036854775808) : (BitVec.ofInt 64 (a : Int)).toNat = a := by
  rw [BitVec.ofInt_natCast, BitVec.toNat_ofNat, Nat.mod_eq_of_lt]
  simp only [Nat.reducePow]
  omega
theorem andU64 (a b : Nat) (ha : a < 9223372036854775808) (hb : b < 9223372036854775808) : bits BinOp.and IntKind.u64 (a : Int) (b : Int) = ((a &&& b : Nat) : Int) := by
  have hx : a &&& b ≤ a := Nat.and_le_left
  show IntKind.u64.wrap ((BitVec.ofInt 64 (a : Int) &&& BitVec.ofInt 64 (b : Int)).toNat : Int) = _
  rw [BitVec.toNat_and, bvOfU a ha, bvOfU b hb]
  rw [IntKind.wrap_u64]
  omega
theorem and_bit (x k : Nat) (hx : x < 9223372036854775808) (hk : k < 63) : bits BinOp.and IntKind.u64 (x : Int) ((2 ^ k : Nat) : Int) = if x.testBit k then ((2 ^ k : Nat) : Int) else 0 := by
  rw [andU64 x _ hx (Nat.lt_of_lt_of_le (Nat.pow_lt_pow_right (by omega) hk) (by decide)), and_pow x k]
  cases x.testBit k <;> simp
theorem bit_yes {x : Nat} (k : Nat) (hx : x < 9223372036854775808) (hk : k < 63) : ((bits BinOp.and IntKind.u64 (x : Int) ((2 ^ k : Nat) : Int)) != 0) = x.testBit k := by
  rw [and_bit x k hx hk]
  have : (2 ^ k : Nat) ≠ 0 := Nat.pos_iff_ne_zero.1 (Nat.pow_pos (by omega))
  cases x.testBit k
  · rfl
  · simp only [if_true, bne_iff_ne, ne_eq]
    omega
end Go.Proofs.YtihldenljddmoaaDoor
