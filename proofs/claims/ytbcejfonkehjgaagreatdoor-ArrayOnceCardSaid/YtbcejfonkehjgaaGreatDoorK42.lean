/-
  What is proved: plain facts on the fields that a kind of message names, as bits of a number: the next one, all of them in order. Nothing of the program is in it. No condition.
-/
import Derived.WalkKit
import Derived.Laws.BitsAllLaws
namespace Go.Proofs.YtbcejfonkehjgaaGreatDoor

def mk : Nat → Nat
  | 1 => 116
  | 2 => 1140
  | 3 => 1120
  | 4 => 160
  | 5 => 1908
  | 6 => 884
  | 7 => 160
  | 8 => 96
  | 9 => 1150
  | 10 => 1120
  | 11 => 32
  | 12 => 1312
  | 13 => 830
  | 14 => 32
  | _ => 0
def mo : Nat → Int
  | 1 => 3
  | 2 => 3
  | 3 => 1099511627776
  | 4 => 1099511627776
  | 5 => 31
  | 6 => 4
  | 7 => 1099511627776
  | 8 => 16
  | 9 => 1
  | 10 => 64
  | _ => 0
def nxF (x : Nat) : Nat → Nat → Nat
  | 0, _ => 0
  | n + 1, f => if x.testBit f then f else nxF x n (f + 1)
def nx4 (x f : Nat) : Nat := nxF x (11 - f) f
def flF (x : Nat) : Nat → Nat → List Nat
  | 0, _ => []
  | n + 1, f => if x.testBit f then f :: flF x n (f + 1) else flF x n (f + 1)
def fl (x f : Nat) : List Nat := flF x (11 - f) f

theorem nxF_spec (x : Nat) : ∀ n f, f + n = 11 → 0 < f → (nxF x n f = 0 ∧ flF x n f = []) ∨ (f ≤ nxF x n f ∧ nxF x n f ≤ 10 ∧ x.testBit (nxF x n f) = true ∧ flF x n f = nxF x n f :: fl x (nxF x n f + 1))
  | 0, _, _, _ => .inl ⟨rfl, rfl⟩
  | n + 1, f, h, hf => by
    unfold nxF flF
    by_cases hb : x.testBit f = true
    · rw [if_pos hb, if_pos hb]
      refine .inr ⟨Nat.le_refl _, by omega, hb, ?_⟩
      unfold fl
      rw [show 11 - (f + 1) = n by omega]
    · rw [if_neg hb, if_neg hb]
      rcases nxF_spec x n (f + 1) (by omega) (by omega) with h1 | ⟨h1, h2, h3, h4⟩
      · exact .inl h1
      · exact .inr ⟨by omega, h2, h3, h4⟩
theorem nx_spec (x f : Nat) (h0 : 0 < f) (h : f ≤ 11) : (nx4 x f = 0 ∧ fl x f = []) ∨ (f ≤ nx4 x f ∧ nx4 x f ≤ 10 ∧ x.testBit (nx4 x f) = true ∧ fl x f = nx4 x f :: fl x (nx4 x f + 1)) :=
  nxF_spec x (11 - f) f (by omega) h0
theorem flF_len (x : Nat) : ∀ n f, (flF x n f).length ≤ n
  | 0, _ => Nat.le_refl _
  | n + 1, f => by
    unfold flF
    have := flF_len x n (f + 1)
    split
    · simp only [List.length_cons]; omega
    · omega
theorem fl_len (x f : Nat) : (fl x f).length ≤ 11 - f := flF_len x _ f
theorem fl_len10 (x : Nat) : (fl x 1).length ≤ 10 := fl_len x 1
theorem fl_every : fl 2046 1 = [1, 2, 3, 4, 5, 6, 7, 8, 9, 10] := by decide
end Go.Proofs.YtbcejfonkehjgaaGreatDoor
namespace Go.Proofs.YtbcejfonkehjgaaGreatDoor
open Go.RowKit

theorem and_pow (x k : Nat) : x &&& 2 ^ k = if x.testBit k then 2 ^ k else 0 := by
  apply Nat.eq_of_testBit_eq
  intro i
  rw [Nat.testBit_and, Nat.testBit_two_pow]
  by_cases h : k = i
  · subst h
    cases x.testBit k <;> simp
  · cases x.testBit k <;> simp [h]
theorem bvOfU (a : Nat) (h : a < 9223372036854775808) : (BitVec.ofInt 64 (a : Int)).toNat = a := by
  rw [BitVec.ofInt_natCast, BitVec.toNat_ofNat, Nat.mod_eq_of_lt]
  simp only [Nat.reducePow]
  omega
theorem andU64 (a b : Nat) (ha : a < 9223372036854775808) (hb : b < 9223372036854775808) : bits BinOp.and IntKind.u64 (a : Int) (b : Int) = ((a &&& b : Nat) : Int) := by
  have hx : a &&& b ≤ a := Nat.and_le_left
  show IntKind.u64.wrap ((BitVec.ofInt 64 (a : Int) &&& BitVec.ofInt 64 (b : Int)).toNat : Int) = _
  rw [BitVec.toNat_and, bvOfU a ha, bvOfU b hb]
  rw [IntKind.wrap_u64]
  omega
theorem and_bit (x k : Nat) (hx : x < 9223372036854775808) (hk : k < 63) : bits BinOp.and IntKind.u64 (x : Int) ((2 ^ k : Nat) : Int) = if x.testBit k then ((2 ^ k : Nat) : Int) else 0 := by
  rw [andU64 x _ hx (Nat.lt_of_lt_of_le (Nat.pow_lt_pow_right (by omega) hk) (by decide)), and_pow x k]
  cases x.testBit k <;> simp
theorem bit_yes {x : Nat} (k : Nat) (hx : x < 9223372036854775808) (hk : k < 63) : ((bits BinOp.and IntKind.u64 (x : Int) ((2 ^ k : Nat) : Int)) != 0) = x.testBit k := by
  rw [and_bit x k hx hk]
  have : (2 ^ k : Nat) ≠ 0 := Nat.pos_iff_ne_zero.1 (Nat.pow_pos (by omega))
  cases x.testBit k
  · rfl
  · simp only [if_true, bne_iff_ne, ne_eq]
    omega
end Go.Proofs.YtbcejfonkehjgaaGreatDoor
