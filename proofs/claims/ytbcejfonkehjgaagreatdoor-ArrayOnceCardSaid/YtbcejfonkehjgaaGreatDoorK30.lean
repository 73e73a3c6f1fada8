/-
  What is proved: a number's next seven bits, laid behind the ones that there are by shift and or, add up as numbers do. Nothing of the program is in it. Conditions: fewer than nine rounds, a byte.
-/
import Derived.WalkKit
import Derived.Laws.BitsAllLaws
namespace Go.Proofs.YtbcejfonkehjgaaGreatDoor
open Go.RowKit

theorem bvOf (a : Nat) (h : a < 9223372036854775808) : (BitVec.ofInt 64 (a : Int)).toNat = a := by
  rw [BitVec.ofInt_natCast, BitVec.toNat_ofNat, Nat.mod_eq_of_lt]
  simp only [Nat.reducePow]
  omega
theorem orI64 (a b : Nat) (ha : a < 9223372036854775808) (hb : b < 9223372036854775808) : bits BinOp.or IntKind.i64 (a : Int) (b : Int) = ((a ||| b : Nat) : Int) := by
  have hx : a ||| b < 2 ^ 63 := Nat.or_lt_two_pow (by simp only [Nat.reducePow]; exact ha) (by simp only [Nat.reducePow]; exact hb)
  show IntKind.i64.wrap ((BitVec.ofInt 64 (a : Int) ||| BitVec.ofInt 64 (b : Int)).toNat : Int) = _
  rw [BitVec.toNat_or, bvOf a ha, bvOf b hb, IntKind.wrap_i64]
  simp only [Nat.reducePow] at hx
  omega

theorem pow128 (k : Nat) : (128 : Nat) ^ k = 2 ^ (7 * k) := by rw [Nat.pow_mul]
theorem wrapSmall (a : Nat) (h : a < 9223372036854775808) : wrap64 (a : Int) = (a : Int) := by unfold wrap64; omega
theorem orAdd (m k d : Nat) (hm : m < 128 ^ k) : m ||| d * 128 ^ k = m + d * 128 ^ k := by
  rw [pow128] at hm ⊢
  rw [Nat.or_comm, Nat.mul_comm d, ← Nat.two_pow_add_eq_or_of_lt hm, Nat.add_comm]
theorem pow128le (k : Nat) (hk : k < 9) : 128 ^ k ≤ 72057594037927936 :=
  Nat.le_trans (Nat.pow_le_pow_right (by omega) (show k ≤ 8 by omega)) (by decide)
theorem prodLe (d k : Nat) (hd : d < 128) (hk : k < 9) : d * 128 ^ k < 9223372036854775808 :=
  Nat.lt_of_le_of_lt (Nat.mul_le_mul (show d ≤ 127 by omega) (pow128le k hk)) (by decide)
theorem castPow (d k : Nat) : (d : Int) * 2 ^ (7 * k) = ((d * 128 ^ k : Nat) : Int) := by
  rw [pow128, Int.natCast_mul, Int.natCast_pow]; rfl
theorem orStep (m k : Nat) (x : Int) (hk : k < 9) (hm : m < 128 ^ k) (h0 : 0 ≤ x) :
    bits BinOp.or IntKind.i64 (m : Int) (wrap64 (x % 128 * 2 ^ (7 * k))) = ((m + (x.toNat % 128) * 128 ^ k : Nat) : Int) := by
  obtain ⟨n, rfl⟩ := Int.eq_ofNat_of_zero_le h0
  have e1 : ((n : Nat) : Int) % 128 = ((n % 128 : Nat) : Int) := rfl
  have hd : n % 128 < 128 := Nat.mod_lt _ (by omega)
  rw [e1, Int.toNat_natCast]
  generalize n % 128 = d at hd
  have hm2 : m < 9223372036854775808 := Nat.lt_of_lt_of_le hm (Nat.le_trans (pow128le k hk) (by decide))
  rw [castPow, wrapSmall _ (prodLe d k hd hk), orI64 m _ hm2 (prodLe d k hd hk), orAdd m k d hm]
end Go.Proofs.YtbcejfonkehjgaaGreatDoor
