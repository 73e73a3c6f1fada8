/-
  What is proved: floating point tells whole numbers below 2^53 exactly: their sums, differences, products and comparisons, and the way back to an integer, are the numbers' own. Nothing of the program is in it. Condition: each number, and each result, is below 2^53.
-/
import Derived.WalkLawsBesides
namespace Go.Proofs.Ytcibhmbneedghaa
open Ieee

/-- the bits b tell the whole number z -/
def Tells (b : Nat) (z : Int) : Prop :=
  ∃ (s : Bool) (a k : Nat), double.read b = .number s (a * 2 ^ k) (-(k : Int)) ∧ z = (if s then -(a : Int) else (a : Int)) ∧ a < 2 ^ 53

theorem log2_mul (a k : Nat) (h : a ≠ 0) : (a * 2 ^ k).log2 = a.log2 + k := by
  have hp : 0 < 2 ^ k := Nat.two_pow_pos _
  have h2 : a * 2 ^ k ≠ 0 := by
    intro e
    rcases Nat.mul_eq_zero.1 e with e | e <;> omega
  rw [Nat.log2_eq_iff h2]
  have h3 := (Nat.log2_eq_iff h).1 rfl
  refine ⟨?_, ?_⟩
  · rw [Nat.pow_add]; exact Nat.mul_le_mul_right _ h3.1
  · rw [show a.log2 + k + 1 = (a.log2 + 1) + k by omega, Nat.pow_add]
    exact (Nat.mul_lt_mul_right hp).2 h3.2

/-- what divides is cut off whole -/
theorem cut_exact (way : Toward) (s : Bool) (a d : Nat) (h : a ≠ 0) : way.cut s (a * 2 ^ d) d = a := by
  have hm : min d ((a * 2 ^ d).log2 + 2) = d := by rw [log2_mul a d h]; omega
  have hp : 0 < 2 ^ d := Nat.two_pow_pos _
  unfold Toward.cut
  dsimp only
  rw [hm, Nat.shiftLeft_eq, Nat.one_mul, Nat.mul_div_cancel _ hp, Nat.mul_mod_left]
  have h0 : (2 ^ d == 0) = false := by simp
  cases way <;> simp [h0]
theorem cut_zero (way : Toward) (s : Bool) (d : Nat) : way.cut s 0 d = 0 := by
  unfold Toward.cut
  dsimp only
  have hp : ∀ k, 0 < 1 <<< k := fun k => by rw [Nat.shiftLeft_eq, Nat.one_mul]; exact Nat.two_pow_pos _
  have h0 := hp (min d (Nat.log2 0 + 2))
  rw [Nat.zero_div, Nat.zero_mod]
  have h1 : ((1 <<< min d (Nat.log2 0 + 2)) == 0) = false := by simp
  cases way <;> simp

theorem dLeast : double.leastPlace = -1074 := by decide
theorem dBinade : double.binade = 4503599627370496 := by decide
theorem dSign : double.signWeight = 9223372036854775808 := by decide
theorem dInf : double.infRung = 9218868437227405312 := by decide
theorem dFrac : double.fractionBits = 52 := rfl

theorem read_word (s : Bool) (r : Nat) (h1 : 4503599627370496 ≤ r) (h2 : r < 9218868437227405312) :
    double.read (double.word s r) = .number s (4503599627370496 + r % 4503599627370496) (-1074 + ((r / 4503599627370496 - 1 : Nat) : Int)) := by
  have hs : (double.word s r / 9223372036854775808 % 2 == 1) = s ∧ double.word s r % 9223372036854775808 = r := by
    unfold Format.word
    rw [dSign]
    cases s
    · simp only [Bool.false_eq_true, if_false]
      exact ⟨by rw [beq_eq_false_iff_ne]; omega, by omega⟩
    · simp only [if_true]
      exact ⟨by rw [beq_iff_eq]; omega, by omega⟩
  unfold Format.read
  rw [dSign, dBinade, dInf, dLeast, hs.1, hs.2]
  dsimp only
  rw [if_neg (by omega), if_pos h2]

theorem read_zero (s : Bool) : double.read (double.word s 0) = .number s 0 (-1074) := by
  cases s <;> decide

theorem nearest_kept (s : Bool) (a M K : Nat) (ha : a ≠ 0) (hK : a.log2 + K = 52) :
    double.nearest s (a * 2 ^ M) (-(M : Int)) = double.word s (min ((1074 - K) * 4503599627370496 + a * 2 ^ K) 9218868437227405312) := by
  have hmag : a * 2 ^ M ≠ 0 := by
    have := Nat.two_pow_pos M
    intro e
    rcases Nat.mul_eq_zero.1 e with e | e <;> omega
  have haK : a * 2 ^ K ≠ 0 := by
    have := Nat.two_pow_pos K
    intro e
    rcases Nat.mul_eq_zero.1 e with e | e <;> omega
  unfold Format.nearest
  rw [if_neg hmag, log2_mul a M ha, dFrac, dLeast, dBinade, dInf]
  dsimp only
  have e1 : max (-(M : Int) + ((a.log2 + M : Nat) : Int) - ((52 : Nat) : Int)) (-1074) = -(K : Int) := by omega
  rw [e1]
  have e2 : (-(K : Int) - -1074).toNat = 1074 - K := by omega
  rw [e2]
  congr 3
  rcases Nat.le_total M K with h | h
  · have e3 : (-(M : Int) - -(K : Int)).toNat = K - M := by omega
    have e4 : (-(K : Int) - -(M : Int)).toNat = 0 := by omega
    have e5 : (a * 2 ^ M) <<< (K - M) = a * 2 ^ K * 2 ^ 0 := by
      rw [Nat.shiftLeft_eq, Nat.mul_assoc, ← Nat.pow_add, show M + (K - M) = K by omega, Nat.pow_zero, Nat.mul_one]
    rw [e3, e4, e5, cut_exact _ _ _ _ haK]
  · have e3 : (-(M : Int) - -(K : Int)).toNat = 0 := by omega
    have e4 : (-(K : Int) - -(M : Int)).toNat = M - K := by omega
    have e5 : (a * 2 ^ M) <<< 0 = a * 2 ^ K * 2 ^ (M - K) := by
      rw [Nat.shiftLeft_zero, Nat.mul_assoc, ← Nat.pow_add, show K + (M - K) = M by omega]
    rw [e3, e4, e5, cut_exact _ _ _ _ haK]

/-- a whole number below 2^53 is written exactly -/
theorem tells_nearest (s : Bool) (a M : Nat) (ha : a < 2 ^ 53) : Tells (double.nearest s (a * 2 ^ M) (-(M : Int))) (if s then -(a : Int) else (a : Int)) := by
  by_cases h0 : a = 0
  · subst h0
    have e : double.read (double.nearest s (0 * 2 ^ M) (-(M : Int))) = .number s 0 (-1074) := by
      unfold Format.nearest
      rw [if_pos (Nat.zero_mul _), read_zero]
    obtain ⟨K, hK⟩ : ∃ K : Nat, K = 1074 := ⟨_, rfl⟩
    refine ⟨s, 0, K, ?_, by cases s <;> rfl, ha⟩
    rw [e, Nat.zero_mul, hK]
    rfl
  · have hl := (Nat.log2_eq_iff h0).1 rfl
    have hl52 : a.log2 ≤ 52 := by
      have : a.log2 < 53 := (Nat.log2_lt h0).2 ha
      omega
    obtain ⟨K, hK⟩ : ∃ K, a.log2 + K = 52 := ⟨52 - a.log2, by omega⟩
    have b1 : 4503599627370496 ≤ a * 2 ^ K := by
      have := Nat.mul_le_mul_right (2 ^ K) hl.1
      rw [← Nat.pow_add, hK] at this
      simpa using this
    have b2 : a * 2 ^ K < 9007199254740992 := by
      have := (Nat.mul_lt_mul_right (Nat.two_pow_pos K)).2 hl.2
      rw [← Nat.pow_add, show a.log2 + 1 + K = 53 by omega] at this
      simpa using this
    refine ⟨s, a, K, ?_, rfl, ha⟩
    rw [nearest_kept s a M K h0 hK]
    generalize a * 2 ^ K = y at b1 b2
    have hK2 : K ≤ 52 := by omega
    rw [Nat.min_eq_left (by omega), read_word s _ (by omega) (by omega)]
    congr 1
    · omega
    · omega

theorem signed_of (s : Bool) (a k d : Nat) : signed s (a * 2 ^ k) d = (if s then -(a : Int) else (a : Int)) * 2 ^ (k + d) := by
  unfold signed
  rw [Nat.shiftLeft_eq, Nat.mul_assoc, ← Nat.pow_add]
  cases s <;> simp [Int.natCast_mul, Int.natCast_pow, Int.neg_mul]

theorem write_of (s : Bool) (a M : Nat) (z : Int) (hz : z = if s then -(a : Int) else (a : Int)) (ha : a < 2 ^ 53) : Tells (double.write (.number s (a * 2 ^ M) (-(M : Int)))) z := by
  rw [hz]; exact tells_nearest s a M ha

/-- the sum is told -/
theorem Tells.add {x y : Nat} {z t : Int} (hx : Tells x z) (hy : Tells y t) (h : (z + t).natAbs < 2 ^ 53) : ∃ r, double.add x y = some r ∧ Tells r (z + t) := by
  obtain ⟨s, a, k, h1, hz, _⟩ := hx
  obtain ⟨u, b, l, h2, ht, _⟩ := hy
  unfold Format.add
  rw [h1, h2]
  simp only [Datum.sum, Option.map_some]
  refine ⟨_, rfl, ?_⟩
  have hbase : min (-(k : Int)) (-(l : Int)) = -((max k l : Nat) : Int) := by omega
  rw [hbase, signed_of, signed_of, ← hz, ← ht]
  have e1 : k + (-(k : Int) - -((max k l : Nat) : Int)).toNat = max k l := by omega
  have e2 : l + (-(l : Int) - -((max k l : Nat) : Int)).toNat = max k l := by omega
  rw [e1, e2, ← Int.add_mul]
  generalize max k l = M
  have hp : (0 : Int) < 2 ^ M := Int.pow_pos (by omega)
  have hn : ((z + t) * 2 ^ M).natAbs = (z + t).natAbs * 2 ^ M := by rw [Int.natAbs_mul]; congr 1
  rw [hn]
  by_cases h0 : z + t = 0
  · rw [h0]
    have := write_of (if (0 : Int) * 2 ^ M = 0 then s && u else decide ((0 : Int) * 2 ^ M < 0)) (0 : Int).natAbs M 0 (by simp) (by simp)
    exact this
  · have hne : ¬ (z + t) * 2 ^ M = 0 := by
      intro e
      rcases Int.mul_eq_zero.1 e with e | e <;> omega
    rw [if_neg hne]
    refine write_of _ _ M _ ?_ h
    by_cases hneg : z + t < 0
    · have : (z + t) * 2 ^ M < 0 := Int.mul_neg_of_neg_of_pos hneg hp
      simp only [this, decide_true, if_true]; omega
    · have : ¬ (z + t) * 2 ^ M < 0 := by
        have := Int.mul_nonneg (show 0 ≤ z + t by omega) (Int.le_of_lt hp)
        omega
      simp only [this, decide_false, Bool.false_eq_true, if_false]; omega

theorem Tells.opposite {y : Nat} {t : Int} (hy : Tells y t) : ∃ (s : Bool) (a k : Nat), (double.read y).opposite = .number s (a * 2 ^ k) (-(k : Int)) ∧ -t = (if s then -(a : Int) else (a : Int)) ∧ a < 2 ^ 53 := by
  obtain ⟨s, a, k, h1, hz, ha⟩ := hy
  refine ⟨!s, a, k, by rw [h1]; rfl, ?_, ha⟩
  rw [hz]; cases s <;> simp

/-- the product is told -/
theorem Tells.mul {x y : Nat} {z t : Int} (hx : Tells x z) (hy : Tells y t) (h : (z * t).natAbs < 2 ^ 53) : ∃ r, double.mul x y = some r ∧ Tells r (z * t) := by
  obtain ⟨s, a, k, h1, hz, _⟩ := hx
  obtain ⟨u, b, l, h2, ht, _⟩ := hy
  unfold Format.mul
  rw [h1, h2]
  simp only [Datum.product, Option.map_some]
  refine ⟨_, rfl, ?_⟩
  have e1 : a * 2 ^ k * (b * 2 ^ l) = (a * b) * 2 ^ (k + l) := by rw [Nat.pow_add, Nat.mul_mul_mul_comm]
  have e2 : -(k : Int) + -(l : Int) = -((k + l : Nat) : Int) := by omega
  rw [e1, e2]
  refine write_of _ _ _ _ ?_ ?_
  · rw [hz, ht]; cases s <;> cases u <;> simp [Int.natCast_mul, Int.neg_mul, Int.mul_neg]
  · rw [hz, ht] at h
    have : ((if s then -(a : Int) else (a : Int)) * (if u then -(b : Int) else (b : Int))).natAbs = a * b := by
      rw [Int.natAbs_mul]; cases s <;> cases u <;> simp
    rwa [this] at h

/-- back to an integer -/
theorem Tells.toInt {x : Nat} {z : Int} (hx : Tells x z) : (double.read x).toInt .zero = some z := by
  obtain ⟨s, a, k, h1, hz, _⟩ := hx
  rw [h1]
  simp only [Datum.toInt, Datum.integral]
  have e1 : (-(k : Int)).toNat = 0 := by omega
  have e2 : (- -(k : Int)).toNat = k := by omega
  rw [e1, e2, Nat.shiftLeft_zero]
  by_cases h0 : a = 0
  · subst h0
    rw [Nat.zero_mul, cut_zero, hz]
    cases s <;> rfl
  · rw [cut_exact _ _ _ _ h0, hz]
    unfold signed
    rw [Nat.shiftLeft_zero]

/-- compared as the numbers are -/
theorem Tells.order {x y : Nat} {z t : Int} (hx : Tells x z) (hy : Tells y t) : double.order x y = some (compare z t) := by
  obtain ⟨s, a, k, h1, hz, _⟩ := hx
  obtain ⟨u, b, l, h2, ht, _⟩ := hy
  unfold Format.order
  rw [h1, h2]
  simp only [Datum.order]
  have hbase : min (-(k : Int)) (-(l : Int)) = -((max k l : Nat) : Int) := by omega
  rw [hbase, signed_of, signed_of, ← hz, ← ht]
  have e1 : k + (-(k : Int) - -((max k l : Nat) : Int)).toNat = max k l := by omega
  have e2 : l + (-(l : Int) - -((max k l : Nat) : Int)).toNat = max k l := by omega
  rw [e1, e2]
  generalize max k l = M
  have hp : (0 : Int) < 2 ^ M := Int.pow_pos (by omega)
  congr 1
  simp only [compare, compareOfLessAndEq]
  have hlt : z * 2 ^ M < t * 2 ^ M ↔ z < t := Int.mul_lt_mul_right hp
  simp only [hlt]
  by_cases e : z = t
  · subst e; simp
  · have : ¬ z * 2 ^ M = t * 2 ^ M := fun h => e (Int.eq_of_mul_eq_mul_right (by omega) h)
    simp [e, this]

theorem Tells.sub {x y : Nat} {z t : Int} (hx : Tells x z) (hy : Tells y t) (h : (z - t).natAbs < 2 ^ 53) : ∃ r, double.sub x y = some r ∧ Tells r (z - t) := by
  obtain ⟨u, b, l, h2, ht, hb⟩ := hy.opposite
  obtain ⟨y', hy'⟩ : ∃ y', Tells y' (-t) := ⟨_, by rw [ht]; exact tells_nearest u b 0 hb⟩
  obtain ⟨s, a, k, h1, hz, _⟩ := hx
  unfold Format.sub
  rw [h1, h2]
  simp only [Datum.sum, Option.map_some]
  refine ⟨_, rfl, ?_⟩
  have hbase : min (-(k : Int)) (-(l : Int)) = -((max k l : Nat) : Int) := by omega
  rw [hbase, signed_of, signed_of, ← hz, ← ht]
  have e1 : k + (-(k : Int) - -((max k l : Nat) : Int)).toNat = max k l := by omega
  have e2 : l + (-(l : Int) - -((max k l : Nat) : Int)).toNat = max k l := by omega
  rw [e1, e2, ← Int.add_mul, ← Int.sub_eq_add_neg]
  generalize max k l = M
  have hp : (0 : Int) < 2 ^ M := Int.pow_pos (by omega)
  have hn : ((z - t) * 2 ^ M).natAbs = (z - t).natAbs * 2 ^ M := by rw [Int.natAbs_mul]; congr 1
  rw [hn]
  by_cases h0 : z - t = 0
  · rw [h0]
    have := write_of (if (0 : Int) * 2 ^ M = 0 then s && u else decide ((0 : Int) * 2 ^ M < 0)) (0 : Int).natAbs M 0 (by simp) (by simp)
    exact this
  · have hne : ¬ (z - t) * 2 ^ M = 0 := by
      intro e
      rcases Int.mul_eq_zero.1 e with e | e <;> omega
    rw [if_neg hne]
    refine write_of _ _ M _ ?_ h
    by_cases hneg : z - t < 0
    · have : (z - t) * 2 ^ M < 0 := Int.mul_neg_of_neg_of_pos hneg hp
      simp only [this, decide_true, if_true]; omega
    · have : ¬ (z - t) * 2 ^ M < 0 := by
        have := Int.mul_nonneg (show 0 ≤ z - t by omega) (Int.le_of_lt hp)
        omega
      simp only [this, decide_false, Bool.false_eq_true, if_false]; omega

/-- a whole number made a float -/
theorem tells_int (z : Int) (h : z.natAbs < 2 ^ 53) : Tells (floatOfInt .f64 z) z := by
  have := tells_nearest (decide (z < 0)) z.natAbs 0 h
  rw [Nat.pow_zero, Nat.mul_one] at this
  have e : (if decide (z < 0) = true then -(z.natAbs : Int) else (z.natAbs : Int)) = z := by
    by_cases hn : z < 0
    · simp only [hn, decide_true, if_true]; omega
    · simp only [hn, decide_false, Bool.false_eq_true, if_false]; omega
  rw [e] at this
  exact this

theorem Tells.addBits {x y : Nat} {z t : Int} (hx : Tells x z) (hy : Tells y t) (h : (z + t).natAbs < 2 ^ 53) : ∃ r, floatBits .add .f64 x y = some r ∧ Tells r (z + t) := hx.add hy h
theorem Tells.subBits {x y : Nat} {z t : Int} (hx : Tells x z) (hy : Tells y t) (h : (z - t).natAbs < 2 ^ 53) : ∃ r, floatBits .sub .f64 x y = some r ∧ Tells r (z - t) := hx.sub hy h
theorem Tells.mulBits {x y : Nat} {z t : Int} (hx : Tells x z) (hy : Tells y t) (h : (z * t).natAbs < 2 ^ 53) : ∃ r, floatBits .mul .f64 x y = some r ∧ Tells r (z * t) := hx.mul hy h

/-- the product of two points, each of whose parts is told -/
theorem Tells.cmul {a b c d : Nat} {za zb zc zd : Int} (ha : Tells a za) (hb : Tells b zb) (hc : Tells c zc) (hd : Tells d zd)
    (h1 : (za * zc).natAbs < 2 ^ 52) (h2 : (zb * zd).natAbs < 2 ^ 52) (h3 : (za * zd).natAbs < 2 ^ 52) (h4 : (zb * zc).natAbs < 2 ^ 52) :
    ∃ re im, cMulBits a b c d = some (re, im) ∧ Tells re (za * zc - zb * zd) ∧ Tells im (za * zd + zb * zc) := by
  have p52 : (2 : Nat) ^ 53 = 2 ^ 52 + 2 ^ 52 := by decide
  obtain ⟨ac, e1, t1⟩ := ha.mulBits hc (by omega)
  obtain ⟨bd, e2, t2⟩ := hb.mulBits hd (by omega)
  obtain ⟨ad, e3, t3⟩ := ha.mulBits hd (by omega)
  obtain ⟨bc, e4, t4⟩ := hb.mulBits hc (by omega)
  obtain ⟨re, e5, t5⟩ := t1.subBits t2 (by omega)
  obtain ⟨im, e6, t6⟩ := t3.addBits t4 (by omega)
  exact ⟨re, im, by simp [cMulBits, e1, e2, e3, e4, e5, e6], t5, t6⟩

/-- the way back to an int -/
theorem Tells.int {x : Nat} {z : Int} (hx : Tells x z) (h1 : -9223372036854775808 ≤ z) (h2 : z ≤ 9223372036854775807) : floatToIntVal .f64 x .i64 = some z := by
  unfold floatToIntVal
  have e : (FloatKind.f64.decode x).toInt .zero = some z := hx.toInt
  rw [e]
  exact if_pos ⟨h1, h2⟩
theorem Tells.eql {x y : Nat} {z t : Int} (hx : Tells x z) (hy : Tells y t) : (FloatKind.f64.format.order x y == some .eq) = decide (z = t) := by
  have e : FloatKind.f64.format.order x y = some (compare z t) := hx.order hy
  rw [e]
  by_cases h : z = t
  · subst h; simp
  · have : compare z t ≠ .eq := fun e => h (Int.compare_eq_eq.1 e)
    simp [h, this]
/-- the other sign's bits tell the number's opposite -/
theorem Tells.neg {x : Nat} {z : Int} (hx : Tells x z) : Tells (Op.negFloat .f64 x) (-z) := by
  obtain ⟨s, a, k, h1, hz, ha⟩ := hx
  have e1 : (x ^^^ 9223372036854775808) % 9223372036854775808 = x % 9223372036854775808 := by
    have := @Nat.xor_mod_two_pow x (2 ^ 63) 63
    rw [Nat.mod_self, Nat.xor_zero] at this
    exact this
  have e2 : (x ^^^ 9223372036854775808) / 9223372036854775808 % 2 = 1 - x / 9223372036854775808 % 2 := by
    have h := @Nat.xor_div_two_pow x (2 ^ 63) 63
    rw [Nat.div_self (Nat.two_pow_pos 63)] at h
    have h' : (x ^^^ 9223372036854775808) / 9223372036854775808 = x / 9223372036854775808 ^^^ 1 := h
    have := @Nat.xor_mod_two_pow (x / 9223372036854775808) 1 1
    simp only [Nat.pow_one] at this
    rw [h', this]
    rcases Nat.mod_two_eq_zero_or_one (x / 9223372036854775808) with h0 | h0 <;> rw [h0] <;> rfl
  refine ⟨!s, a, k, ?_, by rw [hz]; cases s <;> simp, ha⟩
  have e3 : Op.negFloat .f64 x = x ^^^ 9223372036854775808 := rfl
  rw [e3]
  unfold Format.read at h1 ⊢
  rw [dSign] at h1 ⊢
  dsimp only at h1 ⊢
  rw [e1, e2]
  have e4 : ((1 - x / 9223372036854775808 % 2 : Nat) == 1) = !(x / 9223372036854775808 % 2 == 1) := by
    rcases Nat.mod_two_eq_zero_or_one (x / 9223372036854775808) with h0 | h0 <;> rw [h0] <;> rfl
  rw [e4]
  split at h1
  · rename_i hh
    rw [if_pos hh]
    injection h1 with q1 q2 q3
    rw [q1, q2, q3]
  · rename_i hh
    split at h1
    · rename_i hg
      rw [if_neg hh, if_pos hg]
      injection h1 with q1 q2 q3
      rw [q1, q2, q3]
    · split at h1 <;> cases h1
end Go.Proofs.Ytcibhmbneedghaa
