/-
  What is proved: karma's multiple answers the least common multiple of two numbers; Common's the same of all sizes. Condition: the numbers are at least 1 and small.
  (Left out here, as nothing of this law reaches it: multiple_any.) -/
import Derived.Test.YtmfdlkkligjcbaaGreatK17
import Derived.Test.YtmfdlkkligjcbaaGreatK16
import Derived.Test.YtmfdlkkligjcbaaGreatK18
namespace Go.Proofs.YtmfdlkkligjcbaaGreat
open Go.RowKit

theorem lcm_div (a b : Nat) (ha : 0 < a) : a / Nat.gcd a b * b = Nat.lcm a b := by
  obtain ⟨q, hq⟩ := Nat.gcd_dvd_left a b
  have hg : 0 < Nat.gcd a b := Nat.gcd_pos_of_pos_left b ha
  have h := Nat.gcd_mul_lcm a b
  generalize Nat.gcd a b = g at *
  rw [hq, Nat.mul_div_cancel_left _ hg]
  refine Nat.eq_of_mul_eq_mul_left hg ?_
  rw [← hq, h, ← Nat.mul_assoc, ← hq]








































end Go.Proofs.YtmfdlkkligjcbaaGreat
/-
  What is proved: the reference's Common answers the least common multiple of all sizes. Condition: the hints are right, and read as such.
  (Left out here, as nothing of this law reaches it: common_any.) -/
namespace Go.Proofs.YtmfdlkkligjcbaaGreat
open Go.RowKit
























































































end Go.Proofs.YtmfdlkkligjcbaaGreat
/-
  What is proved: karma's refuses tells what is wrong with telling a cost. Condition: hints and parts are read as such; there are no more than 20.
  (Left out here, as nothing of this law reaches it: krefuses_any.) -/
namespace Go.Proofs.YtmfdlkkligjcbaaGreat
open Go.RowKit

/-- what is wrong with parts and costs -/
def CBad (n : Nat) (P : Nat → Nat → Int) (m : Nat) (k : Nat → Int) : Prop := m ≠ n ∨ PBad P m ∨ Outs 0 1000 k 4
/-- what refuses answers -/
def RefP (hh : Nat → Hn) (n : Nat) (P : Nat → Nat → Int) (m : Nat) (k : Nat → Int) (r : Int) : Prop :=
  (¬ HintsP hh n 32 ∧ r = 14) ∨ (HintsP hh n 32 ∧ CBad n P m k ∧ r = 6) ∨ (HintsP hh n 32 ∧ ¬ CBad n P m k ∧ OBad hh n ∧ r = 4) ∨ (HintsP hh n 32 ∧ ¬ CBad n P m k ∧ ¬ OBad hh n ∧ r = 0)
























































































































end Go.Proofs.YtmfdlkkligjcbaaGreat
