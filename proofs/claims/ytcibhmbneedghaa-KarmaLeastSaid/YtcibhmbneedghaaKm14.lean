/-
  What is proved: karma's multiple answers the least common multiple of two numbers; Common's the same of all sizes. Condition: the numbers are at least 1 and small.
-/
import Derived.Test.YtcibhmbneedghaaKo14
import Derived.Test.YtcibhmbneedghaaPl14
namespace Go.Proofs.Ytcibhmbneedghaa
open Go.RowKit

theorem lcm_div (a b : Nat) (ha : 0 < a) : a / Nat.gcd a b * b = Nat.lcm a b := by
  obtain ⟨q, hq⟩ := Nat.gcd_dvd_left a b
  have hg : 0 < Nat.gcd a b := Nat.gcd_pos_of_pos_left b ha
  have h := Nat.gcd_mul_lcm a b
  generalize Nat.gcd a b = g at *
  rw [hq, Nat.mul_div_cancel_left _ hg]
  refine Nat.eq_of_mul_eq_mul_left hg ?_
  rw [← hq, h, ← Nat.mul_assoc, ← hq]
set_option maxHeartbeats 400000 in
theorem multiple_any (a b : Nat) (ha : 0 < a) (ha' : a ≤ 1048576) (hb' : b ≤ 1000) (w : World) :
    Calls Try.prog 36 #[.int .i64 a, .int .i64 b] w fun e w' => ∃ n, e = .returned (.int .i64 (Nat.lcm a b : Nat)) ∧ w' = w.drewN n := by
  go_enter Try.func36, Try.ntmps36
  go_wp2
  go_loopg [5, 6] b (fun gk t5 t6 wr => ∃ d r n : Nat, t5 = .int .i64 d ∧ t6 = .int .i64 r ∧ r ≤ gk ∧ d ≤ 1048576 ∧ r ≤ 1000 ∧ Nat.gcd d r = Nat.gcd a b ∧ wr = w.drewN n)
  case atStart => exact ⟨a, b, 0, rfl, rfl, Nat.le_refl _, by omega, by omega, rfl, rfl⟩
  case round =>
    obtain ⟨d, r, n, rfl, rfl, hgk, hd, hr, hgcd, rfl⟩ := hrel
    have HG := hid hgcd
    clear hgcd
    by_cases h0 : r = 0
    · subst h0
      have hdg : d = Nat.gcd a b := by rw [← HG.out, Nat.gcd_zero_right]
      have hd0 : 0 < d := by rw [hdg]; exact Nat.gcd_pos_of_pos_left b ha
      have HL := hid (show a / d * b = Nat.lcm a b from by rw [hdg]; exact lcm_div a b ha)
      have hq : a / d ≤ 1048576 := Nat.le_trans (Nat.div_le_self a d) ha'
      have hlim : a / d * b ≤ 1048576 * 1000 := Nat.mul_le_mul hq hb'
      clear hdg
      have e1 : (a : Int) / (d : Int) = ((a / d : Nat) : Int) := (Int.natCast_ediv a d).symm
      have HE : Hid (wrap64 (wrap64 ((a : Int) / (d : Int)) * (b : Int)) = (Nat.lcm a b : Nat)) := by
        refine hid ?_
        rw [e1, IntWalk.wrap64_in ((a / d : Nat) : Int) ⟨Int.le_trans (by decide) (Int.natCast_nonneg _), Int.le_trans (Int.ofNat_le.2 hq) (by decide)⟩, ← Int.natCast_mul, ← HL.out]
        generalize a / d * b = z at *
        exact IntWalk.wrap64_in _ ⟨by omega, by omega⟩
      clear e1 hlim hq
      go_wp2
      go_ret
      exact ⟨n, congrArg (fun z => Ending.returned (.int .i64 z)) HE.out, rfl⟩
    · have h1 : (r : Int) > 0 := by omega
      go_upto_region 3 with fail
      go_quiet (fail)
      go_wp2
      go_roundg (gk - 1)
      case measure => omega
      case rel =>
        refine ⟨r, d % r, _, rfl, rfl, ?_, by omega, ?_, ?_, World.drewN_drewN _ _ _⟩
        · have := Nat.mod_lt d (show 0 < r by omega); omega
        · have := Nat.mod_lt d (show 0 < r by omega); omega
        · rw [← HG.out, Nat.gcd_comm r, ← Nat.gcd_rec, Nat.gcd_comm]
end Go.Proofs.Ytcibhmbneedghaa
