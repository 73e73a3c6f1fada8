/-
  What is proved: the fixed facts that each statement of this layer asks first hold; the reference's Word, Plain, Right and Compare answer by the whole numbers. No condition.
  (Left out here, as nothing of this law reaches it: wakes_any, word_any, plain_any, wrright_any.) -/
import Derived.Test.YtmfdlkkligjcbaaGreatJ12
import Derived.Test.YtmfdlkkligjcbaaGreatJ02
namespace Go.Proofs.YtmfdlkkligjcbaaGreat
open Go.RowKit

theorem prod_wrap (x y : Nat) (hx : x ≤ 2147483647) (hy : y ≤ 2147483647) : wrap64 ((x : Int) * (y : Int)) = ((x * y : Nat) : Int) := by
  have hb : x * y ≤ 4611686014132420609 := Nat.mul_le_mul hx hy
  rw [← Int.natCast_mul]
  unfold wrap64
  omega

theorem rcompare_any (w : World) (t b s c : Nat) (ht : t ≤ 2147483647) (hb : b ≤ 2147483647) (hs : s ≤ 2147483647) (hc : c ≤ 2147483647) :
    Calls Tryz.prog 82 #[.int .i64 t, .int .i64 b, .int .i64 s, .int .i64 c] w fun e w' => e = .returned (.int .i64 (cmpI (t * c) (s * b))) ∧ w' = w := by
  have q1 := prod_wrap t c ht hc
  have q2 := prod_wrap s b hs hb
  unfold cmpI
  by_cases h : t * c < s * b
  · rw [if_pos h]
    go_enter Tryz.func82, Tryz.ntmps82
    go_wp2
    go_ret
    exact ⟨rfl, rfl⟩
  · rw [if_neg h]
    by_cases g : s * b < t * c
    · rw [if_pos g]
      go_enter Tryz.func82, Tryz.ntmps82
      go_wp2
      all_goals first | (exfalso; omega) | (go_ret; exact ⟨rfl, rfl⟩)
    · rw [if_neg g]
      go_enter Tryz.func82, Tryz.ntmps82
      go_wp2
      all_goals first | (exfalso; omega) | (go_ret; exact ⟨rfl, rfl⟩)
end Go.Proofs.YtmfdlkkligjcbaaGreat
namespace Go.Proofs.YtmfdlkkligjcbaaGreat
open Go.RowKit



























































































end Go.Proofs.YtmfdlkkligjcbaaGreat
namespace Go.Proofs.YtmfdlkkligjcbaaGreat
open Go.RowKit

theorem cmp3 (x y : Nat) : (x < y ∧ cmpI x y = -1 ∧ cmpI y x = 1) ∨ (x = y ∧ cmpI x y = 0 ∧ cmpI y x = 0) ∨ (y < x ∧ cmpI x y = 1 ∧ cmpI y x = -1) := by
  unfold cmpI
  rcases Nat.lt_trichotomy x y with h | h | h
  · exact .inl ⟨h, by rw [if_pos h], by rw [if_neg (by omega), if_pos h]⟩
  · subst h; exact .inr (.inl ⟨rfl, by rw [if_neg (Nat.lt_irrefl _), if_neg (Nat.lt_irrefl _)], by rw [if_neg (Nat.lt_irrefl _), if_neg (Nat.lt_irrefl _)]⟩)
  · exact .inr (.inr ⟨h, by rw [if_neg (by omega), if_pos h], by rw [if_pos h]⟩)

end Go.Proofs.YtmfdlkkligjcbaaGreat
