/-
  What is proved: the fixed facts that each statement of this layer asks first hold; the reference's Word, Plain, Right and Compare answer by the whole numbers. No condition.
  (Left out here, as nothing of this law reaches it: wakes_any, word_any, plain_any, wrright_any.) -/
import Derived.Test.YtmfdlkkligjcbaaGreatK12
import Derived.Test.YtmfdlkkligjcbaaGreatK02
namespace Go.Proofs.YtmfdlkkligjcbaaGreat
open Go.RowKit

theorem tells_zero : Tells 0 0 := by
  obtain ⟨K, hK⟩ : ∃ K : Nat, K = 1074 := ⟨_, rfl⟩
  refine ⟨false, 0, K, ?_, rfl, by decide⟩
  rw [Nat.zero_mul, hK]
  rfl
theorem tells_one : Tells 4607182418800017408 1 := ⟨false, 1, 52, rfl, rfl, by decide⟩
theorem tells_two : Tells 4611686018427387904 2 := ⟨false, 2, 51, rfl, rfl, by decide⟩












































































































theorem prod_wrap (x y : Nat) (hx : x ≤ 2147483647) (hy : y ≤ 2147483647) : wrap64 ((x : Int) * (y : Int)) = ((x * y : Nat) : Int) := by
  have hb : x * y ≤ 4611686014132420609 := Nat.mul_le_mul hx hy
  rw [← Int.natCast_mul]
  unfold wrap64
  omega

theorem rcompare_any (w : World) (t b s c : Nat) (ht : t ≤ 2147483647) (hb : b ≤ 2147483647) (hs : s ≤ 2147483647) (hc : c ≤ 2147483647) :
    Calls Tryz.prog 82 #[.int .i64 t, .int .i64 b, .int .i64 s, .int .i64 c] w fun e w' => e = .returned (.int .i64 (cmpI (t * c) (s * b))) ∧ w' = w := by
  have q1 := prod_wrap t c ht hc
  have q2 := prod_wrap s b hs hb
  unfold cmpI
  by_cases h : t * c < s * b
  · rw [if_pos h]
    go_enter Tryz.func82, Tryz.ntmps82
    go_wp2
    go_ret
    exact ⟨rfl, rfl⟩
  · rw [if_neg h]
    by_cases g : s * b < t * c
    · rw [if_pos g]
      go_enter Tryz.func82, Tryz.ntmps82
      go_wp2
      all_goals first | (exfalso; omega) | (go_ret; exact ⟨rfl, rfl⟩)
    · rw [if_neg g]
      go_enter Tryz.func82, Tryz.ntmps82
      go_wp2
      all_goals first | (exfalso; omega) | (go_ret; exact ⟨rfl, rfl⟩)
end Go.Proofs.YtmfdlkkligjcbaaGreat
/-
  What is proved: for all numbers the statement on products returns true, and so does the one on two words' product put together; what they write lies in new memory. No condition.
  (Left out here, as nothing of this law reaches it: mul_walk, whole_walk.) -/
namespace Go.Proofs.YtmfdlkkligjcbaaGreat
open Go.RowKit



























































































end Go.Proofs.YtmfdlkkligjcbaaGreat
/-
  What is proved: for all fractions the statement on comparing two returns true, and so does the one on three; what they write lies in new memory. No condition.
  (Left out here, as nothing of this law reaches it: comp_yes, comp_no, comp_walk.) -/
namespace Go.Proofs.YtmfdlkkligjcbaaGreat
open Go.RowKit

theorem cmp3 (x y : Nat) : (x < y ∧ cmpI x y = -1 ∧ cmpI y x = 1) ∨ (x = y ∧ cmpI x y = 0 ∧ cmpI y x = 0) ∨ (y < x ∧ cmpI x y = 1 ∧ cmpI y x = -1) := by
  unfold cmpI
  rcases Nat.lt_trichotomy x y with h | h | h
  · exact .inl ⟨h, by rw [if_pos h], by rw [if_neg (by omega), if_pos h]⟩
  · subst h; exact .inr (.inl ⟨rfl, by rw [if_neg (Nat.lt_irrefl _), if_neg (Nat.lt_irrefl _)], by rw [if_neg (Nat.lt_irrefl _), if_neg (Nat.lt_irrefl _)]⟩)
  · exact .inr (.inr ⟨h, by rw [if_neg (by omega), if_pos h], by rw [if_pos h]⟩)

theorem nats {t b : Int} (h : okF t b) : ∃ x y : Nat, t = x ∧ b = y ∧ x ≤ 2147483647 ∧ y ≤ 2147483647 := by
  obtain ⟨⟨h0, h1⟩, ⟨h2, h3⟩, _⟩ := h
  exact ⟨t.toNat, b.toNat, by omega, by omega, by omega, by omega⟩
































































































































end Go.Proofs.YtmfdlkkligjcbaaGreat
