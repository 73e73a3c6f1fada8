/-
  What is proved: the fixed facts that each statement of this layer asks first hold; the reference's Word, Plain, Right and Compare answer by the whole numbers. No condition.
-/
import Derived.Test.YtlkaoobdppnebaaFrac
namespace Go.Proofs.Ytlkaoobdppnebaa
open Go.RowKit

theorem tells_zero : Tells 0 0 := by
  obtain ⟨K, hK⟩ : ∃ K : Nat, K = 1074 := ⟨_, rfl⟩
  refine ⟨false, 0, K, ?_, rfl, by decide⟩
  rw [Nat.zero_mul, hK]
  rfl
theorem tells_one : Tells 4607182418800017408 1 := ⟨false, 1, 52, rfl, rfl, by decide⟩
theorem tells_two : Tells 4611686018427387904 2 := ⟨false, 2, 51, rfl, rfl, by decide⟩

set_option maxHeartbeats 400000 in
theorem wakes_any (w : World) : Calls Try.prog 9 #[] w fun e w' => e = .returned (.bool true) ∧ Below w.heap.size w w' := by
  go_enter Try.func9, Try.ntmps9
  go_wp2_with fail
  refine (point_yes w 65538 (by decide)).mono ?_
  rintro e w1 ⟨⟨x, y, rfl, t1, t2⟩, rfl⟩
  have e1 : (FloatKind.f64.format.order x 4607182418800017408 == some .eq) = true := t1.eql tells_one
  have e2 : (FloatKind.f64.format.order y 4611686018427387904 == some .eq) = true := t2.eql tells_two
  go_wp2_with fail
  refine (compare_yes w1 1 3 2 6 (by decide) (by decide)).mono ?_
  rintro e w2 ⟨rfl, hb2⟩
  rw [show cmpI (1 * 6) (2 * 3) = 0 from rfl]
  go_wp2_with fail
  refine (compare_yes w2 1 2 1 3 (by decide) (by decide)).mono ?_
  rintro e w3 ⟨rfl, hb3⟩
  rw [show cmpI (1 * 3) (1 * 2) = 1 from rfl]
  go_wp2_with fail
  go_ret
  exact ⟨rfl, hb2.trans (hb3.mono hb2.size)⟩

theorem word_any (w : World) (x : Int) :
    Calls Try.prog 12 #[.int .i64 x] w fun e w' => e = .returned (.bool (decide (0 ≤ x ∧ x ≤ 4294967295))) ∧ w' = w := by
  by_cases h : 0 ≤ x ∧ x ≤ 4294967295
  · obtain ⟨h0, h1⟩ := h
    go_enter Try.func12, Try.ntmps12
    go_wp2
    go_ret
    exact ⟨(decide_eq_true (And.intro h0 h1)).symm ▸ rfl, rfl⟩
  · rcases (show x < 0 ∨ (0 ≤ x ∧ x > 4294967295) by omega) with h0 | ⟨h0, h1⟩
    · go_enter Try.func12, Try.ntmps12
      go_wp2
      go_ret
      exact ⟨(decide_eq_false h).symm ▸ rfl, rfl⟩
    · go_enter Try.func12, Try.ntmps12
      go_wp2
      go_ret
      exact ⟨(decide_eq_false h).symm ▸ congrArg (fun b => Ending.returned (.bool b)) (decide_eq_false (show ¬ x ≤ 4294967295 by omega)), rfl⟩

theorem plain_any (w : World) (x : Int) :
    Calls Try.prog 15 #[.int .i64 x] w fun e w' => e = .returned (.bool (decide (plain x))) ∧ w' = w := by
  by_cases h : 0 ≤ x ∧ x ≤ 2147483647
  · obtain ⟨h0, h1⟩ := h
    go_enter Try.func15, Try.ntmps15
    go_wp2
    go_ret
    exact ⟨(decide_eq_true (show plain x from And.intro h0 h1)).symm ▸ rfl, rfl⟩
  · rcases (show x < 0 ∨ (0 ≤ x ∧ x > 2147483647) by omega) with h0 | ⟨h0, h1⟩
    · go_enter Try.func15, Try.ntmps15
      go_wp2
      go_ret
      exact ⟨(decide_eq_false (show ¬ plain x from h)).symm ▸ rfl, rfl⟩
    · go_enter Try.func15, Try.ntmps15
      go_wp2
      go_ret
      exact ⟨(decide_eq_false (show ¬ plain x from h)).symm ▸ congrArg (fun b => Ending.returned (.bool b)) (decide_eq_false (show ¬ x ≤ 2147483647 by omega)), rfl⟩

theorem rright_any (w : World) (t b : Int) :
    Calls Try.prog 17 #[.int .i64 t, .int .i64 b] w fun e w' => e = .returned (.bool (decide (okF t b))) ∧ w' = w := by
  by_cases ht : plain t
  · by_cases hb : plain b
    · by_cases h0 : b > 0
      · go_enter Try.func17, Try.ntmps17
        go_wp2_with fail
        refine (plain_any _ t).mono ?_
        rintro e w1 ⟨rfl, rfl⟩
        rw [decide_eq_true ht]
        go_wp2_with fail
        refine (plain_any _ b).mono ?_
        rintro e w1 ⟨rfl, rfl⟩
        rw [decide_eq_true hb]
        go_wp2
        go_ret
        exact ⟨(decide_eq_true (show okF t b from ⟨ht, hb, h0⟩)).symm ▸ rfl, rfl⟩
      · have hd : decide (b > 0) = false := decide_eq_false h0
        go_enter Try.func17, Try.ntmps17
        go_wp2_with fail
        refine (plain_any _ t).mono ?_
        rintro e w1 ⟨rfl, rfl⟩
        rw [decide_eq_true ht]
        go_wp2_with fail
        refine (plain_any _ b).mono ?_
        rintro e w1 ⟨rfl, rfl⟩
        rw [decide_eq_true hb]
        go_wp2
        go_ret
        exact ⟨(decide_eq_false (show ¬ okF t b from fun h => absurd h.2.2 (by omega))).symm ▸ rfl, rfl⟩
    · go_enter Try.func17, Try.ntmps17
      go_wp2_with fail
      refine (plain_any _ t).mono ?_
      rintro e w1 ⟨rfl, rfl⟩
      rw [decide_eq_true ht]
      go_wp2_with fail
      refine (plain_any _ b).mono ?_
      rintro e w1 ⟨rfl, rfl⟩
      rw [decide_eq_false hb]
      go_wp2
      go_ret
      exact ⟨(decide_eq_false (show ¬ okF t b from fun h => hb h.2.1)).symm ▸ rfl, rfl⟩
  · go_enter Try.func17, Try.ntmps17
    go_wp2_with fail
    refine (plain_any _ t).mono ?_
    rintro e w1 ⟨rfl, rfl⟩
    rw [decide_eq_false ht]
    go_wp2
    go_ret
    exact ⟨(decide_eq_false (show ¬ okF t b from fun h => ht h.1)).symm ▸ rfl, rfl⟩

theorem prod_wrap (x y : Nat) (hx : x ≤ 2147483647) (hy : y ≤ 2147483647) : wrap64 ((x : Int) * (y : Int)) = ((x * y : Nat) : Int) := by
  have hb : x * y ≤ 4611686014132420609 := Nat.mul_le_mul hx hy
  rw [← Int.natCast_mul]
  unfold wrap64
  omega

theorem rcompare_any (w : World) (t b s c : Nat) (ht : t ≤ 2147483647) (hb : b ≤ 2147483647) (hs : s ≤ 2147483647) (hc : c ≤ 2147483647) :
    Calls Try.prog 19 #[.int .i64 t, .int .i64 b, .int .i64 s, .int .i64 c] w fun e w' => e = .returned (.int .i64 (cmpI (t * c) (s * b))) ∧ w' = w := by
  have q1 := prod_wrap t c ht hc
  have q2 := prod_wrap s b hs hb
  unfold cmpI
  by_cases h : t * c < s * b
  · rw [if_pos h]
    go_enter Try.func19, Try.ntmps19
    go_wp2
    go_ret
    exact ⟨rfl, rfl⟩
  · rw [if_neg h]
    by_cases g : s * b < t * c
    · rw [if_pos g]
      go_enter Try.func19, Try.ntmps19
      go_wp2
      all_goals first | (exfalso; omega) | (go_ret; exact ⟨rfl, rfl⟩)
    · rw [if_neg g]
      go_enter Try.func19, Try.ntmps19
      go_wp2
      all_goals first | (exfalso; omega) | (go_ret; exact ⟨rfl, rfl⟩)
end Go.Proofs.Ytlkaoobdppnebaa
