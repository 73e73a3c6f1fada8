/-
  What is proved: for all numbers the statement on two words' parts returns true; what it writes lies in new memory. No condition.
-/
import Derived.Test.YtlkaoobdppnebaaMulL
import Derived.Test.YtlkaoobdppnebaaVec
namespace Go.Proofs.Ytlkaoobdppnebaa
open Go.RowKit

theorem eInt : Elt Try.prog 31 3 (.int .i64 0) 1 8 := ⟨Try.underlying31, by kernel_rfl, rfl, by decide⟩

theorem wrap_of (n : Nat) (h : n < 9223372036854775808) : wrap64 (n : Int) = n := by unfold wrap64; omega

set_option maxHeartbeats 400000 in
theorem rparts_of (w : World) (x y a b c d p1 p2 p3 p4 : Nat) (hx : x ≤ 4294967295) (hy : y ≤ 4294967295)
    (hae : x / 65536 = a) (hbe : x % 65536 = b) (hce : y / 65536 = c) (hde : y % 65536 = d) (hp1 : a * c = p1) (hp2 : b * d = p2) (hp3 : a * d = p3) (hp4 : b * c = p4) :
    Calls Try.prog 13 #[.int .i64 x, .int .i64 y] w fun e w' =>
      (∃ A cp, e = .returned (.slice A 3 cp) ∧ Rv w' w'.heap.size A (ints [(p1 : Int), ((p3 + p4 : Nat) : Int), (p2 : Int)])) ∧ Below w.heap.size w w' := by
  have m1 := mul_lt a c (by omega) (by omega)
  have m2 := mul_lt b d (by omega) (by omega)
  have m3 := mul_lt a d (by omega) (by omega)
  have m4 := mul_lt b c (by omega) (by omega)
  rw [hp1] at m1
  rw [hp2] at m2
  rw [hp3] at m3
  rw [hp4] at m4
  have i1 : (x : Int) / 65536 = a := by omega
  have i2 : (x : Int) % 65536 = b := by omega
  have i3 : (y : Int) / 65536 = c := by omega
  have i4 : (y : Int) % 65536 = d := by omega
  go_enter Try.func13, Try.ntmps13
  go_wp2_with (at_builtin; refine wpList_appV eInt rfl _ _ rfl w.heap.size _ 0 [] (ownV_nil _ _ _ _) rfl _ _ 3 3 _ rfl rfl (rv_new w _ _) (by simp [Value.oneCell']) (by unfold maxLen; omega) (by omega) (by rw [World.size_alloc]; omega) ?_; intro v' w2 hown2 hg2)
  go_ret
  have hb2 : Below w.heap.size w w2 := on (below_alloc w _) ((hg2.below (ownV_nil _ _ 0 1) (Nat.le_refl _)))
  obtain ⟨A, cp, rfl, hr, _⟩ := hown2.read
  refine ⟨⟨A, ⟨cp, rfl⟩, ?_⟩, hb2⟩
  rw [← Int.natCast_mul, ← Int.natCast_mul, ← Int.natCast_mul, ← Int.natCast_mul, hp1, hp2, hp3, hp4] at hr
  exact hr

theorem rparts_yes (w : World) (x y : Nat) (hx : x ≤ 4294967295) (hy : y ≤ 4294967295) :
    Calls Try.prog 13 #[.int .i64 x, .int .i64 y] w fun e w' =>
      (∃ A cp, e = .returned (.slice A 3 cp) ∧ Rv w' w'.heap.size A (ints [((x / 65536 * (y / 65536) : Nat) : Int), ((x / 65536 * (y % 65536) + x % 65536 * (y / 65536) : Nat) : Int), ((x % 65536 * (y % 65536) : Nat) : Int)])) ∧ Below w.heap.size w w' :=
  rparts_of w x y _ _ _ _ _ _ _ _ hx hy rfl rfl rfl rfl rfl rfl rfl rfl

set_option maxHeartbeats 1000000 in
theorem parts_walk (x y : Int) (w : World) :
    Calls Try.prog 3 #[.int .i64 x, .int .i64 y] w fun e w' => e = .returned (.bool true) ∧ Below w.heap.size w w' := by
  have ez : (FloatKind.f64.format.order 0 0 == some .eq) = true := tells_zero.eql tells_zero
  by_cases hx : 0 ≤ x ∧ x ≤ 4294967295
  · obtain ⟨x, rfl⟩ : ∃ n : Nat, x = n := ⟨x.toNat, by omega⟩
    by_cases hy : 0 ≤ y ∧ y ≤ 4294967295
    · obtain ⟨y, rfl⟩ : ∃ n : Nat, y = n := ⟨y.toNat, by omega⟩
      obtain ⟨p1, hp1⟩ : ∃ p, x / 65536 * (y / 65536) = p := ⟨_, rfl⟩
      obtain ⟨p2, hp2⟩ : ∃ p, x % 65536 * (y % 65536) = p := ⟨_, rfl⟩
      obtain ⟨p3, hp3⟩ : ∃ p, x / 65536 * (y % 65536) = p := ⟨_, rfl⟩
      obtain ⟨p4, hp4⟩ : ∃ p, x % 65536 * (y / 65536) = p := ⟨_, rfl⟩
      have K1 := fun w => parts_of w x y _ _ _ _ p1 p2 p3 p4 (by omega) (by omega) rfl rfl rfl rfl hp1 hp2 hp3 hp4
      have K2 := fun w => rparts_of w x y _ _ _ _ p1 p2 p3 p4 (by omega) (by omega) rfl rfl rfl rfl hp1 hp2 hp3 hp4
      clear hp1 hp2 hp3 hp4
      go_enter Try.func3, Try.ntmps3
      go_wp2_with fail
      refine (wakes_any w).mono ?_
      rintro e w1 ⟨rfl, hb⟩
      go_wp2_with fail
      refine (K1 w1).mono ?_
      rintro e w1 ⟨rfl, rfl⟩
      go_wp2_with fail
      refine (point_yes w1 x (by omega)).mono ?_
      rintro e w1 ⟨⟨re, im, rfl, t1, t2⟩, rfl⟩
      have o1 : ∀ w, (convert 30 3 (.float .f64 re)).run Try.prog w = .ok (.int .i64 ((x / 65536 : Nat) : Int)) w := fun w => run_convert_float_int w _ _ .f64 .i64 _ _ (by rw [Try.underlying30]; rfl) Try.underlying3 (t1.int (by omega) (by omega))
      have o2 : ∀ w, (convert 30 3 (.float .f64 im)).run Try.prog w = .ok (.int .i64 ((x % 65536 : Nat) : Int)) w := fun w => run_convert_float_int w _ _ .f64 .i64 _ _ (by rw [Try.underlying30]; rfl) Try.underlying3 (t2.int (by omega) (by omega))
      go_wp2_with fail
      refine (word_any w1 x).mono ?_
      rintro e w1 ⟨rfl, rfl⟩
      rw [decide_eq_true hx]
      go_wp2_with fail
      refine (word_any w1 y).mono ?_
      rintro e w1 ⟨rfl, rfl⟩
      rw [decide_eq_true hy]
      go_wp2_with fail
      refine (K2 w1).mono ?_
      rintro e w2 ⟨⟨A, cp, rfl, hr⟩, hb2⟩
      replace hb := on hb hb2
      obtain ⟨ad, rfl, _, c0⟩ := hr 0 _ rfl
      obtain ⟨_, e1, _, c1⟩ := hr 1 _ rfl
      obtain ⟨_, e2, _, c2⟩ := hr 2 _ rfl
      injection e1 with e1
      injection e2 with e2
      subst e1 e2
      clear hr
      replace c0 : w2.cell? ad = some (.int .i64 (p1 : Int)) := c0
      replace c1 : w2.cell? { block := ad.block, off := ad.off + 1 } = some (.int .i64 ((p3 + p4 : Nat) : Int)) := c1
      replace c2 : w2.cell? { block := ad.block, off := ad.off + 2 } = some (.int .i64 (p2 : Int)) := c2
      go_wp2_with fail
      go_ret
      exact ⟨rfl, hb⟩
    · go_enter Try.func3, Try.ntmps3
      go_wp2_with fail
      refine (wakes_any w).mono ?_
      rintro e w1 ⟨rfl, hb⟩
      go_wp2_with fail
      refine (parts_no2 w1 x y (by omega) hy).mono ?_
      rintro e w1 ⟨rfl, rfl⟩
      go_wp2_with fail
      refine (point_yes w1 x (by omega)).mono ?_
      rintro e w1 ⟨⟨re, im, rfl, t1, t2⟩, rfl⟩
      have o1 : ∀ w, (convert 30 3 (.float .f64 re)).run Try.prog w = .ok (.int .i64 ((x / 65536 : Nat) : Int)) w := fun w => run_convert_float_int w _ _ .f64 .i64 _ _ (by rw [Try.underlying30]; rfl) Try.underlying3 (t1.int (by omega) (by omega))
      have o2 : ∀ w, (convert 30 3 (.float .f64 im)).run Try.prog w = .ok (.int .i64 ((x % 65536 : Nat) : Int)) w := fun w => run_convert_float_int w _ _ .f64 .i64 _ _ (by rw [Try.underlying30]; rfl) Try.underlying3 (t2.int (by omega) (by omega))
      go_wp2_with fail
      refine (word_any w1 x).mono ?_
      rintro e w1 ⟨rfl, rfl⟩
      rw [decide_eq_true hx]
      go_wp2_with fail
      refine (word_any w1 y).mono ?_
      rintro e w1 ⟨rfl, rfl⟩
      rw [decide_eq_false hy]
      go_wp2_with fail
      go_ret
      exact ⟨rfl, hb⟩
  · go_enter Try.func3, Try.ntmps3
    go_wp2_with fail
    refine (wakes_any w).mono ?_
    rintro e w1 ⟨rfl, hb⟩
    go_wp2_with fail
    refine (parts_no1 w1 x y hx).mono ?_
    rintro e w1 ⟨rfl, rfl⟩
    go_wp2_with fail
    refine (point_no w1 x hx).mono ?_
    rintro e w1 ⟨rfl, rfl⟩
    go_wp2_with fail
    refine (word_any w1 x).mono ?_
    rintro e w1 ⟨rfl, rfl⟩
    rw [decide_eq_false hx]
    go_wp2_with fail
    go_ret
    exact ⟨rfl, hb⟩
end Go.Proofs.Ytlkaoobdppnebaa
