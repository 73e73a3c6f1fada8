/-
  What is proved: wide's Point answers a word's two halves as floats that tell them exactly, or an error; the mirror image is the point with the other sign of its second part. No condition.
-/
import Derived.Test.YtibppolcchhmaaaK08
import Derived.Below
import Derived.Test.YtibppolcchhmaaaRows
import Derived.WalkKit
import Derived.Deep.QuietTactic
import Derived.BigQuiet
namespace Go.Proofs.Ytibppolcchhmaaa
open Go.RowKit

theorem results_tmp4 {fn : Func} {t u v x : Tmp} (h : fn.results = #[.tmp t, .tmp u, .tmp v, .tmp x]) (tmps : Array Value) (P : Program) (w : World) :
    (results fn tmps).run P w = .ok (.tuple #[tmps.getD t undef, tmps.getD u undef, tmps.getD v undef, tmps.getD x undef]) w := by
  simp [results, h]

theorem and_low (n : Nat) (h : n ≤ 4294967295) : bits BinOp.and IntKind.i64 (n : Int) 65535 = ((n % 65536 : Nat) : Int) := by
  have e : (BitVec.ofInt 64 (n : Int)).toNat = n := by
    rw [BitVec.ofInt_natCast, BitVec.toNat_ofNat, Nat.mod_eq_of_lt]
    simp only [Nat.reducePow]
    omega
  have h2 : n &&& 65535 = n % 65536 := Nat.and_two_pow_sub_one_eq_mod n 16
  show IntKind.i64.wrap ((BitVec.ofInt 64 (n : Int) &&& BitVec.ofInt 64 65535).toNat : Int) = _
  rw [BitVec.toNat_and, e, IntKind.wrap_i64, show (BitVec.ofInt 64 65535).toNat = 65535 from rfl, h2]
  omega

theorem unary_neg_float (k : FloatKind) (b : Nat) : Op.unary .neg (.float k b) = pure (.float k (Op.negFloat k b)) := rfl
attribute [local go_sem] unary_neg_float

theorem point_no (w : World) (n : Int) (h : ¬ (0 ≤ n ∧ n ≤ 4294967295)) :
    Calls Try.prog 78 #[.int .i64 n] w fun e w' => e = .returned (.tuple #[.complex .f64 0 0, .int .i64 3]) ∧ w' = w := by
  rcases (show n < 0 ∨ (¬ n < 0 ∧ n > 4294967295) by omega) with h0 | ⟨h0, h1⟩
  · go_enter Try.func78, Try.ntmps78
    go_wp2
    go_ret2
    exact ⟨rfl, rfl⟩
  · go_enter Try.func78, Try.ntmps78
    go_wp2
    go_ret2
    exact ⟨rfl, rfl⟩

theorem point_yes (w : World) (n : Nat) (h : n ≤ 4294967295) :
    Calls Try.prog 78 #[.int .i64 n] w fun e w' => (∃ x y, e = .returned (.tuple #[.complex .f64 x y, .int .i64 0]) ∧ Tells x (n / 65536 : Nat) ∧ Tells y (n % 65536 : Nat)) ∧ w' = w := by
  have h0 : ¬ ((n : Int) < 0) := by omega
  have h1 : ¬ ((n : Int) > 4294967295) := by omega
  go_enter Try.func78, Try.ntmps78
  go_wp2
  go_ret2
  rw [show bits BinOp.and IntKind.i64 (n : Int) 65535 = ((n % 65536 : Nat) : Int) from and_low n h]
  exact ⟨⟨_, _, rfl, tells_int _ (by omega), tells_int _ (by omega)⟩, rfl⟩

theorem mirror_any (w : World) (x y : Nat) :
    Calls Try.prog 79 #[.complex .f64 x y] w fun e w' => e = .returned (.complex .f64 x (Op.negFloat .f64 y)) ∧ w' = w := by
  go_enter Try.func79, Try.ntmps79
  go_wp2
  go_ret
  exact ⟨rfl, rfl⟩
end Go.Proofs.Ytibppolcchhmaaa
/-
  What is proved: wide's Parts answers the three parts of two words' product, or an error; Mul answers the product of two numbers that it takes, or an error. No condition.
-/
namespace Go.Proofs.Ytibppolcchhmaaa
open Go.RowKit

theorem parts_no1 (w : World) (x y : Int) (h : ¬ (0 ≤ x ∧ x ≤ 4294967295)) :
    Calls Try.prog 75 #[.int .i64 x, .int .i64 y] w fun e w' => e = .returned (.tuple #[.int .i64 0, .int .i64 0, .int .i64 0, .int .i64 3]) ∧ w' = w := by
  go_enter Try.func75, Try.ntmps75
  go_wp2_with fail
  refine (point_no w x h).mono ?_
  rintro e w1 ⟨rfl, rfl⟩
  go_wp2_with fail
  (try simp only [Exit.inBlock, Exit.then])
  refine bodyPost_ret (results_tmp4 rfl _ _ _) rfl ?_
  exact ⟨rfl, rfl⟩

theorem parts_no2 (w : World) (x : Nat) (y : Int) (hx : x ≤ 4294967295) (h : ¬ (0 ≤ y ∧ y ≤ 4294967295)) :
    Calls Try.prog 75 #[.int .i64 x, .int .i64 y] w fun e w' => e = .returned (.tuple #[.int .i64 0, .int .i64 0, .int .i64 0, .int .i64 3]) ∧ w' = w := by
  go_enter Try.func75, Try.ntmps75
  go_wp2_with fail
  refine (point_yes w x hx).mono ?_
  rintro e w1 ⟨⟨x1, x2, rfl, t1, t2⟩, rfl⟩
  go_wp2_with fail
  refine (point_no w1 y h).mono ?_
  rintro e w1 ⟨rfl, rfl⟩
  go_wp2_with fail
  (try simp only [Exit.inBlock, Exit.then])
  refine bodyPost_ret (results_tmp4 rfl _ _ _) rfl ?_
  exact ⟨rfl, rfl⟩

theorem mul_lt (a b : Nat) (ha : a < 65536) (hb : b < 65536) : a * b < 4294967296 := by
  have := Nat.mul_le_mul (show a ≤ 65535 by omega) (show b ≤ 65535 by omega)
  omega

theorem small_prod (a b : Nat) (ha : a < 65536) (hb : b < 65536) : ((a : Int) * (b : Int)).natAbs < 2 ^ 52 := by
  rw [Int.natAbs_mul, Int.natAbs_natCast, Int.natAbs_natCast]
  have := mul_lt a b ha hb
  simp only [Nat.reducePow]
  omega

set_option maxHeartbeats 400000 in
theorem parts_of (w : World) (x y a b c d p1 p2 p3 p4 : Nat) (hx : x ≤ 4294967295) (hy : y ≤ 4294967295)
    (hae : x / 65536 = a) (hbe : x % 65536 = b) (hce : y / 65536 = c) (hde : y % 65536 = d) (hp1 : a * c = p1) (hp2 : b * d = p2) (hp3 : a * d = p3) (hp4 : b * c = p4) :
    Calls Try.prog 75 #[.int .i64 x, .int .i64 y] w fun e w' =>
      e = .returned (.tuple #[.int .i64 (p1 : Nat), .int .i64 (p3 + p4 : Nat), .int .i64 (p2 : Nat), .int .i64 0]) ∧ w' = w := by
  go_enter Try.func75, Try.ntmps75
  go_wp2_with fail
  refine (point_yes w x hx).mono ?_
  rintro e w1 ⟨⟨x1, x2, rfl, t1, t2⟩, rfl⟩
  go_wp2_with fail
  refine (point_yes w1 y hy).mono ?_
  rintro e w1 ⟨⟨y1, y2, rfl, u1, u2⟩, rfl⟩
  have ha : a < 65536 := by omega
  have hb : b < 65536 := by omega
  have hc : c < 65536 := by omega
  have hd : d < 65536 := by omega
  rw [hae] at t1
  rw [hbe] at t2
  rw [hce] at u1
  rw [hde] at u2
  have s1 := small_prod a c ha hc
  have s2 := small_prod b d hb hd
  have s3 := small_prod a d ha hd
  have s4 := small_prod b c hb hc
  have s5 : ((b : Int) * -(d : Int)).natAbs < 2 ^ 52 := by rw [Int.mul_neg, Int.natAbs_neg]; exact s2
  have s6 : ((a : Int) * -(d : Int)).natAbs < 2 ^ 52 := by rw [Int.mul_neg, Int.natAbs_neg]; exact s3
  have m1 := mul_lt a c ha hc
  have m2 := mul_lt b d hb hd
  have m3 := mul_lt a d ha hd
  have m4 := mul_lt b c hb hc
  obtain ⟨re, im, e1, v1, v2⟩ := t1.cmul t2 u1 u2 s1 s2 s3 s4
  obtain ⟨re', im', e2, v3, v4⟩ := t1.cmul t2 u1 u2.neg s1 s5 s6 s4
  rw [Int.mul_neg, Int.sub_neg] at v3
  simp only [← Int.natCast_mul, ← Int.natCast_add, hp1, hp2, hp3, hp4] at v1 v2 v3 m1 m2 m3 m4
  have c1 := v1.int (by omega) (by omega)
  have c2 := v2.int (by omega) (by omega)
  have c3 := v3.int (by omega) (by omega)
  have o1 := fun t w => run_complex_mul (P := Try.prog) w t _ _ _ _ _ _ e1
  have o2 := fun t w => run_complex_mul (P := Try.prog) w t _ _ _ _ _ _ e2
  have o3 : ∀ w, (convert 121 3 (.float .f64 re)).run Try.prog w = .ok (.int .i64 ((p1 : Int) - (p2 : Int))) w := fun w => run_convert_float_int w _ _ .f64 .i64 _ _ (by rw [Try.underlying121]; rfl) Try.underlying3 c1
  have o4 : ∀ w, (convert 121 3 (.float .f64 im)).run Try.prog w = .ok (.int .i64 ((p3 + p4 : Nat) : Int)) w := fun w => run_convert_float_int w _ _ .f64 .i64 _ _ (by rw [Try.underlying121]; rfl) Try.underlying3 c2
  have o5 : ∀ w, (convert 121 3 (.float .f64 re')).run Try.prog w = .ok (.int .i64 ((p1 + p2 : Nat) : Int)) w := fun w => run_convert_float_int w _ _ .f64 .i64 _ _ (by rw [Try.underlying121]; rfl) Try.underlying3 c3
  clear t1 t2 u1 u2 v1 v2 v3 v4 e1 e2 c1 c2 c3 s1 s2 s3 s4 s5 s6 hp1 hp2 hp3 hp4 hae hbe hce hde ha hb hc hd
  go_wp2_with fail
  refine (mirror_any w1 y1 y2).mono ?_
  rintro e w1 ⟨rfl, rfl⟩
  go_wp2_with fail
  (try simp only [Exit.inBlock, Exit.then])
  refine bodyPost_ret (results_tmp4 rfl _ _ _) rfl ?_
  refine ⟨?_, rfl⟩
  have q1 : ((p1 : Int) + p2 + (p1 - p2)) / 2 = p1 := by omega
  have q2 : ((p1 : Int) + p2 - (p1 - p2)) / 2 = p2 := by omega
  simp only [Array.getD_eq_getD_getElem?, List.getElem?_toArray, List.getElem?_cons_succ, List.getElem?_cons_zero, Option.getD_some, q1, q2, Int.natCast_add]

theorem parts_yes (w : World) (x y : Nat) (hx : x ≤ 4294967295) (hy : y ≤ 4294967295) :
    Calls Try.prog 75 #[.int .i64 x, .int .i64 y] w fun e w' =>
      e = .returned (.tuple #[.int .i64 (x / 65536 * (y / 65536) : Nat), .int .i64 (x / 65536 * (y % 65536) + x % 65536 * (y / 65536) : Nat), .int .i64 (x % 65536 * (y % 65536) : Nat), .int .i64 0]) ∧ w' = w :=
  parts_of w x y _ _ _ _ _ _ _ _ hx hy rfl rfl rfl rfl rfl rfl rfl rfl

theorem factor_any (w : World) (x : Int) :
    Calls Try.prog 69 #[.int .i64 x] w fun e w' => e = .returned (.bool (decide (0 ≤ x ∧ x ≤ 2147483647))) ∧ w' = w := by
  by_cases h : 0 ≤ x ∧ x ≤ 2147483647
  · obtain ⟨h0, h1⟩ := h
    go_enter Try.func69, Try.ntmps69
    go_wp2
    go_ret
    exact ⟨(decide_eq_true (And.intro h0 h1)).symm ▸ rfl, rfl⟩
  · rcases (show x < 0 ∨ (0 ≤ x ∧ x > 2147483647) by omega) with h0 | ⟨h0, h1⟩
    · go_enter Try.func69, Try.ntmps69
      go_wp2
      go_ret
      exact ⟨(decide_eq_false h).symm ▸ rfl, rfl⟩
    · go_enter Try.func69, Try.ntmps69
      go_wp2
      go_ret
      exact ⟨(decide_eq_false h).symm ▸ congrArg (fun b => Ending.returned (.bool b)) (decide_eq_false (show ¬ x ≤ 2147483647 by omega)), rfl⟩

theorem mul_no (w : World) (x y : Int) (h : ¬ ((0 ≤ x ∧ x ≤ 2147483647) ∧ (0 ≤ y ∧ y ≤ 2147483647))) :
    Calls Try.prog 71 #[.int .i64 x, .int .i64 y] w fun e w' => e = .returned (.tuple #[.int .i64 0, .int .i64 3]) ∧ w' = w := by
  by_cases h0 : 0 ≤ x ∧ x ≤ 2147483647
  · have h1 : ¬ (0 ≤ y ∧ y ≤ 2147483647) := fun h1 => h ⟨h0, h1⟩
    go_enter Try.func71, Try.ntmps71
    go_wp2_with fail
    refine (factor_any w x).mono ?_
    rintro e w1 ⟨rfl, rfl⟩
    rw [decide_eq_true h0]
    go_wp2_with fail
    refine (factor_any w1 y).mono ?_
    rintro e w1 ⟨rfl, rfl⟩
    rw [decide_eq_false h1]
    go_wp2
    go_ret2
    exact ⟨rfl, rfl⟩
  · go_enter Try.func71, Try.ntmps71
    go_wp2_with fail
    refine (factor_any w x).mono ?_
    rintro e w1 ⟨rfl, rfl⟩
    rw [decide_eq_false h0]
    go_wp2_with fail
    go_ret2
    exact ⟨rfl, rfl⟩

theorem whole (x y : Nat) : x / 65536 * (y / 65536) * 4294967296 + (x / 65536 * (y % 65536) + x % 65536 * (y / 65536)) * 65536 + x % 65536 * (y % 65536) = x * y := by
  have e1 : x = 65536 * (x / 65536) + x % 65536 := by omega
  have e2 : y = 65536 * (y / 65536) + y % 65536 := by omega
  generalize x / 65536 = a at *
  generalize x % 65536 = b at *
  generalize y / 65536 = c at *
  generalize y % 65536 = d at *
  subst e1 e2
  simp only [Nat.add_mul, Nat.mul_add, Nat.mul_assoc, Nat.mul_comm, Nat.mul_left_comm, Nat.reduceMul]
  omega

theorem mul_yes (w : World) (x y : Nat) (hx : x ≤ 2147483647) (hy : y ≤ 2147483647) :
    Calls Try.prog 71 #[.int .i64 x, .int .i64 y] w fun e w' => e = .returned (.tuple #[.int .i64 (x * y : Nat), .int .i64 0]) ∧ w' = w := by
  have h0 : (0 : Int) ≤ (x : Int) ∧ (x : Int) ≤ 2147483647 := by omega
  have h1 : (0 : Int) ≤ (y : Int) ∧ (y : Int) ≤ 2147483647 := by omega
  have hw := whole x y
  have hb : x * y ≤ 4611686014132420609 := Nat.mul_le_mul hx hy
  go_enter Try.func71, Try.ntmps71
  go_wp2_with fail
  refine (factor_any w x).mono ?_
  rintro e w1 ⟨rfl, rfl⟩
  rw [decide_eq_true h0]
  go_wp2_with fail
  refine (factor_any w1 y).mono ?_
  rintro e w1 ⟨rfl, rfl⟩
  rw [decide_eq_true h1]
  go_wp2_with fail
  refine (parts_yes w1 x y (by omega) (by omega)).mono ?_
  rintro e w1 ⟨rfl, rfl⟩
  generalize x / 65536 * (y / 65536) = p1 at *
  generalize x / 65536 * (y % 65536) + x % 65536 * (y / 65536) = p2 at *
  generalize x % 65536 * (y % 65536) = p3 at *
  go_wp2_with fail
  go_ret2
  refine ⟨?_, rfl⟩
  show Ending.returned (.tuple #[.int .i64 ((p1 : Int) * 4294967296 + p2 * 65536 + p3), .int .i64 0]) = _
  rw [← hw]
  rfl
end Go.Proofs.Ytibppolcchhmaaa
