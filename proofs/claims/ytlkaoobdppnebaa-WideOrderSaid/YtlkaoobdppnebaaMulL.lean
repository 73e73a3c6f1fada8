/-
  What is proved: for all numbers the statement on products returns true, and so does the one on two words' product put together; what they write lies in new memory. No condition.
-/
import Derived.Test.YtlkaoobdppnebaaWake2
namespace Go.Proofs.Ytlkaoobdppnebaa
open Go.RowKit

theorem mul_walk (x y : Int) (w : World) :
    Calls Try.prog 4 #[.int .i64 x, .int .i64 y] w fun e w' => e = .returned (.bool true) ∧ Below w.heap.size w w' := by
  by_cases h : plain x ∧ plain y
  · obtain ⟨hx, hy⟩ := h
    obtain ⟨x, rfl⟩ : ∃ n : Nat, x = n := ⟨x.toNat, by have := hx.1; omega⟩
    obtain ⟨y, rfl⟩ : ∃ n : Nat, y = n := ⟨y.toNat, by have := hy.1; omega⟩
    have q1 := prod_wrap x y (by have := hx.2; omega) (by have := hy.2; omega)
    go_enter Try.func4, Try.ntmps4
    go_wp2_with fail
    refine (wakes_any w).mono ?_
    rintro e w1 ⟨rfl, hb⟩
    go_wp2_with fail
    refine (mul_yes w1 x y (by have := hx.2; omega) (by have := hy.2; omega)).mono ?_
    rintro e w1 ⟨rfl, rfl⟩
    go_wp2_with fail
    refine (plain_any w1 x).mono ?_
    rintro e w1 ⟨rfl, rfl⟩
    rw [decide_eq_true hx]
    go_wp2_with fail
    refine (plain_any w1 y).mono ?_
    rintro e w1 ⟨rfl, rfl⟩
    rw [decide_eq_true hy]
    go_wp2_with fail
    go_ret
    exact ⟨rfl, hb⟩
  · by_cases hx : plain x
    · have hy : ¬ plain y := fun hy => h ⟨hx, hy⟩
      go_enter Try.func4, Try.ntmps4
      go_wp2_with fail
      refine (wakes_any w).mono ?_
      rintro e w1 ⟨rfl, hb⟩
      go_wp2_with fail
      refine (mul_no w1 x y h).mono ?_
      rintro e w1 ⟨rfl, rfl⟩
      go_wp2_with fail
      refine (plain_any w1 x).mono ?_
      rintro e w1 ⟨rfl, rfl⟩
      rw [decide_eq_true hx]
      go_wp2_with fail
      refine (plain_any w1 y).mono ?_
      rintro e w1 ⟨rfl, rfl⟩
      rw [decide_eq_false hy]
      go_wp2_with fail
      go_ret
      exact ⟨rfl, hb⟩
    · go_enter Try.func4, Try.ntmps4
      go_wp2_with fail
      refine (wakes_any w).mono ?_
      rintro e w1 ⟨rfl, hb⟩
      go_wp2_with fail
      refine (mul_no w1 x y h).mono ?_
      rintro e w1 ⟨rfl, rfl⟩
      go_wp2_with fail
      refine (plain_any w1 x).mono ?_
      rintro e w1 ⟨rfl, rfl⟩
      rw [decide_eq_false hx]
      go_wp2_with fail
      go_ret
      exact ⟨rfl, hb⟩

theorem whole_walk (x y : Int) (hx : 0 ≤ x ∧ x ≤ 4294967295) (hy : 0 ≤ y ∧ y ≤ 4294967295) (w : World) :
    Calls Try.prog 7 #[.int .u32 x, .int .u32 y] w fun e w' => e = .returned (.bool true) ∧ Below w.heap.size w w' := by
  obtain ⟨x, rfl⟩ : ∃ n : Nat, x = n := ⟨x.toNat, by omega⟩
  obtain ⟨y, rfl⟩ : ∃ n : Nat, y = n := ⟨y.toNat, by omega⟩
  have hw := whole x y
  go_enter Try.func7, Try.ntmps7
  go_wp2_with fail
  refine (wakes_any w).mono ?_
  rintro e w1 ⟨rfl, hb⟩
  go_wp2_with fail
  refine (parts_yes w1 x y (by omega) (by omega)).mono ?_
  rintro e w1 ⟨rfl, rfl⟩
  have b1 := mul_lt (x / 65536) (y / 65536) (by omega) (by omega)
  have b2 := mul_lt (x / 65536) (y % 65536) (by omega) (by omega)
  have b3 := mul_lt (x % 65536) (y / 65536) (by omega) (by omega)
  have b4 := mul_lt (x % 65536) (y % 65536) (by omega) (by omega)
  have b5 : x / 65536 * (y % 65536) + x % 65536 * (y / 65536) < 8589934592 := by omega
  generalize x / 65536 * (y / 65536) = p1 at *
  generalize x / 65536 * (y % 65536) + x % 65536 * (y / 65536) = p2 at *
  generalize x % 65536 * (y % 65536) = p3 at *
  go_wp2_with fail
  have hxy : x * y ≤ 18446744065119617025 := Nat.mul_le_mul (show x ≤ 4294967295 by omega) (show y ≤ 4294967295 by omega)
  have e1 : IntKind.u64.wrap ((p1 : Int) * 4294967296 + p2 * 65536) = (p1 : Int) * 4294967296 + p2 * 65536 := by
    rw [IntKind.wrap_u64]; omega
  have e2 : (IntKind.u64.wrap ((p1 : Int) * 4294967296 + p2 * 65536 + p3) == IntKind.u64.wrap ((x : Int) * y)) = true := by
    rw [← Int.natCast_mul, ← hw, beq_iff_eq]; rfl
  go_ret
  refine ⟨?_, hb⟩
  show Ending.returned (.bool (IntKind.u64.wrap (IntKind.u64.wrap ((p1 : Int) * 4294967296 + p2 * 65536) + p3) == IntKind.u64.wrap ((x : Int) * y))) = _
  rw [e1, e2]
end Go.Proofs.Ytlkaoobdppnebaa
