/-
  What is proved: wide's Point answers a word's two halves as floats that tell them exactly, or an error; the mirror image is the point with the other sign of its second part. No condition.
-/
import Derived.Test.YtcibhmbneedghaaFloat
import Derived.Below
import Derived.Test.YtcibhmbneedghaaRows
import Derived.WalkKit
import Derived.Deep.QuietTactic
import Derived.BigQuiet
namespace Go.Proofs.Ytcibhmbneedghaa
open Go.RowKit

theorem results_tmp4 {fn : Func} {t u v x : Tmp} (h : fn.results = #[.tmp t, .tmp u, .tmp v, .tmp x]) (tmps : Array Value) (P : Program) (w : World) :
    (results fn tmps).run P w = .ok (.tuple #[tmps.getD t undef, tmps.getD u undef, tmps.getD v undef, tmps.getD x undef]) w := by
  simp [results, h]

theorem and_low (n : Nat) (h : n ≤ 4294967295) : bits BinOp.and IntKind.i64 (n : Int) 65535 = ((n % 65536 : Nat) : Int) := by
  have e : (BitVec.ofInt 64 (n : Int)).toNat = n := by
    rw [BitVec.ofInt_natCast, BitVec.toNat_ofNat, Nat.mod_eq_of_lt]
    simp only [Nat.reducePow]
    omega
  have h2 : n &&& 65535 = n % 65536 := Nat.and_two_pow_sub_one_eq_mod n 16
  show IntKind.i64.wrap ((BitVec.ofInt 64 (n : Int) &&& BitVec.ofInt 64 65535).toNat : Int) = _
  rw [BitVec.toNat_and, e, IntKind.wrap_i64, show (BitVec.ofInt 64 65535).toNat = 65535 from rfl, h2]
  omega

theorem unary_neg_float (k : FloatKind) (b : Nat) : Op.unary .neg (.float k b) = pure (.float k (Op.negFloat k b)) := rfl
attribute [local go_sem] unary_neg_float

theorem point_no (w : World) (n : Int) (h : ¬ (0 ≤ n ∧ n ≤ 4294967295)) :
    Calls Try.prog 63 #[.int .i64 n] w fun e w' => e = .returned (.tuple #[.complex .f64 0 0, .int .i64 3]) ∧ w' = w := by
  rcases (show n < 0 ∨ (¬ n < 0 ∧ n > 4294967295) by omega) with h0 | ⟨h0, h1⟩
  · go_enter Try.func63, Try.ntmps63
    go_wp2
    go_ret2
    exact ⟨rfl, rfl⟩
  · go_enter Try.func63, Try.ntmps63
    go_wp2
    go_ret2
    exact ⟨rfl, rfl⟩

theorem point_yes (w : World) (n : Nat) (h : n ≤ 4294967295) :
    Calls Try.prog 63 #[.int .i64 n] w fun e w' => (∃ x y, e = .returned (.tuple #[.complex .f64 x y, .int .i64 0]) ∧ Tells x (n / 65536 : Nat) ∧ Tells y (n % 65536 : Nat)) ∧ w' = w := by
  have h0 : ¬ ((n : Int) < 0) := by omega
  have h1 : ¬ ((n : Int) > 4294967295) := by omega
  go_enter Try.func63, Try.ntmps63
  go_wp2
  go_ret2
  rw [show bits BinOp.and IntKind.i64 (n : Int) 65535 = ((n % 65536 : Nat) : Int) from and_low n h]
  exact ⟨⟨_, _, rfl, tells_int _ (by omega), tells_int _ (by omega)⟩, rfl⟩

theorem mirror_any (w : World) (x y : Nat) :
    Calls Try.prog 64 #[.complex .f64 x y] w fun e w' => e = .returned (.complex .f64 x (Op.negFloat .f64 y)) ∧ w' = w := by
  go_enter Try.func64, Try.ntmps64
  go_wp2
  go_ret
  exact ⟨rfl, rfl⟩
end Go.Proofs.Ytcibhmbneedghaa
