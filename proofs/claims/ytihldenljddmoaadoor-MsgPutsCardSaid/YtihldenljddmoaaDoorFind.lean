/-
  What is proved: msg's find answers the place of the first field, from one on, that is among the bits; it writes new memory alone. Condition: the bits are those of a kind, or all.
-/
import Derived.Test.YtihldenljddmoaaDoorRows
import Derived.Test.YtihldenljddmoaaDoorBase
import Derived.Test.YtihldenljddmoaaDoorMath4
import Derived.Test.YtihldenljddmoaaDoorBitU
namespace Go.Proofs.YtihldenljddmoaaDoor
open Go.RowKit

def pin (b : Bool) (g f : Nat) : Value := .pointer (if b then some ⟨g, f, none⟩ else none)
/-- the cells of a place of the message at block g: which field, where, the most -/
def pcl (g f : Nat) (m : Int) : Array Value := #[.int .i64 f, pin (1 ≤ f ∧ f ≤ 7 : Bool) g f, pin (f == 8) g f, pin (f == 9) g f, pin (f == 10) g f, .int .i64 m]

theorem nx_y {x : Nat} (k : Nat) (hk : k ≤ 10) (h : x.testBit k = true) : nx x k = k := by
  unfold nx
  rw [show 11 - k = (10 - k) + 1 by omega, nxF, if_pos h]
theorem nx_n {x : Nat} (k : Nat) (hk : k ≤ 10) (h : x.testBit k = false) : nx x k = nx x (k + 1) := by
  unfold nx
  rw [show 11 - k = (10 - k) + 1 by omega, nxF, h, if_neg (by simp), show 11 - (k + 1) = 10 - k by omega]

set_option maxRecDepth 100000 in
set_option maxHeartbeats 4000000 in
theorem find_1 (g x : Nat) (hx : x < 9223372036854775808) (w : World) :
    Calls Tryd.prog 31 #[.pointer (some ⟨g, 0, none⟩), .int .u64 x, .int .i64 (1 : Nat)] w fun e w' => e = .returned (.agg (pcl g (nx x 1) (mo (nx x 1)))) ∧ Below w.heap.size w w' := by
  go_enter Tryd.func31, Tryd.ntmps31
  go_wp2_with fail
  all_goals
    refine bodyPost_ret (results_new' rfl _ _ rfl _ _ Tryd.underlying55 rfl (by kernel_rfl)) rfl ?_
    refine ⟨?_, below_alloc w _⟩
    repeat (first
      | rw [nx_y 1 (by omega) ((bit_yes 1 hx (by omega)).symm.trans ‹(bits BinOp.and IntKind.u64 (x : Int) 2 != 0) = true›)]
      | rw [nx_n 1 (by omega) ((bit_yes 1 hx (by omega)).symm.trans ‹(bits BinOp.and IntKind.u64 (x : Int) 2 != 0) = false›)]
      | rw [nx_y 2 (by omega) ((bit_yes 2 hx (by omega)).symm.trans ‹(bits BinOp.and IntKind.u64 (x : Int) 4 != 0) = true›)]
      | rw [nx_n 2 (by omega) ((bit_yes 2 hx (by omega)).symm.trans ‹(bits BinOp.and IntKind.u64 (x : Int) 4 != 0) = false›)]
      | rw [nx_y 3 (by omega) ((bit_yes 3 hx (by omega)).symm.trans ‹(bits BinOp.and IntKind.u64 (x : Int) 8 != 0) = true›)]
      | rw [nx_n 3 (by omega) ((bit_yes 3 hx (by omega)).symm.trans ‹(bits BinOp.and IntKind.u64 (x : Int) 8 != 0) = false›)]
      | rw [nx_y 4 (by omega) ((bit_yes 4 hx (by omega)).symm.trans ‹(bits BinOp.and IntKind.u64 (x : Int) 16 != 0) = true›)]
      | rw [nx_n 4 (by omega) ((bit_yes 4 hx (by omega)).symm.trans ‹(bits BinOp.and IntKind.u64 (x : Int) 16 != 0) = false›)]
      | rw [nx_y 5 (by omega) ((bit_yes 5 hx (by omega)).symm.trans ‹(bits BinOp.and IntKind.u64 (x : Int) 32 != 0) = true›)]
      | rw [nx_n 5 (by omega) ((bit_yes 5 hx (by omega)).symm.trans ‹(bits BinOp.and IntKind.u64 (x : Int) 32 != 0) = false›)]
      | rw [nx_y 6 (by omega) ((bit_yes 6 hx (by omega)).symm.trans ‹(bits BinOp.and IntKind.u64 (x : Int) 64 != 0) = true›)]
      | rw [nx_n 6 (by omega) ((bit_yes 6 hx (by omega)).symm.trans ‹(bits BinOp.and IntKind.u64 (x : Int) 64 != 0) = false›)]
      | rw [nx_y 7 (by omega) ((bit_yes 7 hx (by omega)).symm.trans ‹(bits BinOp.and IntKind.u64 (x : Int) 128 != 0) = true›)]
      | rw [nx_n 7 (by omega) ((bit_yes 7 hx (by omega)).symm.trans ‹(bits BinOp.and IntKind.u64 (x : Int) 128 != 0) = false›)]
      | rw [nx_y 8 (by omega) ((bit_yes 8 hx (by omega)).symm.trans ‹(bits BinOp.and IntKind.u64 (x : Int) 256 != 0) = true›)]
      | rw [nx_n 8 (by omega) ((bit_yes 8 hx (by omega)).symm.trans ‹(bits BinOp.and IntKind.u64 (x : Int) 256 != 0) = false›)]
      | rw [nx_y 9 (by omega) ((bit_yes 9 hx (by omega)).symm.trans ‹(bits BinOp.and IntKind.u64 (x : Int) 512 != 0) = true›)]
      | rw [nx_n 9 (by omega) ((bit_yes 9 hx (by omega)).symm.trans ‹(bits BinOp.and IntKind.u64 (x : Int) 512 != 0) = false›)]
      | rw [nx_y 10 (by omega) ((bit_yes 10 hx (by omega)).symm.trans ‹(bits BinOp.and IntKind.u64 (x : Int) 1024 != 0) = true›)]
      | rw [nx_n 10 (by omega) ((bit_yes 10 hx (by omega)).symm.trans ‹(bits BinOp.and IntKind.u64 (x : Int) 1024 != 0) = false›)])
    rfl
set_option maxRecDepth 100000 in
set_option maxHeartbeats 4000000 in
theorem find_2 (g x : Nat) (hx : x < 9223372036854775808) (w : World) :
    Calls Tryd.prog 31 #[.pointer (some ⟨g, 0, none⟩), .int .u64 x, .int .i64 (2 : Nat)] w fun e w' => e = .returned (.agg (pcl g (nx x 2) (mo (nx x 2)))) ∧ Below w.heap.size w w' := by
  go_enter Tryd.func31, Tryd.ntmps31
  go_wp2_with fail
  all_goals
    refine bodyPost_ret (results_new' rfl _ _ rfl _ _ Tryd.underlying55 rfl (by kernel_rfl)) rfl ?_
    refine ⟨?_, below_alloc w _⟩
    repeat (first
      | rw [nx_y 2 (by omega) ((bit_yes 2 hx (by omega)).symm.trans ‹(bits BinOp.and IntKind.u64 (x : Int) 4 != 0) = true›)]
      | rw [nx_n 2 (by omega) ((bit_yes 2 hx (by omega)).symm.trans ‹(bits BinOp.and IntKind.u64 (x : Int) 4 != 0) = false›)]
      | rw [nx_y 3 (by omega) ((bit_yes 3 hx (by omega)).symm.trans ‹(bits BinOp.and IntKind.u64 (x : Int) 8 != 0) = true›)]
      | rw [nx_n 3 (by omega) ((bit_yes 3 hx (by omega)).symm.trans ‹(bits BinOp.and IntKind.u64 (x : Int) 8 != 0) = false›)]
      | rw [nx_y 4 (by omega) ((bit_yes 4 hx (by omega)).symm.trans ‹(bits BinOp.and IntKind.u64 (x : Int) 16 != 0) = true›)]
      | rw [nx_n 4 (by omega) ((bit_yes 4 hx (by omega)).symm.trans ‹(bits BinOp.and IntKind.u64 (x : Int) 16 != 0) = false›)]
      | rw [nx_y 5 (by omega) ((bit_yes 5 hx (by omega)).symm.trans ‹(bits BinOp.and IntKind.u64 (x : Int) 32 != 0) = true›)]
      | rw [nx_n 5 (by omega) ((bit_yes 5 hx (by omega)).symm.trans ‹(bits BinOp.and IntKind.u64 (x : Int) 32 != 0) = false›)]
      | rw [nx_y 6 (by omega) ((bit_yes 6 hx (by omega)).symm.trans ‹(bits BinOp.and IntKind.u64 (x : Int) 64 != 0) = true›)]
      | rw [nx_n 6 (by omega) ((bit_yes 6 hx (by omega)).symm.trans ‹(bits BinOp.and IntKind.u64 (x : Int) 64 != 0) = false›)]
      | rw [nx_y 7 (by omega) ((bit_yes 7 hx (by omega)).symm.trans ‹(bits BinOp.and IntKind.u64 (x : Int) 128 != 0) = true›)]
      | rw [nx_n 7 (by omega) ((bit_yes 7 hx (by omega)).symm.trans ‹(bits BinOp.and IntKind.u64 (x : Int) 128 != 0) = false›)]
      | rw [nx_y 8 (by omega) ((bit_yes 8 hx (by omega)).symm.trans ‹(bits BinOp.and IntKind.u64 (x : Int) 256 != 0) = true›)]
      | rw [nx_n 8 (by omega) ((bit_yes 8 hx (by omega)).symm.trans ‹(bits BinOp.and IntKind.u64 (x : Int) 256 != 0) = false›)]
      | rw [nx_y 9 (by omega) ((bit_yes 9 hx (by omega)).symm.trans ‹(bits BinOp.and IntKind.u64 (x : Int) 512 != 0) = true›)]
      | rw [nx_n 9 (by omega) ((bit_yes 9 hx (by omega)).symm.trans ‹(bits BinOp.and IntKind.u64 (x : Int) 512 != 0) = false›)]
      | rw [nx_y 10 (by omega) ((bit_yes 10 hx (by omega)).symm.trans ‹(bits BinOp.and IntKind.u64 (x : Int) 1024 != 0) = true›)]
      | rw [nx_n 10 (by omega) ((bit_yes 10 hx (by omega)).symm.trans ‹(bits BinOp.and IntKind.u64 (x : Int) 1024 != 0) = false›)])
    rfl
set_option maxRecDepth 100000 in
set_option maxHeartbeats 4000000 in
theorem find_3 (g x : Nat) (hx : x < 9223372036854775808) (w : World) :
    Calls Tryd.prog 31 #[.pointer (some ⟨g, 0, none⟩), .int .u64 x, .int .i64 (3 : Nat)] w fun e w' => e = .returned (.agg (pcl g (nx x 3) (mo (nx x 3)))) ∧ Below w.heap.size w w' := by
  go_enter Tryd.func31, Tryd.ntmps31
  go_wp2_with fail
  all_goals
    refine bodyPost_ret (results_new' rfl _ _ rfl _ _ Tryd.underlying55 rfl (by kernel_rfl)) rfl ?_
    refine ⟨?_, below_alloc w _⟩
    repeat (first
      | rw [nx_y 3 (by omega) ((bit_yes 3 hx (by omega)).symm.trans ‹(bits BinOp.and IntKind.u64 (x : Int) 8 != 0) = true›)]
      | rw [nx_n 3 (by omega) ((bit_yes 3 hx (by omega)).symm.trans ‹(bits BinOp.and IntKind.u64 (x : Int) 8 != 0) = false›)]
      | rw [nx_y 4 (by omega) ((bit_yes 4 hx (by omega)).symm.trans ‹(bits BinOp.and IntKind.u64 (x : Int) 16 != 0) = true›)]
      | rw [nx_n 4 (by omega) ((bit_yes 4 hx (by omega)).symm.trans ‹(bits BinOp.and IntKind.u64 (x : Int) 16 != 0) = false›)]
      | rw [nx_y 5 (by omega) ((bit_yes 5 hx (by omega)).symm.trans ‹(bits BinOp.and IntKind.u64 (x : Int) 32 != 0) = true›)]
      | rw [nx_n 5 (by omega) ((bit_yes 5 hx (by omega)).symm.trans ‹(bits BinOp.and IntKind.u64 (x : Int) 32 != 0) = false›)]
      | rw [nx_y 6 (by omega) ((bit_yes 6 hx (by omega)).symm.trans ‹(bits BinOp.and IntKind.u64 (x : Int) 64 != 0) = true›)]
      | rw [nx_n 6 (by omega) ((bit_yes 6 hx (by omega)).symm.trans ‹(bits BinOp.and IntKind.u64 (x : Int) 64 != 0) = false›)]
      | rw [nx_y 7 (by omega) ((bit_yes 7 hx (by omega)).symm.trans ‹(bits BinOp.and IntKind.u64 (x : Int) 128 != 0) = true›)]
      | rw [nx_n 7 (by omega) ((bit_yes 7 hx (by omega)).symm.trans ‹(bits BinOp.and IntKind.u64 (x : Int) 128 != 0) = false›)]
      | rw [nx_y 8 (by omega) ((bit_yes 8 hx (by omega)).symm.trans ‹(bits BinOp.and IntKind.u64 (x : Int) 256 != 0) = true›)]
      | rw [nx_n 8 (by omega) ((bit_yes 8 hx (by omega)).symm.trans ‹(bits BinOp.and IntKind.u64 (x : Int) 256 != 0) = false›)]
      | rw [nx_y 9 (by omega) ((bit_yes 9 hx (by omega)).symm.trans ‹(bits BinOp.and IntKind.u64 (x : Int) 512 != 0) = true›)]
      | rw [nx_n 9 (by omega) ((bit_yes 9 hx (by omega)).symm.trans ‹(bits BinOp.and IntKind.u64 (x : Int) 512 != 0) = false›)]
      | rw [nx_y 10 (by omega) ((bit_yes 10 hx (by omega)).symm.trans ‹(bits BinOp.and IntKind.u64 (x : Int) 1024 != 0) = true›)]
      | rw [nx_n 10 (by omega) ((bit_yes 10 hx (by omega)).symm.trans ‹(bits BinOp.and IntKind.u64 (x : Int) 1024 != 0) = false›)])
    rfl
set_option maxRecDepth 100000 in
set_option maxHeartbeats 4000000 in
theorem find_4 (g x : Nat) (hx : x < 9223372036854775808) (w : World) :
    Calls Tryd.prog 31 #[.pointer (some ⟨g, 0, none⟩), .int .u64 x, .int .i64 (4 : Nat)] w fun e w' => e = .returned (.agg (pcl g (nx x 4) (mo (nx x 4)))) ∧ Below w.heap.size w w' := by
  go_enter Tryd.func31, Tryd.ntmps31
  go_wp2_with fail
  all_goals
    refine bodyPost_ret (results_new' rfl _ _ rfl _ _ Tryd.underlying55 rfl (by kernel_rfl)) rfl ?_
    refine ⟨?_, below_alloc w _⟩
    repeat (first
      | rw [nx_y 4 (by omega) ((bit_yes 4 hx (by omega)).symm.trans ‹(bits BinOp.and IntKind.u64 (x : Int) 16 != 0) = true›)]
      | rw [nx_n 4 (by omega) ((bit_yes 4 hx (by omega)).symm.trans ‹(bits BinOp.and IntKind.u64 (x : Int) 16 != 0) = false›)]
      | rw [nx_y 5 (by omega) ((bit_yes 5 hx (by omega)).symm.trans ‹(bits BinOp.and IntKind.u64 (x : Int) 32 != 0) = true›)]
      | rw [nx_n 5 (by omega) ((bit_yes 5 hx (by omega)).symm.trans ‹(bits BinOp.and IntKind.u64 (x : Int) 32 != 0) = false›)]
      | rw [nx_y 6 (by omega) ((bit_yes 6 hx (by omega)).symm.trans ‹(bits BinOp.and IntKind.u64 (x : Int) 64 != 0) = true›)]
      | rw [nx_n 6 (by omega) ((bit_yes 6 hx (by omega)).symm.trans ‹(bits BinOp.and IntKind.u64 (x : Int) 64 != 0) = false›)]
      | rw [nx_y 7 (by omega) ((bit_yes 7 hx (by omega)).symm.trans ‹(bits BinOp.and IntKind.u64 (x : Int) 128 != 0) = true›)]
      | rw [nx_n 7 (by omega) ((bit_yes 7 hx (by omega)).symm.trans ‹(bits BinOp.and IntKind.u64 (x : Int) 128 != 0) = false›)]
      | rw [nx_y 8 (by omega) ((bit_yes 8 hx (by omega)).symm.trans ‹(bits BinOp.and IntKind.u64 (x : Int) 256 != 0) = true›)]
      | rw [nx_n 8 (by omega) ((bit_yes 8 hx (by omega)).symm.trans ‹(bits BinOp.and IntKind.u64 (x : Int) 256 != 0) = false›)]
      | rw [nx_y 9 (by omega) ((bit_yes 9 hx (by omega)).symm.trans ‹(bits BinOp.and IntKind.u64 (x : Int) 512 != 0) = true›)]
      | rw [nx_n 9 (by omega) ((bit_yes 9 hx (by omega)).symm.trans ‹(bits BinOp.and IntKind.u64 (x : Int) 512 != 0) = false›)]
      | rw [nx_y 10 (by omega) ((bit_yes 10 hx (by omega)).symm.trans ‹(bits BinOp.and IntKind.u64 (x : Int) 1024 != 0) = true›)]
      | rw [nx_n 10 (by omega) ((bit_yes 10 hx (by omega)).symm.trans ‹(bits BinOp.and IntKind.u64 (x : Int) 1024 != 0) = false›)])
    rfl
set_option maxRecDepth 100000 in
set_option maxHeartbeats 4000000 in
theorem find_5 (g x : Nat) (hx : x < 9223372036854775808) (w : World) :
    Calls Tryd.prog 31 #[.pointer (some ⟨g, 0, none⟩), .int .u64 x, .int .i64 (5 : Nat)] w fun e w' => e = .returned (.agg (pcl g (nx x 5) (mo (nx x 5)))) ∧ Below w.heap.size w w' := by
  go_enter Tryd.func31, Tryd.ntmps31
  go_wp2_with fail
  all_goals
    refine bodyPost_ret (results_new' rfl _ _ rfl _ _ Tryd.underlying55 rfl (by kernel_rfl)) rfl ?_
    refine ⟨?_, below_alloc w _⟩
    repeat (first
      | rw [nx_y 5 (by omega) ((bit_yes 5 hx (by omega)).symm.trans ‹(bits BinOp.and IntKind.u64 (x : Int) 32 != 0) = true›)]
      | rw [nx_n 5 (by omega) ((bit_yes 5 hx (by omega)).symm.trans ‹(bits BinOp.and IntKind.u64 (x : Int) 32 != 0) = false›)]
      | rw [nx_y 6 (by omega) ((bit_yes 6 hx (by omega)).symm.trans ‹(bits BinOp.and IntKind.u64 (x : Int) 64 != 0) = true›)]
      | rw [nx_n 6 (by omega) ((bit_yes 6 hx (by omega)).symm.trans ‹(bits BinOp.and IntKind.u64 (x : Int) 64 != 0) = false›)]
      | rw [nx_y 7 (by omega) ((bit_yes 7 hx (by omega)).symm.trans ‹(bits BinOp.and IntKind.u64 (x : Int) 128 != 0) = true›)]
      | rw [nx_n 7 (by omega) ((bit_yes 7 hx (by omega)).symm.trans ‹(bits BinOp.and IntKind.u64 (x : Int) 128 != 0) = false›)]
      | rw [nx_y 8 (by omega) ((bit_yes 8 hx (by omega)).symm.trans ‹(bits BinOp.and IntKind.u64 (x : Int) 256 != 0) = true›)]
      | rw [nx_n 8 (by omega) ((bit_yes 8 hx (by omega)).symm.trans ‹(bits BinOp.and IntKind.u64 (x : Int) 256 != 0) = false›)]
      | rw [nx_y 9 (by omega) ((bit_yes 9 hx (by omega)).symm.trans ‹(bits BinOp.and IntKind.u64 (x : Int) 512 != 0) = true›)]
      | rw [nx_n 9 (by omega) ((bit_yes 9 hx (by omega)).symm.trans ‹(bits BinOp.and IntKind.u64 (x : Int) 512 != 0) = false›)]
      | rw [nx_y 10 (by omega) ((bit_yes 10 hx (by omega)).symm.trans ‹(bits BinOp.and IntKind.u64 (x : Int) 1024 != 0) = true›)]
      | rw [nx_n 10 (by omega) ((bit_yes 10 hx (by omega)).symm.trans ‹(bits BinOp.and IntKind.u64 (x : Int) 1024 != 0) = false›)])
    rfl
set_option maxRecDepth 100000 in
set_option maxHeartbeats 4000000 in
theorem find_6 (g x : Nat) (hx : x < 9223372036854775808) (w : World) :
    Calls Tryd.prog 31 #[.pointer (some ⟨g, 0, none⟩), .int .u64 x, .int .i64 (6 : Nat)] w fun e w' => e = .returned (.agg (pcl g (nx x 6) (mo (nx x 6)))) ∧ Below w.heap.size w w' := by
  go_enter Tryd.func31, Tryd.ntmps31
  go_wp2_with fail
  all_goals
    refine bodyPost_ret (results_new' rfl _ _ rfl _ _ Tryd.underlying55 rfl (by kernel_rfl)) rfl ?_
    refine ⟨?_, below_alloc w _⟩
    repeat (first
      | rw [nx_y 6 (by omega) ((bit_yes 6 hx (by omega)).symm.trans ‹(bits BinOp.and IntKind.u64 (x : Int) 64 != 0) = true›)]
      | rw [nx_n 6 (by omega) ((bit_yes 6 hx (by omega)).symm.trans ‹(bits BinOp.and IntKind.u64 (x : Int) 64 != 0) = false›)]
      | rw [nx_y 7 (by omega) ((bit_yes 7 hx (by omega)).symm.trans ‹(bits BinOp.and IntKind.u64 (x : Int) 128 != 0) = true›)]
      | rw [nx_n 7 (by omega) ((bit_yes 7 hx (by omega)).symm.trans ‹(bits BinOp.and IntKind.u64 (x : Int) 128 != 0) = false›)]
      | rw [nx_y 8 (by omega) ((bit_yes 8 hx (by omega)).symm.trans ‹(bits BinOp.and IntKind.u64 (x : Int) 256 != 0) = true›)]
      | rw [nx_n 8 (by omega) ((bit_yes 8 hx (by omega)).symm.trans ‹(bits BinOp.and IntKind.u64 (x : Int) 256 != 0) = false›)]
      | rw [nx_y 9 (by omega) ((bit_yes 9 hx (by omega)).symm.trans ‹(bits BinOp.and IntKind.u64 (x : Int) 512 != 0) = true›)]
      | rw [nx_n 9 (by omega) ((bit_yes 9 hx (by omega)).symm.trans ‹(bits BinOp.and IntKind.u64 (x : Int) 512 != 0) = false›)]
      | rw [nx_y 10 (by omega) ((bit_yes 10 hx (by omega)).symm.trans ‹(bits BinOp.and IntKind.u64 (x : Int) 1024 != 0) = true›)]
      | rw [nx_n 10 (by omega) ((bit_yes 10 hx (by omega)).symm.trans ‹(bits BinOp.and IntKind.u64 (x : Int) 1024 != 0) = false›)])
    rfl
set_option maxRecDepth 100000 in
set_option maxHeartbeats 4000000 in
theorem find_7 (g x : Nat) (hx : x < 9223372036854775808) (w : World) :
    Calls Tryd.prog 31 #[.pointer (some ⟨g, 0, none⟩), .int .u64 x, .int .i64 (7 : Nat)] w fun e w' => e = .returned (.agg (pcl g (nx x 7) (mo (nx x 7)))) ∧ Below w.heap.size w w' := by
  go_enter Tryd.func31, Tryd.ntmps31
  go_wp2_with fail
  all_goals
    refine bodyPost_ret (results_new' rfl _ _ rfl _ _ Tryd.underlying55 rfl (by kernel_rfl)) rfl ?_
    refine ⟨?_, below_alloc w _⟩
    repeat (first
      | rw [nx_y 7 (by omega) ((bit_yes 7 hx (by omega)).symm.trans ‹(bits BinOp.and IntKind.u64 (x : Int) 128 != 0) = true›)]
      | rw [nx_n 7 (by omega) ((bit_yes 7 hx (by omega)).symm.trans ‹(bits BinOp.and IntKind.u64 (x : Int) 128 != 0) = false›)]
      | rw [nx_y 8 (by omega) ((bit_yes 8 hx (by omega)).symm.trans ‹(bits BinOp.and IntKind.u64 (x : Int) 256 != 0) = true›)]
      | rw [nx_n 8 (by omega) ((bit_yes 8 hx (by omega)).symm.trans ‹(bits BinOp.and IntKind.u64 (x : Int) 256 != 0) = false›)]
      | rw [nx_y 9 (by omega) ((bit_yes 9 hx (by omega)).symm.trans ‹(bits BinOp.and IntKind.u64 (x : Int) 512 != 0) = true›)]
      | rw [nx_n 9 (by omega) ((bit_yes 9 hx (by omega)).symm.trans ‹(bits BinOp.and IntKind.u64 (x : Int) 512 != 0) = false›)]
      | rw [nx_y 10 (by omega) ((bit_yes 10 hx (by omega)).symm.trans ‹(bits BinOp.and IntKind.u64 (x : Int) 1024 != 0) = true›)]
      | rw [nx_n 10 (by omega) ((bit_yes 10 hx (by omega)).symm.trans ‹(bits BinOp.and IntKind.u64 (x : Int) 1024 != 0) = false›)])
    rfl
set_option maxRecDepth 100000 in
set_option maxHeartbeats 4000000 in
theorem find_8 (g x : Nat) (hx : x < 9223372036854775808) (w : World) :
    Calls Tryd.prog 31 #[.pointer (some ⟨g, 0, none⟩), .int .u64 x, .int .i64 (8 : Nat)] w fun e w' => e = .returned (.agg (pcl g (nx x 8) (mo (nx x 8)))) ∧ Below w.heap.size w w' := by
  go_enter Tryd.func31, Tryd.ntmps31
  go_wp2_with fail
  all_goals
    refine bodyPost_ret (results_new' rfl _ _ rfl _ _ Tryd.underlying55 rfl (by kernel_rfl)) rfl ?_
    refine ⟨?_, below_alloc w _⟩
    repeat (first
      | rw [nx_y 8 (by omega) ((bit_yes 8 hx (by omega)).symm.trans ‹(bits BinOp.and IntKind.u64 (x : Int) 256 != 0) = true›)]
      | rw [nx_n 8 (by omega) ((bit_yes 8 hx (by omega)).symm.trans ‹(bits BinOp.and IntKind.u64 (x : Int) 256 != 0) = false›)]
      | rw [nx_y 9 (by omega) ((bit_yes 9 hx (by omega)).symm.trans ‹(bits BinOp.and IntKind.u64 (x : Int) 512 != 0) = true›)]
      | rw [nx_n 9 (by omega) ((bit_yes 9 hx (by omega)).symm.trans ‹(bits BinOp.and IntKind.u64 (x : Int) 512 != 0) = false›)]
      | rw [nx_y 10 (by omega) ((bit_yes 10 hx (by omega)).symm.trans ‹(bits BinOp.and IntKind.u64 (x : Int) 1024 != 0) = true›)]
      | rw [nx_n 10 (by omega) ((bit_yes 10 hx (by omega)).symm.trans ‹(bits BinOp.and IntKind.u64 (x : Int) 1024 != 0) = false›)])
    rfl
set_option maxRecDepth 100000 in
set_option maxHeartbeats 4000000 in
theorem find_9 (g x : Nat) (hx : x < 9223372036854775808) (w : World) :
    Calls Tryd.prog 31 #[.pointer (some ⟨g, 0, none⟩), .int .u64 x, .int .i64 (9 : Nat)] w fun e w' => e = .returned (.agg (pcl g (nx x 9) (mo (nx x 9)))) ∧ Below w.heap.size w w' := by
  go_enter Tryd.func31, Tryd.ntmps31
  go_wp2_with fail
  all_goals
    refine bodyPost_ret (results_new' rfl _ _ rfl _ _ Tryd.underlying55 rfl (by kernel_rfl)) rfl ?_
    refine ⟨?_, below_alloc w _⟩
    repeat (first
      | rw [nx_y 9 (by omega) ((bit_yes 9 hx (by omega)).symm.trans ‹(bits BinOp.and IntKind.u64 (x : Int) 512 != 0) = true›)]
      | rw [nx_n 9 (by omega) ((bit_yes 9 hx (by omega)).symm.trans ‹(bits BinOp.and IntKind.u64 (x : Int) 512 != 0) = false›)]
      | rw [nx_y 10 (by omega) ((bit_yes 10 hx (by omega)).symm.trans ‹(bits BinOp.and IntKind.u64 (x : Int) 1024 != 0) = true›)]
      | rw [nx_n 10 (by omega) ((bit_yes 10 hx (by omega)).symm.trans ‹(bits BinOp.and IntKind.u64 (x : Int) 1024 != 0) = false›)])
    rfl
set_option maxRecDepth 100000 in
set_option maxHeartbeats 4000000 in
theorem find_10 (g x : Nat) (hx : x < 9223372036854775808) (w : World) :
    Calls Tryd.prog 31 #[.pointer (some ⟨g, 0, none⟩), .int .u64 x, .int .i64 (10 : Nat)] w fun e w' => e = .returned (.agg (pcl g (nx x 10) (mo (nx x 10)))) ∧ Below w.heap.size w w' := by
  go_enter Tryd.func31, Tryd.ntmps31
  go_wp2_with fail
  all_goals
    refine bodyPost_ret (results_new' rfl _ _ rfl _ _ Tryd.underlying55 rfl (by kernel_rfl)) rfl ?_
    refine ⟨?_, below_alloc w _⟩
    repeat (first
      | rw [nx_y 10 (by omega) ((bit_yes 10 hx (by omega)).symm.trans ‹(bits BinOp.and IntKind.u64 (x : Int) 1024 != 0) = true›)]
      | rw [nx_n 10 (by omega) ((bit_yes 10 hx (by omega)).symm.trans ‹(bits BinOp.and IntKind.u64 (x : Int) 1024 != 0) = false›)])
    rfl
set_option maxRecDepth 100000 in
set_option maxHeartbeats 4000000 in
theorem find_11 (g x : Nat) (_hx : x < 9223372036854775808) (w : World) :
    Calls Tryd.prog 31 #[.pointer (some ⟨g, 0, none⟩), .int .u64 x, .int .i64 (11 : Nat)] w fun e w' => e = .returned (.agg (pcl g (nx x 11) (mo (nx x 11)))) ∧ Below w.heap.size w w' := by
  go_enter Tryd.func31, Tryd.ntmps31
  go_wp2_with fail
  all_goals
    refine bodyPost_ret (results_new' rfl _ _ rfl _ _ Tryd.underlying55 rfl (by kernel_rfl)) rfl ?_
    refine ⟨?_, below_alloc w _⟩
    rfl

theorem find_any (g x f : Nat) (hx : x < 9223372036854775808) (w : World) (hf : 1 ≤ f ∧ f ≤ 11) :
    Calls Tryd.prog 31 #[.pointer (some ⟨g, 0, none⟩), .int .u64 x, .int .i64 f] w fun e w' => e = .returned (.agg (pcl g (nx x f) (mo (nx x f)))) ∧ Below w.heap.size w w' := by
  obtain ⟨h1, h2⟩ := hf
  match f, h1, h2 with
  | 1, _, _ => exact find_1 g x hx w
  | 2, _, _ => exact find_2 g x hx w
  | 3, _, _ => exact find_3 g x hx w
  | 4, _, _ => exact find_4 g x hx w
  | 5, _, _ => exact find_5 g x hx w
  | 6, _, _ => exact find_6 g x hx w
  | 7, _, _ => exact find_7 g x hx w
  | 8, _, _ => exact find_8 g x hx w
  | 9, _, _ => exact find_9 g x hx w
  | 10, _, _ => exact find_10 g x hx w
  | 11, _, _ => exact find_11 g x hx w
  | n + 12, _, h => omega
end Go.Proofs.YtihldenljddmoaaDoor
