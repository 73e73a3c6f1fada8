/-
  What is proved: msg's find answers the place of the first field, from one on, that is among the bits; it writes new memory alone. Condition: the bits are those of a kind, or all.
-/
import Derived.Test.YtbcejfonkehjgaaGreatDoorRows
import Derived.Test.YtbcejfonkehjgaaGreatDoorK02
import Derived.Test.YtbcejfonkehjgaaGreatDoorK42
namespace Go.Proofs.YtbcejfonkehjgaaGreatDoor
open Go.RowKit

def pin (b : Bool) (g f : Nat) : Value := .pointer (if b then some ⟨g, f, none⟩ else none)
def pcl (g f : Nat) (m : Int) : Array Value := #[.int .i64 f, pin (1 ≤ f ∧ f ≤ 7 : Bool) g f, pin (f == 8) g f, pin (f == 9) g f, pin (f == 10) g f, .int .i64 m]

theorem nx_y {x : Nat} (k : Nat) (hk : k ≤ 10) (h : x.testBit k = true) : nx4 x k = k := by
  unfold nx4
  rw [show 11 - k = (10 - k) + 1 by omega, nxF, if_pos h]
theorem nx_n {x : Nat} (k : Nat) (hk : k ≤ 10) (h : x.testBit k = false) : nx4 x k = nx4 x (k + 1) := by
  unfold nx4
  rw [show 11 - k = (10 - k) + 1 by omega, nxF, h, if_neg (by simp), show 11 - (k + 1) = 10 - k by omega]

set_option maxRecDepth 100000 in
set_option maxHeartbeats 4000000 in
theorem find_1 (g x : Nat) (hx : x < 9223372036854775808) (w : World) :
    Calls Tryz.prog 87 #[.pointer (some ⟨g, 0, none⟩), .int .u64 x, .int .i64 (1 : Nat)] w fun e w' => e = .returned (.agg (pcl g (nx4 x 1) (mo (nx4 x 1)))) ∧ Below w.heap.size w w' := by
  go_enter Tryz.func87, Tryz.ntmps87
  go_wp2_with fail
  all_goals
    refine bodyPost_ret (results_new' rfl _ _ rfl _ _ Tryz.underlying124 rfl (by kernel_rfl)) rfl ?_
    refine ⟨?_, below_alloc w _⟩
    repeat (first
      | rw [nx_y 1 (by omega) ((bit_yes 1 hx (by omega)).symm.trans ‹(bits BinOp.and IntKind.u64 (x : Int) 2 != 0) = true›)]
      | rw [nx_n 1 (by omega) ((bit_yes 1 hx (by omega)).symm.trans ‹(bits BinOp.and IntKind.u64 (x : Int) 2 != 0) = false›)]
      | rw [nx_y 2 (by omega) ((bit_yes 2 hx (by omega)).symm.trans ‹(bits BinOp.and IntKind.u64 (x : Int) 4 != 0) = true›)]
      | rw [nx_n 2 (by omega) ((bit_yes 2 hx (by omega)).symm.trans ‹(bits BinOp.and IntKind.u64 (x : Int) 4 != 0) = false›)]
      | rw [nx_y 3 (by omega) ((bit_yes 3 hx (by omega)).symm.trans ‹(bits BinOp.and IntKind.u64 (x : Int) 8 != 0) = true›)]
      | rw [nx_n 3 (by omega) ((bit_yes 3 hx (by omega)).symm.trans ‹(bits BinOp.and IntKind.u64 (x : Int) 8 != 0) = false›)]
      | rw [nx_y 4 (by omega) ((bit_yes 4 hx (by omega)).symm.trans ‹(bits BinOp.and IntKind.u64 (x : Int) 16 != 0) = true›)]
      | rw [nx_n 4 (by omega) ((bit_yes 4 hx (by omega)).symm.trans ‹(bits BinOp.and IntKind.u64 (x : Int) 16 != 0) = false›)]
      | rw [nx_y 5 (by omega) ((bit_yes 5 hx (by omega)).symm.trans ‹(bits BinOp.and IntKind.u64 (x : Int) 32 != 0) = true›)]
      | rw [nx_n 5 (by omega) ((bit_yes 5 hx (by omega)).symm.trans ‹(bits BinOp.and IntKind.u64 (x : Int) 32 != 0) = false›)]
      | rw [nx_y 6 (by omega) ((bit_yes 6 hx (by omega)).symm.trans ‹(bits BinOp.and IntKind.u64 (x : Int) 64 != 0) = true›)]
      | rw [nx_n 6 (by omega) ((bit_yes 6 hx (by omega)).symm.trans ‹(bits BinOp.and IntKind.u64 (x : Int) 64 != 0) = false›)]
      | rw [nx_y 7 (by omega) ((bit_yes 7 hx (by omega)).symm.trans ‹(bits BinOp.and IntKind.u64 (x : Int) 128 != 0) = true›)]
      | rw [nx_n 7 (by omega) ((bit_yes 7 hx (by omega)).symm.trans ‹(bits BinOp.and IntKind.u64 (x : Int) 128 != 0) = false›)]
      | rw [nx_y 8 (by omega) ((bit_yes 8 hx (by omega)).symm.trans ‹(bits BinOp.and IntKind.u64 (x : Int) 256 != 0) = true›)]
      | rw [nx_n 8 (by omega) ((bit_yes 8 hx (by omega)).symm.trans ‹(bits BinOp.and IntKind.u64 (x : Int) 256 != 0) = false›)]
      | rw [nx_y 9 (by omega) ((bit_yes 9 hx (by omega)).symm.trans ‹(bits BinOp.and IntKind.u64 (x : Int) 512 != 0) = true›)]
      | rw [nx_n 9 (by omega) ((bit_yes 9 hx (by omega)).symm.trans ‹(bits BinOp.and IntKind.u64 (x : Int) 512 != 0) = false›)]
      | rw [nx_y 10 (by omega) ((bit_yes 10 hx (by omega)).symm.trans ‹(bits BinOp.and IntKind.u64 (x : Int) 1024 != 0) = true›)]
      | rw [nx_n 10 (by omega) ((bit_yes 10 hx (by omega)).symm.trans ‹(bits BinOp.and IntKind.u64 (x : Int) 1024 != 0) = false›)])
    rfl
set_option maxRecDepth 100000 in
set_option maxHeartbeats 4000000 in
theorem find_2 (g x : Nat) (hx : x < 9223372036854775808) (w : World) :
    Calls Tryz.prog 87 #[.pointer (some ⟨g, 0, none⟩), .int .u64 x, .int .i64 (2 : Nat)] w fun e w' => e = .returned (.agg (pcl g (nx4 x 2) (mo (nx4 x 2)))) ∧ Below w.heap.size w w' := by
  go_enter Tryz.func87, Tryz.ntmps87
  go_wp2_with fail
  all_goals
    refine bodyPost_ret (results_new' rfl _ _ rfl _ _ Tryz.underlying124 rfl (by kernel_rfl)) rfl ?_
    refine ⟨?_, below_alloc w _⟩
    repeat (first
      | rw [nx_y 2 (by omega) ((bit_yes 2 hx (by omega)).symm.trans ‹(bits BinOp.and IntKind.u64 (x : Int) 4 != 0) = true›)]
      | rw [nx_n 2 (by omega) ((bit_yes 2 hx (by omega)).symm.trans ‹(bits BinOp.and IntKind.u64 (x : Int) 4 != 0) = false›)]
      | rw [nx_y 3 (by omega) ((bit_yes 3 hx (by omega)).symm.trans ‹(bits BinOp.and IntKind.u64 (x : Int) 8 != 0) = true›)]
      | rw [nx_n 3 (by omega) ((bit_yes 3 hx (by omega)).symm.trans ‹(bits BinOp.and IntKind.u64 (x : Int) 8 != 0) = false›)]
      | rw [nx_y 4 (by omega) ((bit_yes 4 hx (by omega)).symm.trans ‹(bits BinOp.and IntKind.u64 (x : Int) 16 != 0) = true›)]
      | rw [nx_n 4 (by omega) ((bit_yes 4 hx (by omega)).symm.trans ‹(bits BinOp.and IntKind.u64 (x : Int) 16 != 0) = false›)]
      | rw [nx_y 5 (by omega) ((bit_yes 5 hx (by omega)).symm.trans ‹(bits BinOp.and IntKind.u64 (x : Int) 32 != 0) = true›)]
      | rw [nx_n 5 (by omega) ((bit_yes 5 hx (by omega)).symm.trans ‹(bits BinOp.and IntKind.u64 (x : Int) 32 != 0) = false›)]
      | rw [nx_y 6 (by omega) ((bit_yes 6 hx (by omega)).symm.trans ‹(bits BinOp.and IntKind.u64 (x : Int) 64 != 0) = true›)]
      | rw [nx_n 6 (by omega) ((bit_yes 6 hx (by omega)).symm.trans ‹(bits BinOp.and IntKind.u64 (x : Int) 64 != 0) = false›)]
      | rw [nx_y 7 (by omega) ((bit_yes 7 hx (by omega)).symm.trans ‹(bits BinOp.and IntKind.u64 (x : Int) 128 != 0) = true›)]
      | rw [nx_n 7 (by omega) ((bit_yes 7 hx (by omega)).symm.trans ‹(bits BinOp.and IntKind.u64 (x : Int) 128 != 0) = false›)]
      | rw [nx_y 8 (by omega) ((bit_yes 8 hx (by omega)).symm.trans ‹(bits BinOp.and IntKind.u64 (x : Int) 256 != 0) = true›)]
      | rw [nx_n 8 (by omega) ((bit_yes 8 hx (by omega)).symm.trans ‹(bits BinOp.and IntKind.u64 (x : Int) 256 != 0) = false›)]
      | rw [nx_y 9 (by omega) ((bit_yes 9 hx (by omega)).symm.trans ‹(bits BinOp.and IntKind.u64 (x : Int) 512 != 0) = true›)]
      | rw [nx_n 9 (by omega) ((bit_yes 9 hx (by omega)).symm.trans ‹(bits BinOp.and IntKind.u64 (x : Int) 512 != 0) = false›)]
      | rw [nx_y 10 (by omega) ((bit_yes 10 hx (by omega)).symm.trans ‹(bits BinOp.and IntKind.u64 (x : Int) 1024 != 0) = true›)]
      | rw [nx_n 10 (by omega) ((bit_yes 10 hx (by omega)).symm.trans ‹(bits BinOp.and IntKind.u64 (x : Int) 1024 != 0) = false›)])
    rfl
set_option maxRecDepth 100000 in
set_option maxHeartbeats 4000000 in
theorem find_3 (g x : Nat) (hx : x < 9223372036854775808) (w : World) :
    Calls Tryz.prog 87 #[.pointer (some ⟨g, 0, none⟩), .int .u64 x, .int .i64 (3 : Nat)] w fun e w' => e = .returned (.agg (pcl g (nx4 x 3) (mo (nx4 x 3)))) ∧ Below w.heap.size w w' := by
  go_enter Tryz.func87, Tryz.ntmps87
  go_wp2_with fail
  all_goals
    refine bodyPost_ret (results_new' rfl _ _ rfl _ _ Tryz.underlying124 rfl (by kernel_rfl)) rfl ?_
    refine ⟨?_, below_alloc w _⟩
    repeat (first
      | rw [nx_y 3 (by omega) ((bit_yes 3 hx (by omega)).symm.trans ‹(bits BinOp.and IntKind.u64 (x : Int) 8 != 0) = true›)]
      | rw [nx_n 3 (by omega) ((bit_yes 3 hx (by omega)).symm.trans ‹(bits BinOp.and IntKind.u64 (x : Int) 8 != 0) = false›)]
      | rw [nx_y 4 (by omega) ((bit_yes 4 hx (by omega)).symm.trans ‹(bits BinOp.and IntKind.u64 (x : Int) 16 != 0) = true›)]
      | rw [nx_n 4 (by omega) ((bit_yes 4 hx (by omega)).symm.trans ‹(bits BinOp.and IntKind.u64 (x : Int) 16 != 0) = false›)]
      | rw [nx_y 5 (by omega) ((bit_yes 5 hx (by omega)).symm.trans ‹(bits BinOp.and IntKind.u64 (x : Int) 32 != 0) = true›)]
      | rw [nx_n 5 (by omega) ((bit_yes 5 hx (by omega)).symm.trans ‹(bits BinOp.and IntKind.u64 (x : Int) 32 != 0) = false›)]
      | rw [nx_y 6 (by omega) ((bit_yes 6 hx (by omega)).symm.trans ‹(bits BinOp.and IntKind.u64 (x : Int) 64 != 0) = true›)]
      | rw [nx_n 6 (by omega) ((bit_yes 6 hx (by omega)).symm.trans ‹(bits BinOp.and IntKind.u64 (x : Int) 64 != 0) = false›)]
      | rw [nx_y 7 (by omega) ((bit_yes 7 hx (by omega)).symm.trans ‹(bits BinOp.and IntKind.u64 (x : Int) 128 != 0) = true›)]
      | rw [nx_n 7 (by omega) ((bit_yes 7 hx (by omega)).symm.trans ‹(bits BinOp.and IntKind.u64 (x : Int) 128 != 0) = false›)]
      | rw [nx_y 8 (by omega) ((bit_yes 8 hx (by omega)).symm.trans ‹(bits BinOp.and IntKind.u64 (x : Int) 256 != 0) = true›)]
      | rw [nx_n 8 (by omega) ((bit_yes 8 hx (by omega)).symm.trans ‹(bits BinOp.and IntKind.u64 (x : Int) 256 != 0) = false›)]
      | rw [nx_y 9 (by omega) ((bit_yes 9 hx (by omega)).symm.trans ‹(bits BinOp.and IntKind.u64 (x : Int) 512 != 0) = true›)]
      | rw [nx_n 9 (by omega) ((bit_yes 9 hx (by omega)).symm.trans ‹(bits BinOp.and IntKind.u64 (x : Int) 512 != 0) = false›)]
      | rw [nx_y 10 (by omega) ((bit_yes 10 hx (by omega)).symm.trans ‹(bits BinOp.and IntKind.u64 (x : Int) 1024 != 0) = true›)]
      | rw [nx_n 10 (by omega) ((bit_yes 10 hx (by omega)).symm.trans ‹(bits BinOp.and IntKind.u64 (x : Int) 1024 != 0) = false›)])
    rfl
set_option maxRecDepth 100000 in
set_option maxHeartbeats 4000000 in
theorem find_4 (g x : Nat) (hx : x < 9223372036854775808) (w : World) :
    Calls Tryz.prog 87 #[.pointer (some ⟨g, 0, none⟩), .int .u64 x, .int .i64 (4 : Nat)] w fun e w' => e = .returned (.agg (pcl g (nx4 x 4) (mo (nx4 x 4)))) ∧ Below w.heap.size w w' := by
  go_enter Tryz.func87, Tryz.ntmps87
  go_wp2_with fail
  all_goals
    refine bodyPost_ret (results_new' rfl _ _ rfl _ _ Tryz.underlying124 rfl (by kernel_rfl)) rfl ?_
    refine ⟨?_, below_alloc w _⟩
    repeat (first
      | rw [nx_y 4 (by omega) ((bit_yes 4 hx (by omega)).symm.trans ‹(bits BinOp.and IntKind.u64 (x : Int) 16 != 0) = true›)]
      | rw [nx_n 4 (by omega) ((bit_yes 4 hx (by omega)).symm.trans ‹(bits BinOp.and IntKind.u64 (x : Int) 16 != 0) = false›)]
      | rw [nx_y 5 (by omega) ((bit_yes 5 hx (by omega)).symm.trans ‹(bits BinOp.and IntKind.u64 (x : Int) 32 != 0) = true›)]
      | rw [nx_n 5 (by omega) ((bit_yes 5 hx (by omega)).symm.trans ‹(bits BinOp.and IntKind.u64 (x : Int) 32 != 0) = false›)]
      | rw [nx_y 6 (by omega) ((bit_yes 6 hx (by omega)).symm.trans ‹(bits BinOp.and IntKind.u64 (x : Int) 64 != 0) = true›)]
      | rw [nx_n 6 (by omega) ((bit_yes 6 hx (by omega)).symm.trans ‹(bits BinOp.and IntKind.u64 (x : Int) 64 != 0) = false›)]
      | rw [nx_y 7 (by omega) ((bit_yes 7 hx (by omega)).symm.trans ‹(bits BinOp.and IntKind.u64 (x : Int) 128 != 0) = true›)]
      | rw [nx_n 7 (by omega) ((bit_yes 7 hx (by omega)).symm.trans ‹(bits BinOp.and IntKind.u64 (x : Int) 128 != 0) = false›)]
      | rw [nx_y 8 (by omega) ((bit_yes 8 hx (by omega)).symm.trans ‹(bits BinOp.and IntKind.u64 (x : Int) 256 != 0) = true›)]
      | rw [nx_n 8 (by omega) ((bit_yes 8 hx (by omega)).symm.trans ‹(bits BinOp.and IntKind.u64 (x : Int) 256 != 0) = false›)]
      | rw [nx_y 9 (by omega) ((bit_yes 9 hx (by omega)).symm.trans ‹(bits BinOp.and IntKind.u64 (x : Int) 512 != 0) = true›)]
      | rw [nx_n 9 (by omega) ((bit_yes 9 hx (by omega)).symm.trans ‹(bits BinOp.and IntKind.u64 (x : Int) 512 != 0) = false›)]
      | rw [nx_y 10 (by omega) ((bit_yes 10 hx (by omega)).symm.trans ‹(bits BinOp.and IntKind.u64 (x : Int) 1024 != 0) = true›)]
      | rw [nx_n 10 (by omega) ((bit_yes 10 hx (by omega)).symm.trans ‹(bits BinOp.and IntKind.u64 (x : Int) 1024 != 0) = false›)])
    rfl
set_option maxRecDepth 100000 in
set_option maxHeartbeats 4000000 in
theorem find_5 (g x : Nat) (hx : x < 9223372036854775808) (w : World) :
    Calls Tryz.prog 87 #[.pointer (some ⟨g, 0, none⟩), .int .u64 x, .int .i64 (5 : Nat)] w fun e w' => e = .returned (.agg (pcl g (nx4 x 5) (mo (nx4 x 5)))) ∧ Below w.heap.size w w' := by
  go_enter Tryz.func87, Tryz.ntmps87
  go_wp2_with fail
  all_goals
    refine bodyPost_ret (results_new' rfl _ _ rfl _ _ Tryz.underlying124 rfl (by kernel_rfl)) rfl ?_
    refine ⟨?_, below_alloc w _⟩
    repeat (first
      | rw [nx_y 5 (by omega) ((bit_yes 5 hx (by omega)).symm.trans ‹(bits BinOp.and IntKind.u64 (x : Int) 32 != 0) = true›)]
      | rw [nx_n 5 (by omega) ((bit_yes 5 hx (by omega)).symm.trans ‹(bits BinOp.and IntKind.u64 (x : Int) 32 != 0) = false›)]
      | rw [nx_y 6 (by omega) ((bit_yes 6 hx (by omega)).symm.trans ‹(bits BinOp.and IntKind.u64 (x : Int) 64 != 0) = true›)]
      | rw [nx_n 6 (by omega) ((bit_yes 6 hx (by omega)).symm.trans ‹(bits BinOp.and IntKind.u64 (x : Int) 64 != 0) = false›)]
      | rw [nx_y 7 (by omega) ((bit_yes 7 hx (by omega)).symm.trans ‹(bits BinOp.and IntKind.u64 (x : Int) 128 != 0) = true›)]
      | rw [nx_n 7 (by omega) ((bit_yes 7 hx (by omega)).symm.trans ‹(bits BinOp.and IntKind.u64 (x : Int) 128 != 0) = false›)]
      | rw [nx_y 8 (by omega) ((bit_yes 8 hx (by omega)).symm.trans ‹(bits BinOp.and IntKind.u64 (x : Int) 256 != 0) = true›)]
      | rw [nx_n 8 (by omega) ((bit_yes 8 hx (by omega)).symm.trans ‹(bits BinOp.and IntKind.u64 (x : Int) 256 != 0) = false›)]
      | rw [nx_y 9 (by omega) ((bit_yes 9 hx (by omega)).symm.trans ‹(bits BinOp.and IntKind.u64 (x : Int) 512 != 0) = true›)]
      | rw [nx_n 9 (by omega) ((bit_yes 9 hx (by omega)).symm.trans ‹(bits BinOp.and IntKind.u64 (x : Int) 512 != 0) = false›)]
      | rw [nx_y 10 (by omega) ((bit_yes 10 hx (by omega)).symm.trans ‹(bits BinOp.and IntKind.u64 (x : Int) 1024 != 0) = true›)]
      | rw [nx_n 10 (by omega) ((bit_yes 10 hx (by omega)).symm.trans ‹(bits BinOp.and IntKind.u64 (x : Int) 1024 != 0) = false›)])
    rfl
set_option maxRecDepth 100000 in
set_option maxHeartbeats 4000000 in
theorem find_6 (g x : Nat) (hx : x < 9223372036854775808) (w : World) :
    Calls Tryz.prog 87 #[.pointer (some ⟨g, 0, none⟩), .int .u64 x, .int .i64 (6 : Nat)] w fun e w' => e = .returned (.agg (pcl g (nx4 x 6) (mo (nx4 x 6)))) ∧ Below w.heap.size w w' := by
  go_enter Tryz.func87, Tryz.ntmps87
  go_wp2_with fail
  all_goals
    refine bodyPost_ret (results_new' rfl _ _ rfl _ _ Tryz.underlying124 rfl (by kernel_rfl)) rfl ?_
    refine ⟨?_, below_alloc w _⟩
    repeat (first
      | rw [nx_y 6 (by omega) ((bit_yes 6 hx (by omega)).symm.trans ‹(bits BinOp.and IntKind.u64 (x : Int) 64 != 0) = true›)]
      | rw [nx_n 6 (by omega) ((bit_yes 6 hx (by omega)).symm.trans ‹(bits BinOp.and IntKind.u64 (x : Int) 64 != 0) = false›)]
      | rw [nx_y 7 (by omega) ((bit_yes 7 hx (by omega)).symm.trans ‹(bits BinOp.and IntKind.u64 (x : Int) 128 != 0) = true›)]
      | rw [nx_n 7 (by omega) ((bit_yes 7 hx (by omega)).symm.trans ‹(bits BinOp.and IntKind.u64 (x : Int) 128 != 0) = false›)]
      | rw [nx_y 8 (by omega) ((bit_yes 8 hx (by omega)).symm.trans ‹(bits BinOp.and IntKind.u64 (x : Int) 256 != 0) = true›)]
      | rw [nx_n 8 (by omega) ((bit_yes 8 hx (by omega)).symm.trans ‹(bits BinOp.and IntKind.u64 (x : Int) 256 != 0) = false›)]
      | rw [nx_y 9 (by omega) ((bit_yes 9 hx (by omega)).symm.trans ‹(bits BinOp.and IntKind.u64 (x : Int) 512 != 0) = true›)]
      | rw [nx_n 9 (by omega) ((bit_yes 9 hx (by omega)).symm.trans ‹(bits BinOp.and IntKind.u64 (x : Int) 512 != 0) = false›)]
      | rw [nx_y 10 (by omega) ((bit_yes 10 hx (by omega)).symm.trans ‹(bits BinOp.and IntKind.u64 (x : Int) 1024 != 0) = true›)]
      | rw [nx_n 10 (by omega) ((bit_yes 10 hx (by omega)).symm.trans ‹(bits BinOp.and IntKind.u64 (x : Int) 1024 != 0) = false›)])
    rfl
set_option maxRecDepth 100000 in
set_option maxHeartbeats 4000000 in
theorem find_7 (g x : Nat) (hx : x < 9223372036854775808) (w : World) :
    Calls Tryz.prog 87 #[.pointer (some ⟨g, 0, none⟩), .int .u64 x, .int .i64 (7 : Nat)] w fun e w' => e = .returned (.agg (pcl g (nx4 x 7) (mo (nx4 x 7)))) ∧ Below w.heap.size w w' := by
  go_enter Tryz.func87, Tryz.ntmps87
  go_wp2_with fail
  all_goals
    refine bodyPost_ret (results_new' rfl _ _ rfl _ _ Tryz.underlying124 rfl (by kernel_rfl)) rfl ?_
    refine ⟨?_, below_alloc w _⟩
    repeat (first
      | rw [nx_y 7 (by omega) ((bit_yes 7 hx (by omega)).symm.trans ‹(bits BinOp.and IntKind.u64 (x : Int) 128 != 0) = true›)]
      | rw [nx_n 7 (by omega) ((bit_yes 7 hx (by omega)).symm.trans ‹(bits BinOp.and IntKind.u64 (x : Int) 128 != 0) = false›)]
      | rw [nx_y 8 (by omega) ((bit_yes 8 hx (by omega)).symm.trans ‹(bits BinOp.and IntKind.u64 (x : Int) 256 != 0) = true›)]
      | rw [nx_n 8 (by omega) ((bit_yes 8 hx (by omega)).symm.trans ‹(bits BinOp.and IntKind.u64 (x : Int) 256 != 0) = false›)]
      | rw [nx_y 9 (by omega) ((bit_yes 9 hx (by omega)).symm.trans ‹(bits BinOp.and IntKind.u64 (x : Int) 512 != 0) = true›)]
      | rw [nx_n 9 (by omega) ((bit_yes 9 hx (by omega)).symm.trans ‹(bits BinOp.and IntKind.u64 (x : Int) 512 != 0) = false›)]
      | rw [nx_y 10 (by omega) ((bit_yes 10 hx (by omega)).symm.trans ‹(bits BinOp.and IntKind.u64 (x : Int) 1024 != 0) = true›)]
      | rw [nx_n 10 (by omega) ((bit_yes 10 hx (by omega)).symm.trans ‹(bits BinOp.and IntKind.u64 (x : Int) 1024 != 0) = false›)])
    rfl
set_option maxRecDepth 100000 in
set_option maxHeartbeats 4000000 in
theorem find_8 (g x : Nat) (hx : x < 9223372036854775808) (w : World) :
    Calls Tryz.prog 87 #[.pointer (some ⟨g, 0, none⟩), .int .u64 x, .int .i64 (8 : Nat)] w fun e w' => e = .returned (.agg (pcl g (nx4 x 8) (mo (nx4 x 8)))) ∧ Below w.heap.size w w' := by
  go_enter Tryz.func87, Tryz.ntmps87
  go_wp2_with fail
  all_goals
    refine bodyPost_ret (results_new' rfl _ _ rfl _ _ Tryz.underlying124 rfl (by kernel_rfl)) rfl ?_
    refine ⟨?_, below_alloc w _⟩
    repeat (first
      | rw [nx_y 8 (by omega) ((bit_yes 8 hx (by omega)).symm.trans ‹(bits BinOp.and IntKind.u64 (x : Int) 256 != 0) = true›)]
      | rw [nx_n 8 (by omega) ((bit_yes 8 hx (by omega)).symm.trans ‹(bits BinOp.and IntKind.u64 (x : Int) 256 != 0) = false›)]
      | rw [nx_y 9 (by omega) ((bit_yes 9 hx (by omega)).symm.trans ‹(bits BinOp.and IntKind.u64 (x : Int) 512 != 0) = true›)]
      | rw [nx_n 9 (by omega) ((bit_yes 9 hx (by omega)).symm.trans ‹(bits BinOp.and IntKind.u64 (x : Int) 512 != 0) = false›)]
      | rw [nx_y 10 (by omega) ((bit_yes 10 hx (by omega)).symm.trans ‹(bits BinOp.and IntKind.u64 (x : Int) 1024 != 0) = true›)]
      | rw [nx_n 10 (by omega) ((bit_yes 10 hx (by omega)).symm.trans ‹(bits BinOp.and IntKind.u64 (x : Int) 1024 != 0) = false›)])
    rfl
set_option maxRecDepth 100000 in
set_option maxHeartbeats 4000000 in
theorem find_9 (g x : Nat) (hx : x < 9223372036854775808) (w : World) :
    Calls Tryz.prog 87 #[.pointer (some ⟨g, 0, none⟩), .int .u64 x, .int .i64 (9 : Nat)] w fun e w' => e = .returned (.agg (pcl g (nx4 x 9) (mo (nx4 x 9)))) ∧ Below w.heap.size w w' := by
  go_enter Tryz.func87, Tryz.ntmps87
  go_wp2_with fail
  all_goals
    refine bodyPost_ret (results_new' rfl _ _ rfl _ _ Tryz.underlying124 rfl (by kernel_rfl)) rfl ?_
    refine ⟨?_, below_alloc w _⟩
    repeat (first
      | rw [nx_y 9 (by omega) ((bit_yes 9 hx (by omega)).symm.trans ‹(bits BinOp.and IntKind.u64 (x : Int) 512 != 0) = true›)]
      | rw [nx_n 9 (by omega) ((bit_yes 9 hx (by omega)).symm.trans ‹(bits BinOp.and IntKind.u64 (x : Int) 512 != 0) = false›)]
      | rw [nx_y 10 (by omega) ((bit_yes 10 hx (by omega)).symm.trans ‹(bits BinOp.and IntKind.u64 (x : Int) 1024 != 0) = true›)]
      | rw [nx_n 10 (by omega) ((bit_yes 10 hx (by omega)).symm.trans ‹(bits BinOp.and IntKind.u64 (x : Int) 1024 != 0) = false›)])
    rfl
set_option maxRecDepth 100000 in
set_option maxHeartbeats 4000000 in
theorem find_10 (g x : Nat) (hx : x < 9223372036854775808) (w : World) :
    Calls Tryz.prog 87 #[.pointer (some ⟨g, 0, none⟩), .int .u64 x, .int .i64 (10 : Nat)] w fun e w' => e = .returned (.agg (pcl g (nx4 x 10) (mo (nx4 x 10)))) ∧ Below w.heap.size w w' := by
  go_enter Tryz.func87, Tryz.ntmps87
  go_wp2_with fail
  all_goals
    refine bodyPost_ret (results_new' rfl _ _ rfl _ _ Tryz.underlying124 rfl (by kernel_rfl)) rfl ?_
    refine ⟨?_, below_alloc w _⟩
    repeat (first
      | rw [nx_y 10 (by omega) ((bit_yes 10 hx (by omega)).symm.trans ‹(bits BinOp.and IntKind.u64 (x : Int) 1024 != 0) = true›)]
      | rw [nx_n 10 (by omega) ((bit_yes 10 hx (by omega)).symm.trans ‹(bits BinOp.and IntKind.u64 (x : Int) 1024 != 0) = false›)])
    rfl
set_option maxRecDepth 100000 in
set_option maxHeartbeats 4000000 in
theorem find_11 (g x : Nat) (_hx : x < 9223372036854775808) (w : World) :
    Calls Tryz.prog 87 #[.pointer (some ⟨g, 0, none⟩), .int .u64 x, .int .i64 (11 : Nat)] w fun e w' => e = .returned (.agg (pcl g (nx4 x 11) (mo (nx4 x 11)))) ∧ Below w.heap.size w w' := by
  go_enter Tryz.func87, Tryz.ntmps87
  go_wp2_with fail
  all_goals
    refine bodyPost_ret (results_new' rfl _ _ rfl _ _ Tryz.underlying124 rfl (by kernel_rfl)) rfl ?_
    refine ⟨?_, below_alloc w _⟩
    rfl

theorem find_any (g x f : Nat) (hx : x < 9223372036854775808) (w : World) (hf : 1 ≤ f ∧ f ≤ 11) :
    Calls Tryz.prog 87 #[.pointer (some ⟨g, 0, none⟩), .int .u64 x, .int .i64 f] w fun e w' => e = .returned (.agg (pcl g (nx4 x f) (mo (nx4 x f)))) ∧ Below w.heap.size w w' := by
  obtain ⟨h1, h2⟩ := hf
  match f, h1, h2 with
  | 1, _, _ => exact find_1 g x hx w
  | 2, _, _ => exact find_2 g x hx w
  | 3, _, _ => exact find_3 g x hx w
  | 4, _, _ => exact find_4 g x hx w
  | 5, _, _ => exact find_5 g x hx w
  | 6, _, _ => exact find_6 g x hx w
  | 7, _, _ => exact find_7 g x hx w
  | 8, _, _ => exact find_8 g x hx w
  | 9, _, _ => exact find_9 g x hx w
  | 10, _, _ => exact find_10 g x hx w
  | 11, _, _ => exact find_11 g x hx w
  | n + 12, _, h => omega
end Go.Proofs.YtbcejfonkehjgaaGreatDoor
