/-
  What is proved: the fixed fact that each statement of this layer asks first holds: the least configuration is right. No condition.
-/
import Derived.Test.YtehmcnghincakaaRight
namespace Go.Proofs.Ytehmcnghincakaa
open Go.RowKit

set_option maxRecDepth 100000 in
set_option maxHeartbeats 400000 in
theorem least_any (w : World) : Calls Try.prog 15 #[] w fun e w' => e = .returned (.agg (cfgC lo none 0 0)) ∧ Below w.heap.size w w' := by
  go_enter Try.func15, Try.ntmps15
  go_wp2_with (refine wpList_store_new rfl _ _ _ rfl rfl _ (cfgC lo none 0 0) rfl rfl (by kernel_rfl) rfl (by simp [cfgC, Value.oneCell']) ?_)
  refine bodyPost_ret (results_new' rfl _ _ rfl _ _ Try.underlying25 rfl (by kernel_rfl)) rfl ?_
  exact ⟨rfl, below_alloc w _⟩

theorem right_least : RightP lo (fun _ => ⟨0, 0, 0, false⟩) 0 := by
  refine ⟨fun i h => ?_, .inl rfl, .inr rfl, by omega, fun i h => absurd h (Nat.not_lt_zero i), fun i h => absurd h (Nat.not_lt_zero i)⟩
  match i, h with
  | 0, _ | 1, _ | 2, _ | 3, _ | 4, _ | 5, _ | 6, _ | 7, _ | 8, _ | 9, _ | 10, _ | 11, _ | 12, _ | 13, _ | 14, _ | 15, _ => simp [lo, hi]
  | n + 16, h => omega

set_option maxRecDepth 100000 in
set_option maxHeartbeats 400000 in
theorem wakes_any (w : World) : Calls Try.prog 6 #[] w fun e w' => e = .returned (.bool true) ∧ Below w.heap.size w w' := by
  go_enter Try.func6, Try.ntmps6
  go_wp2_with fail
  refine (least_any w).mono ?_
  rintro e w1 ⟨rfl, hb1⟩
  go_wp2_with fail
  refine (right_any none 0 0 lo (fun _ => ⟨0, 0, 0, false⟩) w1 (by unfold maxLen; omega) (Rv.nil _ _ _)).mono ?_
  rintro e w2 ⟨rfl, hb2⟩
  rw [dec_true right_least]
  go_wp2
  go_ret
  exact ⟨rfl, on hb1 hb2⟩
end Go.Proofs.Ytehmcnghincakaa
