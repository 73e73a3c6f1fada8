/-
  What is proved: the fixed fact that each statement of this layer asks first holds: 128 is told as 80 01. No condition.
-/
import Derived.Test.YtbklimknngjcpaaSame
import Derived.Test.YtbklimknngjcpaaPut
namespace Go.Proofs.Ytbklimknngjcpaa
open Go.RowKit

theorem enc128 : enc 128 = [128, 1] := by rw [enc_big 128 (by omega), enc_small _ (by omega)]; rfl

set_option maxHeartbeats 400000 in
theorem wakes_any (w : World) : Calls Try.prog 7 #[] w fun e w' => e = .returned (.bool true) ∧ Below w.heap.size w w' := by
  go_enter Try.func7, Try.ntmps7
  go_wp2_with fail
  refine (put_any none 0 0 128 [] _ 0 rfl (by omega) (by omega) (Rd.nil _ _ _) (by omega)).mono ?_
  rintro e w1 ⟨v, rfl, hown, hbel⟩
  rw [show ([] : List Int) ++ enc (128 : Int).toNat = [128, 1] from enc128] at hown
  obtain ⟨A, c, rfl, hrd, _⟩ := hown.shape
  go_wp2_with fail
  refine (same_yes A _ 2 2 c 2 [128, 1] _ (w1.heap.size) (w1.heap.size + 1) rfl rfl (by unfold maxLen; omega) (hrd.alloc (Nat.le_refl _) _) (rd_new w1 [128, 1] _ rfl (by simp [maxLen]))).mono ?_
  rintro e w2 ⟨rfl, d, rfl⟩
  go_wp2
  go_ret
  exact ⟨rfl, below_drewN (hbel.alloc hbel.size _) d⟩
end Go.Proofs.Ytbklimknngjcpaa
