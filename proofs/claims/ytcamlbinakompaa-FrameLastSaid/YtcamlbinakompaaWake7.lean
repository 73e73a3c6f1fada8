/-
  What is proved: the fixed fact that each statement of this layer asks first holds: the bytes of the example. No condition.
-/
import Derived.Test.YtcamlbinakompaaPut7
import Derived.Test.YtcamlbinakompaaSame
namespace Go.Proofs.Ytcamlbinakompaa
open Go.RowKit

theorem full_wake : full 1 0 0 0 [] = [1, 0, 0, 0, 0, 1] := by
  have h1 : enc (1 : Nat) = [1] := enc_small 1 (by omega)
  have h0 : enc (0 : Nat) = [0] := enc_small 0 (by omega)
  have e : body 1 0 0 0 [] = [1, 0, 0, 0, 0] := by
    unfold body pre
    rw [List.length_nil, h1, h0]
    rfl
  unfold full
  rw [e]
  decide
theorem right_wake : RightP 1 0 0 0 0 := by unfold RightP; omega

set_option maxRecDepth 100000 in
set_option maxHeartbeats 400000 in
theorem wakes_any (w : World) : Calls Try.prog 6 #[] w fun e w' => e = .returned (.bool true) ∧ Below w.heap.size w w' := by
  have H := fput_yes 1 0 0 0 none 0 0 [] w rfl (Rd.nil _ _ _) (fun x h => by simp at h) right_wake
  rw [full_wake] at H
  have HP := hid H
  clear H
  go_enter Try.func6, Try.ntmps6
  go_wp2_with fail
  refine HP.out.mono ?_
  rintro e w1 ⟨v, rfl, hs, hb1⟩
  obtain ⟨A, c, rfl, hr⟩ := Own.read hs
  have HR := hid hr
  have HB := hid hb1
  clear hr hb1 hs
  go_wp2_with fail
  refine (same_yes A _ _ _ c _ [1, 0, 0, 0, 0, 1] _ _ _ rfl rfl (by decide) (HR.out.alloc _) (rd_new w1 [1, 0, 0, 0, 0, 1] _ rfl (by decide))).mono ?_
  rintro e w2 ⟨rfl, d, rfl⟩
  go_wp2
  go_ret
  exact ⟨rfl, below_drewN (on HB.out (below_alloc w1 _)) d⟩
end Go.Proofs.Ytcamlbinakompaa
