/-
  What is proved: the fixed fact that each statement of this layer asks first holds: the bytes of the example. Condition: the table of the kinds' fields lies where the program lays it.
-/
import Derived.Test.YtihldenljddmoaaDoorPut4
import Derived.Test.YtihldenljddmoaaDoorSame
namespace Go.Proofs.YtihldenljddmoaaDoor
open Go.RowKit

def cW : Nat → Int
  | 0 => 7
  | 5 => 3
  | 7 => 5
  | _ => 0
theorem right_wake : RightM cW false 0 := by
  refine ⟨by decide, fun f h1 h2 => ?_⟩
  unfold okF
  match f, h1, h2 with
  | 1, _, _ | 2, _, _ | 3, _, _ | 4, _, _ | 5, _, _ | 6, _, _ | 7, _, _ | 8, _, _ | 9, _, _ | 10, _, _ => decide
  | n + 11, _, h => omega
theorem full_wake : fullM cW false [] = [7, 3, 5] := by
  have e : fl (mk (cW 0).toNat) 1 = [5, 7] := by decide
  have h7 : enc (7 : Nat) = [7] := enc_small 7 (by omega)
  have h3 : enc (3 : Nat) = [3] := enc_small 3 (by omega)
  have h5 : enc (5 : Nat) = [5] := enc_small 5 (by omega)
  unfold fullM
  rw [e]
  show enc 7 ++ (enc 3 ++ (enc 5 ++ [])) = _
  rw [h7, h3, h5]
  rfl

set_option maxRecDepth 100000 in
set_option maxHeartbeats 400000 in
theorem wakes_any (w : World) (hN : Nm w) : Calls Tryd.prog 7 #[] w fun e w' => e = .returned (.bool true) ∧ Below w.heap.size w w' := by
  have H := putm_yes cW false none 0 [] w hN (Rd.nil _ _ _) right_wake
  rw [full_wake] at H
  have HP := hid H
  clear H hN
  go_enter Tryd.func7, Tryd.ntmps7
  go_wp2_with fail
  refine HP.out.mono ?_
  rintro e w1 ⟨v, rfl, hs, hb1⟩
  obtain ⟨A, c, rfl, hr, _, _⟩ := hs
  have HR := hid hr
  have HB := hid hb1
  clear hr hb1
  go_wp2_with fail
  refine (same_yes A _ _ _ c _ [7, 3, 5] _ _ _ rfl rfl (by decide) (HR.out.alloc _) (rd_new w1 [7, 3, 5] _ rfl (by decide))).mono ?_
  rintro e w2 ⟨rfl, d, rfl⟩
  go_wp2
  go_ret
  exact ⟨rfl, below_drewN (on HB.out (below_alloc w1 _)) d⟩
end Go.Proofs.YtihldenljddmoaaDoor
