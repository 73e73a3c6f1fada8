/-
  What is proved: PutTruth answers what was handed in and a byte 0 or 1 behind it, in new memory. Condition: no list is longer than 2^45.
-/
import Derived.Test.YtihldenljddmoaaDoorPut
namespace Go.Proofs.YtihldenljddmoaaDoor
open Go.RowKit

def bit (t : Bool) : Int := if t then 1 else 0

set_option maxHeartbeats 400000 in
theorem puttruth_any (A : Option Addr) (n ca : Nat) (t : Bool) (xs : List Int) (w : World) (C : Nat) (hn : xs.length = n) (hln : n ≤ 35184372088832) (rx : Rd w C A xs) (hC : C ≤ w.heap.size) :
    Calls Tryd.prog 32 #[.slice A n ca, .bool t] w fun e w' => ∃ v, e = .returned v ∧ Own w' w.heap.size v (xs ++ [bit t]) ∧ Below w.heap.size w w' := by
  cases t
  all_goals
    go_enter Tryd.func32, Tryd.ntmps32
    go_wp2_with fail
    refine (room_any A n ca 1 xs _ C hn (by omega) (by omega) (by omega) rx hC).mono ?_
    rintro e w1 ⟨v, rfl, hown, hbel⟩
    go_wp2_with (at_builtin; refine wpList_app rfl _ _ rfl w.heap.size _ xs (hown.alloc _) rfl _ _ _ _ [_] rfl rfl (rd_one _ _) (by omega) (by have := hbel.size; simp; omega) ?_; intro v' w2 hown2 hg2)
    go_ret
    exact ⟨_, rfl, hown2, hbel.trans ((((Below.refl w1.heap.size w1).alloc (Nat.le_refl _) _).mono hbel.size).trans (hg2.below (hown.alloc _) (by have := hbel.size; simp; omega)))⟩
end Go.Proofs.YtihldenljddmoaaDoor
