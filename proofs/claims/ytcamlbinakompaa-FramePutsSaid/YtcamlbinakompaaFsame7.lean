/-
  What is proved: the reference's comparison of two packets answers true where their numbers and loads are alike; it writes new memory alone. Condition: the loads are read as such.
-/
import Derived.Test.YtcamlbinakompaaRight7
import Derived.Test.YtcamlbinakompaaSame
import Derived.Deep.DeepCutAuto
import Derived.Deep.CutBlock
namespace Go.Proofs.Ytcamlbinakompaa
open Go.RowKit

set_option maxRecDepth 100000 in
set_option maxHeartbeats 1000000 in
theorem fsame_yes (A B : Option Addr) (n cp cq : Nat) (m y s a : Int) (ds : List Int) (w : World) (hn : ds.length = n) (hm : n ≤ maxLen) (ra : Rn w A ds) (rb : Rn w B ds) :
    Calls Try.prog 10 #[.agg (pk m y s a A n cp), .agg (pk m y s a B n cq)] w fun e w' => e = .returned (.bool true) ∧ Below w.heap.size w w' := by
  have HA := hid ra
  have HB := hid rb
  have HNN := hid hn
  have HM := hid hm
  unfold maxLen at hm
  clear ra rb hn
  have X := Bx.new w 24 (pk m y s a A n cp)
  have b1 := below_alloc w (.cells (pk m y s a A n cp) 24)
  go_enter Try.func10, Try.ntmps10
  go_upto_region 1 with fail
  have hsz : (w.alloc (.cells (pk m y s a A n cp) 24)).heap.size = w.heap.size + 1 := World.size_alloc _ _
  obtain ⟨w1, hw1⟩ : ∃ w1, w.alloc (.cells (pk m y s a A n cp) 24) = w1 := ⟨_, rfl⟩
  rw [hw1] at X b1 hsz ⊢
  have Y := Bx.new w1 24 (pk m y s a B n cq)
  rw [hsz] at Y
  have b2 := on b1 (below_alloc w1 (.cells (pk m y s a B n cq) 24))
  replace X := X.alloc (.cells (pk m y s a B n cq) 24)
  obtain ⟨w2, hw2⟩ : ∃ w2, w1.alloc (.cells (pk m y s a B n cq) 24) = w2 := ⟨_, rfl⟩
  rw [hw2] at X Y b2 ⊢
  clear hw1 hw2 hsz b1
  have HK := hid b2
  obtain ⟨x0, x1, x2, x3, x4⟩ := X.all5
  obtain ⟨y0, y1, y2, y3, y4⟩ := Y.all5
  clear X Y b2
  go_wp2_with fail
  refine (same_yes A B n n cp cq ds _ _ _ HNN.out HNN.out HM.out (HA.out.now HK.out) (HB.out.now HK.out)).mono ?_
  rintro e w6 ⟨rfl, d2, rfl⟩
  go_wp2_with fail
  go_ret
  exact ⟨rfl, below_draws HK.out d2⟩
end Go.Proofs.Ytcamlbinakompaa
