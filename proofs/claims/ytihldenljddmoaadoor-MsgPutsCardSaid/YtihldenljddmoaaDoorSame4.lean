/-
  What is proved: the reference's comparison of two messages answers true where their numbers, grant and text are alike; it writes new memory alone. Condition: the texts are read as such.
-/
import Derived.Test.YtihldenljddmoaaDoorRefs4
import Derived.Test.YtihldenljddmoaaDoorSameI
import Derived.Deep.DeepCutAuto
import Derived.Deep.CutBlock
import Derived.Test.YtihldenljddmoaaDoorSame
namespace Go.Proofs.YtihldenljddmoaaDoor
open Go.RowKit

set_option maxRecDepth 100000 in
set_option maxHeartbeats 1000000 in
theorem msame_yes (A B : Option Addr) (n cp cq : Nat) (c : Nat → Int) (gr : Bool) (ds : List Int) (w : World) (hn : ds.length = n) (hm : n ≤ maxLen) (ra : Rn w A ds) (rb : Rn w B ds) :
    Calls Tryd.prog 11 #[.agg (msgC c gr A n cp), .agg (msgC c gr B n cq)] w fun e w' => e = .returned (.bool true) ∧ Below w.heap.size w w' := by
  have HA := hid ra
  have HB := hid rb
  have HNN := hid hn
  have HM := hid hm
  unfold maxLen at hm
  clear ra rb hn
  have X := Bx.new w 25 (msgC c gr A n cp)
  have b1 := below_alloc w (.cells (msgC c gr A n cp) 25)
  go_enter Tryd.func11, Tryd.ntmps11
  go_upto_region 1 with fail
  have hsz : (w.alloc (.cells (msgC c gr A n cp) 25)).heap.size = w.heap.size + 1 := World.size_alloc _ _
  obtain ⟨w1, hw1⟩ : ∃ w1, w.alloc (.cells (msgC c gr A n cp) 25) = w1 := ⟨_, rfl⟩
  rw [hw1] at X b1 hsz ⊢
  have Y := Bx.new w1 25 (msgC c gr B n cq)
  rw [hsz] at Y
  have b2 := on b1 (below_alloc w1 (.cells (msgC c gr B n cq) 25))
  replace X := X.alloc (.cells (msgC c gr B n cq) 25)
  obtain ⟨w2, hw2⟩ : ∃ w2, w1.alloc (.cells (msgC c gr B n cq) 25) = w2 := ⟨_, rfl⟩
  rw [hw2] at X Y b2 ⊢
  clear hw1 hw2 hsz b1
  have HX := hid X
  have HY := hid Y
  have HK := hid b2
  clear X Y b2
  go_wp2_with (refine wpList_load_bx rfl 25 (.tmp 2) rfl _ _ _ _ rfl HX.out Tryd.underlying25 rfl (by kernel_rfl) ?_)
  refine (numbers_any c gr A n cp _).mono ?_
  rintro e w3 ⟨v3, rfl, hown3, hb3⟩
  obtain ⟨S, cs, rfl, hs3⟩ := OwnI.read hown3
  have HX3 := hid (HX.out.next hb3)
  have HY3 := hid (HY.out.next hb3)
  have HK3 := hid (on HK.out hb3)
  have HS3 := hid hs3
  clear hown3 hb3 hs3 HX HY HK
  go_wp2_with (refine wpList_load_bx rfl 25 (.tmp 3) rfl _ _ _ _ rfl HY3.out Tryd.underlying25 rfl (by kernel_rfl) ?_)
  refine (numbers_any c gr B n cq _).mono ?_
  rintro e w4 ⟨v4, rfl, hown4, hb4⟩
  obtain ⟨U, cu, rfl, hu4⟩ := OwnI.read hown4
  rw [show (nm8 c).length = 8 from rfl]
  have HX4 := hid (HX3.out.next hb4)
  have HY4 := hid (HY3.out.next hb4)
  have HK4 := hid (on HK3.out hb4)
  have HS4 := hid (HS3.out.now hb4)
  have HU4 := hid hu4
  clear hown4 hb4 hu4 HX3 HY3 HK3 HS3
  have x0 : w4.cell? ⟨w.heap.size, 0, none⟩ = some (.int .i64 (c 0)) := by rw [HX4.out.cell]; rfl
  have y0 : w4.cell? ⟨w.heap.size + 1, 0, none⟩ = some (.int .i64 (c 0)) := by rw [HY4.out.cell]; rfl
  go_wp2_with fail
  refine (sameints_yes S U 8 8 cs cu (nm8 c) _ _ _ rfl rfl (by unfold maxLen; omega) HS4.out HU4.out).mono ?_
  rintro e w5 ⟨rfl, d, rfl⟩
  have x9 : (w4.drewN d).cell? ⟨w.heap.size, 9, none⟩ = some (.bool gr) := by rw [(HX4.out.draws d).cell]; rfl
  have y9 : (w4.drewN d).cell? ⟨w.heap.size + 1, 9, none⟩ = some (.bool gr) := by rw [(HY4.out.draws d).cell]; rfl
  have x10 : (w4.drewN d).cell? ⟨w.heap.size, 10, none⟩ = some (.slice A n cp) := by rw [(HX4.out.draws d).cell]; rfl
  have y10 : (w4.drewN d).cell? ⟨w.heap.size + 1, 10, none⟩ = some (.slice B n cq) := by rw [(HY4.out.draws d).cell]; rfl
  go_wp2_with fail
  refine (same_yes A B n n cp cq ds _ _ _ HNN.out HNN.out HM.out ((HA.out.now HK4.out).drewN d) ((HB.out.now HK4.out).drewN d)).mono ?_
  rintro e w6 ⟨rfl, d2, rfl⟩
  go_wp2_with fail
  go_ret
  exact ⟨rfl, below_draws HK4.out (d + d2)⟩
end Go.Proofs.YtihldenljddmoaaDoor
