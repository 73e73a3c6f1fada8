/-
  What is proved: the reference's comparison of two configurations answers true where their numbers and hints are alike; it writes new memory alone. Condition: the hints are read as such.
-/
import Derived.Test.YtehmcnghincakaaRRight
import Derived.Test.YtehmcnghincakaaSince
import Derived.Test.YtehmcnghincakaaEq3
import Derived.Deep.QuietTactic
import Derived.BigQuiet
namespace Go.Proofs.Ytehmcnghincakaa
open Go.RowKit

set_option maxRecDepth 100000 in
set_option maxHeartbeats 4000000 in
theorem csame_yes (A B : Option Addr) (n cp cq : Nat) (c : Nat → Int) (hh : Nat → Hn) (w : World) (hn : n ≤ maxLen) (ra : Rv w w.heap.size A (hvs hh n)) (rb : Rv w w.heap.size B (hvs hh n)) :
    Calls Try.prog 10 #[.agg (cfgC c A n cp), .agg (cfgC c B n cq)] w fun e w' => e = .returned (.bool true) ∧ Below w.heap.size w w' := by
  unfold maxLen at hn
  have HA := hid ra
  have HB := hid rb
  clear ra rb
  have X := Bx.new w 25 (cfgC c A n cp)
  have b1 := below_alloc w (.cells (cfgC c A n cp) 25)
  go_enter Try.func10, Try.ntmps10
  go_upto_region 1 with fail
  have hsz : (w.alloc (.cells (cfgC c A n cp) 25)).heap.size = w.heap.size + 1 := World.size_alloc _ _
  obtain ⟨w1, hw1⟩ : ∃ w1, w.alloc (.cells (cfgC c A n cp) 25) = w1 := ⟨_, rfl⟩
  rw [hw1] at X b1 hsz ⊢
  have Y := Bx.new w1 25 (cfgC c B n cq)
  rw [hsz] at Y
  have b2 := on b1 (below_alloc w1 (.cells (cfgC c B n cq) 25))
  replace X := X.alloc (.cells (cfgC c B n cq) 25)
  obtain ⟨w2, hw2⟩ : ∃ w2, w1.alloc (.cells (cfgC c B n cq) 25) = w2 := ⟨_, rfl⟩
  rw [hw2] at X Y b2 ⊢
  clear hw1 hw2 hsz b1
  have x16 : w2.cell? ⟨w.heap.size, 16, none⟩ = some (.slice A n cp) := by rw [X.cell]; rfl
  have y16 : w2.cell? ⟨w.heap.size + 1, 16, none⟩ = some (.slice B n cq) := by rw [Y.cell]; rfl
  have HX := hid X
  have HY := hid Y
  have HK := hid b2
  clear X Y b2
  go_wp2_with fail
  go_loopw [5] (fun i wr => ∃ q d : Nat, q ≤ n ∧ i = .int .i64 q ∧ wr = w2.drewN d) (fun i _ => n - (intOf i).toNat)
  case atStart => exact ⟨0, 0, Nat.zero_le _, rfl, rfl⟩
  case round =>
    obtain ⟨q, d, hq, rfl, rfl⟩ := hrel
    by_cases hlt : q < n
    · have hlt' : (q : Int) < (n : Int) := by omega
      obtain ⟨a, rfl, hat⟩ := (HA.out.now HK.out).hint hlt
      obtain ⟨b, rfl, hbt⟩ := (HB.out.now HK.out).hint hlt
      obtain ⟨⟨f, s, o, l⟩, hH⟩ : ∃ x, hh q = x := ⟨_, rfl⟩
      rw [hH] at hat hbt
      obtain ⟨_, p0, p1, p2, p3⟩ := hat
      obtain ⟨_, q0, q1, q2, q3⟩ := hbt
      dsimp only at p0 p1 p2 p3 q0 q1 q2 q3
      clear hH
      go_wp2_with fail
      go_quiet (fail)
      go_wp2_with fail
      go_roundw
      case rel => exact ⟨q + 1, _, by omega, by go_num, rfl⟩
      case measure => simp [intOf]; omega
    · have hlt' : ¬ (q : Int) < (n : Int) := by omega
      obtain rfl : q = n := by omega
      have x0 : w2.cell? ⟨w.heap.size, 0, none⟩ = some (.int .i64 (c 0)) := by rw [HX.out.cell, cfgC_at _ _ _ _ _ (by omega)]
      have y0 : w2.cell? ⟨w.heap.size + 1, 0, none⟩ = some (.int .i64 (c 0)) := by rw [HY.out.cell, cfgC_at _ _ _ _ _ (by omega)]
      have x1 : w2.cell? ⟨w.heap.size, 1, none⟩ = some (.int .i64 (c 1)) := by rw [HX.out.cell, cfgC_at _ _ _ _ _ (by omega)]
      have y1 : w2.cell? ⟨w.heap.size + 1, 1, none⟩ = some (.int .i64 (c 1)) := by rw [HY.out.cell, cfgC_at _ _ _ _ _ (by omega)]
      have x2 : w2.cell? ⟨w.heap.size, 2, none⟩ = some (.int .i64 (c 2)) := by rw [HX.out.cell, cfgC_at _ _ _ _ _ (by omega)]
      have y2 : w2.cell? ⟨w.heap.size + 1, 2, none⟩ = some (.int .i64 (c 2)) := by rw [HY.out.cell, cfgC_at _ _ _ _ _ (by omega)]
      have x3 : w2.cell? ⟨w.heap.size, 3, none⟩ = some (.int .i64 (c 3)) := by rw [HX.out.cell, cfgC_at _ _ _ _ _ (by omega)]
      have y3 : w2.cell? ⟨w.heap.size + 1, 3, none⟩ = some (.int .i64 (c 3)) := by rw [HY.out.cell, cfgC_at _ _ _ _ _ (by omega)]
      have x4 : w2.cell? ⟨w.heap.size, 4, none⟩ = some (.int .i64 (c 4)) := by rw [HX.out.cell, cfgC_at _ _ _ _ _ (by omega)]
      have y4 : w2.cell? ⟨w.heap.size + 1, 4, none⟩ = some (.int .i64 (c 4)) := by rw [HY.out.cell, cfgC_at _ _ _ _ _ (by omega)]
      have x5 : w2.cell? ⟨w.heap.size, 5, none⟩ = some (.int .i64 (c 5)) := by rw [HX.out.cell, cfgC_at _ _ _ _ _ (by omega)]
      have y5 : w2.cell? ⟨w.heap.size + 1, 5, none⟩ = some (.int .i64 (c 5)) := by rw [HY.out.cell, cfgC_at _ _ _ _ _ (by omega)]
      have x6 : w2.cell? ⟨w.heap.size, 6, none⟩ = some (.int .i64 (c 6)) := by rw [HX.out.cell, cfgC_at _ _ _ _ _ (by omega)]
      have y6 : w2.cell? ⟨w.heap.size + 1, 6, none⟩ = some (.int .i64 (c 6)) := by rw [HY.out.cell, cfgC_at _ _ _ _ _ (by omega)]
      have x7 : w2.cell? ⟨w.heap.size, 7, none⟩ = some (.int .i64 (c 7)) := by rw [HX.out.cell, cfgC_at _ _ _ _ _ (by omega)]
      have y7 : w2.cell? ⟨w.heap.size + 1, 7, none⟩ = some (.int .i64 (c 7)) := by rw [HY.out.cell, cfgC_at _ _ _ _ _ (by omega)]
      have x8 : w2.cell? ⟨w.heap.size, 8, none⟩ = some (.int .i64 (c 8)) := by rw [HX.out.cell, cfgC_at _ _ _ _ _ (by omega)]
      have y8 : w2.cell? ⟨w.heap.size + 1, 8, none⟩ = some (.int .i64 (c 8)) := by rw [HY.out.cell, cfgC_at _ _ _ _ _ (by omega)]
      have x9 : w2.cell? ⟨w.heap.size, 9, none⟩ = some (.int .i64 (c 9)) := by rw [HX.out.cell, cfgC_at _ _ _ _ _ (by omega)]
      have y9 : w2.cell? ⟨w.heap.size + 1, 9, none⟩ = some (.int .i64 (c 9)) := by rw [HY.out.cell, cfgC_at _ _ _ _ _ (by omega)]
      have x10 : w2.cell? ⟨w.heap.size, 10, none⟩ = some (.int .i64 (c 10)) := by rw [HX.out.cell, cfgC_at _ _ _ _ _ (by omega)]
      have y10 : w2.cell? ⟨w.heap.size + 1, 10, none⟩ = some (.int .i64 (c 10)) := by rw [HY.out.cell, cfgC_at _ _ _ _ _ (by omega)]
      have x11 : w2.cell? ⟨w.heap.size, 11, none⟩ = some (.int .i64 (c 11)) := by rw [HX.out.cell, cfgC_at _ _ _ _ _ (by omega)]
      have y11 : w2.cell? ⟨w.heap.size + 1, 11, none⟩ = some (.int .i64 (c 11)) := by rw [HY.out.cell, cfgC_at _ _ _ _ _ (by omega)]
      have x12 : w2.cell? ⟨w.heap.size, 12, none⟩ = some (.int .i64 (c 12)) := by rw [HX.out.cell, cfgC_at _ _ _ _ _ (by omega)]
      have y12 : w2.cell? ⟨w.heap.size + 1, 12, none⟩ = some (.int .i64 (c 12)) := by rw [HY.out.cell, cfgC_at _ _ _ _ _ (by omega)]
      have x13 : w2.cell? ⟨w.heap.size, 13, none⟩ = some (.int .i64 (c 13)) := by rw [HX.out.cell, cfgC_at _ _ _ _ _ (by omega)]
      have y13 : w2.cell? ⟨w.heap.size + 1, 13, none⟩ = some (.int .i64 (c 13)) := by rw [HY.out.cell, cfgC_at _ _ _ _ _ (by omega)]
      have x14 : w2.cell? ⟨w.heap.size, 14, none⟩ = some (.int .i64 (c 14)) := by rw [HX.out.cell, cfgC_at _ _ _ _ _ (by omega)]
      have y14 : w2.cell? ⟨w.heap.size + 1, 14, none⟩ = some (.int .i64 (c 14)) := by rw [HY.out.cell, cfgC_at _ _ _ _ _ (by omega)]
      have x15 : w2.cell? ⟨w.heap.size, 15, none⟩ = some (.int .i64 (c 15)) := by rw [HX.out.cell, cfgC_at _ _ _ _ _ (by omega)]
      have y15 : w2.cell? ⟨w.heap.size + 1, 15, none⟩ = some (.int .i64 (c 15)) := by rw [HY.out.cell, cfgC_at _ _ _ _ _ (by omega)]
      have e6 := fun w => eq3 w (c 6) (c 7) (c 8)
      have e9 := fun w => eq3 w (c 9) (c 10) (c 11)
      go_wp2_with fail
      go_ret
      exact ⟨rfl, below_draws HK.out d⟩
end Go.Proofs.Ytehmcnghincakaa
