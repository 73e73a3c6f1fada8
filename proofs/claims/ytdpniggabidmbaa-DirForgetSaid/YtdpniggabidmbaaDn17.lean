/-
  What is proved: dir's New. Condition: none.
-/
import Derived.Test.YtdpniggabidmbaaDs17
namespace Go.Proofs.Ytdpniggabidmbaa
open Go.RowKit

set_option maxRecDepth 100000 in
set_option maxHeartbeats 4000000 in
theorem dnew_any (x y : Int) (w : World) : Calls Try.prog 8 #[.int .i64 x, .int .i64 y] w (DirNew w x y) := by
  unfold DirNew
  have h1 := drHeld_4 x
  have h2 := drHeld_32 y
  have K := hid (fun (v : World) (cs : Array Value) (h : cs = drCells (drHeld x 4) (drHeld y 32) dr0) => show Bx (v.alloc (.cells cs 49)) v.heap.size 49 (drCells (drHeld x 4) (drHeld y 32) dr0) from by rw [h]; exact Bx.new _ _ _)
  have HBU := hid ((built_dir (drHeld x 4 : Nat) (drHeld y 32 : Nat)).trans (congrArg some (dr_cells0 _ _)))
  obtain ⟨cs, hcs⟩ : ∃ cs, drCells (drHeld x 4) (drHeld y 32) dr0 = cs := ⟨_, rfl⟩
  rw [hcs] at HBU
  have HCS := hid hcs.symm
  clear hcs
  generalize drHeld x 4 = C at *
  generalize drHeld y 32 = B at *
  rcases h1 with ⟨a1, rfl⟩ | ⟨a1, a2, rfl⟩ | ⟨a1, a2, rfl⟩ <;> rcases h2 with ⟨b1, rfl⟩ | ⟨b1, b2, rfl⟩ | ⟨b1, b2, rfl⟩
  all_goals
    go_enter Try.func8, Try.ntmps8
    go_upto_region 1 with fail
    iterate 19 go_step
    refine wpList_build2 rfl 49 (.tmp 7) (.tmp 10) rfl _ _ rfl rfl cs HBU.out ?_
    go_simp
    go_wp2
    go_ret
    exact ⟨w.heap.size, rfl, ⟨K.out w cs HCS.out⟩, below_alloc w _, Nat.le_refl _, by simp⟩
end Go.Proofs.Ytdpniggabidmbaa
