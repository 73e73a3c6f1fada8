/-
  What is proved: an array of three integers compared with itself is alike. No condition.
-/
import Derived.Test.YtehmcnghincakaaRows
import Derived.WalkKit
import Derived.ChangeKeysEq
import Derived.DeepKeys
namespace Go.Proofs.Ytehmcnghincakaa
open Go.RowKit

theorem infoInt1 : (Try.prog.info? 3).map (fun i => (i.zero, i.size, i.bytes)) = some (some (.int .i64 0), 1, 8) := by kernel_rfl

theorem eq3 (w : World) (a b c : Int) : (Op.equalIn 10000 22 (.agg #[.int .i64 a, .int .i64 b, .int .i64 c]) (.agg #[.int .i64 a, .int .i64 b, .int .i64 c])).run Try.prog w = .ok true w := by
  obtain ⟨i, hi, hz, hs, hb⟩ := info_parts infoInt1
  rw [show 10000 = 9999 + 1 from rfl, run_equalIn_array w 9999 _ _ Try.underlying22 hi]
  rw [show Try.prog.cellsOf 3 = 1 by kernel_rfl, show List.range 3 = [0, 1, 2] from rfl]
  have h := fun (x : Int) => run_equalIn_int (P := Try.prog) w 9998 3 .i64 .i64 x x Try.underlying3
  simp only [Nat.reduceAdd] at h
  have hagg : ∀ w, (isAgg 3).run Try.prog w = .ok false w := fun w => by unfold isAgg; rw [Sem.run_bind, run_underlying Try.underlying3 w]; rfl
  simp [Op.eqItems, part, h, hagg]
end Go.Proofs.Ytehmcnghincakaa
