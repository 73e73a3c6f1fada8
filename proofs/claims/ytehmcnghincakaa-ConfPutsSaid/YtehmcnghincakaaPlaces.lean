/-
  What is proved: places answers where the numbers of a configuration stand, and from what to what each may be; it writes new memory alone. No condition.
-/
import Derived.Test.YtehmcnghincakaaHints
import Derived.StillTailTactics
import Derived.Test.YtehmcnghincakaaWhole
namespace Go.Proofs.Ytehmcnghincakaa
open Go.RowKit

/-- the least and the most of the number at a place -/
def lo : Nat → Int
  | 5 => 0
  | 14 => 0
  | _ => 1
def hi : Nat → Int
  | 0 => 4
  | 1 => 4
  | 2 => 32
  | 3 => 16
  | 4 => 3
  | 5 => 2
  | 6 => 2
  | 7 => 2
  | 8 => 2
  | 12 => 8
  | 13 => 100
  | _ => 16
/-- the places' cells: of each a pointer into block g, the least, the most -/
def pls (g : Nat) : Nat → List Value
  | 0 => []
  | n + 1 => pls g n ++ [.pointer (some ⟨g, n, none⟩), .int .i64 (lo n), .int .i64 (hi n)]
def plc (g : Nat) : Array Value := #[
  .pointer (some ⟨g, 0, none⟩), .int .i64 1, .int .i64 4, .pointer (some ⟨g, 1, none⟩), .int .i64 1, .int .i64 4, .pointer (some ⟨g, 2, none⟩), .int .i64 1, .int .i64 32, .pointer (some ⟨g, 3, none⟩), .int .i64 1, .int .i64 16,
  .pointer (some ⟨g, 4, none⟩), .int .i64 1, .int .i64 3, .pointer (some ⟨g, 5, none⟩), .int .i64 0, .int .i64 2, .pointer (some ⟨g, 6, none⟩), .int .i64 1, .int .i64 2, .pointer (some ⟨g, 7, none⟩), .int .i64 1, .int .i64 2,
  .pointer (some ⟨g, 8, none⟩), .int .i64 1, .int .i64 2, .pointer (some ⟨g, 9, none⟩), .int .i64 1, .int .i64 16, .pointer (some ⟨g, 10, none⟩), .int .i64 1, .int .i64 16, .pointer (some ⟨g, 11, none⟩), .int .i64 1, .int .i64 16,
  .pointer (some ⟨g, 12, none⟩), .int .i64 1, .int .i64 8, .pointer (some ⟨g, 13, none⟩), .int .i64 1, .int .i64 100, .pointer (some ⟨g, 14, none⟩), .int .i64 0, .int .i64 16, .pointer (some ⟨g, 15, none⟩), .int .i64 1, .int .i64 16]

set_option maxRecDepth 100000 in
set_option maxHeartbeats 1000000 in
theorem places_any (g : Nat) (w : World) :
    Calls Try.prog 16 #[.pointer (some ⟨g, 0, none⟩)] w fun e w' => e = .returned (.agg (plc g)) ∧ Below w.heap.size w w' := by
  go_enter Try.func16, Try.ntmps16
  go_wp2
  refine wp_region_still_tail 71 (by kernel_rfl) (by kernel_rfl) ?_
  simp only [List.append_eq, List.cons_append, List.nil_append, List.take_succ_cons, List.take_zero, List.drop_succ_cons, List.drop_zero]
  repeat still_step
  refine wpStill_nil ?_
  change wpList _ _ _ _ _ (World.alloc w.drew _)
  refine wpList_store_new rfl _ _ _ rfl rfl _ (plc g) rfl rfl (by kernel_rfl) rfl (by simp [plc, Value.oneCell']) ?_
  go_wp2
  refine bodyPost_ret (results_new rfl _ _ rfl _ _ _ Try.underlying48 (by kernel_rfl)) rfl ?_
  exact ⟨rfl, ((Below.refl w.heap.size w).drew).alloc (Nat.le_refl _) _⟩
end Go.Proofs.Ytehmcnghincakaa
