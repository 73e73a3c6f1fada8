/-
  What is proved: fits tells whether a hint's numbers may be, where there is room for so many blocks. No condition but that the room is at most 32.
-/
import Derived.Test.YtcibhmbneedghaaHint
import Derived.Test.YtcibhmbneedghaaRows
namespace Go.Proofs.Ytcibhmbneedghaa
open Go.RowKit

def fitP (h : Hn) (r : Int) : Prop := 0 ≤ h.f ∧ 1 ≤ h.s ∧ h.s ≤ r ∧ h.f ≤ r - h.s ∧ 0 ≤ h.o ∧ h.o ≤ 2147483647

set_option maxHeartbeats 400000 in
theorem fits_any (f s o : Int) (l : Bool) (r : Int) (hr : r ≤ 32) (hs0 : -9223372036854775808 ≤ r) (w : World) :
    Calls Try.prog 41 #[.agg #[.int .i64 f, .int .i64 s, .int .i64 o, .bool l], .int .i64 r] w fun e w' => e = .returned (.bool (dec (fitP ⟨f, s, o, l⟩ r))) ∧ Below w.heap.size w w' := by
  go_enter Try.func41, Try.ntmps41
  go_wp2
  all_goals
    go_ret
    refine ⟨ret_dec ?_, below_alloc w _⟩
    show _ ↔ 0 ≤ f ∧ 1 ≤ s ∧ s ≤ r ∧ f ≤ r - s ∧ 0 ≤ o ∧ o ≤ 2147483647
    first
      | (simp only [decide_eq_true_eq]; omega)
      | exact ⟨(fun h => by cases h), (fun h => by omega)⟩
end Go.Proofs.Ytcibhmbneedghaa
