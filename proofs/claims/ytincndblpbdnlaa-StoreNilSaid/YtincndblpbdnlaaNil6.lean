/-
  What is proved: the walk of StoreNil: a store that is not there tells so; so does no disk. No condition.
-/
import Derived.Test.YtincndblpbdnlaaWake6
namespace Go.Proofs.Ytincndblpbdnlaa
open Go.RowKit

set_option maxHeartbeats 400000 in
theorem snil_walk (c s b o k : Int) (A : Option Addr) (n cap : Nat) (w : World) :
    Calls Try.prog 7 #[.agg #[.int .i64 c, .int .i64 s, .int .i64 b, .int .i64 o, .int .i64 k, .slice A n cap]] w fun e w' => e = .returned (.bool true) ∧ Below w.heap.size w w' := by
  obtain ⟨W, hW, BX, HB, -⟩ := below_new w 38 #[.int .i64 c, .int .i64 s, .int .i64 b, .int .i64 o, .int .i64 k, .slice A n cap]
  have HW := hid hW
  have E0 := hid BX
  have B0 := hid HB
  clear hW BX HB
  go_enter Try.func7, Try.ntmps7
  go_wp2_with fail
  rw [HW.out]
  refine (wakes_any _).mono ?_
  rintro e w1 ⟨rfl, hb⟩
  have E1 := hid (E0.out.next hb)
  have B1 := hid (on B0.out hb)
  clear hb E0 B0 HW
  go_wp2_with (refine wpList_load_bx rfl 38 (.tmp 1) rfl _ _ _ _ rfl E1.out Try.underlying38 rfl (by kernel_rfl) ?_)
  refine (write_nil c s b o k n cap A _).mono ?_
  rintro e w2 ⟨rfl, hb⟩
  have E2 := hid (E1.out.next hb)
  have B2 := hid (on B1.out hb)
  have k4 : w2.cell? ⟨w.heap.size, 4, none⟩ = some (.int .i64 k) := E2.out.cell 4
  clear hb E1 B1
  go_wp2_with (first
    | (go_at_call 27; refine (read_nil _ _).mono ?_; rintro e w' ⟨rfl, rfl⟩)
    | (go_at_call 14; refine (open_nil 1 1 1 1 _).mono ?_; rintro e w3 ⟨rfl, hb3⟩; have B3 := hid (on B2.out hb3); clear hb3)
    | (go_at_call 19; refine (sdown_nil _).mono ?_; rintro e w' ⟨rfl, rfl⟩))
  go_ret
  exact ⟨rfl, B3.out⟩
end Go.Proofs.Ytincndblpbdnlaa
