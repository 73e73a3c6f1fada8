/-
  What is proved: frame's Get over bytes whose last one isn't the sum of the others answers that they are not formed so; it writes new memory alone. Conditions: there is a byte; they are no more than a thousand.
-/
import Derived.Test.YtcamlbinakompaaSmd7
import Derived.Test.YtcamlbinakompaaRight7
import Derived.ScopeJumps
namespace Go.Proofs.Ytcamlbinakompaa
open Go.RowKit

theorem fsummed_no (A : Option Addr) (n c : Nat) (l : List Int) (x : Int) (w : World) (C : Nat) (hn : l.length = n) (hlen : n < 1000) (hc : n < c) (hcm : c ≤ maxLen) (hb : Hid (∀ y ∈ l, 0 ≤ y ∧ y ≤ 255)) (ra : Rd w C A (l ++ [x])) (hx : sm l ≠ x) :
    Calls Try.prog 21 #[.slice A (n + 1 : Nat) c] w fun e w' => e = .returned (.tuple #[.slice none 0 0, .int .i64 2]) ∧ ∃ d, w' = w.drewN d := by
  have h := fsummed_any A n c l x w C hn hlen hc hcm hb ra
  rw [if_neg hx] at h
  exact h

/-- at the jump: the frame, the result's block and the world -/
def JAt7 (w : World) (A : Act) : Act → World → Prop := fun a' w' => a' = A ∧ Bx w' w.heap.size 24 (pk 0 0 0 0 none 0 0) ∧ Below w.heap.size w w'

set_option maxRecDepth 100000 in
set_option maxHeartbeats 1000000 in
theorem fget_no (A : Option Addr) (n c : Nat) (l : List Int) (x : Int) (w : World) (C : Nat) (hn : l.length = n) (hlen : n < 1000) (hc : n < c) (hcm : c ≤ maxLen) (hb : Hid (∀ y ∈ l, 0 ≤ y ∧ y ≤ 255)) (ra : Rd w C A (l ++ [x])) (hC : C ≤ w.heap.size) (hx : sm l ≠ x) :
    Calls Try.prog 13 #[.slice A (n + 1 : Nat) c] w fun e w' => e = .returned (.tuple #[.agg (pk 0 0 0 0 none 0 0), .int .i64 2]) ∧ Below w.heap.size w w' := by
  have X2 := hid (Bx.new w 24 (pk 0 0 0 0 none 0 0))
  have K2 := hid (below_alloc w (.cells (pk 0 0 0 0 none 0 0) 24))
  have HR := hid ra
  have S := hid (fun W (h : Rd W C A (l ++ [x])) => fsummed_no A n c l x W C hn hlen hc hcm hb h hx)
  clear hn hcm hx ra
  go_enter Try.func13, Try.ntmps13
  go_wp2
  refine wp_scope_jumps 0 (JAt7 w { tmps := #[.slice A (n + 1) c, undef, .pointer (some ⟨w.heap.size, 0, none⟩), .int .i64 0, .pointer (some ⟨w.heap.size + 1, 0, none⟩), .int .i64 0, .slice none 0 0, .int .i64 2, undef, undef, .tuple #[.slice none 0 0, .int .i64 2], .slice A (n + 1) c, .tuple #[.slice none 0 0, .int .i64 2], .slice none 0 0, .int .i64 2, .int .i64 2, .bool true, undef, undef, undef, undef, undef, undef, undef, undef, undef, undef, undef, undef, undef, undef, undef, undef, undef, undef, undef, undef, undef, undef, undef, undef, undef, undef, undef, undef, undef, undef, undef, undef, undef, undef, undef, undef, undef, undef, undef, undef, undef, undef], defers := [] }) (fun _ _ => 0) rfl ?_ ?_
  case refine_1 =>
    go_wp2_with fail
    refine (S.out _ ((HR.out.alloc hC _).alloc (by simp; omega) _)).mono ?_
    rintro e w1 ⟨rfl, d, rfl⟩
    have X3 := hid ((X2.out.alloc (.cells (pk 0 0 0 0 none 0 0) 24)).draws d)
    have K3 := hid (below_draws (on K2.out (below_alloc _ (.cells (pk 0 0 0 0 none 0 0) 24))) d)
    go_wp2
    go_step3
    exact ⟨rfl, rfl, X3.out, K3.out⟩
  case refine_2 =>
    rintro a' w' ⟨rfl, hX, hK⟩
    have HX := hid hX
    have HK := hid hK
    clear hX hK
    go_wp2_with (refine wpList_store_bx rfl 24 (.tmp 2) (.tmp 56) rfl rfl _ _ _ (pk 0 0 0 0 none 0 0) rfl rfl HX.out (by kernel_rfl) rfl (pk_one _ _ _ _ _ _ _) ?_)
    try simp only [Exit.jump]
    refine bodyPost_ret (results_bx2 rfl _ rfl HX.out.row Try.underlying24 rfl (by kernel_rfl)) rfl ?_
    exact ⟨rfl, below_setRow HK.out (Nat.le_refl _) _⟩
end Go.Proofs.Ytcamlbinakompaa
