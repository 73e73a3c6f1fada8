/-
  What is proved: the reference's Wrong and Write. Condition: the store lies in memory as one; the write's bytes are read.
-/
import Derived.Test.YtincndblpbdnlaaRst
import Derived.Deep.QuietTactic
import Derived.BigQuiet
import Derived.BigRegion
import Derived.StillTailTactics
namespace Go.Proofs.Ytincndblpbdnlaa
open Go.RowKit

section
variable {w : World} {b0 kx : Nat} {r0 r1 r2 r3 r4 : Value} {sh : Sh} {X : RS}
set_option maxRecDepth 100000 in
set_option maxHeartbeats 1600000 in
theorem wrong0 (h : Rf w b0 kx r0 r1 r2 r3 r4 sh X) (c s b o k : Int) (A : Option Addr) (L cap : Nat)  (h0 : k < 0) :
    Calls Try.prog 38 #[.pointer (some ⟨kx, 0, none⟩), .agg #[.int .i64 c, .int .i64 s, .int .i64 b, .int .i64 o, .int .i64 k, .slice A L cap]] w fun e w' => e = .returned (.int .i64 9) ∧ Below w.heap.size w w' := by
  obtain ⟨W, hW, BX, HB, -⟩ := below_new w 38 #[.int .i64 c, .int .i64 s, .int .i64 b, .int .i64 o, .int .i64 k, .slice A L cap]
  have HW := hid hW
  have HB0 := hid HB
  obtain ⟨d0, d1, d2, d3, d4, d5⟩ := BX.all6
  have hbx := h.bx.next HB
  have e0 : W.cell? ⟨kx, 0, none⟩ = some (.int .i64 (sh.B : Nat)) := hbx.cell 0
  have e1 : W.cell? ⟨kx, 1, none⟩ = some (.int .i64 (sh.Z : Nat)) := hbx.cell 1
  have e2 : W.cell? ⟨kx, 2, none⟩ = some (.int .i64 (sh.C : Nat)) := hbx.cell 2
  have e3 : W.cell? ⟨kx, 3, none⟩ = some (.int .i64 (sh.S : Nat)) := hbx.cell 3
  clear hW BX HB hbx h
  have q0 : decide (k < (0 : Int)) = true := by simp; omega
  clear h0
  generalize sh.B = sB at *
  generalize sh.Z = sZ at *
  generalize sh.C = sC at *
  generalize sh.S = sS at *
  go_enter Try.func38, Try.ntmps38
  go_upto_region 1 with fail
  rw [HW.out]
  go_quiet (fail)
  go_wp2
  go_ret
  exact ⟨rfl, below_draws (HB0.out) _⟩
set_option maxRecDepth 100000 in
set_option maxHeartbeats 1600000 in
theorem wrong1 (h : Rf w b0 kx r0 r1 r2 r3 r4 sh X) (c s b o k : Int) (A : Option Addr) (L cap : Nat) (h0 : ¬ (k < 0)) (h1 : (sh.B : Int) ≤ k) :
    Calls Try.prog 38 #[.pointer (some ⟨kx, 0, none⟩), .agg #[.int .i64 c, .int .i64 s, .int .i64 b, .int .i64 o, .int .i64 k, .slice A L cap]] w fun e w' => e = .returned (.int .i64 9) ∧ Below w.heap.size w w' := by
  obtain ⟨W, hW, BX, HB, -⟩ := below_new w 38 #[.int .i64 c, .int .i64 s, .int .i64 b, .int .i64 o, .int .i64 k, .slice A L cap]
  have HW := hid hW
  have HB0 := hid HB
  obtain ⟨d0, d1, d2, d3, d4, d5⟩ := BX.all6
  have hbx := h.bx.next HB
  have e0 : W.cell? ⟨kx, 0, none⟩ = some (.int .i64 (sh.B : Nat)) := hbx.cell 0
  have e1 : W.cell? ⟨kx, 1, none⟩ = some (.int .i64 (sh.Z : Nat)) := hbx.cell 1
  have e2 : W.cell? ⟨kx, 2, none⟩ = some (.int .i64 (sh.C : Nat)) := hbx.cell 2
  have e3 : W.cell? ⟨kx, 3, none⟩ = some (.int .i64 (sh.S : Nat)) := hbx.cell 3
  clear hW BX HB hbx h
  have q0 : decide (k < (0 : Int)) = false := by simp; omega
  have q1 : decide ((sh.B : Int) ≤ k) = true := by simp; omega
  clear h0 h1
  generalize sh.B = sB at *
  generalize sh.Z = sZ at *
  generalize sh.C = sC at *
  generalize sh.S = sS at *
  go_enter Try.func38, Try.ntmps38
  go_upto_region 1 with fail
  rw [HW.out]
  go_quiet (fail)
  go_wp2
  go_ret
  exact ⟨rfl, below_draws (HB0.out) _⟩
set_option maxRecDepth 100000 in
set_option maxHeartbeats 1600000 in
theorem wrong2 (h : Rf w b0 kx r0 r1 r2 r3 r4 sh X) (c s b o k : Int) (A : Option Addr) (L cap : Nat) (h0 : ¬ (k < 0)) (h1 : ¬ ((sh.B : Int) ≤ k)) (h2 : L ≠ sh.Z) :
    Calls Try.prog 38 #[.pointer (some ⟨kx, 0, none⟩), .agg #[.int .i64 c, .int .i64 s, .int .i64 b, .int .i64 o, .int .i64 k, .slice A L cap]] w fun e w' => e = .returned (.int .i64 10) ∧ Below w.heap.size w w' := by
  obtain ⟨W, hW, BX, HB, -⟩ := below_new w 38 #[.int .i64 c, .int .i64 s, .int .i64 b, .int .i64 o, .int .i64 k, .slice A L cap]
  have HW := hid hW
  have HB0 := hid HB
  obtain ⟨d0, d1, d2, d3, d4, d5⟩ := BX.all6
  have hbx := h.bx.next HB
  have e0 : W.cell? ⟨kx, 0, none⟩ = some (.int .i64 (sh.B : Nat)) := hbx.cell 0
  have e1 : W.cell? ⟨kx, 1, none⟩ = some (.int .i64 (sh.Z : Nat)) := hbx.cell 1
  have e2 : W.cell? ⟨kx, 2, none⟩ = some (.int .i64 (sh.C : Nat)) := hbx.cell 2
  have e3 : W.cell? ⟨kx, 3, none⟩ = some (.int .i64 (sh.S : Nat)) := hbx.cell 3
  clear hW BX HB hbx h
  have q0 : decide (k < (0 : Int)) = false := by simp; omega
  have q1 : decide ((sh.B : Int) ≤ k) = false := by simp; omega
  have q2 : (((L : Nat) : Int) != ((sh.Z : Nat) : Int)) = true := by simp; omega
  have q2' : ((L : Nat) != (sh.Z : Nat)) = true := by simp; omega
  clear h0 h1 h2
  generalize sh.B = sB at *
  generalize sh.Z = sZ at *
  generalize sh.C = sC at *
  generalize sh.S = sS at *
  go_enter Try.func38, Try.ntmps38
  go_upto_region 1 with fail
  rw [HW.out]
  go_quiet (fail)
  go_wp2
  go_quiet (fail)
  go_wp2
  go_ret
  exact ⟨rfl, below_draws (below_draws (HB0.out) _) _⟩
set_option maxRecDepth 100000 in
set_option maxHeartbeats 1600000 in
theorem wrong3 (h : Rf w b0 kx r0 r1 r2 r3 r4 sh X) (c s b o k : Int) (A : Option Addr) (L cap : Nat) (h0 : ¬ (k < 0)) (h1 : ¬ ((sh.B : Int) ≤ k)) (h2 : ¬ (L ≠ sh.Z)) (h3 : c < 0) :
    Calls Try.prog 38 #[.pointer (some ⟨kx, 0, none⟩), .agg #[.int .i64 c, .int .i64 s, .int .i64 b, .int .i64 o, .int .i64 k, .slice A L cap]] w fun e w' => e = .returned (.int .i64 6) ∧ Below w.heap.size w w' := by
  obtain ⟨W, hW, BX, HB, -⟩ := below_new w 38 #[.int .i64 c, .int .i64 s, .int .i64 b, .int .i64 o, .int .i64 k, .slice A L cap]
  have HW := hid hW
  have HB0 := hid HB
  obtain ⟨d0, d1, d2, d3, d4, d5⟩ := BX.all6
  have hbx := h.bx.next HB
  have e0 : W.cell? ⟨kx, 0, none⟩ = some (.int .i64 (sh.B : Nat)) := hbx.cell 0
  have e1 : W.cell? ⟨kx, 1, none⟩ = some (.int .i64 (sh.Z : Nat)) := hbx.cell 1
  have e2 : W.cell? ⟨kx, 2, none⟩ = some (.int .i64 (sh.C : Nat)) := hbx.cell 2
  have e3 : W.cell? ⟨kx, 3, none⟩ = some (.int .i64 (sh.S : Nat)) := hbx.cell 3
  clear hW BX HB hbx h
  have q0 : decide (k < (0 : Int)) = false := by simp; omega
  have q1 : decide ((sh.B : Int) ≤ k) = false := by simp; omega
  have q2 : (((L : Nat) : Int) != ((sh.Z : Nat) : Int)) = false := by simp; omega
  have q2' : ((L : Nat) != (sh.Z : Nat)) = false := by simp; omega
  have q3 : decide (c < (0 : Int)) = true := by simp; omega
  clear h0 h1 h2 h3
  generalize sh.B = sB at *
  generalize sh.Z = sZ at *
  generalize sh.C = sC at *
  generalize sh.S = sS at *
  go_enter Try.func38, Try.ntmps38
  go_upto_region 1 with fail
  rw [HW.out]
  go_quiet (fail)
  go_wp2
  go_quiet (fail)
  go_wp2
  go_quiet (fail)
  go_wp2
  go_ret
  exact ⟨rfl, below_draws (below_draws (below_draws (HB0.out) _) _) _⟩
set_option maxRecDepth 100000 in
set_option maxHeartbeats 1600000 in
theorem wrong4 (h : Rf w b0 kx r0 r1 r2 r3 r4 sh X) (c s b o k : Int) (A : Option Addr) (L cap : Nat) (h0 : ¬ (k < 0)) (h1 : ¬ ((sh.B : Int) ≤ k)) (h2 : ¬ (L ≠ sh.Z)) (h3 : ¬ (c < 0)) (h4 : (sh.C : Int) ≤ c) :
    Calls Try.prog 38 #[.pointer (some ⟨kx, 0, none⟩), .agg #[.int .i64 c, .int .i64 s, .int .i64 b, .int .i64 o, .int .i64 k, .slice A L cap]] w fun e w' => e = .returned (.int .i64 6) ∧ Below w.heap.size w w' := by
  obtain ⟨W, hW, BX, HB, -⟩ := below_new w 38 #[.int .i64 c, .int .i64 s, .int .i64 b, .int .i64 o, .int .i64 k, .slice A L cap]
  have HW := hid hW
  have HB0 := hid HB
  obtain ⟨d0, d1, d2, d3, d4, d5⟩ := BX.all6
  have hbx := h.bx.next HB
  have e0 : W.cell? ⟨kx, 0, none⟩ = some (.int .i64 (sh.B : Nat)) := hbx.cell 0
  have e1 : W.cell? ⟨kx, 1, none⟩ = some (.int .i64 (sh.Z : Nat)) := hbx.cell 1
  have e2 : W.cell? ⟨kx, 2, none⟩ = some (.int .i64 (sh.C : Nat)) := hbx.cell 2
  have e3 : W.cell? ⟨kx, 3, none⟩ = some (.int .i64 (sh.S : Nat)) := hbx.cell 3
  clear hW BX HB hbx h
  have q0 : decide (k < (0 : Int)) = false := by simp; omega
  have q1 : decide ((sh.B : Int) ≤ k) = false := by simp; omega
  have q2 : (((L : Nat) : Int) != ((sh.Z : Nat) : Int)) = false := by simp; omega
  have q2' : ((L : Nat) != (sh.Z : Nat)) = false := by simp; omega
  have q3 : decide (c < (0 : Int)) = false := by simp; omega
  have q4 : decide ((sh.C : Int) ≤ c) = true := by simp; omega
  clear h0 h1 h2 h3 h4
  generalize sh.B = sB at *
  generalize sh.Z = sZ at *
  generalize sh.C = sC at *
  generalize sh.S = sS at *
  go_enter Try.func38, Try.ntmps38
  go_upto_region 1 with fail
  rw [HW.out]
  go_quiet (fail)
  go_wp2
  go_quiet (fail)
  go_wp2
  go_quiet (fail)
  go_wp2
  go_ret
  exact ⟨rfl, below_draws (below_draws (below_draws (HB0.out) _) _) _⟩
set_option maxRecDepth 100000 in
set_option maxHeartbeats 1600000 in
theorem wrong5 (h : Rf w b0 kx r0 r1 r2 r3 r4 sh X) (c s b o k : Int) (A : Option Addr) (L cap : Nat) (h0 : ¬ (k < 0)) (h1 : ¬ ((sh.B : Int) ≤ k)) (h2 : ¬ (L ≠ sh.Z)) (h3 : ¬ (c < 0)) (h4 : ¬ ((sh.C : Int) ≤ c)) (h5 : s < 0) :
    Calls Try.prog 38 #[.pointer (some ⟨kx, 0, none⟩), .agg #[.int .i64 c, .int .i64 s, .int .i64 b, .int .i64 o, .int .i64 k, .slice A L cap]] w fun e w' => e = .returned (.int .i64 6) ∧ Below w.heap.size w w' := by
  obtain ⟨W, hW, BX, HB, -⟩ := below_new w 38 #[.int .i64 c, .int .i64 s, .int .i64 b, .int .i64 o, .int .i64 k, .slice A L cap]
  have HW := hid hW
  have HB0 := hid HB
  obtain ⟨d0, d1, d2, d3, d4, d5⟩ := BX.all6
  have hbx := h.bx.next HB
  have e0 : W.cell? ⟨kx, 0, none⟩ = some (.int .i64 (sh.B : Nat)) := hbx.cell 0
  have e1 : W.cell? ⟨kx, 1, none⟩ = some (.int .i64 (sh.Z : Nat)) := hbx.cell 1
  have e2 : W.cell? ⟨kx, 2, none⟩ = some (.int .i64 (sh.C : Nat)) := hbx.cell 2
  have e3 : W.cell? ⟨kx, 3, none⟩ = some (.int .i64 (sh.S : Nat)) := hbx.cell 3
  clear hW BX HB hbx h
  have q0 : decide (k < (0 : Int)) = false := by simp; omega
  have q1 : decide ((sh.B : Int) ≤ k) = false := by simp; omega
  have q2 : (((L : Nat) : Int) != ((sh.Z : Nat) : Int)) = false := by simp; omega
  have q2' : ((L : Nat) != (sh.Z : Nat)) = false := by simp; omega
  have q3 : decide (c < (0 : Int)) = false := by simp; omega
  have q4 : decide ((sh.C : Int) ≤ c) = false := by simp; omega
  have q5 : decide (s < (0 : Int)) = true := by simp; omega
  clear h0 h1 h2 h3 h4 h5
  generalize sh.B = sB at *
  generalize sh.Z = sZ at *
  generalize sh.C = sC at *
  generalize sh.S = sS at *
  go_enter Try.func38, Try.ntmps38
  go_upto_region 1 with fail
  rw [HW.out]
  go_quiet (fail)
  go_wp2
  go_quiet (fail)
  go_wp2
  go_quiet (fail)
  go_wp2
  go_ret
  exact ⟨rfl, below_draws (below_draws (below_draws (HB0.out) _) _) _⟩
set_option maxRecDepth 100000 in
set_option maxHeartbeats 1600000 in
theorem wrong6 (h : Rf w b0 kx r0 r1 r2 r3 r4 sh X) (c s b o k : Int) (A : Option Addr) (L cap : Nat) (h0 : ¬ (k < 0)) (h1 : ¬ ((sh.B : Int) ≤ k)) (h2 : ¬ (L ≠ sh.Z)) (h3 : ¬ (c < 0)) (h4 : ¬ ((sh.C : Int) ≤ c)) (h5 : ¬ (s < 0)) (h6 : (sh.S : Int) ≤ s) :
    Calls Try.prog 38 #[.pointer (some ⟨kx, 0, none⟩), .agg #[.int .i64 c, .int .i64 s, .int .i64 b, .int .i64 o, .int .i64 k, .slice A L cap]] w fun e w' => e = .returned (.int .i64 6) ∧ Below w.heap.size w w' := by
  obtain ⟨W, hW, BX, HB, -⟩ := below_new w 38 #[.int .i64 c, .int .i64 s, .int .i64 b, .int .i64 o, .int .i64 k, .slice A L cap]
  have HW := hid hW
  have HB0 := hid HB
  obtain ⟨d0, d1, d2, d3, d4, d5⟩ := BX.all6
  have hbx := h.bx.next HB
  have e0 : W.cell? ⟨kx, 0, none⟩ = some (.int .i64 (sh.B : Nat)) := hbx.cell 0
  have e1 : W.cell? ⟨kx, 1, none⟩ = some (.int .i64 (sh.Z : Nat)) := hbx.cell 1
  have e2 : W.cell? ⟨kx, 2, none⟩ = some (.int .i64 (sh.C : Nat)) := hbx.cell 2
  have e3 : W.cell? ⟨kx, 3, none⟩ = some (.int .i64 (sh.S : Nat)) := hbx.cell 3
  clear hW BX HB hbx h
  have q0 : decide (k < (0 : Int)) = false := by simp; omega
  have q1 : decide ((sh.B : Int) ≤ k) = false := by simp; omega
  have q2 : (((L : Nat) : Int) != ((sh.Z : Nat) : Int)) = false := by simp; omega
  have q2' : ((L : Nat) != (sh.Z : Nat)) = false := by simp; omega
  have q3 : decide (c < (0 : Int)) = false := by simp; omega
  have q4 : decide ((sh.C : Int) ≤ c) = false := by simp; omega
  have q5 : decide (s < (0 : Int)) = false := by simp; omega
  have q6 : decide ((sh.S : Int) ≤ s) = true := by simp; omega
  clear h0 h1 h2 h3 h4 h5 h6
  generalize sh.B = sB at *
  generalize sh.Z = sZ at *
  generalize sh.C = sC at *
  generalize sh.S = sS at *
  go_enter Try.func38, Try.ntmps38
  go_upto_region 1 with fail
  rw [HW.out]
  go_quiet (fail)
  go_wp2
  go_quiet (fail)
  go_wp2
  go_quiet (fail)
  go_wp2
  go_ret
  exact ⟨rfl, below_draws (below_draws (below_draws (HB0.out) _) _) _⟩
set_option maxRecDepth 100000 in
set_option maxHeartbeats 1600000 in
theorem wrong7 (h : Rf w b0 kx r0 r1 r2 r3 r4 sh X) (c s b o k : Int) (A : Option Addr) (L cap : Nat) (h0 : ¬ (k < 0)) (h1 : ¬ ((sh.B : Int) ≤ k)) (h2 : ¬ (L ≠ sh.Z)) (h3 : ¬ (c < 0)) (h4 : ¬ ((sh.C : Int) ≤ c)) (h5 : ¬ (s < 0)) (h6 : ¬ ((sh.S : Int) ≤ s)) (h7 : b < 1) :
    Calls Try.prog 38 #[.pointer (some ⟨kx, 0, none⟩), .agg #[.int .i64 c, .int .i64 s, .int .i64 b, .int .i64 o, .int .i64 k, .slice A L cap]] w fun e w' => e = .returned (.int .i64 6) ∧ Below w.heap.size w w' := by
  obtain ⟨W, hW, BX, HB, -⟩ := below_new w 38 #[.int .i64 c, .int .i64 s, .int .i64 b, .int .i64 o, .int .i64 k, .slice A L cap]
  have HW := hid hW
  have HB0 := hid HB
  obtain ⟨d0, d1, d2, d3, d4, d5⟩ := BX.all6
  have hbx := h.bx.next HB
  have e0 : W.cell? ⟨kx, 0, none⟩ = some (.int .i64 (sh.B : Nat)) := hbx.cell 0
  have e1 : W.cell? ⟨kx, 1, none⟩ = some (.int .i64 (sh.Z : Nat)) := hbx.cell 1
  have e2 : W.cell? ⟨kx, 2, none⟩ = some (.int .i64 (sh.C : Nat)) := hbx.cell 2
  have e3 : W.cell? ⟨kx, 3, none⟩ = some (.int .i64 (sh.S : Nat)) := hbx.cell 3
  clear hW BX HB hbx h
  have q0 : decide (k < (0 : Int)) = false := by simp; omega
  have q1 : decide ((sh.B : Int) ≤ k) = false := by simp; omega
  have q2 : (((L : Nat) : Int) != ((sh.Z : Nat) : Int)) = false := by simp; omega
  have q2' : ((L : Nat) != (sh.Z : Nat)) = false := by simp; omega
  have q3 : decide (c < (0 : Int)) = false := by simp; omega
  have q4 : decide ((sh.C : Int) ≤ c) = false := by simp; omega
  have q5 : decide (s < (0 : Int)) = false := by simp; omega
  have q6 : decide ((sh.S : Int) ≤ s) = false := by simp; omega
  have q7 : decide (b < (1 : Int)) = true := by simp; omega
  clear h0 h1 h2 h3 h4 h5 h6 h7
  generalize sh.B = sB at *
  generalize sh.Z = sZ at *
  generalize sh.C = sC at *
  generalize sh.S = sS at *
  go_enter Try.func38, Try.ntmps38
  go_upto_region 1 with fail
  rw [HW.out]
  go_quiet (fail)
  go_wp2
  go_quiet (fail)
  go_wp2
  go_quiet (fail)
  go_wp2
  go_ret
  exact ⟨rfl, below_draws (below_draws (below_draws (HB0.out) _) _) _⟩
set_option maxRecDepth 100000 in
set_option maxHeartbeats 1600000 in
theorem wrong8 (h : Rf w b0 kx r0 r1 r2 r3 r4 sh X) (c s b o k : Int) (A : Option Addr) (L cap : Nat) (h0 : ¬ (k < 0)) (h1 : ¬ ((sh.B : Int) ≤ k)) (h2 : ¬ (L ≠ sh.Z)) (h3 : ¬ (c < 0)) (h4 : ¬ ((sh.C : Int) ≤ c)) (h5 : ¬ (s < 0)) (h6 : ¬ ((sh.S : Int) ≤ s)) (_: ¬ (b < 1)) (h8 : 1099511627776 < b) :
    Calls Try.prog 38 #[.pointer (some ⟨kx, 0, none⟩), .agg #[.int .i64 c, .int .i64 s, .int .i64 b, .int .i64 o, .int .i64 k, .slice A L cap]] w fun e w' => e = .returned (.int .i64 6) ∧ Below w.heap.size w w' := by
  obtain ⟨W, hW, BX, HB, -⟩ := below_new w 38 #[.int .i64 c, .int .i64 s, .int .i64 b, .int .i64 o, .int .i64 k, .slice A L cap]
  have HW := hid hW
  have HB0 := hid HB
  obtain ⟨d0, d1, d2, d3, d4, d5⟩ := BX.all6
  have hbx := h.bx.next HB
  have e0 : W.cell? ⟨kx, 0, none⟩ = some (.int .i64 (sh.B : Nat)) := hbx.cell 0
  have e1 : W.cell? ⟨kx, 1, none⟩ = some (.int .i64 (sh.Z : Nat)) := hbx.cell 1
  have e2 : W.cell? ⟨kx, 2, none⟩ = some (.int .i64 (sh.C : Nat)) := hbx.cell 2
  have e3 : W.cell? ⟨kx, 3, none⟩ = some (.int .i64 (sh.S : Nat)) := hbx.cell 3
  clear hW BX HB hbx h
  have q0 : decide (k < (0 : Int)) = false := by simp; omega
  have q1 : decide ((sh.B : Int) ≤ k) = false := by simp; omega
  have q2 : (((L : Nat) : Int) != ((sh.Z : Nat) : Int)) = false := by simp; omega
  have q2' : ((L : Nat) != (sh.Z : Nat)) = false := by simp; omega
  have q3 : decide (c < (0 : Int)) = false := by simp; omega
  have q4 : decide ((sh.C : Int) ≤ c) = false := by simp; omega
  have q5 : decide (s < (0 : Int)) = false := by simp; omega
  have q6 : decide ((sh.S : Int) ≤ s) = false := by simp; omega
  have q7 : decide (b < (1 : Int)) = false := by simp; omega
  have q8 : decide ((1099511627776 : Int) < b) = true := by simp; omega
  clear h0 h1 h2 h3 h4 h5 h6 h8
  generalize sh.B = sB at *
  generalize sh.Z = sZ at *
  generalize sh.C = sC at *
  generalize sh.S = sS at *
  go_enter Try.func38, Try.ntmps38
  go_upto_region 1 with fail
  rw [HW.out]
  go_quiet (fail)
  go_wp2
  go_quiet (fail)
  go_wp2
  go_quiet (fail)
  go_wp2
  go_ret
  exact ⟨rfl, below_draws (below_draws (below_draws (HB0.out) _) _) _⟩
set_option maxRecDepth 100000 in
set_option maxHeartbeats 1600000 in
theorem wrong9 (h : Rf w b0 kx r0 r1 r2 r3 r4 sh X) (c s b o k : Int) (A : Option Addr) (L cap : Nat) (h0 : ¬ (k < 0)) (h1 : ¬ ((sh.B : Int) ≤ k)) (h2 : ¬ (L ≠ sh.Z)) (h3 : ¬ (c < 0)) (h4 : ¬ ((sh.C : Int) ≤ c)) (h5 : ¬ (s < 0)) (h6 : ¬ ((sh.S : Int) ≤ s)) (h7 : ¬ (b < 1)) (h8 : ¬ (1099511627776 < b)) (h9 : o < 1) :
    Calls Try.prog 38 #[.pointer (some ⟨kx, 0, none⟩), .agg #[.int .i64 c, .int .i64 s, .int .i64 b, .int .i64 o, .int .i64 k, .slice A L cap]] w fun e w' => e = .returned (.int .i64 6) ∧ Below w.heap.size w w' := by
  obtain ⟨W, hW, BX, HB, -⟩ := below_new w 38 #[.int .i64 c, .int .i64 s, .int .i64 b, .int .i64 o, .int .i64 k, .slice A L cap]
  have HW := hid hW
  have HB0 := hid HB
  obtain ⟨d0, d1, d2, d3, d4, d5⟩ := BX.all6
  have hbx := h.bx.next HB
  have e0 : W.cell? ⟨kx, 0, none⟩ = some (.int .i64 (sh.B : Nat)) := hbx.cell 0
  have e1 : W.cell? ⟨kx, 1, none⟩ = some (.int .i64 (sh.Z : Nat)) := hbx.cell 1
  have e2 : W.cell? ⟨kx, 2, none⟩ = some (.int .i64 (sh.C : Nat)) := hbx.cell 2
  have e3 : W.cell? ⟨kx, 3, none⟩ = some (.int .i64 (sh.S : Nat)) := hbx.cell 3
  clear hW BX HB hbx h
  have q0 : decide (k < (0 : Int)) = false := by simp; omega
  have q1 : decide ((sh.B : Int) ≤ k) = false := by simp; omega
  have q2 : (((L : Nat) : Int) != ((sh.Z : Nat) : Int)) = false := by simp; omega
  have q2' : ((L : Nat) != (sh.Z : Nat)) = false := by simp; omega
  have q3 : decide (c < (0 : Int)) = false := by simp; omega
  have q4 : decide ((sh.C : Int) ≤ c) = false := by simp; omega
  have q5 : decide (s < (0 : Int)) = false := by simp; omega
  have q6 : decide ((sh.S : Int) ≤ s) = false := by simp; omega
  have q7 : decide (b < (1 : Int)) = false := by simp; omega
  have q8 : decide ((1099511627776 : Int) < b) = false := by simp; omega
  have q9 : decide (o < (1 : Int)) = true := by simp; omega
  clear h0 h1 h2 h3 h4 h5 h6 h7 h8 h9
  generalize sh.B = sB at *
  generalize sh.Z = sZ at *
  generalize sh.C = sC at *
  generalize sh.S = sS at *
  go_enter Try.func38, Try.ntmps38
  go_upto_region 1 with fail
  rw [HW.out]
  go_quiet (fail)
  go_wp2
  go_quiet (fail)
  go_wp2
  go_quiet (fail)
  go_wp2
  go_ret
  exact ⟨rfl, below_draws (below_draws (below_draws (HB0.out) _) _) _⟩
set_option maxRecDepth 100000 in
set_option maxHeartbeats 1600000 in
theorem wrong10 (h : Rf w b0 kx r0 r1 r2 r3 r4 sh X) (c s b o k : Int) (A : Option Addr) (L cap : Nat) (h0 : ¬ (k < 0)) (h1 : ¬ ((sh.B : Int) ≤ k)) (h2 : ¬ (L ≠ sh.Z)) (h3 : ¬ (c < 0)) (h4 : ¬ ((sh.C : Int) ≤ c)) (h5 : ¬ (s < 0)) (h6 : ¬ ((sh.S : Int) ≤ s)) (h7 : ¬ (b < 1)) (h8 : ¬ (1099511627776 < b)) (_ : ¬ (o < 1)) (h10 : 1099511627776 < o) :
    Calls Try.prog 38 #[.pointer (some ⟨kx, 0, none⟩), .agg #[.int .i64 c, .int .i64 s, .int .i64 b, .int .i64 o, .int .i64 k, .slice A L cap]] w fun e w' => e = .returned (.int .i64 6) ∧ Below w.heap.size w w' := by
  obtain ⟨W, hW, BX, HB, -⟩ := below_new w 38 #[.int .i64 c, .int .i64 s, .int .i64 b, .int .i64 o, .int .i64 k, .slice A L cap]
  have HW := hid hW
  have HB0 := hid HB
  obtain ⟨d0, d1, d2, d3, d4, d5⟩ := BX.all6
  have hbx := h.bx.next HB
  have e0 : W.cell? ⟨kx, 0, none⟩ = some (.int .i64 (sh.B : Nat)) := hbx.cell 0
  have e1 : W.cell? ⟨kx, 1, none⟩ = some (.int .i64 (sh.Z : Nat)) := hbx.cell 1
  have e2 : W.cell? ⟨kx, 2, none⟩ = some (.int .i64 (sh.C : Nat)) := hbx.cell 2
  have e3 : W.cell? ⟨kx, 3, none⟩ = some (.int .i64 (sh.S : Nat)) := hbx.cell 3
  clear hW BX HB hbx h
  have q0 : decide (k < (0 : Int)) = false := by simp; omega
  have q1 : decide ((sh.B : Int) ≤ k) = false := by simp; omega
  have q2 : (((L : Nat) : Int) != ((sh.Z : Nat) : Int)) = false := by simp; omega
  have q2' : ((L : Nat) != (sh.Z : Nat)) = false := by simp; omega
  have q3 : decide (c < (0 : Int)) = false := by simp; omega
  have q4 : decide ((sh.C : Int) ≤ c) = false := by simp; omega
  have q5 : decide (s < (0 : Int)) = false := by simp; omega
  have q6 : decide ((sh.S : Int) ≤ s) = false := by simp; omega
  have q7 : decide (b < (1 : Int)) = false := by simp; omega
  have q8 : decide ((1099511627776 : Int) < b) = false := by simp; omega
  have q9 : decide (o < (1 : Int)) = false := by simp; omega
  have q10 : decide ((1099511627776 : Int) < o) = true := by simp; omega
  clear h0 h1 h2 h3 h4 h5 h6 h7 h8 h10
  generalize sh.B = sB at *
  generalize sh.Z = sZ at *
  generalize sh.C = sC at *
  generalize sh.S = sS at *
  go_enter Try.func38, Try.ntmps38
  go_upto_region 1 with fail
  rw [HW.out]
  go_quiet (fail)
  go_wp2
  go_quiet (fail)
  go_wp2
  go_quiet (fail)
  go_wp2
  go_ret
  exact ⟨rfl, below_draws (below_draws (below_draws (HB0.out) _) _) _⟩
set_option maxRecDepth 100000 in
set_option maxHeartbeats 1600000 in
theorem fit_a (h : Rf w b0 kx r0 r1 r2 r3 r4 sh X) (c s b o k : Nat) (A : Option Addr) (L cap : Nat) (hk : k < sh.B) (hL : L = sh.Z) (hc : c < sh.C) (hs : s < sh.S) (hb : 1 ≤ b ∧ b ≤ 1099511627776) (ho : 1 ≤ o ∧ o ≤ 1099511627776) (ok : sh.ok) (hi : sh.S * c + s < sh.S * sh.C) (PQ : b < X.P (sh.S * c + s)) :
    Calls Try.prog 38 #[.pointer (some ⟨kx, 0, none⟩), .agg #[.int .i64 (c : Nat), .int .i64 (s : Nat), .int .i64 (b : Nat), .int .i64 (o : Nat), .int .i64 (k : Nat), .slice A L cap]] w fun e w' => e = .returned (.int .i64 12) ∧ Below w.heap.size w w' := by
  obtain ⟨W, hW, BX, HB, -⟩ := below_new w 38 #[.int .i64 (c : Nat), .int .i64 (s : Nat), .int .i64 (b : Nat), .int .i64 (o : Nat), .int .i64 (k : Nat), .slice A L cap]
  have HW := hid hW
  have HB0 := hid HB
  obtain ⟨d0, d1, d2, d3, d4, d5⟩ := BX.all6
  have hbx := h.bx.next HB
  have e0 : W.cell? ⟨kx, 0, none⟩ = some (.int .i64 (sh.B : Nat)) := hbx.cell 0
  have e1 : W.cell? ⟨kx, 1, none⟩ = some (.int .i64 (sh.Z : Nat)) := hbx.cell 1
  have e2 : W.cell? ⟨kx, 2, none⟩ = some (.int .i64 (sh.C : Nat)) := hbx.cell 2
  have e3 : W.cell? ⟨kx, 3, none⟩ = some (.int .i64 (sh.S : Nat)) := hbx.cell 3
  have e6 : W.cell? ⟨kx, 6, none⟩ = some r2 := hbx.cell 6
  have e7 : W.cell? ⟨kx, 7, none⟩ = some r3 := hbx.cell 7
  have hW2 := h.below HB
  obtain ⟨g2, c2, rfl, x2, y2⟩ := hW2.getP hi
  obtain ⟨g3, c3, rfl, x3, y3⟩ := hW2.getO hi
  have sC := ok.c.2
  have sS := ok.s.2
  have hcs : c * sh.S ≤ 4 * 4 := Nat.mul_le_mul (by omega) sS
  have hpe : (c : Int) * ((sh.S : Nat) : Int) = ((c * sh.S : Nat) : Int) := by rw [Int.natCast_mul]
  rw [Nat.mul_comm sh.S c] at hi x2 x3 PQ
  clear hW BX HB hbx h hW2 y2 y3 ok
  generalize X.P (c * sh.S + s) = pp at *
  generalize X.O (c * sh.S + s) = oo at *
  generalize c * sh.S = m at *
  generalize sh.S * sh.C = N at *
  generalize sh.B = sB at *
  generalize sh.Z = sZ at *
  generalize sh.C = sC' at *
  generalize sh.S = sS' at *
  have t1 : decide ((k : Int) < 0) = false := by simp
  have t2 : decide (sB ≤ k) = false := by simp; omega
  have t3 : decide ((c : Int) < 0) = false := by simp
  have t4 : decide (sC' ≤ c) = false := by simp; omega
  have t5 : decide ((s : Int) < 0) = false := by simp
  have t6 : decide (sS' ≤ s) = false := by simp; omega
  have t7 : decide ((b : Int) < 1) = false := by simp; omega
  have t8 : decide ((1099511627776 : Int) < (b : Int)) = false := by simp; omega
  have t9 : decide ((o : Int) < 1) = false := by simp; omega
  have t10 : decide ((1099511627776 : Int) < (o : Int)) = false := by simp; omega
  have hm16 : m ≤ 16 := hcs
  have hw9 := hid (show wrap64 ((m : Int) + (s : Int)) = ((m + s : Nat) : Int) by unfold wrap64; omega)
  obtain ⟨ii, hii⟩ : ∃ i, m + s = i := ⟨_, rfl⟩
  rw [hii] at hi x2 x3 hw9
  have j1 : (ii : Int) < (N : Int) := by omega
  clear hii
  have u1 : decide (b < pp) = true := by simp; omega
  clear hk hc hs hb ho PQ
  subst hL
  go_enter Try.func38, Try.ntmps38
  go_upto_region 1 with fail
  rw [HW.out]
  go_quiet (fail)
  go_wp2
  go_quiet (fail)
  go_wp2
  go_quiet (fail)
  go_wp2
  go_quiet (fail)
  rw [hw9.out]
  go_wp2
  go_quiet (fail)
  go_wp2
  go_ret
  exact ⟨rfl, below_draws (below_draws (below_draws (below_draws (below_draws (HB0.out) _) _) _) _) _⟩
set_option maxRecDepth 100000 in
set_option maxHeartbeats 1600000 in
theorem fit_b (h : Rf w b0 kx r0 r1 r2 r3 r4 sh X) (c s b o k : Nat) (A : Option Addr) (L cap : Nat) (hk : k < sh.B) (hL : L = sh.Z) (hc : c < sh.C) (hs : s < sh.S) (hb : 1 ≤ b ∧ b ≤ 1099511627776) (ho : 1 ≤ o ∧ o ≤ 1099511627776) (ok : sh.ok) (hi : sh.S * c + s < sh.S * sh.C) (PQ : b = X.P (sh.S * c + s) ∧ o < X.O (sh.S * c + s)) :
    Calls Try.prog 38 #[.pointer (some ⟨kx, 0, none⟩), .agg #[.int .i64 (c : Nat), .int .i64 (s : Nat), .int .i64 (b : Nat), .int .i64 (o : Nat), .int .i64 (k : Nat), .slice A L cap]] w fun e w' => e = .returned (.int .i64 12) ∧ Below w.heap.size w w' := by
  obtain ⟨W, hW, BX, HB, -⟩ := below_new w 38 #[.int .i64 (c : Nat), .int .i64 (s : Nat), .int .i64 (b : Nat), .int .i64 (o : Nat), .int .i64 (k : Nat), .slice A L cap]
  have HW := hid hW
  have HB0 := hid HB
  obtain ⟨d0, d1, d2, d3, d4, d5⟩ := BX.all6
  have hbx := h.bx.next HB
  have e0 : W.cell? ⟨kx, 0, none⟩ = some (.int .i64 (sh.B : Nat)) := hbx.cell 0
  have e1 : W.cell? ⟨kx, 1, none⟩ = some (.int .i64 (sh.Z : Nat)) := hbx.cell 1
  have e2 : W.cell? ⟨kx, 2, none⟩ = some (.int .i64 (sh.C : Nat)) := hbx.cell 2
  have e3 : W.cell? ⟨kx, 3, none⟩ = some (.int .i64 (sh.S : Nat)) := hbx.cell 3
  have e6 : W.cell? ⟨kx, 6, none⟩ = some r2 := hbx.cell 6
  have e7 : W.cell? ⟨kx, 7, none⟩ = some r3 := hbx.cell 7
  have hW2 := h.below HB
  obtain ⟨g2, c2, rfl, x2, y2⟩ := hW2.getP hi
  obtain ⟨g3, c3, rfl, x3, y3⟩ := hW2.getO hi
  have sC := ok.c.2
  have sS := ok.s.2
  have hcs : c * sh.S ≤ 4 * 4 := Nat.mul_le_mul (by omega) sS
  have hpe : (c : Int) * ((sh.S : Nat) : Int) = ((c * sh.S : Nat) : Int) := by rw [Int.natCast_mul]
  rw [Nat.mul_comm sh.S c] at hi x2 x3 PQ
  clear hW BX HB hbx h hW2 y2 y3 ok
  generalize X.P (c * sh.S + s) = pp at *
  generalize X.O (c * sh.S + s) = oo at *
  generalize c * sh.S = m at *
  generalize sh.S * sh.C = N at *
  generalize sh.B = sB at *
  generalize sh.Z = sZ at *
  generalize sh.C = sC' at *
  generalize sh.S = sS' at *
  have t1 : decide ((k : Int) < 0) = false := by simp
  have t2 : decide (sB ≤ k) = false := by simp; omega
  have t3 : decide ((c : Int) < 0) = false := by simp
  have t4 : decide (sC' ≤ c) = false := by simp; omega
  have t5 : decide ((s : Int) < 0) = false := by simp
  have t6 : decide (sS' ≤ s) = false := by simp; omega
  have t7 : decide ((b : Int) < 1) = false := by simp; omega
  have t8 : decide ((1099511627776 : Int) < (b : Int)) = false := by simp; omega
  have t9 : decide ((o : Int) < 1) = false := by simp; omega
  have t10 : decide ((1099511627776 : Int) < (o : Int)) = false := by simp; omega
  have hm16 : m ≤ 16 := hcs
  have hw9 := hid (show wrap64 ((m : Int) + (s : Int)) = ((m + s : Nat) : Int) by unfold wrap64; omega)
  obtain ⟨ii, hii⟩ : ∃ i, m + s = i := ⟨_, rfl⟩
  rw [hii] at hi x2 x3 hw9
  have j1 : (ii : Int) < (N : Int) := by omega
  clear hii
  have u1 : decide (b < pp) = false := by simp; omega
  have u2 : (b == pp) = true := by simp; omega
  have u2' : (((b : Nat) : Int) == ((pp : Nat) : Int)) = true := by simp; omega
  have u3 : decide (o < oo) = true := by simp; omega
  clear hk hc hs hb ho PQ
  subst hL
  go_enter Try.func38, Try.ntmps38
  go_upto_region 1 with fail
  rw [HW.out]
  go_quiet (fail)
  go_wp2
  go_quiet (fail)
  go_wp2
  go_quiet (fail)
  go_wp2
  go_quiet (fail)
  rw [hw9.out]
  go_wp2
  go_quiet (fail)
  go_wp2
  go_ret
  exact ⟨rfl, below_draws (below_draws (below_draws (below_draws (below_draws (HB0.out) _) _) _) _) _⟩
set_option maxRecDepth 100000 in
set_option maxHeartbeats 1600000 in
theorem fit_c (h : Rf w b0 kx r0 r1 r2 r3 r4 sh X) (c s b o k : Nat) (A : Option Addr) (L cap : Nat) (hk : k < sh.B) (hL : L = sh.Z) (hc : c < sh.C) (hs : s < sh.S) (hb : 1 ≤ b ∧ b ≤ 1099511627776) (ho : 1 ≤ o ∧ o ≤ 1099511627776) (ok : sh.ok) (hi : sh.S * c + s < sh.S * sh.C) (PQ : b = X.P (sh.S * c + s) ∧ X.O (sh.S * c + s) ≤ o) :
    Calls Try.prog 38 #[.pointer (some ⟨kx, 0, none⟩), .agg #[.int .i64 (c : Nat), .int .i64 (s : Nat), .int .i64 (b : Nat), .int .i64 (o : Nat), .int .i64 (k : Nat), .slice A L cap]] w fun e w' => e = .returned (.int .i64 0) ∧ Below w.heap.size w w' := by
  obtain ⟨W, hW, BX, HB, -⟩ := below_new w 38 #[.int .i64 (c : Nat), .int .i64 (s : Nat), .int .i64 (b : Nat), .int .i64 (o : Nat), .int .i64 (k : Nat), .slice A L cap]
  have HW := hid hW
  have HB0 := hid HB
  obtain ⟨d0, d1, d2, d3, d4, d5⟩ := BX.all6
  have hbx := h.bx.next HB
  have e0 : W.cell? ⟨kx, 0, none⟩ = some (.int .i64 (sh.B : Nat)) := hbx.cell 0
  have e1 : W.cell? ⟨kx, 1, none⟩ = some (.int .i64 (sh.Z : Nat)) := hbx.cell 1
  have e2 : W.cell? ⟨kx, 2, none⟩ = some (.int .i64 (sh.C : Nat)) := hbx.cell 2
  have e3 : W.cell? ⟨kx, 3, none⟩ = some (.int .i64 (sh.S : Nat)) := hbx.cell 3
  have e6 : W.cell? ⟨kx, 6, none⟩ = some r2 := hbx.cell 6
  have e7 : W.cell? ⟨kx, 7, none⟩ = some r3 := hbx.cell 7
  have hW2 := h.below HB
  obtain ⟨g2, c2, rfl, x2, y2⟩ := hW2.getP hi
  obtain ⟨g3, c3, rfl, x3, y3⟩ := hW2.getO hi
  have sC := ok.c.2
  have sS := ok.s.2
  have hcs : c * sh.S ≤ 4 * 4 := Nat.mul_le_mul (by omega) sS
  have hpe : (c : Int) * ((sh.S : Nat) : Int) = ((c * sh.S : Nat) : Int) := by rw [Int.natCast_mul]
  rw [Nat.mul_comm sh.S c] at hi x2 x3 PQ
  clear hW BX HB hbx h hW2 y2 y3 ok
  generalize X.P (c * sh.S + s) = pp at *
  generalize X.O (c * sh.S + s) = oo at *
  generalize c * sh.S = m at *
  generalize sh.S * sh.C = N at *
  generalize sh.B = sB at *
  generalize sh.Z = sZ at *
  generalize sh.C = sC' at *
  generalize sh.S = sS' at *
  have t1 : decide ((k : Int) < 0) = false := by simp
  have t2 : decide (sB ≤ k) = false := by simp; omega
  have t3 : decide ((c : Int) < 0) = false := by simp
  have t4 : decide (sC' ≤ c) = false := by simp; omega
  have t5 : decide ((s : Int) < 0) = false := by simp
  have t6 : decide (sS' ≤ s) = false := by simp; omega
  have t7 : decide ((b : Int) < 1) = false := by simp; omega
  have t8 : decide ((1099511627776 : Int) < (b : Int)) = false := by simp; omega
  have t9 : decide ((o : Int) < 1) = false := by simp; omega
  have t10 : decide ((1099511627776 : Int) < (o : Int)) = false := by simp; omega
  have hm16 : m ≤ 16 := hcs
  have hw9 := hid (show wrap64 ((m : Int) + (s : Int)) = ((m + s : Nat) : Int) by unfold wrap64; omega)
  obtain ⟨ii, hii⟩ : ∃ i, m + s = i := ⟨_, rfl⟩
  rw [hii] at hi x2 x3 hw9
  have j1 : (ii : Int) < (N : Int) := by omega
  clear hii
  have u1 : decide (b < pp) = false := by simp; omega
  have u2 : (b == pp) = true := by simp; omega
  have u2' : (((b : Nat) : Int) == ((pp : Nat) : Int)) = true := by simp; omega
  have u3 : decide (o < oo) = false := by simp; omega
  clear hk hc hs hb ho PQ
  subst hL
  go_enter Try.func38, Try.ntmps38
  go_upto_region 1 with fail
  rw [HW.out]
  go_quiet (fail)
  go_wp2
  go_quiet (fail)
  go_wp2
  go_quiet (fail)
  go_wp2
  go_quiet (fail)
  rw [hw9.out]
  go_wp2
  go_quiet (fail)
  go_wp2
  go_ret
  exact ⟨rfl, below_draws (below_draws (below_draws (below_draws (below_draws (HB0.out) _) _) _) _) _⟩
set_option maxRecDepth 100000 in
set_option maxHeartbeats 1600000 in
theorem fit_d (h : Rf w b0 kx r0 r1 r2 r3 r4 sh X) (c s b o k : Nat) (A : Option Addr) (L cap : Nat) (hk : k < sh.B) (hL : L = sh.Z) (hc : c < sh.C) (hs : s < sh.S) (hb : 1 ≤ b ∧ b ≤ 1099511627776) (ho : 1 ≤ o ∧ o ≤ 1099511627776) (ok : sh.ok) (hi : sh.S * c + s < sh.S * sh.C) (PQ : X.P (sh.S * c + s) < b) :
    Calls Try.prog 38 #[.pointer (some ⟨kx, 0, none⟩), .agg #[.int .i64 (c : Nat), .int .i64 (s : Nat), .int .i64 (b : Nat), .int .i64 (o : Nat), .int .i64 (k : Nat), .slice A L cap]] w fun e w' => e = .returned (.int .i64 0) ∧ Below w.heap.size w w' := by
  obtain ⟨W, hW, BX, HB, -⟩ := below_new w 38 #[.int .i64 (c : Nat), .int .i64 (s : Nat), .int .i64 (b : Nat), .int .i64 (o : Nat), .int .i64 (k : Nat), .slice A L cap]
  have HW := hid hW
  have HB0 := hid HB
  obtain ⟨d0, d1, d2, d3, d4, d5⟩ := BX.all6
  have hbx := h.bx.next HB
  have e0 : W.cell? ⟨kx, 0, none⟩ = some (.int .i64 (sh.B : Nat)) := hbx.cell 0
  have e1 : W.cell? ⟨kx, 1, none⟩ = some (.int .i64 (sh.Z : Nat)) := hbx.cell 1
  have e2 : W.cell? ⟨kx, 2, none⟩ = some (.int .i64 (sh.C : Nat)) := hbx.cell 2
  have e3 : W.cell? ⟨kx, 3, none⟩ = some (.int .i64 (sh.S : Nat)) := hbx.cell 3
  have e6 : W.cell? ⟨kx, 6, none⟩ = some r2 := hbx.cell 6
  have e7 : W.cell? ⟨kx, 7, none⟩ = some r3 := hbx.cell 7
  have hW2 := h.below HB
  obtain ⟨g2, c2, rfl, x2, y2⟩ := hW2.getP hi
  obtain ⟨g3, c3, rfl, x3, y3⟩ := hW2.getO hi
  have sC := ok.c.2
  have sS := ok.s.2
  have hcs : c * sh.S ≤ 4 * 4 := Nat.mul_le_mul (by omega) sS
  have hpe : (c : Int) * ((sh.S : Nat) : Int) = ((c * sh.S : Nat) : Int) := by rw [Int.natCast_mul]
  rw [Nat.mul_comm sh.S c] at hi x2 x3 PQ
  clear hW BX HB hbx h hW2 y2 y3 ok
  generalize X.P (c * sh.S + s) = pp at *
  generalize X.O (c * sh.S + s) = oo at *
  generalize c * sh.S = m at *
  generalize sh.S * sh.C = N at *
  generalize sh.B = sB at *
  generalize sh.Z = sZ at *
  generalize sh.C = sC' at *
  generalize sh.S = sS' at *
  have t1 : decide ((k : Int) < 0) = false := by simp
  have t2 : decide (sB ≤ k) = false := by simp; omega
  have t3 : decide ((c : Int) < 0) = false := by simp
  have t4 : decide (sC' ≤ c) = false := by simp; omega
  have t5 : decide ((s : Int) < 0) = false := by simp
  have t6 : decide (sS' ≤ s) = false := by simp; omega
  have t7 : decide ((b : Int) < 1) = false := by simp; omega
  have t8 : decide ((1099511627776 : Int) < (b : Int)) = false := by simp; omega
  have t9 : decide ((o : Int) < 1) = false := by simp; omega
  have t10 : decide ((1099511627776 : Int) < (o : Int)) = false := by simp; omega
  have hm16 : m ≤ 16 := hcs
  have hw9 := hid (show wrap64 ((m : Int) + (s : Int)) = ((m + s : Nat) : Int) by unfold wrap64; omega)
  obtain ⟨ii, hii⟩ : ∃ i, m + s = i := ⟨_, rfl⟩
  rw [hii] at hi x2 x3 hw9
  have j1 : (ii : Int) < (N : Int) := by omega
  clear hii
  have u1 : decide (b < pp) = false := by simp; omega
  have u2 : (b == pp) = false := by simp; omega
  have u2' : (((b : Nat) : Int) == ((pp : Nat) : Int)) = false := by simp; omega
  clear hk hc hs hb ho PQ
  subst hL
  go_enter Try.func38, Try.ntmps38
  go_upto_region 1 with fail
  rw [HW.out]
  go_quiet (fail)
  go_wp2
  go_quiet (fail)
  go_wp2
  go_quiet (fail)
  go_wp2
  go_quiet (fail)
  rw [hw9.out]
  go_wp2
  go_quiet (fail)
  go_wp2
  go_ret
  exact ⟨rfl, below_draws (below_draws (below_draws (below_draws (below_draws (HB0.out) _) _) _) _) _⟩

/-- what the reference finds wrong with a write -/
def wrg (sh : Sh) (X : RS) (x : Wr) : Nat := if x.wrong sh = 0 then (if age x.b x.o (X.P (x.i sh)) (X.O (x.i sh)) < 0 then 12 else 0) else x.wrong sh
theorem age_lt2 (b o : Int) (p q : Nat) (h1 : b = p) (h2 : o < q) : age b o p q < 0 := by
  subst h1
  unfold age orI cmpI
  simp
  rw [if_pos h2]
  omega
theorem age_neg {b o p q : Nat} (h : b < p ∨ b = p ∧ o < q) : age b o p q < 0 := by
  rcases h with h | ⟨h1, h2⟩
  · unfold age orI cmpI
    rw [if_pos (show ((b : Nat) : Int) < (p : Nat) by omega)]
    simp
  · exact age_lt2 _ _ _ _ (by omega) (by omega)
theorem age_not {b o p q : Nat} (h : p < b ∨ b = p ∧ q ≤ o) : ¬ age b o p q < 0 := by
  rcases h with h | ⟨h1, h2⟩
  · unfold age orI cmpI
    rw [if_neg (show ¬ ((b : Nat) : Int) < (p : Nat) by omega), if_pos (show ((p : Nat) : Int) < (b : Nat) by omega)]
    simp
  · subst h1
    unfold age orI cmpI
    rw [if_neg (show ¬ ((b : Nat) : Int) < (b : Nat) by omega), if_neg (show ¬ ((b : Nat) : Int) < (b : Nat) by omega), if_neg (show ¬ ((o : Nat) : Int) < (q : Nat) by omega)]
    split
    · contradiction
    · split <;> omega
theorem wrong_any (h : Rf w b0 kx r0 r1 r2 r3 r4 sh X) (ok : sh.ok) (x : Wr) :
    Calls Try.prog 38 #[.pointer (some ⟨kx, 0, none⟩), x.v] w fun e w' => e = .returned (.int .i64 (wrg sh X x : Nat)) ∧ Below w.heap.size w w' := by
  by_cases hw : x.wrong sh = 0
  · have fit := x.fit ok hw
    obtain ⟨f1, f2, ⟨f3, f4⟩, f5, f6⟩ := x.fits sh hw
    obtain ⟨c, s, b, o, k, A, cap, l⟩ := x
    have hlt : age b o (X.P (sh.S * c.toNat + s.toNat)) (X.O (sh.S * c.toNat + s.toNat)) < 0 → wrg sh X ⟨c, s, b, o, k, A, cap, l⟩ = 12 := fun h => (if_pos hw).trans (if_pos h)
    have hge : ¬ age b o (X.P (sh.S * c.toNat + s.toNat)) (X.O (sh.S * c.toNat + s.toNat)) < 0 → wrg sh X ⟨c, s, b, o, k, A, cap, l⟩ = 0 := fun h => (if_pos hw).trans (if_neg h)
    generalize wrg sh X ⟨c, s, b, o, k, A, cap, l⟩ = z at *
    clear hw
    dsimp only [Wr.v] at *
    obtain ⟨c, rfl⟩ := Int.eq_ofNat_of_zero_le f3.1
    obtain ⟨s, rfl⟩ := Int.eq_ofNat_of_zero_le f4.1
    obtain ⟨k, rfl⟩ := Int.eq_ofNat_of_zero_le f1.1
    obtain ⟨b, rfl⟩ := Int.eq_ofNat_of_zero_le (show 0 ≤ b by omega)
    obtain ⟨o, rfl⟩ := Int.eq_ofNat_of_zero_le (show 0 ≤ o by omega)
    simp only [Int.toNat_natCast] at *
    have hi := fit.i
    rcases Nat.lt_trichotomy b (X.P (sh.S * c + s)) with h1 | h1 | h1
    · rw [hlt (age_neg (.inl h1))]
      exact fit_a h c s b o k A l.length cap fit.k f2 fit.c fit.t (by omega) (by omega) ok hi h1
    · rcases Nat.lt_or_ge o (X.O (sh.S * c + s)) with h2 | h2
      · rw [hlt (age_neg (.inr ⟨h1, h2⟩))]
        exact fit_b h c s b o k A l.length cap fit.k f2 fit.c fit.t (by omega) (by omega) ok hi ⟨h1, h2⟩
      · rw [hge (age_not (.inr ⟨h1, h2⟩))]
        exact fit_c h c s b o k A l.length cap fit.k f2 fit.c fit.t (by omega) (by omega) ok hi ⟨h1, h2⟩
    · rw [hge (age_not (.inl h1))]
      exact fit_d h c s b o k A l.length cap fit.k f2 fit.c fit.t (by omega) (by omega) ok hi h1
  · have e : wrg sh X x = x.wrong sh := if_neg hw
    rw [e]
    clear e
    obtain ⟨c, s, b, o, k, A, cap, l⟩ := x
    dsimp only [Wr.v]
    unfold Wr.wrong Wr.slot at hw ⊢
    simp only at hw ⊢
    by_cases h1 : 0 ≤ k ∧ k < sh.B
    · rw [if_neg (fun h => h h1)] at hw ⊢
      by_cases h2 : l.length = sh.Z
      · rw [if_neg (fun h => h h2)] at hw ⊢
        by_cases h3 : ((0 ≤ c ∧ c < sh.C) ∧ 0 ≤ s ∧ s < sh.S) ∧ (1 ≤ b ∧ b ≤ 1099511627776) ∧ 1 ≤ o ∧ o ≤ 1099511627776
        · rw [if_neg (fun h => h h3)] at hw
          exact absurd rfl hw
        · rw [if_pos h3]
          by_cases g3 : c < 0
          · exact wrong3 h c s b o k A l.length cap (by omega) (by omega) (by omega) g3
          · by_cases g4 : (sh.C : Int) ≤ c
            · exact wrong4 h c s b o k A l.length cap (by omega) (by omega) (by omega) (by omega) g4
            · by_cases g5 : s < 0
              · exact wrong5 h c s b o k A l.length cap (by omega) (by omega) (by omega) (by omega) (by omega) g5
              · by_cases g6 : (sh.S : Int) ≤ s
                · exact wrong6 h c s b o k A l.length cap (by omega) (by omega) (by omega) (by omega) (by omega) (by omega) g6
                · by_cases g7 : b < 1
                  · exact wrong7 h c s b o k A l.length cap (by omega) (by omega) (by omega) (by omega) (by omega) (by omega) (by omega) g7
                  · by_cases g8 : 1099511627776 < b
                    · exact wrong8 h c s b o k A l.length cap (by omega) (by omega) (by omega) (by omega) (by omega) (by omega) (by omega) (by omega) g8
                    · by_cases g9 : o < 1
                      · exact wrong9 h c s b o k A l.length cap (by omega) (by omega) (by omega) (by omega) (by omega) (by omega) (by omega) (by omega) (by omega) g9
                      · exact wrong10 h c s b o k A l.length cap (by omega) (by omega) (by omega) (by omega) (by omega) (by omega) (by omega) (by omega) (by omega) (by omega) (by omega)
      · rw [if_pos h2]
        exact wrong2 h c s b o k A l.length cap (by omega) (by omega) h2
    · rw [if_pos h1]
      by_cases g0 : k < 0
      · exact wrong0 h c s b o k A l.length cap g0
      · exact wrong1 h c s b o k A l.length cap g0 (by omega)
theorem upd_upd {α : Type} (f : Nat → α) (i : Nat) (a b : α) : upd (upd f i a) i b = upd f i b := by
  funext j
  unfold upd
  split <;> rfl
theorem wp_world {P : Program} {c : Code} {K : Exit → Act → World → Prop} {a : Act} {w : World} (h : ∀ y, y = w → c.wp P K a y) : c.wp P K a w := h w rfl
set_option maxRecDepth 100000 in
set_option maxHeartbeats 3200000 in
theorem rwrite_same (h : Rf w b0 kx r0 r1 r2 r3 r4 sh X) (ok : sh.ok) (c s b o k : Nat) (A : Option Addr) (L cap : Nat) (l : List Int) (hL : l.length = L) (r : Rn w A l) (fit : Fit sh c s b o k l) (hw : (Wr.mk c s b o k A cap l).wrong sh = 0) (hX : ∀ j, j < sh.B → X.V j ≤ 1000) (hage : ¬ age (b : Nat) (o : Nat) (X.P (sh.S * c + s)) (X.O (sh.S * c + s)) < 0) (hsame : b = X.P (sh.S * c + s) ∧ o = X.O (sh.S * c + s)) :
    Calls Try.prog 16 #[.pointer (some ⟨kx, 0, none⟩), .agg #[.int .i64 (c : Nat), .int .i64 (s : Nat), .int .i64 (b : Nat), .int .i64 (o : Nat), .int .i64 (k : Nat), .slice A L cap]] w fun e w' => e = .returned (.tuple #[.int .i64 (X.K (sh.S * c + s) : Nat), .int .i64 0]) ∧ Below w.heap.size w w' := by
  obtain ⟨W, hW, BX, HB, -⟩ := below_new w 38 #[.int .i64 (c : Nat), .int .i64 (s : Nat), .int .i64 (b : Nat), .int .i64 (o : Nat), .int .i64 (k : Nat), .slice A L cap]
  have HW := hid hW
  have HB0 := hid HB
  have E0 := hid BX
  have hR0 := h.below HB
  have HR0 := hid hR0
  have HRN := hid (r.now HB)
  have HRW := hid r
  have HWR := hid (wrong_any hR0 ok (Wr.mk c s b o k A cap l))
  have hwr0 : wrg sh X (Wr.mk c s b o k A cap l) = 0 := (if_pos hw).trans (if_neg hage)
  rw [hwr0] at HWR
  simp only [Wr.v, hL] at HWR
  have hi := fit.i
  have HFK := hid fit.k
  have HFI := hid fit.i
  have HL := hid hL
  have hZ16 := fit.h16
  rw [hL] at hZ16
  have sC := ok.c.2
  have sS := ok.s.2
  have cC := fit.c
  have hcs : c * sh.S ≤ 4 * 4 := Nat.mul_le_mul (by omega) sS
  have hpe : (c : Int) * ((sh.S : Nat) : Int) = ((c * sh.S : Nat) : Int) := by rw [Int.natCast_mul]
  have hii : c * sh.S + s = sh.S * c + s := by rw [Nat.mul_comm]
  have HXK := hid (hX k fit.k)
  have sS4 := fit.t
  have HTT := hid sS4
  generalize hi0 : sh.S * c + s = ii at *
  have hw9 := hid (show wrap64 (((c * sh.S : Nat) : Int) + (s : Int)) = (ii : Int) by rw [← hii]; unfold wrap64; omega)
  generalize c * sh.S = m at hcs hpe hw9
  have HCS := hid hsame
  clear hW BX HB hR0 h hwr0 hw hL fit r hi0 hii sC sS cC sS4 hX hage ok hsame
  go_enter Try.func16, Try.ntmps16
  go_upto_region 1 with fail
  rw [HW.out]
  clear HW
  go_wp2_with (refine wpList_load_bx rfl 38 (.tmp 3) rfl _ _ _ _ rfl E0.out Try.underlying38 rfl (by kernel_rfl) ?_)
  refine HWR.out.mono ?_
  rintro e w1 ⟨rfl, hb1⟩
  have HR1 := hid (HR0.out.below hb1)
  have E1 := hid (E0.out.next hb1)
  have N1 := hid (HRN.out.now hb1)
  have B1 := hid (on HB0.out hb1)
  obtain ⟨d0, d1, d2, d3, d4, d5⟩ := E1.out.all6
  have e3 : w1.cell? ⟨kx, 3, none⟩ = some (.int .i64 (sh.S : Nat)) := HR1.out.bx.cell 3
  have e6 : w1.cell? ⟨kx, 6, none⟩ = some r2 := HR1.out.bx.cell 6
  have e7 : w1.cell? ⟨kx, 7, none⟩ = some r3 := HR1.out.bx.cell 7
  obtain ⟨g2, c2, rfl, x2, -⟩ := HR1.out.getP HFI.out
  obtain ⟨g3, c3, rfl, x3, -⟩ := HR1.out.getO HFI.out
  have j1 : (ii : Int) < ((sh.S * sh.C : Nat) : Int) := by have := HFI.out; omega
  clear hb1 HR0 E0 HRN HB0 HWR
  generalize hpp : X.P ii = pp at *
  generalize hoo : X.O ii = oo at *
  obtain ⟨hb1, hb2⟩ := HCS.out
  have u2 : (b == pp) = true := by simp; omega
  have u2' : (((b : Nat) : Int) == ((pp : Nat) : Int)) = true := by simp; omega
  have u3 : (o == oo) = true := by simp; omega
  have u3' : (((o : Nat) : Int) == ((oo : Nat) : Int)) = true := by simp; omega
  have e8 : w1.cell? ⟨kx, 8, none⟩ = some r4 := HR1.out.bx.cell 8
  obtain ⟨g4, c4, rfl, x4, -⟩ := HR1.out.getK HFI.out
  clear hpp hoo hb1 hb2 HCS
  generalize hkk : X.K ii = kk at *
  have HKK := hid hkk
  clear hkk
  generalize sh.S * sh.C = N at *
  generalize sh.S = sS at *
  go_upto_region 4 with fail
  go_quiet (fail)
  rw [hw9.out]
  go_wp2
  go_quiet (fail)
  go_wp2
  go_ret2
  exact ⟨by rw [HKK.out]; rfl, below_draws B1.out _⟩
set_option maxRecDepth 100000 in
set_option maxHeartbeats 3200000 in
theorem rwrite_last (h : Rf w b0 kx r0 r1 r2 r3 r4 sh X) (ok : sh.ok) (c s b o k : Nat) (A : Option Addr) (L cap : Nat) (l : List Int) (hL : l.length = L) (r : Rn w A l) (fit : Fit sh c s b o k l) (hw : (Wr.mk c s b o k A cap l).wrong sh = 0) (hX : ∀ j, j < sh.B → X.V j ≤ 1000) (hage : ¬ age (b : Nat) (o : Nat) (X.P (sh.S * c + s)) (X.O (sh.S * c + s)) < 0) (hnew : ¬ (b = X.P (sh.S * c + s) ∧ o = X.O (sh.S * c + s))) (hv : X.V k = 1000) :
    Calls Try.prog 16 #[.pointer (some ⟨kx, 0, none⟩), .agg #[.int .i64 (c : Nat), .int .i64 (s : Nat), .int .i64 (b : Nat), .int .i64 (o : Nat), .int .i64 (k : Nat), .slice A L cap]] w fun e w' => e = .returned (.tuple #[.int .i64 11, .int .i64 0]) ∧ Rf w' b0 kx r0 r1 r2 r3 r4 sh { X with P := upd X.P (sh.S * c + s) b, O := upd X.O (sh.S * c + s) o, K := upd X.K (sh.S * c + s) 11 } ∧ Tch w w' b0 := by
  obtain ⟨W, hW, BX, HB, -⟩ := below_new w 38 #[.int .i64 (c : Nat), .int .i64 (s : Nat), .int .i64 (b : Nat), .int .i64 (o : Nat), .int .i64 (k : Nat), .slice A L cap]
  have HW := hid hW
  have HB0 := hid HB
  have E0 := hid BX
  have hR0 := h.below HB
  have HR0 := hid hR0
  have HRN := hid (r.now HB)
  have HRW := hid r
  have HWR := hid (wrong_any hR0 ok (Wr.mk c s b o k A cap l))
  have hwr0 : wrg sh X (Wr.mk c s b o k A cap l) = 0 := (if_pos hw).trans (if_neg hage)
  rw [hwr0] at HWR
  simp only [Wr.v, hL] at HWR
  have hi := fit.i
  have HFK := hid fit.k
  have HFI := hid fit.i
  have HL := hid hL
  have hZ16 := fit.h16
  rw [hL] at hZ16
  have sC := ok.c.2
  have sS := ok.s.2
  have cC := fit.c
  have hcs : c * sh.S ≤ 4 * 4 := Nat.mul_le_mul (by omega) sS
  have hpe : (c : Int) * ((sh.S : Nat) : Int) = ((c * sh.S : Nat) : Int) := by rw [Int.natCast_mul]
  have hii : c * sh.S + s = sh.S * c + s := by rw [Nat.mul_comm]
  have HXK := hid (hX k fit.k)
  have sS4 := fit.t
  have HTT := hid sS4
  generalize hi0 : sh.S * c + s = ii at *
  have hw9 := hid (show wrap64 (((c * sh.S : Nat) : Int) + (s : Int)) = (ii : Int) by rw [← hii]; unfold wrap64; omega)
  generalize c * sh.S = m at hcs hpe hw9
  have HCS := hid (show True ∧ (b = X.P ii → o ≠ X.O ii) from ⟨trivial, fun h1 h2 => hnew ⟨h1, h2⟩⟩)
  clear hW BX HB hR0 h hwr0 hw hL fit r hi0 hii sC sS cC sS4 hX hage ok hnew
  go_enter Try.func16, Try.ntmps16
  go_upto_region 1 with fail
  rw [HW.out]
  clear HW
  go_wp2_with (refine wpList_load_bx rfl 38 (.tmp 3) rfl _ _ _ _ rfl E0.out Try.underlying38 rfl (by kernel_rfl) ?_)
  refine HWR.out.mono ?_
  rintro e w1 ⟨rfl, hb1⟩
  have HR1 := hid (HR0.out.below hb1)
  have E1 := hid (E0.out.next hb1)
  have N1 := hid (HRN.out.now hb1)
  have B1 := hid (on HB0.out hb1)
  obtain ⟨d0, d1, d2, d3, d4, d5⟩ := E1.out.all6
  have e3 : w1.cell? ⟨kx, 3, none⟩ = some (.int .i64 (sh.S : Nat)) := HR1.out.bx.cell 3
  have e6 : w1.cell? ⟨kx, 6, none⟩ = some r2 := HR1.out.bx.cell 6
  have e7 : w1.cell? ⟨kx, 7, none⟩ = some r3 := HR1.out.bx.cell 7
  obtain ⟨g2, c2, rfl, x2, -⟩ := HR1.out.getP HFI.out
  obtain ⟨g3, c3, rfl, x3, -⟩ := HR1.out.getO HFI.out
  have j1 : (ii : Int) < ((sh.S * sh.C : Nat) : Int) := by have := HFI.out; omega
  clear hb1 HR0 E0 HRN HB0 HWR
  have HVK := hid hv
  clear hv
  obtain ⟨hnb, hno⟩ := HCS.out
  clear HCS
  obtain ⟨g0, c0, e0, -, -⟩ := HR1.out.getV HFK.out
  obtain ⟨g1, c1, u1, e1, -, -, -⟩ := HR1.out.getT HFK.out
  obtain ⟨g4, c4, e4, -, -⟩ := HR1.out.getK HFI.out
  obtain ⟨n0, hn0⟩ : ∃ n, sh.B = n := ⟨_, rfl⟩
  obtain ⟨n2, hn2⟩ : ∃ n, sh.S * sh.C = n := ⟨_, rfl⟩
  rw [hn0] at e0 e1
  rw [hn2] at e4 e6 e7 j1 HR1
  subst e0 e1 e4
  generalize hpp : X.P ii = pp at x2
  generalize hoo : X.O ii = oo at x3
  rw [hpp, hoo] at hno
  have T1 := hid (Tch.of B1.out b0)
  have HN := hid (And.intro hn0 hn2)
  have hcase : b ≠ pp ∨ b = pp ∧ o ≠ oo := (Decidable.em (b = pp)).elim (fun h => .inr ⟨h, hno h⟩) .inl
  clear hn0 hn2 hpp hoo hno hnb B1
  rcases hcase with hb1 | ⟨hb1, hb2⟩
  case inl =>
    have u2 : (b == pp) = false := by simpa using hb1
    have u2' : (((b : Nat) : Int) == ((pp : Nat) : Int)) = false := by simp; omega
    clear hb1
    generalize hs0 : sh.S = sS at e3 hpe
    go_upto_region 4 with fail
    go_quiet (fail)
    rw [hw9.out]
    go_wp2
    go_quiet (fail)
    go_wp2
    refine wp_world fun w2 hw2 => ?_
    have HR2 := hid (show Rf w2 b0 kx (.slice (some ⟨g0, 0, none⟩) n0 c0) (.slice (some ⟨g1, 0, none⟩) n0 c1) (.slice (some ⟨g2, 0, none⟩) n2 c2) (.slice (some ⟨g3, 0, none⟩) n2 c3) (.slice (some ⟨g4, 0, none⟩) n2 c4) sh X by rw [hw2]; exact (HR1.out.draws _).draws _)
    have T2 := hid (show Tch w w2 b0 by rw [hw2]; exact (T1.out.draws _).draws _)
    have E2 := hid (show Bx w2 w.heap.size 38 #[.int .i64 (c : Nat), .int .i64 (s : Nat), .int .i64 (b : Nat), .int .i64 (o : Nat), .int .i64 (k : Nat), .slice A L cap] by rw [hw2]; exact (E1.out.draws _).draws _)
    clear hw2 HR1 T1 E1
    clear d0 d1 d2 d3 d4 d5 e3 e6 e7 x2 x3 hpe hs0
    have j1 : (ii : Int) < (n2 : Int) := j1
    have j2 : (k : Int) < (n0 : Int) := by have := HFK.out; have := HN.out.1; omega
    have kv : w2.cell? ⟨w.heap.size, 2, none⟩ = some (.int .i64 (b : Nat)) := E2.out.cell 2
    have kr : w2.cell? ⟨kx, 6, none⟩ = some (.slice (some ⟨g2, 0, none⟩) n2 c2) := HR2.out.bx.cell 6
    obtain ⟨-, xx, yy⟩ := HR2.out.atP HFI.out
    go_still_tail 8, (by kernel_rfl)
    go_upto_region 8 with fail
    clear kv kr xx yy
    refine wp_world fun w3 hw3 => ?_
    have HR3 := hid (show Rf w3 b0 kx (.slice (some ⟨g0, 0, none⟩) n0 c0) (.slice (some ⟨g1, 0, none⟩) n0 c1) (.slice (some ⟨g2, 0, none⟩) n2 c2) (.slice (some ⟨g3, 0, none⟩) n2 c3) (.slice (some ⟨g4, 0, none⟩) n2 c4) sh { X with P := upd X.P ii b } by rw [hw3]; exact ((HR2.out.draws 1).setP HFI.out b).1)
    have T3 := hid (show Tch w w3 b0 by rw [hw3]; exact (T2.out.draws 1).trans ((HR2.out.draws 1).setP HFI.out b).2)
    have E3 := hid (show Bx w3 w.heap.size 38 #[.int .i64 (c : Nat), .int .i64 (s : Nat), .int .i64 (b : Nat), .int .i64 (o : Nat), .int .i64 (k : Nat), .slice A L cap] by rw [hw3]; exact ((HR2.out.draws 1).setP HFI.out b).2.bx (E2.out.draws 1) (by decide) (by decide))
    clear hw3 HR2 T2 E2
    have kv : w3.cell? ⟨w.heap.size, 3, none⟩ = some (.int .i64 (o : Nat)) := E3.out.cell 3
    have kr : w3.cell? ⟨kx, 7, none⟩ = some (.slice (some ⟨g3, 0, none⟩) n2 c3) := HR3.out.bx.cell 7
    obtain ⟨-, xx, yy⟩ := HR3.out.atO HFI.out
    go_still_tail 8, (by kernel_rfl)
    go_upto_region 9 with fail
    clear kv kr xx yy
    refine wp_world fun w4 hw4 => ?_
    have HR4 := hid (show Rf w4 b0 kx (.slice (some ⟨g0, 0, none⟩) n0 c0) (.slice (some ⟨g1, 0, none⟩) n0 c1) (.slice (some ⟨g2, 0, none⟩) n2 c2) (.slice (some ⟨g3, 0, none⟩) n2 c3) (.slice (some ⟨g4, 0, none⟩) n2 c4) sh { X with P := upd X.P ii b, O := upd X.O ii o } by rw [hw4]; exact ((HR3.out.draws 1).setO HFI.out o).1)
    have T4 := hid (show Tch w w4 b0 by rw [hw4]; exact (T3.out.draws 1).trans ((HR3.out.draws 1).setO HFI.out o).2)
    have E4 := hid (show Bx w4 w.heap.size 38 #[.int .i64 (c : Nat), .int .i64 (s : Nat), .int .i64 (b : Nat), .int .i64 (o : Nat), .int .i64 (k : Nat), .slice A L cap] by rw [hw4]; exact ((HR3.out.draws 1).setO HFI.out o).2.bx (E3.out.draws 1) (by decide) (by decide))
    clear hw4 HR3 T3 E3
    have kr : w4.cell? ⟨kx, 8, none⟩ = some (.slice (some ⟨g4, 0, none⟩) n2 c4) := HR4.out.bx.cell 8
    obtain ⟨-, xx, yy⟩ := HR4.out.atK HFI.out
    go_upto_region 10 with fail
    clear kr xx yy
    refine wp_world fun w5 hw5 => ?_
    have HR5 := hid (show Rf w5 b0 kx (.slice (some ⟨g0, 0, none⟩) n0 c0) (.slice (some ⟨g1, 0, none⟩) n0 c1) (.slice (some ⟨g2, 0, none⟩) n2 c2) (.slice (some ⟨g3, 0, none⟩) n2 c3) (.slice (some ⟨g4, 0, none⟩) n2 c4) sh { X with P := upd X.P ii b, O := upd X.O ii o, K := upd X.K ii 0 } by rw [hw5]; exact (HR4.out.setK HFI.out 0).1)
    have T5 := hid (show Tch w w5 b0 by rw [hw5]; exact T4.out.trans (HR4.out.setK HFI.out 0).2)
    have E5 := hid (show Bx w5 w.heap.size 38 #[.int .i64 (c : Nat), .int .i64 (s : Nat), .int .i64 (b : Nat), .int .i64 (o : Nat), .int .i64 (k : Nat), .slice A L cap] by rw [hw5]; exact (HR4.out.setK HFI.out 0).2.bx E4.out (by decide) (by decide))
    clear hw5 HR4 T4 E4
    have kq : w5.cell? ⟨w.heap.size, 4, none⟩ = some (.int .i64 (k : Nat)) := E5.out.cell 4
    have kr : w5.cell? ⟨kx, 4, none⟩ = some (.slice (some ⟨g0, 0, none⟩) n0 c0) := HR5.out.bx.cell 4
    obtain ⟨-, xx, yy⟩ := HR5.out.atV HFK.out
    clear yy
    rw [show ({ X with P := upd X.P ii b, O := upd X.O ii o, K := upd X.K ii 0 } : RS).V k = 1000 from HVK.out] at xx
    go_quiet (fail)
    clear kq kr xx
    go_upto_region 11 with fail
    refine wp_world fun w6 hw6 => ?_
    have HR6 := hid (show Rf w6 b0 kx (.slice (some ⟨g0, 0, none⟩) n0 c0) (.slice (some ⟨g1, 0, none⟩) n0 c1) (.slice (some ⟨g2, 0, none⟩) n2 c2) (.slice (some ⟨g3, 0, none⟩) n2 c3) (.slice (some ⟨g4, 0, none⟩) n2 c4) sh { X with P := upd X.P ii b, O := upd X.O ii o, K := upd X.K ii 0 } by rw [hw6]; exact HR5.out.draws _)
    have T6 := hid (show Tch w w6 b0 by rw [hw6]; exact T5.out.draws _)
    have E6 := hid (show Bx w6 w.heap.size 38 #[.int .i64 (c : Nat), .int .i64 (s : Nat), .int .i64 (b : Nat), .int .i64 (o : Nat), .int .i64 (k : Nat), .slice A L cap] by rw [hw6]; exact E5.out.draws _)
    clear hw6 HR5 T5 E5
    have kr : w6.cell? ⟨kx, 8, none⟩ = some (.slice (some ⟨g4, 0, none⟩) n2 c4) := HR6.out.bx.cell 8
    obtain ⟨-, xx, yy⟩ := HR6.out.atK HFI.out
    go_wp2
    go_ret2
    refine ⟨rfl, ?_, T6.out.trans (HR6.out.setK HFI.out 11).2⟩
    have hfin := (HR6.out.setK HFI.out 11).1
    rw [show upd ({ X with P := upd X.P ii b, O := upd X.O ii o, K := upd X.K ii 0 } : RS).K ii 11 = upd X.K ii 11 from upd_upd _ _ _ _] at hfin
    rw [HN.out.2]
    exact hfin
  case inr =>
    have u2 : (b == pp) = true := by simpa using hb1
    have u2' : (((b : Nat) : Int) == ((pp : Nat) : Int)) = true := by simp; omega
    have u3 : (o == oo) = false := by simpa using hb2
    have u3' : (((o : Nat) : Int) == ((oo : Nat) : Int)) = false := by simp; omega
    clear hb1 hb2
    generalize hs0 : sh.S = sS at e3 hpe
    go_upto_region 4 with fail
    go_quiet (fail)
    rw [hw9.out]
    go_wp2
    go_quiet (fail)
    go_wp2
    refine wp_world fun w2 hw2 => ?_
    have HR2 := hid (show Rf w2 b0 kx (.slice (some ⟨g0, 0, none⟩) n0 c0) (.slice (some ⟨g1, 0, none⟩) n0 c1) (.slice (some ⟨g2, 0, none⟩) n2 c2) (.slice (some ⟨g3, 0, none⟩) n2 c3) (.slice (some ⟨g4, 0, none⟩) n2 c4) sh X by rw [hw2]; exact (HR1.out.draws _).draws _)
    have T2 := hid (show Tch w w2 b0 by rw [hw2]; exact (T1.out.draws _).draws _)
    have E2 := hid (show Bx w2 w.heap.size 38 #[.int .i64 (c : Nat), .int .i64 (s : Nat), .int .i64 (b : Nat), .int .i64 (o : Nat), .int .i64 (k : Nat), .slice A L cap] by rw [hw2]; exact (E1.out.draws _).draws _)
    clear hw2 HR1 T1 E1
    clear d0 d1 d2 d3 d4 d5 e3 e6 e7 x2 x3 hpe hs0
    have j1 : (ii : Int) < (n2 : Int) := j1
    have j2 : (k : Int) < (n0 : Int) := by have := HFK.out; have := HN.out.1; omega
    have kv : w2.cell? ⟨w.heap.size, 2, none⟩ = some (.int .i64 (b : Nat)) := E2.out.cell 2
    have kr : w2.cell? ⟨kx, 6, none⟩ = some (.slice (some ⟨g2, 0, none⟩) n2 c2) := HR2.out.bx.cell 6
    obtain ⟨-, xx, yy⟩ := HR2.out.atP HFI.out
    go_still_tail 8, (by kernel_rfl)
    go_upto_region 8 with fail
    clear kv kr xx yy
    refine wp_world fun w3 hw3 => ?_
    have HR3 := hid (show Rf w3 b0 kx (.slice (some ⟨g0, 0, none⟩) n0 c0) (.slice (some ⟨g1, 0, none⟩) n0 c1) (.slice (some ⟨g2, 0, none⟩) n2 c2) (.slice (some ⟨g3, 0, none⟩) n2 c3) (.slice (some ⟨g4, 0, none⟩) n2 c4) sh { X with P := upd X.P ii b } by rw [hw3]; exact ((HR2.out.draws 1).setP HFI.out b).1)
    have T3 := hid (show Tch w w3 b0 by rw [hw3]; exact (T2.out.draws 1).trans ((HR2.out.draws 1).setP HFI.out b).2)
    have E3 := hid (show Bx w3 w.heap.size 38 #[.int .i64 (c : Nat), .int .i64 (s : Nat), .int .i64 (b : Nat), .int .i64 (o : Nat), .int .i64 (k : Nat), .slice A L cap] by rw [hw3]; exact ((HR2.out.draws 1).setP HFI.out b).2.bx (E2.out.draws 1) (by decide) (by decide))
    clear hw3 HR2 T2 E2
    have kv : w3.cell? ⟨w.heap.size, 3, none⟩ = some (.int .i64 (o : Nat)) := E3.out.cell 3
    have kr : w3.cell? ⟨kx, 7, none⟩ = some (.slice (some ⟨g3, 0, none⟩) n2 c3) := HR3.out.bx.cell 7
    obtain ⟨-, xx, yy⟩ := HR3.out.atO HFI.out
    go_still_tail 8, (by kernel_rfl)
    go_upto_region 9 with fail
    clear kv kr xx yy
    refine wp_world fun w4 hw4 => ?_
    have HR4 := hid (show Rf w4 b0 kx (.slice (some ⟨g0, 0, none⟩) n0 c0) (.slice (some ⟨g1, 0, none⟩) n0 c1) (.slice (some ⟨g2, 0, none⟩) n2 c2) (.slice (some ⟨g3, 0, none⟩) n2 c3) (.slice (some ⟨g4, 0, none⟩) n2 c4) sh { X with P := upd X.P ii b, O := upd X.O ii o } by rw [hw4]; exact ((HR3.out.draws 1).setO HFI.out o).1)
    have T4 := hid (show Tch w w4 b0 by rw [hw4]; exact (T3.out.draws 1).trans ((HR3.out.draws 1).setO HFI.out o).2)
    have E4 := hid (show Bx w4 w.heap.size 38 #[.int .i64 (c : Nat), .int .i64 (s : Nat), .int .i64 (b : Nat), .int .i64 (o : Nat), .int .i64 (k : Nat), .slice A L cap] by rw [hw4]; exact ((HR3.out.draws 1).setO HFI.out o).2.bx (E3.out.draws 1) (by decide) (by decide))
    clear hw4 HR3 T3 E3
    have kr : w4.cell? ⟨kx, 8, none⟩ = some (.slice (some ⟨g4, 0, none⟩) n2 c4) := HR4.out.bx.cell 8
    obtain ⟨-, xx, yy⟩ := HR4.out.atK HFI.out
    go_upto_region 10 with fail
    clear kr xx yy
    refine wp_world fun w5 hw5 => ?_
    have HR5 := hid (show Rf w5 b0 kx (.slice (some ⟨g0, 0, none⟩) n0 c0) (.slice (some ⟨g1, 0, none⟩) n0 c1) (.slice (some ⟨g2, 0, none⟩) n2 c2) (.slice (some ⟨g3, 0, none⟩) n2 c3) (.slice (some ⟨g4, 0, none⟩) n2 c4) sh { X with P := upd X.P ii b, O := upd X.O ii o, K := upd X.K ii 0 } by rw [hw5]; exact (HR4.out.setK HFI.out 0).1)
    have T5 := hid (show Tch w w5 b0 by rw [hw5]; exact T4.out.trans (HR4.out.setK HFI.out 0).2)
    have E5 := hid (show Bx w5 w.heap.size 38 #[.int .i64 (c : Nat), .int .i64 (s : Nat), .int .i64 (b : Nat), .int .i64 (o : Nat), .int .i64 (k : Nat), .slice A L cap] by rw [hw5]; exact (HR4.out.setK HFI.out 0).2.bx E4.out (by decide) (by decide))
    clear hw5 HR4 T4 E4
    have kq : w5.cell? ⟨w.heap.size, 4, none⟩ = some (.int .i64 (k : Nat)) := E5.out.cell 4
    have kr : w5.cell? ⟨kx, 4, none⟩ = some (.slice (some ⟨g0, 0, none⟩) n0 c0) := HR5.out.bx.cell 4
    obtain ⟨-, xx, yy⟩ := HR5.out.atV HFK.out
    clear yy
    rw [show ({ X with P := upd X.P ii b, O := upd X.O ii o, K := upd X.K ii 0 } : RS).V k = 1000 from HVK.out] at xx
    go_quiet (fail)
    clear kq kr xx
    go_upto_region 11 with fail
    refine wp_world fun w6 hw6 => ?_
    have HR6 := hid (show Rf w6 b0 kx (.slice (some ⟨g0, 0, none⟩) n0 c0) (.slice (some ⟨g1, 0, none⟩) n0 c1) (.slice (some ⟨g2, 0, none⟩) n2 c2) (.slice (some ⟨g3, 0, none⟩) n2 c3) (.slice (some ⟨g4, 0, none⟩) n2 c4) sh { X with P := upd X.P ii b, O := upd X.O ii o, K := upd X.K ii 0 } by rw [hw6]; exact HR5.out.draws _)
    have T6 := hid (show Tch w w6 b0 by rw [hw6]; exact T5.out.draws _)
    have E6 := hid (show Bx w6 w.heap.size 38 #[.int .i64 (c : Nat), .int .i64 (s : Nat), .int .i64 (b : Nat), .int .i64 (o : Nat), .int .i64 (k : Nat), .slice A L cap] by rw [hw6]; exact E5.out.draws _)
    clear hw6 HR5 T5 E5
    have kr : w6.cell? ⟨kx, 8, none⟩ = some (.slice (some ⟨g4, 0, none⟩) n2 c4) := HR6.out.bx.cell 8
    obtain ⟨-, xx, yy⟩ := HR6.out.atK HFI.out
    go_wp2
    go_ret2
    refine ⟨rfl, ?_, T6.out.trans (HR6.out.setK HFI.out 11).2⟩
    have hfin := (HR6.out.setK HFI.out 11).1
    rw [show upd ({ X with P := upd X.P ii b, O := upd X.O ii o, K := upd X.K ii 0 } : RS).K ii 11 = upd X.K ii 11 from upd_upd _ _ _ _] at hfin
    rw [HN.out.2]
    exact hfin
set_option maxRecDepth 100000 in
set_option maxHeartbeats 3200000 in
theorem rwrite_new (h : Rf w b0 kx r0 r1 r2 r3 r4 sh X) (ok : sh.ok) (c s b o k : Nat) (A : Option Addr) (L cap : Nat) (l : List Int) (hL : l.length = L) (r : Rn w A l) (fit : Fit sh c s b o k l) (hw : (Wr.mk c s b o k A cap l).wrong sh = 0) (hX : ∀ j, j < sh.B → X.V j ≤ 1000) (hage : ¬ age (b : Nat) (o : Nat) (X.P (sh.S * c + s)) (X.O (sh.S * c + s)) < 0) (hnew : ¬ (b = X.P (sh.S * c + s) ∧ o = X.O (sh.S * c + s))) (hv : X.V k ≠ 1000) :
    Calls Try.prog 16 #[.pointer (some ⟨kx, 0, none⟩), .agg #[.int .i64 (c : Nat), .int .i64 (s : Nat), .int .i64 (b : Nat), .int .i64 (o : Nat), .int .i64 (k : Nat), .slice A L cap]] w fun e w' => e = .returned (.tuple #[.int .i64 0, .int .i64 0]) ∧ Rf w' b0 kx r0 r1 r2 r3 r4 sh { X with V := upd X.V k (X.V k + 1), T := upd X.T k l, P := upd X.P (sh.S * c + s) b, O := upd X.O (sh.S * c + s) o, K := upd X.K (sh.S * c + s) 0 } ∧ Tch w w' b0 := by
  obtain ⟨W, hW, BX, HB, -⟩ := below_new w 38 #[.int .i64 (c : Nat), .int .i64 (s : Nat), .int .i64 (b : Nat), .int .i64 (o : Nat), .int .i64 (k : Nat), .slice A L cap]
  have HW := hid hW
  have HB0 := hid HB
  have E0 := hid BX
  have hR0 := h.below HB
  have HR0 := hid hR0
  have HRN := hid (r.now HB)
  have HRW := hid r
  have HWR := hid (wrong_any hR0 ok (Wr.mk c s b o k A cap l))
  have hwr0 : wrg sh X (Wr.mk c s b o k A cap l) = 0 := (if_pos hw).trans (if_neg hage)
  rw [hwr0] at HWR
  simp only [Wr.v, hL] at HWR
  have hi := fit.i
  have HFK := hid fit.k
  have HFI := hid fit.i
  have HL := hid hL
  have hZ16 := fit.h16
  rw [hL] at hZ16
  have sC := ok.c.2
  have sS := ok.s.2
  have cC := fit.c
  have hcs : c * sh.S ≤ 4 * 4 := Nat.mul_le_mul (by omega) sS
  have hpe : (c : Int) * ((sh.S : Nat) : Int) = ((c * sh.S : Nat) : Int) := by rw [Int.natCast_mul]
  have hii : c * sh.S + s = sh.S * c + s := by rw [Nat.mul_comm]
  have HXK := hid (hX k fit.k)
  have sS4 := fit.t
  have HTT := hid sS4
  generalize hi0 : sh.S * c + s = ii at *
  have hw9 := hid (show wrap64 (((c * sh.S : Nat) : Int) + (s : Int)) = (ii : Int) by rw [← hii]; unfold wrap64; omega)
  generalize c * sh.S = m at hcs hpe hw9
  have HCS := hid (show True ∧ (b = X.P ii → o ≠ X.O ii) from ⟨trivial, fun h1 h2 => hnew ⟨h1, h2⟩⟩)
  clear hW BX HB hR0 h hwr0 hw hL fit r hi0 hii sC sS cC sS4 hX hage ok hnew
  go_enter Try.func16, Try.ntmps16
  go_upto_region 1 with fail
  rw [HW.out]
  clear HW
  go_wp2_with (refine wpList_load_bx rfl 38 (.tmp 3) rfl _ _ _ _ rfl E0.out Try.underlying38 rfl (by kernel_rfl) ?_)
  refine HWR.out.mono ?_
  rintro e w1 ⟨rfl, hb1⟩
  have HR1 := hid (HR0.out.below hb1)
  have E1 := hid (E0.out.next hb1)
  have N1 := hid (HRN.out.now hb1)
  have B1 := hid (on HB0.out hb1)
  obtain ⟨d0, d1, d2, d3, d4, d5⟩ := E1.out.all6
  have e3 : w1.cell? ⟨kx, 3, none⟩ = some (.int .i64 (sh.S : Nat)) := HR1.out.bx.cell 3
  have e6 : w1.cell? ⟨kx, 6, none⟩ = some r2 := HR1.out.bx.cell 6
  have e7 : w1.cell? ⟨kx, 7, none⟩ = some r3 := HR1.out.bx.cell 7
  obtain ⟨g2, c2, rfl, x2, -⟩ := HR1.out.getP HFI.out
  obtain ⟨g3, c3, rfl, x3, -⟩ := HR1.out.getO HFI.out
  have j1 : (ii : Int) < ((sh.S * sh.C : Nat) : Int) := by have := HFI.out; omega
  clear hb1 HR0 E0 HRN HB0 HWR
  have HVK := hid hv
  have HXV := HXK
  generalize hvk : X.V k = vk at HVK HXV
  have HVE := hid hvk
  clear hv hvk
  obtain ⟨hnb, hno⟩ := HCS.out
  clear HCS
  obtain ⟨g0, c0, e0, -, -⟩ := HR1.out.getV HFK.out
  obtain ⟨g1, c1, u1, e1, -, -, -⟩ := HR1.out.getT HFK.out
  obtain ⟨g4, c4, e4, -, -⟩ := HR1.out.getK HFI.out
  obtain ⟨n0, hn0⟩ : ∃ n, sh.B = n := ⟨_, rfl⟩
  obtain ⟨n2, hn2⟩ : ∃ n, sh.S * sh.C = n := ⟨_, rfl⟩
  rw [hn0] at e0 e1
  rw [hn2] at e4 e6 e7 j1 HR1
  subst e0 e1 e4
  generalize hpp : X.P ii = pp at x2
  generalize hoo : X.O ii = oo at x3
  rw [hpp, hoo] at hno
  have T1 := hid (Tch.of B1.out b0)
  have HN := hid (And.intro hn0 hn2)
  have hcase : b ≠ pp ∨ b = pp ∧ o ≠ oo := (Decidable.em (b = pp)).elim (fun h => .inr ⟨h, hno h⟩) .inl
  clear hn0 hn2 hpp hoo hno hnb B1
  rcases hcase with hb1 | ⟨hb1, hb2⟩
  case inl =>
    have u2 : (b == pp) = false := by simpa using hb1
    have u2' : (((b : Nat) : Int) == ((pp : Nat) : Int)) = false := by simp; omega
    clear hb1
    generalize hs0 : sh.S = sS at e3 hpe
    go_upto_region 4 with fail
    go_quiet (fail)
    rw [hw9.out]
    go_wp2
    go_quiet (fail)
    go_wp2
    refine wp_world fun w2 hw2 => ?_
    have HR2 := hid (show Rf w2 b0 kx (.slice (some ⟨g0, 0, none⟩) n0 c0) (.slice (some ⟨g1, 0, none⟩) n0 c1) (.slice (some ⟨g2, 0, none⟩) n2 c2) (.slice (some ⟨g3, 0, none⟩) n2 c3) (.slice (some ⟨g4, 0, none⟩) n2 c4) sh X by rw [hw2]; exact (HR1.out.draws _).draws _)
    have T2 := hid (show Tch w w2 b0 by rw [hw2]; exact (T1.out.draws _).draws _)
    have E2 := hid (show Bx w2 w.heap.size 38 #[.int .i64 (c : Nat), .int .i64 (s : Nat), .int .i64 (b : Nat), .int .i64 (o : Nat), .int .i64 (k : Nat), .slice A L cap] by rw [hw2]; exact (E1.out.draws _).draws _)
    clear hw2 HR1 T1 E1
    clear d0 d1 d2 d3 d4 d5 e3 e6 e7 x2 x3 hpe hs0
    have j1 : (ii : Int) < (n2 : Int) := j1
    have j2 : (k : Int) < (n0 : Int) := by have := HFK.out; have := HN.out.1; omega
    have kv : w2.cell? ⟨w.heap.size, 2, none⟩ = some (.int .i64 (b : Nat)) := E2.out.cell 2
    have kr : w2.cell? ⟨kx, 6, none⟩ = some (.slice (some ⟨g2, 0, none⟩) n2 c2) := HR2.out.bx.cell 6
    obtain ⟨-, xx, yy⟩ := HR2.out.atP HFI.out
    go_still_tail 8, (by kernel_rfl)
    go_upto_region 8 with fail
    clear kv kr xx yy
    refine wp_world fun w3 hw3 => ?_
    have HR3 := hid (show Rf w3 b0 kx (.slice (some ⟨g0, 0, none⟩) n0 c0) (.slice (some ⟨g1, 0, none⟩) n0 c1) (.slice (some ⟨g2, 0, none⟩) n2 c2) (.slice (some ⟨g3, 0, none⟩) n2 c3) (.slice (some ⟨g4, 0, none⟩) n2 c4) sh { X with P := upd X.P ii b } by rw [hw3]; exact ((HR2.out.draws 1).setP HFI.out b).1)
    have T3 := hid (show Tch w w3 b0 by rw [hw3]; exact (T2.out.draws 1).trans ((HR2.out.draws 1).setP HFI.out b).2)
    have E3 := hid (show Bx w3 w.heap.size 38 #[.int .i64 (c : Nat), .int .i64 (s : Nat), .int .i64 (b : Nat), .int .i64 (o : Nat), .int .i64 (k : Nat), .slice A L cap] by rw [hw3]; exact ((HR2.out.draws 1).setP HFI.out b).2.bx (E2.out.draws 1) (by decide) (by decide))
    clear hw3 HR2 T2 E2
    have kv : w3.cell? ⟨w.heap.size, 3, none⟩ = some (.int .i64 (o : Nat)) := E3.out.cell 3
    have kr : w3.cell? ⟨kx, 7, none⟩ = some (.slice (some ⟨g3, 0, none⟩) n2 c3) := HR3.out.bx.cell 7
    obtain ⟨-, xx, yy⟩ := HR3.out.atO HFI.out
    go_still_tail 8, (by kernel_rfl)
    go_upto_region 9 with fail
    clear kv kr xx yy
    refine wp_world fun w4 hw4 => ?_
    have HR4 := hid (show Rf w4 b0 kx (.slice (some ⟨g0, 0, none⟩) n0 c0) (.slice (some ⟨g1, 0, none⟩) n0 c1) (.slice (some ⟨g2, 0, none⟩) n2 c2) (.slice (some ⟨g3, 0, none⟩) n2 c3) (.slice (some ⟨g4, 0, none⟩) n2 c4) sh { X with P := upd X.P ii b, O := upd X.O ii o } by rw [hw4]; exact ((HR3.out.draws 1).setO HFI.out o).1)
    have T4 := hid (show Tch w w4 b0 by rw [hw4]; exact (T3.out.draws 1).trans ((HR3.out.draws 1).setO HFI.out o).2)
    have E4 := hid (show Bx w4 w.heap.size 38 #[.int .i64 (c : Nat), .int .i64 (s : Nat), .int .i64 (b : Nat), .int .i64 (o : Nat), .int .i64 (k : Nat), .slice A L cap] by rw [hw4]; exact ((HR3.out.draws 1).setO HFI.out o).2.bx (E3.out.draws 1) (by decide) (by decide))
    clear hw4 HR3 T3 E3
    have kr : w4.cell? ⟨kx, 8, none⟩ = some (.slice (some ⟨g4, 0, none⟩) n2 c4) := HR4.out.bx.cell 8
    obtain ⟨-, xx, yy⟩ := HR4.out.atK HFI.out
    go_upto_region 10 with fail
    clear kr xx yy
    refine wp_world fun w5 hw5 => ?_
    have HR5 := hid (show Rf w5 b0 kx (.slice (some ⟨g0, 0, none⟩) n0 c0) (.slice (some ⟨g1, 0, none⟩) n0 c1) (.slice (some ⟨g2, 0, none⟩) n2 c2) (.slice (some ⟨g3, 0, none⟩) n2 c3) (.slice (some ⟨g4, 0, none⟩) n2 c4) sh { X with P := upd X.P ii b, O := upd X.O ii o, K := upd X.K ii 0 } by rw [hw5]; exact (HR4.out.setK HFI.out 0).1)
    have T5 := hid (show Tch w w5 b0 by rw [hw5]; exact T4.out.trans (HR4.out.setK HFI.out 0).2)
    have E5 := hid (show Bx w5 w.heap.size 38 #[.int .i64 (c : Nat), .int .i64 (s : Nat), .int .i64 (b : Nat), .int .i64 (o : Nat), .int .i64 (k : Nat), .slice A L cap] by rw [hw5]; exact (HR4.out.setK HFI.out 0).2.bx E4.out (by decide) (by decide))
    clear hw5 HR4 T4 E4
    have kq : w5.cell? ⟨w.heap.size, 4, none⟩ = some (.int .i64 (k : Nat)) := E5.out.cell 4
    have kr : w5.cell? ⟨kx, 4, none⟩ = some (.slice (some ⟨g0, 0, none⟩) n0 c0) := HR5.out.bx.cell 4
    obtain ⟨-, xx, yy⟩ := HR5.out.atV HFK.out
    clear yy
    rw [show ({ X with P := upd X.P ii b, O := upd X.O ii o, K := upd X.K ii 0 } : RS).V k = vk from HVE.out] at xx
    have u5 : (((vk : Nat) : Int) == 1000) = false := by have := HVK.out; simp; omega
    have u5' : ((vk : Nat) == 1000) = false := by have := HVK.out; simp; omega
    go_quiet (fail)
    clear kq kr xx
    go_upto_region 13 with fail
    refine wp_world fun w6 hw6 => ?_
    have HR6 := hid (show Rf w6 b0 kx (.slice (some ⟨g0, 0, none⟩) n0 c0) (.slice (some ⟨g1, 0, none⟩) n0 c1) (.slice (some ⟨g2, 0, none⟩) n2 c2) (.slice (some ⟨g3, 0, none⟩) n2 c3) (.slice (some ⟨g4, 0, none⟩) n2 c4) sh { X with P := upd X.P ii b, O := upd X.O ii o, K := upd X.K ii 0 } by rw [hw6]; exact HR5.out.draws _)
    have T6 := hid (show Tch w w6 b0 by rw [hw6]; exact T5.out.draws _)
    have E6 := hid (show Bx w6 w.heap.size 38 #[.int .i64 (c : Nat), .int .i64 (s : Nat), .int .i64 (b : Nat), .int .i64 (o : Nat), .int .i64 (k : Nat), .slice A L cap] by rw [hw6]; exact E5.out.draws _)
    clear hw6 HR5 T5 E5
    have kq : w6.cell? ⟨w.heap.size, 4, none⟩ = some (.int .i64 (k : Nat)) := E6.out.cell 4
    have kr : w6.cell? ⟨kx, 4, none⟩ = some (.slice (some ⟨g0, 0, none⟩) n0 c0) := HR6.out.bx.cell 4
    obtain ⟨-, xx, yy⟩ := HR6.out.atV HFK.out
    rw [show ({ X with P := upd X.P ii b, O := upd X.O ii o, K := upd X.K ii 0 } : RS).V k = vk from HVE.out] at xx
    have vw : wrap64 (((vk : Nat) : Int) + 1) = ((vk + 1 : Nat) : Int) := by have := HXV.out; unfold wrap64; omega
    have HVW := hid vw
    clear vw
    go_still_tail 10, (by kernel_rfl)
    go_upto_region 14 with fail
    clear kq kr xx yy
    refine wp_world fun w7 hw7 => ?_
    have HR7 := hid (show Rf w7 b0 kx (.slice (some ⟨g0, 0, none⟩) n0 c0) (.slice (some ⟨g1, 0, none⟩) n0 c1) (.slice (some ⟨g2, 0, none⟩) n2 c2) (.slice (some ⟨g3, 0, none⟩) n2 c3) (.slice (some ⟨g4, 0, none⟩) n2 c4) sh { X with V := upd X.V k (vk + 1), P := upd X.P ii b, O := upd X.O ii o, K := upd X.K ii 0 } by rw [hw7, HVW.out]; exact (HR6.out.setV HFK.out (vk + 1)).1.draws 1)
    have T7 := hid (show Tch w w7 b0 by rw [hw7, HVW.out]; exact (T6.out.trans (HR6.out.setV HFK.out (vk + 1)).2).draws 1)
    have E7 := hid (show Bx w7 w.heap.size 38 #[.int .i64 (c : Nat), .int .i64 (s : Nat), .int .i64 (b : Nat), .int .i64 (o : Nat), .int .i64 (k : Nat), .slice A L cap] by rw [hw7, HVW.out]; exact ((HR6.out.setV HFK.out (vk + 1)).2.bx E6.out (by decide) (by decide)).draws 1)
    clear hw7 HR6 T6 E6
    have kd : w7.cell? ⟨w.heap.size, 5, none⟩ = some (.slice A L cap) := E7.out.cell 5
    have RA := hid (show Rn w7 A l from HRW.out.stay T7.out.stay T7.out.size)
    go_upto_region 16 with (at_builtin; (refine wpList_appV elt_byte rfl (.tmp 101) (.tmp 103) rfl w7.heap.size _ 0 [] (ownV_nil _ _ _ _) rfl _ A L cap (bytes l) rfl (by rw [bytes_length, HL.out, Nat.mul_one]) (rv_of_rd RA.out) (bytes_one l) (by unfold maxLen; omega) (by omega) (Nat.le_refl _) ?_); intro v8 w8 hown8 hg8; rw [Nat.zero_add, List.nil_append] at hown8; have HB8 := hid (hg8.below (ownV_nil w7 w7.heap.size 5 1) (Nat.le_refl _)); have HU8 := hid (ownV_bs hown8 HL.out); obtain ⟨A8, c8, rfl, -, -, -⟩ := hown8.read; clear hown8 hg8)
    have HR8 := hid (HR7.out.below HB8.out)
    have T8 := hid (T7.out.trans (Tch.of HB8.out b0))
    have E8 := hid (E7.out.next HB8.out)
    have N8 := hid (show Bs (w8.drewN 1) (.slice A8 L c8) l from HU8.out)
    clear HR7 T7 E7 RA HB8 HU8 kd
    have kq : w8.cell? ⟨w.heap.size, 4, none⟩ = some (.int .i64 (k : Nat)) := E8.out.cell 4
    have kr : w8.cell? ⟨kx, 5, none⟩ = some (.slice (some ⟨g1, 0, none⟩) n0 c1) := HR8.out.bx.cell 5
    obtain ⟨-, yy, ux, xx, -⟩ := HR8.out.atT HFK.out
    go_still_tail 8, (by kernel_rfl)
    go_upto_region 17 with fail
    clear kq kr xx yy
    refine wp_world fun w9 hw9 => ?_
    have HR9 := hid (show Rf w9 b0 kx (.slice (some ⟨g0, 0, none⟩) n0 c0) (.slice (some ⟨g1, 0, none⟩) n0 c1) (.slice (some ⟨g2, 0, none⟩) n2 c2) (.slice (some ⟨g3, 0, none⟩) n2 c3) (.slice (some ⟨g4, 0, none⟩) n2 c4) sh { X with V := upd X.V k (vk + 1), T := upd X.T k l, P := upd X.P ii b, O := upd X.O ii o, K := upd X.K ii 0 } by rw [hw9]; exact ((HR8.out.draws 1).setT HFK.out (N8.out)).1)
    have T9 := hid (show Tch w w9 b0 by rw [hw9]; exact (T8.out.draws 1).trans ((HR8.out.draws 1).setT HFK.out (N8.out)).2)
    clear hw9 HR8 T8 E8 N8
    go_wp2
    go_ret2
    refine ⟨rfl, ?_, T9.out⟩
    have hfin := HR9.out
    rw [HN.out.2, HVE.out]
    exact hfin
  case inr =>
    have u2 : (b == pp) = true := by simpa using hb1
    have u2' : (((b : Nat) : Int) == ((pp : Nat) : Int)) = true := by simp; omega
    have u3 : (o == oo) = false := by simpa using hb2
    have u3' : (((o : Nat) : Int) == ((oo : Nat) : Int)) = false := by simp; omega
    clear hb1 hb2
    generalize hs0 : sh.S = sS at e3 hpe
    go_upto_region 4 with fail
    go_quiet (fail)
    rw [hw9.out]
    go_wp2
    go_quiet (fail)
    go_wp2
    refine wp_world fun w2 hw2 => ?_
    have HR2 := hid (show Rf w2 b0 kx (.slice (some ⟨g0, 0, none⟩) n0 c0) (.slice (some ⟨g1, 0, none⟩) n0 c1) (.slice (some ⟨g2, 0, none⟩) n2 c2) (.slice (some ⟨g3, 0, none⟩) n2 c3) (.slice (some ⟨g4, 0, none⟩) n2 c4) sh X by rw [hw2]; exact (HR1.out.draws _).draws _)
    have T2 := hid (show Tch w w2 b0 by rw [hw2]; exact (T1.out.draws _).draws _)
    have E2 := hid (show Bx w2 w.heap.size 38 #[.int .i64 (c : Nat), .int .i64 (s : Nat), .int .i64 (b : Nat), .int .i64 (o : Nat), .int .i64 (k : Nat), .slice A L cap] by rw [hw2]; exact (E1.out.draws _).draws _)
    clear hw2 HR1 T1 E1
    clear d0 d1 d2 d3 d4 d5 e3 e6 e7 x2 x3 hpe hs0
    have j1 : (ii : Int) < (n2 : Int) := j1
    have j2 : (k : Int) < (n0 : Int) := by have := HFK.out; have := HN.out.1; omega
    have kv : w2.cell? ⟨w.heap.size, 2, none⟩ = some (.int .i64 (b : Nat)) := E2.out.cell 2
    have kr : w2.cell? ⟨kx, 6, none⟩ = some (.slice (some ⟨g2, 0, none⟩) n2 c2) := HR2.out.bx.cell 6
    obtain ⟨-, xx, yy⟩ := HR2.out.atP HFI.out
    go_still_tail 8, (by kernel_rfl)
    go_upto_region 8 with fail
    clear kv kr xx yy
    refine wp_world fun w3 hw3 => ?_
    have HR3 := hid (show Rf w3 b0 kx (.slice (some ⟨g0, 0, none⟩) n0 c0) (.slice (some ⟨g1, 0, none⟩) n0 c1) (.slice (some ⟨g2, 0, none⟩) n2 c2) (.slice (some ⟨g3, 0, none⟩) n2 c3) (.slice (some ⟨g4, 0, none⟩) n2 c4) sh { X with P := upd X.P ii b } by rw [hw3]; exact ((HR2.out.draws 1).setP HFI.out b).1)
    have T3 := hid (show Tch w w3 b0 by rw [hw3]; exact (T2.out.draws 1).trans ((HR2.out.draws 1).setP HFI.out b).2)
    have E3 := hid (show Bx w3 w.heap.size 38 #[.int .i64 (c : Nat), .int .i64 (s : Nat), .int .i64 (b : Nat), .int .i64 (o : Nat), .int .i64 (k : Nat), .slice A L cap] by rw [hw3]; exact ((HR2.out.draws 1).setP HFI.out b).2.bx (E2.out.draws 1) (by decide) (by decide))
    clear hw3 HR2 T2 E2
    have kv : w3.cell? ⟨w.heap.size, 3, none⟩ = some (.int .i64 (o : Nat)) := E3.out.cell 3
    have kr : w3.cell? ⟨kx, 7, none⟩ = some (.slice (some ⟨g3, 0, none⟩) n2 c3) := HR3.out.bx.cell 7
    obtain ⟨-, xx, yy⟩ := HR3.out.atO HFI.out
    go_still_tail 8, (by kernel_rfl)
    go_upto_region 9 with fail
    clear kv kr xx yy
    refine wp_world fun w4 hw4 => ?_
    have HR4 := hid (show Rf w4 b0 kx (.slice (some ⟨g0, 0, none⟩) n0 c0) (.slice (some ⟨g1, 0, none⟩) n0 c1) (.slice (some ⟨g2, 0, none⟩) n2 c2) (.slice (some ⟨g3, 0, none⟩) n2 c3) (.slice (some ⟨g4, 0, none⟩) n2 c4) sh { X with P := upd X.P ii b, O := upd X.O ii o } by rw [hw4]; exact ((HR3.out.draws 1).setO HFI.out o).1)
    have T4 := hid (show Tch w w4 b0 by rw [hw4]; exact (T3.out.draws 1).trans ((HR3.out.draws 1).setO HFI.out o).2)
    have E4 := hid (show Bx w4 w.heap.size 38 #[.int .i64 (c : Nat), .int .i64 (s : Nat), .int .i64 (b : Nat), .int .i64 (o : Nat), .int .i64 (k : Nat), .slice A L cap] by rw [hw4]; exact ((HR3.out.draws 1).setO HFI.out o).2.bx (E3.out.draws 1) (by decide) (by decide))
    clear hw4 HR3 T3 E3
    have kr : w4.cell? ⟨kx, 8, none⟩ = some (.slice (some ⟨g4, 0, none⟩) n2 c4) := HR4.out.bx.cell 8
    obtain ⟨-, xx, yy⟩ := HR4.out.atK HFI.out
    go_upto_region 10 with fail
    clear kr xx yy
    refine wp_world fun w5 hw5 => ?_
    have HR5 := hid (show Rf w5 b0 kx (.slice (some ⟨g0, 0, none⟩) n0 c0) (.slice (some ⟨g1, 0, none⟩) n0 c1) (.slice (some ⟨g2, 0, none⟩) n2 c2) (.slice (some ⟨g3, 0, none⟩) n2 c3) (.slice (some ⟨g4, 0, none⟩) n2 c4) sh { X with P := upd X.P ii b, O := upd X.O ii o, K := upd X.K ii 0 } by rw [hw5]; exact (HR4.out.setK HFI.out 0).1)
    have T5 := hid (show Tch w w5 b0 by rw [hw5]; exact T4.out.trans (HR4.out.setK HFI.out 0).2)
    have E5 := hid (show Bx w5 w.heap.size 38 #[.int .i64 (c : Nat), .int .i64 (s : Nat), .int .i64 (b : Nat), .int .i64 (o : Nat), .int .i64 (k : Nat), .slice A L cap] by rw [hw5]; exact (HR4.out.setK HFI.out 0).2.bx E4.out (by decide) (by decide))
    clear hw5 HR4 T4 E4
    have kq : w5.cell? ⟨w.heap.size, 4, none⟩ = some (.int .i64 (k : Nat)) := E5.out.cell 4
    have kr : w5.cell? ⟨kx, 4, none⟩ = some (.slice (some ⟨g0, 0, none⟩) n0 c0) := HR5.out.bx.cell 4
    obtain ⟨-, xx, yy⟩ := HR5.out.atV HFK.out
    clear yy
    rw [show ({ X with P := upd X.P ii b, O := upd X.O ii o, K := upd X.K ii 0 } : RS).V k = vk from HVE.out] at xx
    have u5 : (((vk : Nat) : Int) == 1000) = false := by have := HVK.out; simp; omega
    have u5' : ((vk : Nat) == 1000) = false := by have := HVK.out; simp; omega
    go_quiet (fail)
    clear kq kr xx
    go_upto_region 13 with fail
    refine wp_world fun w6 hw6 => ?_
    have HR6 := hid (show Rf w6 b0 kx (.slice (some ⟨g0, 0, none⟩) n0 c0) (.slice (some ⟨g1, 0, none⟩) n0 c1) (.slice (some ⟨g2, 0, none⟩) n2 c2) (.slice (some ⟨g3, 0, none⟩) n2 c3) (.slice (some ⟨g4, 0, none⟩) n2 c4) sh { X with P := upd X.P ii b, O := upd X.O ii o, K := upd X.K ii 0 } by rw [hw6]; exact HR5.out.draws _)
    have T6 := hid (show Tch w w6 b0 by rw [hw6]; exact T5.out.draws _)
    have E6 := hid (show Bx w6 w.heap.size 38 #[.int .i64 (c : Nat), .int .i64 (s : Nat), .int .i64 (b : Nat), .int .i64 (o : Nat), .int .i64 (k : Nat), .slice A L cap] by rw [hw6]; exact E5.out.draws _)
    clear hw6 HR5 T5 E5
    have kq : w6.cell? ⟨w.heap.size, 4, none⟩ = some (.int .i64 (k : Nat)) := E6.out.cell 4
    have kr : w6.cell? ⟨kx, 4, none⟩ = some (.slice (some ⟨g0, 0, none⟩) n0 c0) := HR6.out.bx.cell 4
    obtain ⟨-, xx, yy⟩ := HR6.out.atV HFK.out
    rw [show ({ X with P := upd X.P ii b, O := upd X.O ii o, K := upd X.K ii 0 } : RS).V k = vk from HVE.out] at xx
    have vw : wrap64 (((vk : Nat) : Int) + 1) = ((vk + 1 : Nat) : Int) := by have := HXV.out; unfold wrap64; omega
    have HVW := hid vw
    clear vw
    go_still_tail 10, (by kernel_rfl)
    go_upto_region 14 with fail
    clear kq kr xx yy
    refine wp_world fun w7 hw7 => ?_
    have HR7 := hid (show Rf w7 b0 kx (.slice (some ⟨g0, 0, none⟩) n0 c0) (.slice (some ⟨g1, 0, none⟩) n0 c1) (.slice (some ⟨g2, 0, none⟩) n2 c2) (.slice (some ⟨g3, 0, none⟩) n2 c3) (.slice (some ⟨g4, 0, none⟩) n2 c4) sh { X with V := upd X.V k (vk + 1), P := upd X.P ii b, O := upd X.O ii o, K := upd X.K ii 0 } by rw [hw7, HVW.out]; exact (HR6.out.setV HFK.out (vk + 1)).1.draws 1)
    have T7 := hid (show Tch w w7 b0 by rw [hw7, HVW.out]; exact (T6.out.trans (HR6.out.setV HFK.out (vk + 1)).2).draws 1)
    have E7 := hid (show Bx w7 w.heap.size 38 #[.int .i64 (c : Nat), .int .i64 (s : Nat), .int .i64 (b : Nat), .int .i64 (o : Nat), .int .i64 (k : Nat), .slice A L cap] by rw [hw7, HVW.out]; exact ((HR6.out.setV HFK.out (vk + 1)).2.bx E6.out (by decide) (by decide)).draws 1)
    clear hw7 HR6 T6 E6
    have kd : w7.cell? ⟨w.heap.size, 5, none⟩ = some (.slice A L cap) := E7.out.cell 5
    have RA := hid (show Rn w7 A l from HRW.out.stay T7.out.stay T7.out.size)
    go_upto_region 16 with (at_builtin; (refine wpList_appV elt_byte rfl (.tmp 101) (.tmp 103) rfl w7.heap.size _ 0 [] (ownV_nil _ _ _ _) rfl _ A L cap (bytes l) rfl (by rw [bytes_length, HL.out, Nat.mul_one]) (rv_of_rd RA.out) (bytes_one l) (by unfold maxLen; omega) (by omega) (Nat.le_refl _) ?_); intro v8 w8 hown8 hg8; rw [Nat.zero_add, List.nil_append] at hown8; have HB8 := hid (hg8.below (ownV_nil w7 w7.heap.size 5 1) (Nat.le_refl _)); have HU8 := hid (ownV_bs hown8 HL.out); obtain ⟨A8, c8, rfl, -, -, -⟩ := hown8.read; clear hown8 hg8)
    have HR8 := hid (HR7.out.below HB8.out)
    have T8 := hid (T7.out.trans (Tch.of HB8.out b0))
    have E8 := hid (E7.out.next HB8.out)
    have N8 := hid (show Bs (w8.drewN 1) (.slice A8 L c8) l from HU8.out)
    clear HR7 T7 E7 RA HB8 HU8 kd
    have kq : w8.cell? ⟨w.heap.size, 4, none⟩ = some (.int .i64 (k : Nat)) := E8.out.cell 4
    have kr : w8.cell? ⟨kx, 5, none⟩ = some (.slice (some ⟨g1, 0, none⟩) n0 c1) := HR8.out.bx.cell 5
    obtain ⟨-, yy, ux, xx, -⟩ := HR8.out.atT HFK.out
    go_still_tail 8, (by kernel_rfl)
    go_upto_region 17 with fail
    clear kq kr xx yy
    refine wp_world fun w9 hw9 => ?_
    have HR9 := hid (show Rf w9 b0 kx (.slice (some ⟨g0, 0, none⟩) n0 c0) (.slice (some ⟨g1, 0, none⟩) n0 c1) (.slice (some ⟨g2, 0, none⟩) n2 c2) (.slice (some ⟨g3, 0, none⟩) n2 c3) (.slice (some ⟨g4, 0, none⟩) n2 c4) sh { X with V := upd X.V k (vk + 1), T := upd X.T k l, P := upd X.P ii b, O := upd X.O ii o, K := upd X.K ii 0 } by rw [hw9]; exact ((HR8.out.draws 1).setT HFK.out (N8.out)).1)
    have T9 := hid (show Tch w w9 b0 by rw [hw9]; exact (T8.out.draws 1).trans ((HR8.out.draws 1).setT HFK.out (N8.out)).2)
    clear hw9 HR8 T8 E8 N8
    go_wp2
    go_ret2
    refine ⟨rfl, ?_, T9.out⟩
    have hfin := HR9.out
    rw [HN.out.2, HVE.out]
    exact hfin

set_option maxHeartbeats 800000 in
theorem rwrite_no (h : Rf w b0 kx r0 r1 r2 r3 r4 sh X) (ok : sh.ok) (x : Wr) (hw : wrg sh X x ≠ 0) :
    Calls Try.prog 16 #[.pointer (some ⟨kx, 0, none⟩), x.v] w fun e w' => e = .returned (.tuple #[.int .i64 0, .int .i64 (wrg sh X x : Nat)]) ∧ Below w.heap.size w w' := by
  obtain ⟨W, hW, BX, HB, -⟩ := below_new w 38 #[.int .i64 x.c, .int .i64 x.s, .int .i64 x.b, .int .i64 x.o, .int .i64 x.k, .slice x.A x.l.length x.cap]
  have HW := hid hW
  have HB0 := hid HB
  have E0 := hid BX
  have HWR := hid (wrong_any (h.below HB) ok x)
  generalize wrg sh X x = z at *
  have q1 : (((z : Nat) : Int) != 0) = true := by simp; omega
  clear hW BX HB h hw
  simp only [Wr.v] at HWR ⊢
  go_enter Try.func16, Try.ntmps16
  go_upto_region 1 with fail
  rw [HW.out]
  go_wp2_with (refine wpList_load_bx rfl 38 (.tmp 3) rfl _ _ _ _ rfl E0.out Try.underlying38 rfl (by kernel_rfl) ?_)
  refine HWR.out.mono ?_
  rintro e w1 ⟨rfl, hb1⟩
  have B1 := hid (on HB0.out hb1)
  clear hb1
  go_wp2
  go_ret2
  exact ⟨rfl, B1.out⟩
theorem rwrite_any (h : Rf w b0 kx r0 r1 r2 r3 r4 sh X) (ok : sh.ok) (x : Wr) (hg : x.Good w) (hX : ∀ j, j < sh.B → X.V j ≤ 1000) :
    Calls Try.prog 16 #[.pointer (some ⟨kx, 0, none⟩), x.v] w fun e w' => e = .returned (.tuple #[.int .i64 (rwr sh X x).2.1, .int .i64 (rwr sh X x).2.2]) ∧ Rf w' b0 kx r0 r1 r2 r3 r4 sh (rwr sh X x).1 ∧ Tch w w' b0 := by
  by_cases hz : wrg sh X x ≠ 0
  · have e : rwr sh X x = (X, 0, ((wrg sh X x : Nat) : Int)) := by
      unfold wrg at hz ⊢
      unfold rwr
      by_cases hw : x.wrong sh = 0
      · rw [if_pos hw] at hz ⊢
        rw [if_pos hw]
        by_cases h1 : age x.b x.o (X.P (x.i sh)) (X.O (x.i sh)) < 0
        · rw [if_pos h1, if_pos h1]; rfl
        · rw [if_neg h1] at hz; exact absurd rfl hz
      · rw [if_neg hw, if_neg hw]
    rw [e]
    exact (rwrite_no h ok x hz).mono fun e w' ⟨h1, h2⟩ => ⟨h1, h.below h2, Tch.of h2 b0⟩
  · have hz0 : wrg sh X x = 0 := Classical.not_not.1 hz
    have hw : x.wrong sh = 0 := by
      by_cases hw : x.wrong sh = 0
      · exact hw
      · unfold wrg at hz0; rw [if_neg hw] at hz0; exact absurd hz0 hw
    have hage : ¬ age x.b x.o (X.P (x.i sh)) (X.O (x.i sh)) < 0 := by
      intro h1
      unfold wrg at hz0
      rw [if_pos hw, if_pos h1] at hz0
      cases hz0
    have fit := x.fit ok hw
    obtain ⟨f1, f2, ⟨f3, f4⟩, f5, f6⟩ := x.fits sh hw
    have e0 : age x.b x.o (X.P (x.i sh)) (X.O (x.i sh)) = 0 → rwr sh X x = (X, ((X.K (x.i sh) : Nat) : Int), 0) := fun h1 => (if_pos hw).trans ((if_neg hage).trans (if_pos h1))
    have e1 : ¬ age x.b x.o (X.P (x.i sh)) (X.O (x.i sh)) = 0 → rwr sh X x = ((X.put (x.i sh) x.b.toNat x.o.toNat x.k.toNat x.l).1, (((X.put (x.i sh) x.b.toNat x.o.toNat x.k.toNat x.l).2 : Nat) : Int), 0) := fun h1 => (if_pos hw).trans ((if_neg hage).trans (if_neg h1))
    have hr := hg.r
    generalize rwr sh X x = R at *
    obtain ⟨c, s, b, o, k, A, cap, l⟩ := x
    dsimp only [Wr.v, Wr.i] at *
    obtain ⟨c, rfl⟩ := Int.eq_ofNat_of_zero_le f3.1
    obtain ⟨s, rfl⟩ := Int.eq_ofNat_of_zero_le f4.1
    obtain ⟨k, rfl⟩ := Int.eq_ofNat_of_zero_le f1.1
    obtain ⟨b, rfl⟩ := Int.eq_ofNat_of_zero_le (show 0 ≤ b by omega)
    obtain ⟨o, rfl⟩ := Int.eq_ofNat_of_zero_le (show 0 ≤ o by omega)
    simp only [Int.toNat_natCast] at *
    by_cases hs : b = X.P (sh.S * c + s) ∧ o = X.O (sh.S * c + s)
    · rw [e0 (by unfold age orI cmpI; rw [← hs.1, ← hs.2]; simp)]
      exact (rwrite_same h ok c s b o k A l.length cap l rfl hr fit hw hX hage hs).mono fun e w' ⟨h1, h2⟩ => ⟨h1, h.below h2, Tch.of h2 b0⟩
    · have hne : ¬ age (b : Nat) (o : Nat) (X.P (sh.S * c + s)) (X.O (sh.S * c + s)) = 0 := by
        intro h1
        apply hs
        unfold age orI cmpI at h1
        rcases Int.lt_trichotomy (b : Nat) (X.P (sh.S * c + s) : Nat) with g | g | g
        · simp [g] at h1
        · rcases Int.lt_trichotomy (o : Nat) (X.O (sh.S * c + s) : Nat) with g2 | g2 | g2
          · simp [g, g2] at h1
          · exact ⟨by omega, by omega⟩
          · simp [g, g2, Int.not_lt.2 (Int.le_of_lt g2)] at h1
        · simp [g, Int.not_lt.2 (Int.le_of_lt g)] at h1
      rw [e1 hne]
      by_cases hv : X.V k = 1000
      · have e2 : X.put (sh.S * c + s) b o k l = (⟨X.V, X.T, upd X.P (sh.S * c + s) b, upd X.O (sh.S * c + s) o, upd X.K (sh.S * c + s) 11⟩, 11) := if_pos hv
        rw [e2]
        exact rwrite_last h ok c s b o k A l.length cap l rfl hr fit hw hX hage hs hv
      · have e2 : X.put (sh.S * c + s) b o k l = (⟨upd X.V k (X.V k + 1), upd X.T k l, upd X.P (sh.S * c + s) b, upd X.O (sh.S * c + s) o, upd X.K (sh.S * c + s) 0⟩, 0) := if_neg hv
        rw [e2]
        exact rwrite_new h ok c s b o k A l.length cap l rfl hr fit hw hX hage hs hv

end
end Go.Proofs.Ytincndblpbdnlaa
