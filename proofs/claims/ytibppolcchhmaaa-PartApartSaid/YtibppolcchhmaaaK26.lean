/-
  What is proved: what the laws of this layer share: a plan's hints, blocks and capacities in a box; New by its two ends; a row that is copied. Condition: the hints are read as such.
-/
import Derived.Test.YtibppolcchhmaaaK24
import Derived.Test.YtibppolcchhmaaaK25
import Derived.Test.YtibppolcchhmaaaK17
import Derived.Test.YtibppolcchhmaaaK15
namespace Go.Proofs.Ytibppolcchhmaaa
open Go.RowKit

theorem capN {b x y z : Int} (h : CapP b x y z) : ∃ u : Nat → Nat, cN x y z = u ∧ x = (u 0 : Nat) ∧ y = (u 1 : Nat) ∧ z = (u 2 : Nat) ∧ ∀ t, t < 3 → u t ≤ 16 := by
  have hcr : ∀ i, i < 3 → 1 ≤ f3 x y z i ∧ f3 x y z i ≤ 16 := fun i hi => Classical.byContradiction fun h' => h.2 ⟨i, hi, by omega⟩
  have r0 := hcr 0 (by omega)
  have r1 := hcr 1 (by omega)
  have r2 := hcr 2 (by omega)
  exact ⟨cN x y z, rfl, (Int.toNat_of_nonneg (by have := r0.1; show 0 ≤ f3 x y z 0; omega)).symm, (Int.toNat_of_nonneg (by have := r1.1; show 0 ≤ f3 x y z 1; omega)).symm, (Int.toNat_of_nonneg (by have := r2.1; show 0 ≤ f3 x y z 2; omega)).symm, fun t ht => by have := hcr t ht; unfold cN; omega⟩
section
variable {A : Option Addr} {n c : Nat} {hh : Nat → Hn} {b x y z : Int} {w : World}
/-- New refuses -/
theorem new_bad (hn : n ≤ 1000) (hc : A = none → c = 0) (hr : Rv w w.heap.size A (hvs hh n)) (h : ¬ (CapP b x y z ∧ HintsP hh n b)) :
    Calls Try.prog 9 #[.slice A n c, .int .i64 b, .agg #[.int .i64 x, .int .i64 y, .int .i64 z]] w fun e w' => ∃ r : Int, e = .returned (.tuple #[.pointer none, .int .i64 r]) ∧ ((¬ CapP b x y z ∧ r = 6) ∨ (CapP b x y z ∧ ¬ HintsP hh n b ∧ r = 14)) ∧ (r != 0) = true ∧ Below w.heap.size w w' :=
  (new_any A n c hh b x y z w hn hc hr).mono fun e w' h' => by
    rcases h' with ⟨h1, h2, h3⟩ | ⟨h1, h2, h3, h4⟩ | ⟨h1, h2, _⟩
    · exact ⟨6, h2, .inl ⟨h1, rfl⟩, rfl, h3⟩
    · exact ⟨14, h3, .inr ⟨h1, h2, rfl⟩, rfl, h4⟩
    · exact absurd ⟨h1, h2⟩ h
/-- New makes a plan -/
theorem new_ok {u : Nat → Nat} (hn : n ≤ 1000) (hc : A = none → c = 0) (hr : Rv w w.heap.size A (hvs hh n)) (h1 : CapP b (u 0 : Nat) (u 1 : Nat) (u 2 : Nat)) (hu : cN (u 0 : Nat) (u 1 : Nat) (u 2 : Nat) = u) (h2 : HintsP hh n b) :
    Calls Try.prog 9 #[.slice A n c, .int .i64 b, .agg #[.int .i64 (u 0 : Nat), .int .i64 (u 1 : Nat), .int .i64 (u 2 : Nat)]] w fun e w' => ∃ g A1 c1 B d, e = .returned (.tuple #[.pointer (some ⟨g, 0, none⟩), .int .i64 0]) ∧ Pl w' g b u hh n A1 c1 B d ∧ Below w.heap.size w w' ∧ w.heap.size ≤ g :=
  (new_any A n c hh b _ _ _ w hn hc hr).mono fun e w' h' => by
    rcases h' with ⟨h3, _⟩ | ⟨_, h3, _⟩ | ⟨_, _, h3, g, A1, c1, B, d, h4, h5, h6⟩
    · exact absurd h1 h3
    · exact absurd h2 h3
    · rw [hu] at h5
      exact ⟨g, A1, c1, B, d, h4, h5, h3, h6⟩
end
/-- a plan's hints, blocks and capacities in a box -/
structure Lx (w0 w : World) (q : Nat) (A : Option Addr) (n c : Nat) (b x y z : Int) : Prop where
  bel : Below w0.heap.size w0 w
  bx : Bx w q 25 #[.slice A n c, .int .i64 b, .int .i64 x, .int .i64 y, .int .i64 z]
section
variable {w0 w w' : World} {q n c : Nat} {A : Option Addr} {b x y z : Int}
theorem Lx.new (w : World) (A : Option Addr) (n c : Nat) (b x y z : Int) : Lx w (w.alloc (.cells #[.slice A n c, .int .i64 b, .int .i64 x, .int .i64 y, .int .i64 z] 25)) w.heap.size A n c b x y z := ⟨below_alloc w _, Bx.new w _ _⟩
theorem Lx.below (h : Lx w0 w q A n c b x y z) (hb : Below w.heap.size w w') : Lx w0 w' q A n c b x y z := ⟨on h.bel hb, h.bx.next hb⟩
theorem Lx.belowG {g : Nat} (h : Lx w0 w q A n c b x y z) (hb : Below g w w') (h1 : w0.heap.size ≤ g) (h2 : q < g) : Lx w0 w' q A n c b x y z := ⟨h.bel.trans (hb.mono h1), (hb.block q h2).trans h.bx⟩
theorem Lx.draws (h : Lx w0 w q A n c b x y z) (n' : Nat) : Lx w0 (w.drewN n') q A n c b x y z := h.below (below_draws (Below.refl _ _) n')
theorem Lx.all (h : Lx w0 w q A n c b x y z) : w.cell? ⟨q, 0, none⟩ = some (.slice A n c) ∧ w.cell? ⟨q, 1, none⟩ = some (.int .i64 b) ∧ w.cell? ⟨q, 2, none⟩ = some (.int .i64 x) ∧ w.cell? ⟨q, 3, none⟩ = some (.int .i64 y) ∧ w.cell? ⟨q, 4, none⟩ = some (.int .i64 z) := ⟨h.bx.cell 0, h.bx.cell 1, h.bx.cell 2, h.bx.cell 3, h.bx.cell 4⟩
theorem Lx.lt (h : Lx w0 w q A n c b x y z) : q < w.heap.size := h.bx.lt
end
theorem own_row2 {w w' : World} {b s n : Nat} {e : TypeId} {v : Value} {us : List Value} (h : OwnV w' b e s v n us) (hb : w.heap.size ≤ b) : ∃ A c, v = .slice A n c ∧ Rv w' w'.heap.size A us ∧ (A = none → c = 0) ∧ ∀ ad, A = some ad → w.heap.size ≤ ad.block := by
  obtain ⟨A, c, e, hr, h1, h2⟩ := OwnV.read h
  refine ⟨A, c, e, hr, fun ea => ?_, fun ad ea => Nat.le_trans hb (World.ownsRow.lt h ad.block (by rw [e, ea]; rfl)).1⟩
  rcases h.2 with ⟨hv, h0⟩ | ⟨g, cap, cur, hv, _⟩
  · rw [e, ea] at hv
    injection hv
  · rw [e, ea] at hv
    cases hv
/-- the reference's parts, as the plan tells them -/
theorem rparts_kp {A : Option Addr} {n c : Nat} {hh : Nat → Hn} {b : Int} {u : Nat → Nat} {w : World} (hP : HintsP hh n b) (hr : Rv w w.heap.size A (hvs hh n)) (hx : ∀ t, t < 3 → u t ≤ 1000) :
    Calls Try.prog 31 #[.slice A n c, .agg #[.int .i64 (u 0 : Nat), .int .i64 (u 1 : Nat), .int .i64 (u 2 : Nat)]] w fun e w' => ∃ g, e = .returned (.slice (some ⟨g, 0, none⟩) (4 * n) (4 * n)) ∧ Arr w' g (n * 4) (ptv (KP hh n u)) ∧ Below w.heap.size w w' :=
  (rparts_any A n c hh b u w hP hr hx).mono fun e w' ⟨g, d, h1, h2, h3, h4, _⟩ => by
    rw [KP_of h2] at h3
    exact ⟨g, h1, h3, h4⟩
/-- they lie in new memory -/
theorem rparts_new {A : Option Addr} {n c : Nat} {hh : Nat → Hn} {b : Int} {u : Nat → Nat} {w : World} (hP : HintsP hh n b) (hr : Rv w w.heap.size A (hvs hh n)) (hx : ∀ t, t < 3 → u t ≤ 1000) :
    Calls Try.prog 31 #[.slice A n c, .agg #[.int .i64 (u 0 : Nat), .int .i64 (u 1 : Nat), .int .i64 (u 2 : Nat)]] w fun e w' => ∃ g, e = .returned (.slice (some ⟨g, 0, none⟩) (4 * n) (4 * n)) ∧ Arr w' g (n * 4) (ptv (KP hh n u)) ∧ Below w.heap.size w w' ∧ w.heap.size ≤ g :=
  (rparts_any A n c hh b u w hP hr hx).mono fun e w' ⟨g, d, h1, h2, h3, h4⟩ => by
    rw [KP_of h2] at h3
    exact ⟨g, h1, h3, h4⟩
end Go.Proofs.Ytibppolcchhmaaa
/-
  What is proved: karma's multiple answers the least common multiple of two numbers; Common's the same of all sizes. Condition: the numbers are at least 1 and small.
  (Left out here, as nothing of this law reaches it: multiple_any.) -/
namespace Go.Proofs.Ytibppolcchhmaaa
open Go.RowKit

theorem lcm_div (a b : Nat) (ha : 0 < a) : a / Nat.gcd a b * b = Nat.lcm a b := by
  obtain ⟨q, hq⟩ := Nat.gcd_dvd_left a b
  have hg : 0 < Nat.gcd a b := Nat.gcd_pos_of_pos_left b ha
  have h := Nat.gcd_mul_lcm a b
  generalize Nat.gcd a b = g at *
  rw [hq, Nat.mul_div_cancel_left _ hg]
  refine Nat.eq_of_mul_eq_mul_left hg ?_
  rw [← hq, h, ← Nat.mul_assoc, ← hq]








































end Go.Proofs.Ytibppolcchhmaaa
