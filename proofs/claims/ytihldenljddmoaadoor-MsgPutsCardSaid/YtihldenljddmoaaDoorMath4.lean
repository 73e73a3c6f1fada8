/-
  What is proved: plain facts on the fields that a kind of message names, as bits of a number: the next one, all of them in order. Nothing of the program is in it. No condition.
-/
import Derived.WalkKit
namespace Go.Proofs.YtihldenljddmoaaDoor

/-- the bits of a kind's fields -/
def mk : Nat → Nat
  | 1 => 116
  | 2 => 1140
  | 3 => 1120
  | 4 => 160
  | 5 => 1908
  | 6 => 884
  | 7 => 160
  | 8 => 96
  | 9 => 1150
  | 10 => 1120
  | 11 => 32
  | 12 => 1312
  | 13 => 830
  | 14 => 32
  | _ => 0
/-- the most that a field may be -/
def mo : Nat → Int
  | 1 => 3
  | 2 => 3
  | 3 => 1099511627776
  | 4 => 1099511627776
  | 5 => 31
  | 6 => 4
  | 7 => 1099511627776
  | 8 => 16
  | 9 => 1
  | 10 => 64
  | _ => 0
/-- the first field from f on, of n, that is among the bits; 0 if there is none -/
def nxF (x : Nat) : Nat → Nat → Nat
  | 0, _ => 0
  | n + 1, f => if x.testBit f then f else nxF x n (f + 1)
def nx (x f : Nat) : Nat := nxF x (11 - f) f
/-- all of them -/
def flF (x : Nat) : Nat → Nat → List Nat
  | 0, _ => []
  | n + 1, f => if x.testBit f then f :: flF x n (f + 1) else flF x n (f + 1)
def fl (x f : Nat) : List Nat := flF x (11 - f) f

theorem nxF_spec (x : Nat) : ∀ n f, f + n = 11 → 0 < f → (nxF x n f = 0 ∧ flF x n f = []) ∨ (f ≤ nxF x n f ∧ nxF x n f ≤ 10 ∧ x.testBit (nxF x n f) = true ∧ flF x n f = nxF x n f :: fl x (nxF x n f + 1))
  | 0, _, _, _ => .inl ⟨rfl, rfl⟩
  | n + 1, f, h, hf => by
    unfold nxF flF
    by_cases hb : x.testBit f = true
    · rw [if_pos hb, if_pos hb]
      refine .inr ⟨Nat.le_refl _, by omega, hb, ?_⟩
      unfold fl
      rw [show 11 - (f + 1) = n by omega]
    · rw [if_neg hb, if_neg hb]
      rcases nxF_spec x n (f + 1) (by omega) (by omega) with h1 | ⟨h1, h2, h3, h4⟩
      · exact .inl h1
      · exact .inr ⟨by omega, h2, h3, h4⟩
/-- the next field begins the list -/
theorem nx_spec (x f : Nat) (h0 : 0 < f) (h : f ≤ 11) : (nx x f = 0 ∧ fl x f = []) ∨ (f ≤ nx x f ∧ nx x f ≤ 10 ∧ x.testBit (nx x f) = true ∧ fl x f = nx x f :: fl x (nx x f + 1)) :=
  nxF_spec x (11 - f) f (by omega) h0
theorem nx_le (x f : Nat) (h0 : 0 < f) (h : f ≤ 11) : nx x f ≤ 10 := by
  rcases nx_spec x f h0 h with ⟨h1, _⟩ | h1 <;> omega
theorem flF_mem (x : Nat) : ∀ n f, f + n = 11 → ∀ k, k ∈ flF x n f ↔ (f ≤ k ∧ k ≤ 10 ∧ x.testBit k = true)
  | 0, f, h, k => by simp [flF]; omega
  | n + 1, f, h, k => by
    unfold flF
    have ih := flF_mem x n (f + 1) (by omega) k
    by_cases hb : x.testBit f = true
    · rw [if_pos hb, List.mem_cons, ih]
      constructor
      · rintro (rfl | ⟨a, b, c⟩)
        · exact ⟨Nat.le_refl _, by omega, hb⟩
        · exact ⟨by omega, b, c⟩
      · rintro ⟨a, b, c⟩
        by_cases e : k = f
        · exact .inl e
        · exact .inr ⟨by omega, b, c⟩
    · rw [if_neg hb, ih]
      constructor
      · rintro ⟨a, b, c⟩; exact ⟨by omega, b, c⟩
      · rintro ⟨a, b, c⟩
        refine ⟨?_, b, c⟩
        by_cases e : k = f
        · subst e; exact absurd c hb
        · omega
theorem fl_mem (x k : Nat) : k ∈ fl x 1 ↔ (1 ≤ k ∧ k ≤ 10 ∧ x.testBit k = true) := flF_mem x 10 1 rfl k
theorem flF_len (x : Nat) : ∀ n f, (flF x n f).length ≤ n
  | 0, _ => Nat.le_refl _
  | n + 1, f => by
    unfold flF
    have := flF_len x n (f + 1)
    split
    · simp only [List.length_cons]; omega
    · omega
theorem fl_len (x f : Nat) : (fl x f).length ≤ 11 - f := flF_len x _ f
theorem fl_len10 (x : Nat) : (fl x 1).length ≤ 10 := fl_len x 1
theorem mo_pos (f : Nat) (h : 1 ≤ f) (h2 : f ≤ 10) : 1 ≤ mo f ∧ mo f ≤ 1099511627776 := by
  match f, h, h2 with
  | 1, _, _ | 2, _, _ | 3, _, _ | 4, _, _ | 5, _, _ | 6, _, _ | 7, _, _ | 8, _, _ | 9, _, _ | 10, _, _ => simp [mo]
  | n + 11, _, h => omega
theorem fl_every : fl 2046 1 = [1, 2, 3, 4, 5, 6, 7, 8, 9, 10] := by decide
theorem mk_zero (k : Nat) (h : 1 ≤ k ∧ k ≤ 14) : fl (mk k) 1 ≠ [] := by
  obtain ⟨h1, h2⟩ := h
  match k, h1, h2 with
  | 1, _, _ | 2, _, _ | 3, _, _ | 4, _, _ | 5, _, _ | 6, _, _ | 7, _, _ | 8, _, _ | 9, _, _ | 10, _, _ | 11, _, _ | 12, _, _ | 13, _, _ | 14, _, _ => decide
  | n + 15, _, h => omega
end Go.Proofs.YtihldenljddmoaaDoor
