/-
  What is proved: for all fractions the statement on comparing two returns true, and so does the one on three; what they write lies in new memory. No condition.
  (Left out here, as nothing of this law reaches it: comp_yes, comp_no, comp_walk.) -/
import Derived.Test.YtcibhmbneedghaaMulL
import Derived.Test.YtcibhmbneedghaaVec
namespace Go.Proofs.Ytcibhmbneedghaa
open Go.RowKit

theorem cmp3 (x y : Nat) : (x < y ∧ cmpI x y = -1 ∧ cmpI y x = 1) ∨ (x = y ∧ cmpI x y = 0 ∧ cmpI y x = 0) ∨ (y < x ∧ cmpI x y = 1 ∧ cmpI y x = -1) := by
  unfold cmpI
  rcases Nat.lt_trichotomy x y with h | h | h
  · exact .inl ⟨h, by rw [if_pos h], by rw [if_neg (by omega), if_pos h]⟩
  · subst h; exact .inr (.inl ⟨rfl, by rw [if_neg (Nat.lt_irrefl _), if_neg (Nat.lt_irrefl _)], by rw [if_neg (Nat.lt_irrefl _), if_neg (Nat.lt_irrefl _)]⟩)
  · exact .inr (.inr ⟨h, by rw [if_neg (by omega), if_pos h], by rw [if_pos h]⟩)

theorem nats {t b : Int} (h : okF t b) : ∃ x y : Nat, t = x ∧ b = y ∧ x ≤ 2147483647 ∧ y ≤ 2147483647 := by
  obtain ⟨⟨h0, h1⟩, ⟨h2, h3⟩, _⟩ := h
  exact ⟨t.toNat, b.toNat, by omega, by omega, by omega, by omega⟩
































































































































end Go.Proofs.Ytcibhmbneedghaa
