/-
  What is proved: for all fractions the statement on comparing two returns true, and so does the one on three; what they write lies in new memory. No condition.
  (Left out here, as nothing of this law reaches it: comp_yes, comp_no, comp_walk.) -/
import Derived.Test.YtibppolcchhmaaaK11
import Derived.Test.YtibppolcchhmaaaK02
namespace Go.Proofs.Ytibppolcchhmaaa
open Go.RowKit

theorem cmp3 (x y : Nat) : (x < y ∧ cmpI x y = -1 ∧ cmpI y x = 1) ∨ (x = y ∧ cmpI x y = 0 ∧ cmpI y x = 0) ∨ (y < x ∧ cmpI x y = 1 ∧ cmpI y x = -1) := by
  unfold cmpI
  rcases Nat.lt_trichotomy x y with h | h | h
  · exact .inl ⟨h, by rw [if_pos h], by rw [if_neg (by omega), if_pos h]⟩
  · subst h; exact .inr (.inl ⟨rfl, by rw [if_neg (Nat.lt_irrefl _), if_neg (Nat.lt_irrefl _)], by rw [if_neg (Nat.lt_irrefl _), if_neg (Nat.lt_irrefl _)]⟩)
  · exact .inr (.inr ⟨h, by rw [if_neg (by omega), if_pos h], by rw [if_pos h]⟩)

theorem nats {t b : Int} (h : okF t b) : ∃ x y : Nat, t = x ∧ b = y ∧ x ≤ 2147483647 ∧ y ≤ 2147483647 := by
  obtain ⟨⟨h0, h1⟩, ⟨h2, h3⟩, _⟩ := h
  exact ⟨t.toNat, b.toNat, by omega, by omega, by omega, by omega⟩
































































































































end Go.Proofs.Ytibppolcchhmaaa
/-
  What is proved: for all fractions the statement on three of them returns true; what it writes lies in new memory. No condition.
  (Left out here, as nothing of this law reaches it: compare_any, three_walk.) -/
namespace Go.Proofs.Ytibppolcchhmaaa
open Go.RowKit










/-- three structs of two cells, each in a new block, kept -/
theorem three_kept {w w1 : World} {t : TypeId} {a b c d e f : Value} (h : Below (((w.alloc (.cells #[a, b] t)).alloc (.cells #[c, d] t)).alloc (.cells #[e, f] t)).heap.size (((w.alloc (.cells #[a, b] t)).alloc (.cells #[c, d] t)).alloc (.cells #[e, f] t)) w1) :
    Box w1 w.heap.size a b ∧ Box w1 (w.heap.size + 1) c d ∧ Box w1 (w.heap.size + 1 + 1) e f ∧ Below w.heap.size w w1 := by
  have q1 := World.size_alloc (w := w) (o := .cells #[a, b] t)
  have q2 := World.size_alloc (w := w.alloc (.cells #[a, b] t)) (o := .cells #[c, d] t)
  have b1 := ((box_new w t a b).alloc (.cells #[c, d] t)).alloc (.cells #[e, f] t)
  have b2 := (box_new (w.alloc (.cells #[a, b] t)) t c d).alloc (.cells #[e, f] t)
  have b3 := box_new ((w.alloc (.cells #[a, b] t)).alloc (.cells #[c, d] t)) t e f
  rw [q2, q1] at b3
  rw [q1] at b2
  exact ⟨b1.next h, b2.next h, b3.next h, on (on (on (on (Below.refl _ _) (below_alloc w _)) (below_alloc _ _)) (below_alloc _ _)) h⟩

theorem trip (t1 b1 t2 b2 t3 b3 : Nat) (h1 : 0 < b1) (h2 : 0 < b2) (h3 : 0 < b3) :
    ∃ x y z : Int, cmpI (t1 * b2) (t2 * b1) = x ∧ cmpI (t2 * b3) (t3 * b2) = y ∧ cmpI (t1 * b3) (t3 * b1) = z ∧
      (x = -1 ∨ (x = 0 ∧ y = -1) ∨ (x = 1 ∧ y = -1) ∨ (x = 0 ∧ y = 0 ∧ z = 0) ∨ (x = 0 ∧ y = 1 ∧ z = 1) ∨ (x = 1 ∧ y = 0 ∧ z = 1) ∨ (x = 1 ∧ y = 1 ∧ z = 1)) := by
  have e1 : t1 * b2 * b3 = t1 * b3 * b2 := by rw [Nat.mul_assoc, Nat.mul_assoc, Nat.mul_comm b2]
  have e2 : t2 * b1 * b3 = t2 * b3 * b1 := by rw [Nat.mul_assoc, Nat.mul_assoc, Nat.mul_comm b1]
  have e3 : t3 * b2 * b1 = t3 * b1 * b2 := by rw [Nat.mul_assoc, Nat.mul_assoc, Nat.mul_comm b2]
  refine ⟨_, _, _, rfl, rfl, rfl, ?_⟩
  have lt : ∀ {a b c : Nat}, 0 < c → (a * c < b * c ↔ a < b) := fun h => Nat.mul_lt_mul_right h
  rcases cmp3 (t1 * b2) (t2 * b1) with ⟨l1, x1, _⟩ | ⟨l1, x1, _⟩ | ⟨l1, x1, _⟩
  · exact .inl x1
  · rcases cmp3 (t2 * b3) (t3 * b2) with ⟨l2, y1, _⟩ | ⟨l2, y1, _⟩ | ⟨l2, y1, _⟩
    · exact .inr (.inl ⟨x1, y1⟩)
    · have h : t1 * b3 = t3 * b1 := by
        refine Nat.eq_of_mul_eq_mul_right h2 ?_
        rw [← e1, l1, e2, l2, e3]
      rw [x1, y1, h]
      unfold cmpI
      simp
    · have h : t3 * b1 < t1 * b3 := by
        refine (lt h2).1 ?_
        rw [← e3, ← e1, l1, e2]
        exact (lt h1).2 l2
      rw [x1, y1]
      unfold cmpI
      simp [h]
      omega
  · rcases cmp3 (t2 * b3) (t3 * b2) with ⟨l2, y1, _⟩ | ⟨l2, y1, _⟩ | ⟨l2, y1, _⟩
    · exact .inr (.inr (.inl ⟨x1, y1⟩))
    · have h : t3 * b1 < t1 * b3 := by
        refine (lt h2).1 ?_
        rw [← e3, ← e1, ← l2, ← e2]
        exact (lt h3).2 l1
      rw [x1, y1]
      unfold cmpI
      simp [h]
      omega
    · have h : t3 * b1 < t1 * b3 := by
        refine (lt h2).1 ?_
        rw [← e3, ← e1]
        exact Nat.lt_trans ((lt h1).2 l2) (e2 ▸ (lt h3).2 l1)
      rw [x1, y1]
      unfold cmpI
      simp [h]
      omega




























































































































end Go.Proofs.Ytibppolcchhmaaa
