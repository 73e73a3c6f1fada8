/-
  What is proved: for all fractions the statement on three of them returns true; what it writes lies in new memory. No condition.
-/
import Derived.Test.YtlkaoobdppnebaaComp
namespace Go.Proofs.Ytlkaoobdppnebaa
open Go.RowKit

theorem compare_any (w : World) (t b s c : Int) :
    Calls Try.prog 16 #[.agg #[.int .i64 t, .int .i64 b], .agg #[.int .i64 s, .int .i64 c]] w fun e w' => (∃ x y : Int, e = .returned (.tuple #[.int .i64 x, .int .i64 y])) ∧ Below w.heap.size w w' := by
  by_cases h : okF t b ∧ okF s c
  · obtain ⟨h0, h1⟩ := h
    obtain ⟨t, b, rfl, rfl, _⟩ := nats h0
    obtain ⟨s, c, rfl, rfl, _⟩ := nats h1
    exact (compare_yes w t b s c h0 h1).mono fun e w' ⟨h, hb⟩ => ⟨⟨_, _, h⟩, hb⟩
  · exact (compare_no w t b s c h).mono fun e w' ⟨h, hb⟩ => ⟨⟨_, _, h⟩, hb⟩

/-- three structs of two cells, each in a new block, kept -/
theorem three_kept {w w1 : World} {t : TypeId} {a b c d e f : Value} (h : Below (((w.alloc (.cells #[a, b] t)).alloc (.cells #[c, d] t)).alloc (.cells #[e, f] t)).heap.size (((w.alloc (.cells #[a, b] t)).alloc (.cells #[c, d] t)).alloc (.cells #[e, f] t)) w1) :
    Box w1 w.heap.size a b ∧ Box w1 (w.heap.size + 1) c d ∧ Box w1 (w.heap.size + 1 + 1) e f ∧ Below w.heap.size w w1 := by
  have q1 := World.size_alloc (w := w) (o := .cells #[a, b] t)
  have q2 := World.size_alloc (w := w.alloc (.cells #[a, b] t)) (o := .cells #[c, d] t)
  have b1 := ((box_new w t a b).alloc (.cells #[c, d] t)).alloc (.cells #[e, f] t)
  have b2 := (box_new (w.alloc (.cells #[a, b] t)) t c d).alloc (.cells #[e, f] t)
  have b3 := box_new ((w.alloc (.cells #[a, b] t)).alloc (.cells #[c, d] t)) t e f
  rw [q2, q1] at b3
  rw [q1] at b2
  exact ⟨b1.next h, b2.next h, b3.next h, on (on (on (on (Below.refl _ _) (below_alloc w _)) (below_alloc _ _)) (below_alloc _ _)) h⟩

theorem trip (t1 b1 t2 b2 t3 b3 : Nat) (h1 : 0 < b1) (h2 : 0 < b2) (h3 : 0 < b3) :
    ∃ x y z : Int, cmpI (t1 * b2) (t2 * b1) = x ∧ cmpI (t2 * b3) (t3 * b2) = y ∧ cmpI (t1 * b3) (t3 * b1) = z ∧
      (x = -1 ∨ (x = 0 ∧ y = -1) ∨ (x = 1 ∧ y = -1) ∨ (x = 0 ∧ y = 0 ∧ z = 0) ∨ (x = 0 ∧ y = 1 ∧ z = 1) ∨ (x = 1 ∧ y = 0 ∧ z = 1) ∨ (x = 1 ∧ y = 1 ∧ z = 1)) := by
  have e1 : t1 * b2 * b3 = t1 * b3 * b2 := by rw [Nat.mul_assoc, Nat.mul_assoc, Nat.mul_comm b2]
  have e2 : t2 * b1 * b3 = t2 * b3 * b1 := by rw [Nat.mul_assoc, Nat.mul_assoc, Nat.mul_comm b1]
  have e3 : t3 * b2 * b1 = t3 * b1 * b2 := by rw [Nat.mul_assoc, Nat.mul_assoc, Nat.mul_comm b2]
  refine ⟨_, _, _, rfl, rfl, rfl, ?_⟩
  have lt : ∀ {a b c : Nat}, 0 < c → (a * c < b * c ↔ a < b) := fun h => Nat.mul_lt_mul_right h
  rcases cmp3 (t1 * b2) (t2 * b1) with ⟨l1, x1, _⟩ | ⟨l1, x1, _⟩ | ⟨l1, x1, _⟩
  · exact .inl x1
  · rcases cmp3 (t2 * b3) (t3 * b2) with ⟨l2, y1, _⟩ | ⟨l2, y1, _⟩ | ⟨l2, y1, _⟩
    · exact .inr (.inl ⟨x1, y1⟩)
    · have h : t1 * b3 = t3 * b1 := by
        refine Nat.eq_of_mul_eq_mul_right h2 ?_
        rw [← e1, l1, e2, l2, e3]
      rw [x1, y1, h]
      unfold cmpI
      simp
    · have h : t3 * b1 < t1 * b3 := by
        refine (lt h2).1 ?_
        rw [← e3, ← e1, l1, e2]
        exact (lt h1).2 l2
      rw [x1, y1]
      unfold cmpI
      simp [h]
      omega
  · rcases cmp3 (t2 * b3) (t3 * b2) with ⟨l2, y1, _⟩ | ⟨l2, y1, _⟩ | ⟨l2, y1, _⟩
    · exact .inr (.inr (.inl ⟨x1, y1⟩))
    · have h : t3 * b1 < t1 * b3 := by
        refine (lt h2).1 ?_
        rw [← e3, ← e1, ← l2, ← e2]
        exact (lt h3).2 l1
      rw [x1, y1]
      unfold cmpI
      simp [h]
      omega
    · have h : t3 * b1 < t1 * b3 := by
        refine (lt h2).1 ?_
        rw [← e3, ← e1]
        exact Nat.lt_trans ((lt h1).2 l2) (e2 ▸ (lt h3).2 l1)
      rw [x1, y1]
      unfold cmpI
      simp [h]
      omega

set_option maxHeartbeats 1000000 in
theorem three_walk (t1 b1 t2 b2 t3 b3 : Int) (w : World) :
    Calls Try.prog 8 #[.agg #[.int .i64 t1, .int .i64 b1], .agg #[.int .i64 t2, .int .i64 b2], .agg #[.int .i64 t3, .int .i64 b3]] w fun e w' => e = .returned (.bool true) ∧ Below w.heap.size w w' := by
  by_cases h12 : okF t1 b1 ∧ okF t2 b2
  · by_cases h3 : okF t3 b3
    · obtain ⟨h1, h2⟩ := h12
      obtain ⟨t1, b1, rfl, rfl, _⟩ := nats h1
      obtain ⟨t2, b2, rfl, rfl, _⟩ := nats h2
      obtain ⟨t3, b3, rfl, rfl, _⟩ := nats h3
      obtain ⟨x, y, z, ex, ey, ez, hxyz⟩ := trip t1 b1 t2 b2 t3 b3 (by have := h1.2.2; omega) (by have := h2.2.2; omega) (by have := h3.2.2; omega)
      go_enter Try.func8, Try.ntmps8
      go_wp2_with fail
      refine (wakes_any _).mono ?_
      rintro e w1 ⟨rfl, hb1⟩
      obtain ⟨B1, B2, B3, hb⟩ := three_kept hb1
      obtain ⟨_, ka, kb⟩ := id B1
      obtain ⟨_, kc, kd⟩ := id B2
      obtain ⟨_, ke, kf⟩ := id B3
      clear hb1
      go_wp2_with fail
      refine (compare_yes w1 t1 b1 t2 b2 h1 h2).mono ?_
      rintro e w2 ⟨rfl, hb2⟩
      rw [ex]
      replace B1 := B1.next hb2
      replace B2 := B2.next hb2
      replace B3 := B3.next hb2
      obtain ⟨_, ka, kb⟩ := id B1
      obtain ⟨_, kc, kd⟩ := id B2
      obtain ⟨_, ke, kf⟩ := id B3
      go_wp2_with fail
      refine (compare_yes w2 t2 b2 t3 b3 h2 h3).mono ?_
      rintro e w3 ⟨rfl, hb3⟩
      rw [ey]
      replace B1 := B1.next hb3
      replace B2 := B2.next hb3
      replace B3 := B3.next hb3
      obtain ⟨_, ka, kb⟩ := id B1
      obtain ⟨_, kc, kd⟩ := id B2
      obtain ⟨_, ke, kf⟩ := id B3
      go_wp2_with fail
      refine (compare_yes w3 t1 b1 t3 b3 h1 h3).mono ?_
      rintro e w4 ⟨rfl, hb4⟩
      rw [ez]
      replace hb := on (on (on hb hb2) hb3) hb4
      clear hb2 hb3 hb4
      rcases hxyz with rfl | ⟨rfl, rfl⟩ | ⟨rfl, rfl⟩ | ⟨rfl, rfl, rfl⟩ | ⟨rfl, rfl, rfl⟩ | ⟨rfl, rfl, rfl⟩ | ⟨rfl, rfl, rfl⟩
      all_goals
        go_wp2_with fail
        go_ret
        exact ⟨rfl, hb⟩
    · obtain ⟨h1, h2⟩ := h12
      obtain ⟨t1, b1, rfl, rfl, _⟩ := nats h1
      obtain ⟨t2, b2, rfl, rfl, _⟩ := nats h2
      go_enter Try.func8, Try.ntmps8
      go_wp2_with fail
      refine (wakes_any _).mono ?_
      rintro e w1 ⟨rfl, hb1⟩
      obtain ⟨B1, B2, B3, hb⟩ := three_kept hb1
      obtain ⟨_, ka, kb⟩ := id B1
      obtain ⟨_, kc, kd⟩ := id B2
      obtain ⟨_, ke, kf⟩ := id B3
      clear hb1
      go_wp2_with fail
      refine (compare_yes w1 t1 b1 t2 b2 h1 h2).mono ?_
      rintro e w2 ⟨rfl, hb2⟩
      replace B1 := B1.next hb2
      replace B2 := B2.next hb2
      replace B3 := B3.next hb2
      obtain ⟨_, ka, kb⟩ := id B1
      obtain ⟨_, kc, kd⟩ := id B2
      obtain ⟨_, ke, kf⟩ := id B3
      go_wp2_with fail
      refine (compare_no w2 t2 b2 t3 b3 (fun g => h3 g.2)).mono ?_
      rintro e w3 ⟨rfl, hb3⟩
      replace B1 := B1.next hb3
      replace B2 := B2.next hb3
      replace B3 := B3.next hb3
      obtain ⟨_, ka, kb⟩ := id B1
      obtain ⟨_, kc, kd⟩ := id B2
      obtain ⟨_, ke, kf⟩ := id B3
      go_wp2_with fail
      refine (compare_any w3 t1 b1 t3 b3).mono ?_
      rintro e w4 ⟨⟨x, y, rfl⟩, hb4⟩
      replace hb := on (on (on hb hb2) hb3) hb4
      clear hb2 hb3 hb4
      go_wp2_with fail
      go_ret
      exact ⟨rfl, hb⟩
  · go_enter Try.func8, Try.ntmps8
    go_wp2_with fail
    refine (wakes_any _).mono ?_
    rintro e w1 ⟨rfl, hb1⟩
    obtain ⟨B1, B2, B3, hb⟩ := three_kept hb1
    obtain ⟨_, ka, kb⟩ := id B1
    obtain ⟨_, kc, kd⟩ := id B2
    obtain ⟨_, ke, kf⟩ := id B3
    clear hb1
    go_wp2_with fail
    refine (compare_no w1 t1 b1 t2 b2 h12).mono ?_
    rintro e w2 ⟨rfl, hb2⟩
    replace B1 := B1.next hb2
    replace B2 := B2.next hb2
    replace B3 := B3.next hb2
    obtain ⟨_, ka, kb⟩ := id B1
    obtain ⟨_, kc, kd⟩ := id B2
    obtain ⟨_, ke, kf⟩ := id B3
    go_wp2_with fail
    refine (compare_any w2 t2 b2 t3 b3).mono ?_
    rintro e w3 ⟨⟨x, y, rfl⟩, hb3⟩
    replace B1 := B1.next hb3
    replace B2 := B2.next hb3
    replace B3 := B3.next hb3
    obtain ⟨_, ka, kb⟩ := id B1
    obtain ⟨_, kc, kd⟩ := id B2
    obtain ⟨_, ke, kf⟩ := id B3
    go_wp2_with fail
    refine (compare_any w3 t1 b1 t3 b3).mono ?_
    rintro e w4 ⟨⟨x', y', rfl⟩, hb4⟩
    replace hb := on (on (on hb hb2) hb3) hb4
    clear hb2 hb3 hb4
    go_wp2_with fail
    go_ret
    exact ⟨rfl, hb⟩
end Go.Proofs.Ytlkaoobdppnebaa
