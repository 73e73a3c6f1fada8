/-
  What is proved: for all fractions the statement on comparing two returns true, and so does the one on three; what they write lies in new memory. No condition.
-/
import Derived.Test.YtlkaoobdppnebaaMulL
import Derived.Test.YtlkaoobdppnebaaVec
namespace Go.Proofs.Ytlkaoobdppnebaa
open Go.RowKit

theorem cmp3 (x y : Nat) : (x < y ∧ cmpI x y = -1 ∧ cmpI y x = 1) ∨ (x = y ∧ cmpI x y = 0 ∧ cmpI y x = 0) ∨ (y < x ∧ cmpI x y = 1 ∧ cmpI y x = -1) := by
  unfold cmpI
  rcases Nat.lt_trichotomy x y with h | h | h
  · exact .inl ⟨h, by rw [if_pos h], by rw [if_neg (by omega), if_pos h]⟩
  · subst h; exact .inr (.inl ⟨rfl, by rw [if_neg (Nat.lt_irrefl _), if_neg (Nat.lt_irrefl _)], by rw [if_neg (Nat.lt_irrefl _), if_neg (Nat.lt_irrefl _)]⟩)
  · exact .inr (.inr ⟨h, by rw [if_neg (by omega), if_pos h], by rw [if_pos h]⟩)

theorem nats {t b : Int} (h : okF t b) : ∃ x y : Nat, t = x ∧ b = y ∧ x ≤ 2147483647 ∧ y ≤ 2147483647 := by
  obtain ⟨⟨h0, h1⟩, ⟨h2, h3⟩, _⟩ := h
  exact ⟨t.toNat, b.toNat, by omega, by omega, by omega, by omega⟩

set_option maxHeartbeats 1000000 in
theorem comp_yes (t b s c : Nat) (h0 : okF t b) (h1 : okF s c) (w : World) :
    Calls Try.prog 5 #[.agg #[.int .i64 t, .int .i64 b], .agg #[.int .i64 s, .int .i64 c]] w fun e w' => e = .returned (.bool true) ∧ Below w.heap.size w w' := by
  obtain ⟨⟨_, p1⟩, ⟨_, p2⟩, _⟩ := id h0
  obtain ⟨⟨_, p3⟩, ⟨_, p4⟩, _⟩ := id h1
  obtain ⟨x, y, e1, e2, hxy⟩ : ∃ x y : Int, cmpI (t * c) (s * b) = x ∧ cmpI (s * b) (t * c) = y ∧ ((x = -1 ∧ y = 1) ∨ (x = 0 ∧ y = 0) ∨ (x = 1 ∧ y = -1)) := by
    rcases cmp3 (t * c) (s * b) with h | h | h
    · exact ⟨_, _, h.2.1, h.2.2, .inl ⟨rfl, rfl⟩⟩
    · exact ⟨_, _, h.2.1, h.2.2, .inr (.inl ⟨rfl, rfl⟩)⟩
    · exact ⟨_, _, h.2.1, h.2.2, .inr (.inr ⟨rfl, rfl⟩)⟩
  go_enter Try.func5, Try.ntmps5
  go_wp2_with fail
  refine (wakes_any _).mono ?_
  rintro e w1 ⟨rfl, hb1⟩
  obtain ⟨⟨ka, kb⟩, ⟨kc, kd⟩, hb, hsz⟩ := two_kept hb1
  have B1 : Box w1 w.heap.size (.int .i64 t) (.int .i64 b) := ⟨by omega, ka, kb⟩
  have B2 : Box w1 (w.heap.size + 1) (.int .i64 s) (.int .i64 c) := ⟨by omega, kc, kd⟩
  clear hb1
  go_wp2_with fail
  refine (compare_yes w1 t b s c h0 h1).mono ?_
  rintro e w2 ⟨rfl, hb2⟩
  rw [e1]
  replace B1 := B1.next hb2
  replace B2 := B2.next hb2
  obtain ⟨_, ka, kb⟩ := id B1
  obtain ⟨_, kc, kd⟩ := id B2
  go_wp2_with fail
  refine (compare_yes w2 s c t b h1 h0).mono ?_
  rintro e w3 ⟨rfl, hb3⟩
  rw [e2]
  replace B1 := B1.next hb3
  replace B2 := B2.next hb3
  obtain ⟨_, ka, kb⟩ := id B1
  obtain ⟨_, kc, kd⟩ := id B2
  replace hb := on (on hb hb2) hb3
  clear hb2 hb3
  go_wp2_with fail
  refine (rright_any w3 t b).mono ?_
  rintro e w3 ⟨rfl, rfl⟩
  rw [decide_eq_true h0]
  go_wp2_with fail
  refine (rright_any _ s c).mono ?_
  rintro e w3 ⟨rfl, rfl⟩
  rw [decide_eq_true h1]
  go_wp2_with fail
  refine (right_any _ t b).mono ?_
  rintro e w4 ⟨rfl, hb4⟩
  rw [decide_eq_true h0]
  replace B1 := B1.next hb4
  replace B2 := B2.next hb4
  obtain ⟨_, ka, kb⟩ := id B1
  obtain ⟨_, kc, kd⟩ := id B2
  replace hb := on hb hb4
  clear hb4
  go_wp2_with fail
  refine (right_any _ s c).mono ?_
  rintro e w5 ⟨rfl, hb5⟩
  rw [decide_eq_true h1]
  replace B1 := B1.next hb5
  replace B2 := B2.next hb5
  obtain ⟨_, ka, kb⟩ := id B1
  obtain ⟨_, kc, kd⟩ := id B2
  replace hb := on hb hb5
  clear hb5
  go_wp2_with fail
  refine (rcompare_any _ t b s c (by omega) (by omega) (by omega) (by omega)).mono ?_
  rintro e w5 ⟨rfl, rfl⟩
  rw [e1]
  rcases hxy with ⟨rfl, rfl⟩ | ⟨rfl, rfl⟩ | ⟨rfl, rfl⟩
  all_goals
    go_wp2_with fail
    go_ret
    exact ⟨rfl, hb⟩

set_option maxHeartbeats 1000000 in
theorem comp_no (t b s c : Int) (h : ¬ (okF t b ∧ okF s c)) (w : World) :
    Calls Try.prog 5 #[.agg #[.int .i64 t, .int .i64 b], .agg #[.int .i64 s, .int .i64 c]] w fun e w' => e = .returned (.bool true) ∧ Below w.heap.size w w' := by
  go_enter Try.func5, Try.ntmps5
  go_wp2_with fail
  refine (wakes_any _).mono ?_
  rintro e w1 ⟨rfl, hb1⟩
  obtain ⟨⟨ka, kb⟩, ⟨kc, kd⟩, hb, hsz⟩ := two_kept hb1
  have B1 : Box w1 w.heap.size (.int .i64 t) (.int .i64 b) := ⟨by omega, ka, kb⟩
  have B2 : Box w1 (w.heap.size + 1) (.int .i64 s) (.int .i64 c) := ⟨by omega, kc, kd⟩
  clear hb1
  go_wp2_with fail
  refine (compare_no w1 t b s c h).mono ?_
  rintro e w2 ⟨rfl, hb2⟩
  replace B1 := B1.next hb2
  replace B2 := B2.next hb2
  obtain ⟨_, ka, kb⟩ := id B1
  obtain ⟨_, kc, kd⟩ := id B2
  go_wp2_with fail
  refine (compare_no w2 s c t b fun g => h g.symm).mono ?_
  rintro e w3 ⟨rfl, hb3⟩
  replace B1 := B1.next hb3
  replace B2 := B2.next hb3
  obtain ⟨_, ka, kb⟩ := id B1
  obtain ⟨_, kc, kd⟩ := id B2
  replace hb := on (on hb hb2) hb3
  clear hb2 hb3
  go_wp2_with fail
  refine (rright_any w3 t b).mono ?_
  rintro e w3 ⟨rfl, rfl⟩
  by_cases h0 : okF t b
  · have h1 : ¬ okF s c := fun h1 => h ⟨h0, h1⟩
    rw [decide_eq_true h0]
    go_wp2_with fail
    refine (rright_any _ s c).mono ?_
    rintro e w3 ⟨rfl, rfl⟩
    rw [decide_eq_false h1]
    go_wp2_with fail
    go_ret
    exact ⟨rfl, hb⟩
  · rw [decide_eq_false h0]
    go_wp2_with fail
    go_ret
    exact ⟨rfl, hb⟩

theorem comp_walk (t b s c : Int) (w : World) :
    Calls Try.prog 5 #[.agg #[.int .i64 t, .int .i64 b], .agg #[.int .i64 s, .int .i64 c]] w fun e w' => e = .returned (.bool true) ∧ Below w.heap.size w w' := by
  by_cases h : okF t b ∧ okF s c
  · obtain ⟨h0, h1⟩ := h
    obtain ⟨t, b, rfl, rfl, _⟩ := nats h0
    obtain ⟨s, c, rfl, rfl, _⟩ := nats h1
    exact comp_yes t b s c h0 h1 w
  · exact comp_no t b s c h w
end Go.Proofs.Ytlkaoobdppnebaa
