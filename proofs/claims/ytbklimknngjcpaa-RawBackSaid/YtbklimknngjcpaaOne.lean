/-
  What is proved: the walk of RawOne: a number has one way to be told: what is got, put again, is the bytes that were got. No condition: longer lists than 1000 are let by.
-/
import Derived.Test.YtbklimknngjcpaaGet
import Derived.Test.YtbklimknngjcpaaWakes
import Derived.Deep.RegionWith
namespace Go.Proofs.Ytbklimknngjcpaa
open Go.RowKit

theorem get_at (A : Option Addr) (c : Nat) (x : Int) (l : List Int) (w : World) (C : Nat) (hlen : l.length ≤ 70368744177000) (h0 : 0 ≤ x) (hx : x ≤ l.length) (hb : Hid (∀ x ∈ l, 0 ≤ x ∧ x ≤ 255)) (ra : Rd w C A l) :
    Calls Try.prog 15 #[.slice A l.length c, .int .i64 x] w fun e w' => Got l x.toNat e ∧ ∃ k, w' = w.drewN k := by
  obtain ⟨p, rfl⟩ := Int.eq_ofNat_of_zero_le h0
  exact get_any A c p l w C hlen (by omega) hb.out ra

set_option maxRecDepth 100000 in
set_option maxHeartbeats 800000 in
theorem one_short (A : Option Addr) (c : Nat) (l : List Int) (w : World) (hc : l.length ≤ c) (hlen : l.length ≤ 1000) (hb : Hid (∀ x ∈ l, 0 ≤ x ∧ x ≤ 255)) (ra : Rn w A l) :
    Calls Try.prog 5 #[.slice A l.length c] w fun e w' => e = .returned (.bool true) ∧ Below w.heap.size w w' := by
  go_enter Try.func5, Try.ntmps5
  go_wp2_with fail
  refine (wakes_any _).mono ?_
  rintro e w1 ⟨rfl, hbel⟩
  have r1 := ra.now hbel
  go_wp2_with fail
  refine (get_at A c 0 l _ _ (by omega) (by omega) (by omega) hb r1).mono ?_
  rintro e w2 ⟨⟨t, hs, hg, rfl⟩ | ⟨x, hx, _, rfl⟩, d, rfl⟩
  · obtain ⟨q1, q2, _⟩ := scan_sound 9 _ t (by simpa using hb.out) hs hg
    obtain ⟨r, hr⟩ := scan_prefix 9 _ t hs
    have HT := hid hr
    have HE := hid q1
    have hv : val t ≤ 9223372036854775807 := by have : val t < 9223372036854775808 := by simpa using q2
                                                omega
    clear hr q1 q2 hs hg
    have rt : Rn w1 A t := r1.front (by simpa using HT.out)
    have hl : t.length ≤ l.length := by
      have := congrArg List.length HT.out
      rw [List.length_append] at this
      simp at this
      omega
    go_wp2_with fail
    go_region_with (first
      | (go_at_call 9; refine (put_any none 0 0 (val t : Nat) [] _ 0 rfl (by omega) (by omega) (Rd.nil _ _ _) (by omega)).mono ?_; rintro e w3 ⟨v, rfl, hown, hb3⟩; rw [Int.toNat_natCast, List.nil_append, ← HE.out] at hown; obtain ⟨B, cb, rfl, r3⟩ := hown.read)
      | (go_at_call 8; refine (same_yes B A _ _ cb c t _ _ _ (by simp) (by simp) (by unfold maxLen; omega) r3 (rt.keep fun p hp => hb3.cell hp)).mono ?_; rintro e w4 ⟨rfl, d4, rfl⟩))
    all_goals
      go_wp2
      go_ret
      exact ⟨rfl, below_drewN ((below_drewN hbel (d + 1)).trans (hb3.mono hbel.size)) _⟩
  · have hx1 : (x == 0) = false := by simpa using hx
    have hx2 : (x != 0) = true := by simpa using hx
    clear hx
    go_wp2
    go_ret
    exact ⟨rfl, below_drewN hbel d⟩

set_option maxRecDepth 100000 in
theorem one_walk (A : Option Addr) (n c : Nat) (l : List Int) (w : World) (hn : l.length = n) (hc : n ≤ c) (hb : ∀ x ∈ l, 0 ≤ x ∧ x ≤ 255) (ra : Rn w A l) :
    Calls Try.prog 5 #[.slice A n c] w fun e w' => e = .returned (.bool true) ∧ Below w.heap.size w w' := by
  by_cases h : n ≤ 1000
  · subst hn
    exact one_short A c l w hc h (hid hb) ra
  · clear hn hb ra
    go_enter Try.func5, Try.ntmps5
    go_wp2_with fail
    refine (wakes_any _).mono ?_
    rintro e w1 ⟨rfl, hbel⟩
    go_wp2
    go_ret
    exact ⟨rfl, hbel⟩
end Go.Proofs.Ytbklimknngjcpaa
