/-
  What is proved: the reference's Caps and denser; how the densest one of those that are left is found, again and again; how blocks are laid one by one. Condition: the hints are right, and read as such.
-/
import Derived.Test.YtcibhmbneedghaaKu14
namespace Go.Proofs.Ytcibhmbneedghaa
open Go.RowKit

theorem f3_at (x y z : Int) (i : Nat) (hi : i < 3) : (#[Value.int .i64 x, .int .i64 y, .int .i64 z])[i]? = some (.int .i64 (f3 x y z i)) := by
  have h4 : i = 0 ∨ i = 1 ∨ i = 2 := by omega
  rcases h4 with rfl | rfl | rfl <;> rfl
set_option maxHeartbeats 1000000 in
theorem rcaps_any (x y z : Int) (w : World) : Calls Try.prog 13 #[.agg #[.int .i64 x, .int .i64 y, .int .i64 z]] w fun e w' => e = .returned (.bool (dec (¬ Outs 1 16 (f3 x y z) 3))) ∧ Below w.heap.size w w' := by
  have HB := hid (below_alloc w (.cells #[.int .i64 x, .int .i64 y, .int .i64 z] 23))
  have HX := hid (Bx.new w 23 #[.int .i64 x, .int .i64 y, .int .i64 z])
  obtain ⟨g, hg⟩ : ∃ g, w.heap.size = g := ⟨_, rfl⟩
  rw [hg] at HX
  have HG := hid hg
  clear hg
  go_enter Try.func13, Try.ntmps13
  go_upto_region 1 with fail
  rw [HG.out]
  generalize w.alloc (.cells #[.int .i64 x, .int .i64 y, .int .i64 z] 23) = w1 at *
  have HF := hid (f3_at x y z)
  have HE := hid (Iff.refl (Outs 1 16 (f3 x y z) 3))
  go_wp2
  go_loopg [3] 3 (fun gk t3 wr => ∃ j : Nat, j + gk = 3 ∧ t3 = .int .i64 j ∧ (∀ i, i < j → ¬ (f3 x y z i < 1 ∨ 16 < f3 x y z i)) ∧ wr = w1)
  case atStart => exact ⟨0, by omega, rfl, fun i hi => absurd hi (Nat.not_lt_zero i), rfl⟩
  case round =>
    obtain ⟨j, hj, rfl, hall, rfl⟩ := hrel
    have HALL := hid hall
    clear hall
    by_cases hlt : j < 3
    · have hlt' : (j : Int) < 3 := by omega
      have c0 := HX.out.cell j
      rw [HF.out j hlt] at c0
      have HY := hid (fun h => (show Outs 1 16 (f3 x y z) 3 from ⟨j, hlt, h⟩))
      have HN := hid (fun h i (hi : i < j + 1) => (show ¬ (f3 x y z i < 1 ∨ 16 < f3 x y z i) from by
        by_cases e : i = j
        · rw [e]; exact h
        · exact HALL.out i (by omega)))
      generalize f3 x y z j = u at *
      by_cases h1 : u < 1
      · have HO := hid (HY.out (.inl h1))
        clear HN
        go_wp2
        go_ret
        exact ⟨by rw [dec_false (fun h => h HO.out)]; rfl, HB.out⟩
      · by_cases h2 : u > 16
        · have HO := hid (HY.out (.inr h2))
          clear HN
          go_wp2
          go_ret
          exact ⟨by rw [dec_false (fun h => h HO.out)]; rfl, HB.out⟩
        · have HO := hid (HN.out (by omega))
          clear HN HY
          go_wp2
          go_roundg (gk - 1)
          case measure => omega
          case rel => exact ⟨j + 1, by omega, by go_num, HO.out, rfl⟩
    · obtain rfl : j = 3 := by omega
      go_wp2
      go_ret
      exact ⟨by rw [dec_true (fun ⟨i, h1, h2⟩ => HALL.out i h1 h2)]; rfl, HB.out⟩
theorem den_iff {hh : Nat → Hn} (i k : Nat) : (cmpI (oft hh i * sz hh k) (oft hh k * sz hh i) > 0 ∨ (cmpI (oft hh i * sz hh k) (oft hh k * sz hh i) = 0 ∧ i < k)) ↔ LH hh i k := by
  unfold LH lOf cfOf
  rcases cmp3 (oft hh i * sz hh k) (oft hh k * sz hh i) with ⟨_, h1, h2⟩ | ⟨_, h1, h2⟩ | ⟨_, h1, h2⟩ <;> rw [h1, h2] <;> omega
set_option maxHeartbeats 1000000 in
theorem denser_any (A : Option Addr) (n c : Nat) (hh : Nat → Hn) (b : Int) (i k : Nat) (w : World) (hP : HintsP hh n b) (hi : i < n) (hk : k < n) (hr : Rv w w.heap.size A (hvs hh n)) :
    Calls Try.prog 30 #[.slice A n c, .int .i64 i, .int .i64 k] w fun e w' => e = .returned (.bool (dec (LH hh i k))) ∧ ∃ m, w' = w.drewN m := by
  have hn8 := hP.1
  have HD := hid (den_iff (hh := hh) i k)
  obtain ⟨ad, rfl, hat⟩ := hr.hint hi
  obtain ⟨_, e, hak⟩ := hr.hint hk
  injection e with e
  subst e
  have o1 := hP.2.1 i hi
  have o2 := hP.2.1 k hk
  unfold okH at o1 o2
  have e1 : (hh i).o = (oft hh i : Nat) := by unfold oft; omega
  have e2 : (hh i).s = (sz hh i : Nat) := by unfold sz; omega
  have e3 : (hh k).o = (oft hh k : Nat) := by unfold oft; omega
  have e4 : (hh k).s = (sz hh k : Nat) := by unfold sz; omega
  have c1 := hat.s
  have c2 := hat.o
  have d1 := hak.s
  have d2 := hak.o
  rw [e2] at c1
  rw [e1] at c2
  rw [e4] at d1
  rw [e3] at d2
  have hRC := fun w => rcompare_any w (oft hh i) (sz hh i) (oft hh k) (sz hh k) (by omega) (by omega) (by omega) (by omega)
  have HRC := hid hRC
  have hi' : (i : Int) < (n : Int) := by omega
  have hk' : (k : Int) < (n : Int) := by omega
  clear hr hat hak o1 o2 e1 e2 e3 e4 hP hRC
  generalize cmpI (oft hh i * sz hh k) (oft hh k * sz hh i) = u at *
  generalize oft hh i = oi at *
  generalize oft hh k = ok at *
  generalize sz hh i = si at *
  generalize sz hh k = sk at *
  go_enter Try.func30, Try.ntmps30
  go_upto_region 1 with fail
  go_quiet (first | (go_at_call 40; refine Calls.quiet_of_same (HRC.out _)))
  by_cases h1 : u > 0
  · go_wp2
    go_ret
    exact ⟨by rw [dec_true (HD.out.1 (.inl h1))]; rfl, _, rfl⟩
  · by_cases h2 : u = 0
    · subst h2
      by_cases h3 : i < k
      · have h3' : (i : Int) < (k : Int) := by omega
        go_wp2
        go_ret
        exact ⟨by rw [dec_true (HD.out.1 (.inr ⟨by first | rfl | trivial, h3⟩))]; rfl, _, rfl⟩
      · have h3' : ¬ (i : Int) < (k : Int) := by omega
        go_wp2
        go_ret
        exact ⟨by rw [dec_false (fun h => by
          rcases HD.out.2 h with g | g
          · omega
          · exact h3 g.2)]; rfl, _, rfl⟩
    · have h2' : (u == 0) = false := by simpa using h2
      go_wp2
      go_ret
      exact ⟨by rw [dec_false (fun h => by have := HD.out.2 h; omega)]; rfl, _, rfl⟩
end Go.Proofs.Ytcibhmbneedghaa
