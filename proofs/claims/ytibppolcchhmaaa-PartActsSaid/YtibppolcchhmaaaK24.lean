/-
  What is proved: the fixed fact that each statement of this layer asks first holds; KarmaNil's walk; the law's same and long. Condition: none.
  (Left out here, as nothing of this law reaches it: wakes_any, long_any, nil_walk, same_yes.) -/
import Derived.Test.YtibppolcchhmaaaK21
import Derived.ChangeKeysEq
import Derived.DeepKeys
namespace Go.Proofs.Ytibppolcchhmaaa
open Go.RowKit

theorem eq4 (w : World) (a b c d : Int) : (Op.equalIn 10000 81 (.agg #[.int .i64 a, .int .i64 b, .int .i64 c, .int .i64 d]) (.agg #[.int .i64 a, .int .i64 b, .int .i64 c, .int .i64 d])).run Try.prog w = .ok true w := by
  obtain ⟨i, hi, hz, hs, hb⟩ := info_parts eInts
  rw [show 10000 = 9999 + 1 from rfl, run_equalIn_array w 9999 _ _ Try.underlying81 hi]
  rw [show Try.prog.cellsOf 3 = 1 by kernel_rfl, show List.range 4 = [0, 1, 2, 3] from rfl]
  have h := fun (x : Int) => run_equalIn_int (P := Try.prog) w 9998 3 .i64 .i64 x x Try.underlying3
  simp only [Nat.reduceAdd] at h
  have hagg : ∀ w, (isAgg 3).run Try.prog w = .ok false w := fun w => by unfold isAgg; rw [Sem.run_bind, run_underlying Try.underlying3 w]; rfl
  simp [Op.eqItems, part, h, hagg]
/-- the example's hints -/
def exH (i : Nat) : Hn := if i = 0 then ⟨0, 2, 1, false⟩ else ⟨2, 1, 5, false⟩
theorem exH_ok : HintsP exH 2 3 := by
  refine ⟨by omega, fun i hi => ?_, fun i hi k hk x => ?_⟩
  · have h : i = 0 ∨ i = 1 := by omega
    rcases h with rfl | rfl <;> (unfold okH exH; decide)
  · obtain rfl : i = 1 := by omega
    obtain rfl : k = 0 := by omega
    unfold Has exH
    simp
    omega
theorem exH_ord : OrdH exH 2 (fun i => 1 - i) := by
  refine ⟨fun i j h1 h2 => ?_, fun i hi => by show 1 - i < 2; omega⟩
  obtain rfl : i = 0 := by omega
  obtain rfl : j = 1 := by omega
  exact .inl (by decide)
theorem exH_cap : CapP 3 1 1 1 := ⟨by omega, fun ⟨i, hi, h⟩ => by
  have h4 : i = 0 ∨ i = 1 ∨ i = 2 := by omega
  rcases h4 with rfl | rfl | rfl <;> (unfold f3 at h; simp at h)⟩
theorem exH_pvs : pvs (kps exH 2 (cN 1 1 1)) 2 = [.int .i64 0, .int .i64 1, .int .i64 1, .int .i64 0, .int .i64 1, .int .i64 0, .int .i64 0, .int .i64 0] := by
  have h : ∀ i t, kps exH 2 (cN 1 1 1) i t = (PP (sz exH) (fun i => 1 - i) (cN 1 1 1) 2 i t : Nat) := fun i t => by
    unfold kps
    rw [KP_of exH_ord]
  exact (pvs_congr (R := fun i t => (PP (sz exH) (fun i => 1 - i) (cN 1 1 1) 2 i t : Nat)) fun i _ t _ => h i t).trans (by kernel_rfl)














































/-- a plan's hints, blocks and capacities, as a law is handed them -/
def lay (A : Option Addr) (n c : Nat) (b x y z : Int) : Value := .agg #[.slice A n c, .int .i64 b, .int .i64 x, .int .i64 y, .int .i64 z]

































































end Go.Proofs.Ytibppolcchhmaaa
/-
  What is proved: the reference's Caps and denser; how the densest one of those that are left is found, again and again; how blocks are laid one by one. Condition: the hints are right, and read as such.
  (Left out here, as nothing of this law reaches it: rcaps_any.) -/
namespace Go.Proofs.Ytibppolcchhmaaa
open Go.RowKit

theorem f3_at (x y z : Int) (i : Nat) (hi : i < 3) : (#[Value.int .i64 x, .int .i64 y, .int .i64 z])[i]? = some (.int .i64 (f3 x y z i)) := by
  have h4 : i = 0 ∨ i = 1 ∨ i = 2 := by omega
  rcases h4 with rfl | rfl | rfl <;> rfl





















































theorem den_iff {hh : Nat → Hn} (i k : Nat) : (cmpI (oft hh i * sz hh k) (oft hh k * sz hh i) > 0 ∨ (cmpI (oft hh i * sz hh k) (oft hh k * sz hh i) = 0 ∧ i < k)) ↔ LH hh i k := by
  unfold LH lOf cfOf
  rcases cmp3 (oft hh i * sz hh k) (oft hh k * sz hh i) with ⟨_, h1, h2⟩ | ⟨_, h1, h2⟩ | ⟨_, h1, h2⟩ <;> rw [h1, h2] <;> omega
set_option maxHeartbeats 1000000 in
theorem denser_any (A : Option Addr) (n c : Nat) (hh : Nat → Hn) (b : Int) (i k : Nat) (w : World) (hP : HintsP hh n b) (hi : i < n) (hk : k < n) (hr : Rv w w.heap.size A (hvs hh n)) :
    Calls Try.prog 51 #[.slice A n c, .int .i64 i, .int .i64 k] w fun e w' => e = .returned (.bool (dec (LH hh i k))) ∧ ∃ m, w' = w.drewN m := by
  have hn8 := hP.1
  have HD := hid (den_iff (hh := hh) i k)
  obtain ⟨ad, rfl, hat⟩ := hr.hint hi
  obtain ⟨_, e, hak⟩ := hr.hint hk
  injection e with e
  subst e
  have o1 := hP.2.1 i hi
  have o2 := hP.2.1 k hk
  unfold okH at o1 o2
  have e1 : (hh i).o = (oft hh i : Nat) := by unfold oft; omega
  have e2 : (hh i).s = (sz hh i : Nat) := by unfold sz; omega
  have e3 : (hh k).o = (oft hh k : Nat) := by unfold oft; omega
  have e4 : (hh k).s = (sz hh k : Nat) := by unfold sz; omega
  have c1 := hat.s
  have c2 := hat.o
  have d1 := hak.s
  have d2 := hak.o
  rw [e2] at c1
  rw [e1] at c2
  rw [e4] at d1
  rw [e3] at d2
  have hRC := fun w => rcompare_any w (oft hh i) (sz hh i) (oft hh k) (sz hh k) (by omega) (by omega) (by omega) (by omega)
  have HRC := hid hRC
  have hi' : (i : Int) < (n : Int) := by omega
  have hk' : (k : Int) < (n : Int) := by omega
  clear hr hat hak o1 o2 e1 e2 e3 e4 hP hRC
  generalize cmpI (oft hh i * sz hh k) (oft hh k * sz hh i) = u at *
  generalize oft hh i = oi at *
  generalize oft hh k = ok at *
  generalize sz hh i = si at *
  generalize sz hh k = sk at *
  go_enter Try.func51, Try.ntmps51
  go_upto_region 1 with fail
  go_quiet (first | (go_at_call 62; refine Calls.quiet_of_same (HRC.out _)))
  by_cases h1 : u > 0
  · go_wp2
    go_ret
    exact ⟨by rw [dec_true (HD.out.1 (.inl h1))]; rfl, _, rfl⟩
  · by_cases h2 : u = 0
    · subst h2
      by_cases h3 : i < k
      · have h3' : (i : Int) < (k : Int) := by omega
        go_wp2
        go_ret
        exact ⟨by rw [dec_true (HD.out.1 (.inr ⟨by first | rfl | trivial, h3⟩))]; rfl, _, rfl⟩
      · have h3' : ¬ (i : Int) < (k : Int) := by omega
        go_wp2
        go_ret
        exact ⟨by rw [dec_false (fun h => by
          rcases HD.out.2 h with g | g
          · omega
          · exact h3 g.2)]; rfl, _, rfl⟩
    · have h2' : (u == 0) = false := by simpa using h2
      go_wp2
      go_ret
      exact ⟨by rw [dec_false (fun h => by have := HD.out.2 h; omega)]; rfl, _, rfl⟩
end Go.Proofs.Ytibppolcchhmaaa
