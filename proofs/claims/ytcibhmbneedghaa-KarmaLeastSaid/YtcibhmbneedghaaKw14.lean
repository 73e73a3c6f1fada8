/-
  What is proved: the fixed fact that each statement of this layer asks first holds; KarmaNil's walk; the law's same and long. Condition: none.
-/
import Derived.Test.YtcibhmbneedghaaKv14
import Derived.ChangeKeysEq
import Derived.DeepKeys
namespace Go.Proofs.Ytcibhmbneedghaa
open Go.RowKit

theorem eq4 (w : World) (a b c d : Int) : (Op.equalIn 10000 50 (.agg #[.int .i64 a, .int .i64 b, .int .i64 c, .int .i64 d]) (.agg #[.int .i64 a, .int .i64 b, .int .i64 c, .int .i64 d])).run Try.prog w = .ok true w := by
  obtain ⟨i, hi, hz, hs, hb⟩ := info_parts eInts
  rw [show 10000 = 9999 + 1 from rfl, run_equalIn_array w 9999 _ _ Try.underlying50 hi]
  rw [show Try.prog.cellsOf 3 = 1 by kernel_rfl, show List.range 4 = [0, 1, 2, 3] from rfl]
  have h := fun (x : Int) => run_equalIn_int (P := Try.prog) w 9998 3 .i64 .i64 x x Try.underlying3
  simp only [Nat.reduceAdd] at h
  have hagg : ∀ w, (isAgg 3).run Try.prog w = .ok false w := fun w => by unfold isAgg; rw [Sem.run_bind, run_underlying Try.underlying3 w]; rfl
  simp [Op.eqItems, part, h, hagg]
/-- the example's hints -/
def exH (i : Nat) : Hn := if i = 0 then ⟨0, 2, 1, false⟩ else ⟨2, 1, 5, false⟩
theorem exH_ok : HintsP exH 2 3 := by
  refine ⟨by omega, fun i hi => ?_, fun i hi k hk x => ?_⟩
  · have h : i = 0 ∨ i = 1 := by omega
    rcases h with rfl | rfl <;> (unfold okH exH; decide)
  · obtain rfl : i = 1 := by omega
    obtain rfl : k = 0 := by omega
    unfold Has exH
    simp
    omega
theorem exH_ord : OrdH exH 2 (fun i => 1 - i) := by
  refine ⟨fun i j h1 h2 => ?_, fun i hi => by show 1 - i < 2; omega⟩
  obtain rfl : i = 0 := by omega
  obtain rfl : j = 1 := by omega
  exact .inl (by decide)
theorem exH_cap : CapP 3 1 1 1 := ⟨by omega, fun ⟨i, hi, h⟩ => by
  have h4 : i = 0 ∨ i = 1 ∨ i = 2 := by omega
  rcases h4 with rfl | rfl | rfl <;> (unfold f3 at h; simp at h)⟩
theorem exH_pvs : pvs (kps exH 2 (cN 1 1 1)) 2 = [.int .i64 0, .int .i64 1, .int .i64 1, .int .i64 0, .int .i64 1, .int .i64 0, .int .i64 0, .int .i64 0] := by
  have h : ∀ i t, kps exH 2 (cN 1 1 1) i t = (PP (sz exH) (fun i => 1 - i) (cN 1 1 1) 2 i t : Nat) := fun i t => by
    unfold kps
    rw [KP_of exH_ord]
  exact (pvs_congr (R := fun i t => (PP (sz exH) (fun i => 1 - i) (cN 1 1 1) 2 i t : Nat)) fun i _ t _ => h i t).trans (by kernel_rfl)
set_option maxRecDepth 20000 in
set_option maxHeartbeats 1000000 in
theorem wakes_any (w : World) : Calls Try.prog 10 #[] w fun e w' => e = .returned (.bool true) ∧ Below w.heap.size w w' := by
  have HA := hid (below_alloc w (.cells #[.int .i64 0, .int .i64 2, .int .i64 1, .bool false, .int .i64 2, .int .i64 1, .int .i64 5, .bool false] 45))
  have hr : Rv (w.alloc (.cells #[.int .i64 0, .int .i64 2, .int .i64 1, .bool false, .int .i64 2, .int .i64 1, .int .i64 5, .bool false] 45)) (w.alloc (.cells #[.int .i64 0, .int .i64 2, .int .i64 1, .bool false, .int .i64 2, .int .i64 1, .int .i64 5, .bool false] 45)).heap.size (some ⟨w.heap.size, 0, none⟩) (hvs exH 2) := by
    rw [World.size_alloc]
    exact rv_new w 45 #[.int .i64 0, .int .i64 2, .int .i64 1, .bool false, .int .i64 2, .int .i64 1, .int .i64 5, .bool false]
  have HN := hid (new_any (some ⟨w.heap.size, 0, none⟩) 2 2 exH 3 1 1 1 _ (by omega) (fun e => by cases e) hr)
  clear hr
  go_enter Try.func10, Try.ntmps10
  go_upto_region 2 with (go_at_call 12; refine HN.out.mono ?_; rintro e w2 (h | h | ⟨-, -, hb, g, A, c, B, d, rfl, hp, -⟩); exact absurd exH_cap h.1; exact absurd exH_ok h.2.1; have HB := hid (on HA.out hb); have HP := hid hp; clear hb hp)
  have HPA := hid (parts_any HP.out)
  rw [exH_pvs] at HPA
  go_upto_region 5 with (go_at_call 19; refine HPA.out.mono ?_; rintro e w3 ⟨A3, c3, rfl, hr, hb, -⟩; have HR := hid hr; have HB3 := hid (on HB.out hb); clear hr hb)
  obtain ⟨ad, rfl, _, q0⟩ := HR.out 0 _ rfl
  obtain ⟨_, e1, _, q1⟩ := HR.out 1 _ rfl
  obtain ⟨_, e2, _, q2⟩ := HR.out 2 _ rfl
  obtain ⟨_, e3, _, q3⟩ := HR.out 3 _ rfl
  obtain ⟨_, e4, _, q4⟩ := HR.out 4 _ rfl
  obtain ⟨_, e5, _, q5⟩ := HR.out 5 _ rfl
  obtain ⟨_, e6, _, q6⟩ := HR.out 6 _ rfl
  obtain ⟨_, e7, _, q7⟩ := HR.out 7 _ rfl
  injection e1 with e1
  injection e2 with e2
  injection e3 with e3
  injection e4 with e4
  injection e5 with e5
  injection e6 with e6
  injection e7 with e7
  subst e1 e2 e3 e4 e5 e6 e7
  have e0 : ad.add 0 = ad := by simp [Addr.add]
  have e' : ∀ j, 0 < j → ad.add j = ⟨ad.block, ad.off + j, none⟩ := fun j hj => by unfold Addr.add; rw [if_neg (by omega)]
  rw [e0] at q0
  rw [e' 1 (by decide)] at q1
  rw [e' 2 (by decide)] at q2
  rw [e' 3 (by decide)] at q3
  rw [e' 4 (by decide)] at q4
  rw [e' 5 (by decide)] at q5
  rw [e' 6 (by decide)] at q6
  rw [e' 7 (by decide)] at q7
  clear e0 e'
  have E1 := fun w => eq4 w 0 1 1 0
  have E2 := fun w => eq4 w 1 0 0 0
  go_wp2
  go_ret
  exact ⟨rfl, HB3.out⟩
/-- a plan's hints, blocks and capacities, as a law is handed them -/
def lay (A : Option Addr) (n c : Nat) (b x y z : Int) : Value := .agg #[.slice A n c, .int .i64 b, .int .i64 x, .int .i64 y, .int .i64 z]
theorem long_any (A : Option Addr) (n c : Nat) (b x y z : Int) (w : World) : Calls Try.prog 11 #[.agg #[.slice A n c, .int .i64 b, .int .i64 x, .int .i64 y, .int .i64 z]] w fun e w' => e = .returned (.bool (decide (20 < n))) ∧ Below w.heap.size w w' := by
  have HB := hid (below_alloc w (.cells #[.slice A n c, .int .i64 b, .int .i64 x, .int .i64 y, .int .i64 z] 25))
  have c0 : (w.alloc (.cells #[.slice A n c, .int .i64 b, .int .i64 x, .int .i64 y, .int .i64 z] 25)).cell? ⟨w.heap.size, 0, none⟩ = some (.slice A n c) := World.cell?_alloc_new w _ _ 0
  have HD := hid (show decide ((n : Int) > 20) = decide (20 < n) from decide_eq_decide.2 (by omega))
  go_enter Try.func11, Try.ntmps11
  go_upto_region 1 with fail
  generalize w.alloc (.cells #[.slice A n c, .int .i64 b, .int .i64 x, .int .i64 y, .int .i64 z] 25) = w1 at *
  go_wp2
  go_ret
  exact ⟨by first | rfl | exact congrArg (fun b => Ending.returned (.bool b)) HD.out, HB.out⟩
set_option maxRecDepth 20000 in
set_option maxHeartbeats 1000000 in
theorem nil_walk (A : Option Addr) (n c : Nat) (p : Int) (w : World) : Calls Try.prog 8 #[.slice A n c, .int .i64 p] w fun e w' => e = .returned (.bool true) ∧ Below w.heap.size w w' := by
  go_enter Try.func8, Try.ntmps8
  go_wp2_with (first
    | (go_at_call 10; refine (wakes_any _).mono ?_; rintro e w1 ⟨rfl, hb⟩; have HB := hid hb; clear hb)
    | (go_at_call 16; refine (range_nil _ _).mono ?_; rintro e w2 ⟨rfl, rfl⟩)
    | (go_at_call 22; refine (set_nil _ _ _ _).mono ?_; rintro e w2 ⟨rfl, rfl⟩)
    | (go_at_call 20; refine (part_nil _ _ _).mono ?_; rintro e w2 ⟨rfl, rfl⟩)
    | (go_at_call 21; refine (loop_nil _ _).mono ?_; rintro e w2 ⟨rfl, rfl⟩)
    | (go_at_call 19; refine (parts_nil _).mono ?_; rintro e w2 ⟨rfl, rfl⟩))
  go_ret
  exact ⟨rfl, HB.out⟩
set_option maxRecDepth 20000 in
set_option maxHeartbeats 1000000 in
theorem same_yes (A : Option Addr) (n c g cap N : Nat) (f : Nat → Nat → Nat) (w : World) (hn : n ≤ 8) (hN : N = 4 * n) (hr : Rv w w.heap.size A (pvs (fun i t => (f i t : Nat)) n)) (ha : Arr w g (n * 4) (ptv f)) :
    Calls Try.prog 18 #[.slice A n c, .slice (some ⟨g, 0, none⟩) N cap] w fun e w' => e = .returned (.bool true) ∧ ∃ m, w' = w.drewN m := by
  have hN' : 4 * (n : Int) = (N : Int) := by omega
  have HN := hid hN
  have hN32 : N ≤ 32 := by omega
  have HR := hid hr
  have HA := hid ha
  have hne : ((N : Int) != (N : Int)) = false := by simp
  clear hN hr ha
  go_enter Try.func18, Try.ntmps18
  go_wp2
  go_loopg [14] N (fun gk t14 wr => ∃ j m : Nat, j + gk = N ∧ t14 = .int .i64 j ∧ wr = w.drewN m)
  case atStart => exact ⟨0, 0, by omega, rfl, rfl⟩
  case round =>
    obtain ⟨j, m, hj, rfl, rfl⟩ := hrel
    by_cases hlt : j < N
    · have hlt' : (j : Int) < (N : Int) := by omega
      have hjn : j < n * 4 := by have := HN.out; omega
      obtain ⟨ad, rfl, q0⟩ := pvs_cell HR.out (show j / 4 < n by omega) (show j % 4 < 4 by omega)
      have a0 := HA.out.cell j hjn
      unfold ptv at a0
      have hq : (j : Int) / 4 = ((j / 4 : Nat) : Int) := by omega
      have hqn : ((j / 4 : Nat) : Int) < (n : Int) := by omega
      have ht : (j : Int) % 4 = ((j % 4 : Nat) : Int) := by omega
      have ht4 : ((j % 4 : Nat) : Int) < 4 := by omega
      generalize j / 4 = q at *
      generalize j % 4 = t at *
      have hv : (((f q t : Nat) : Int) != ((f q t : Nat) : Int)) = false := by simp
      have hv' : (f q t != f q t) = false := by simp
      go_upto_region 6 with fail
      go_quiet (fail)
      go_wp2
      go_roundg (gk - 1)
      case measure => omega
      case rel => exact ⟨j + 1, _, by omega, by go_num, rfl⟩
    · have hlt' : ¬ (j : Int) < (N : Int) := by omega
      obtain rfl : j = N := by omega
      go_wp2
      go_ret
      exact ⟨rfl, m, rfl⟩
end Go.Proofs.Ytcibhmbneedghaa
