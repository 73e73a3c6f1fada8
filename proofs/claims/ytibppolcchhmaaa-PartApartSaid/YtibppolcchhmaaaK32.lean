/-
  What is proved: the fixed fact that each statement of this layer asks first holds; PartNil's walk; what the laws share: long, a cache that a law has made. Condition: none.
-/
import Derived.Test.YtibppolcchhmaaaK31
import Derived.Test.YtibppolcchhmaaaK26
import Derived.Test.YtibppolcchhmaaaK28
namespace Go.Proofs.Ytibppolcchhmaaa
open Go.RowKit

/-- the example's hint -/
def exG (_ : Nat) : Hn := ⟨0, 3, 1, true⟩
theorem exG_ok : HintsP exG 1 3 := by
  refine ⟨by omega, fun i hi => ?_, fun i hi k hk x => ?_⟩
  · unfold okH exG; decide
  · omega
theorem exG_ord : OrdH exG 1 (fun _ => 0) := ⟨fun i j h1 h2 => by omega, fun i hi => by show 0 < 1; omega⟩
theorem exG_cap : CapP 3 2 1 1 := ⟨by omega, fun ⟨i, hi, h⟩ => by
  have h4 : i = 0 ∨ i = 1 ∨ i = 2 := by omega
  rcases h4 with rfl | rfl | rfl <;> (unfold f3 at h; simp at h)⟩
theorem exG_part : KP exG 1 (cN 2 1 1) 0 0 = 2 := by
  rw [← KP_of exG_ord]
  kernel_rfl
/-- a plan in memory, as a parted cache sees it -/
theorem Pl.pn {w : World} {q n c d T : Nat} {b : Int} {x : Nat → Nat} {hh : Nat → Hn} {A B : Option Addr} (h : Pl w q b x hh n A c B d) (h1 : 1 ≤ T) (h3 : T ≤ 3) : Pn w q T (fun z => rgi hh z n) (fun i => KP hh n x i (T - 1)) (fun i => (hh i).l) n :=
  ⟨⟨b, x, hh, A, c, B, d, h, fun _ => rfl, fun _ => rfl, fun _ => rfl⟩, h1, h3⟩
set_option maxRecDepth 20000 in
set_option maxHeartbeats 1000000 in
theorem wakes15 (w : World) : Calls Try.prog 7 #[] w fun e w' => e = .returned (.bool true) ∧ Below w.heap.size w w' := by
  have HA := hid (below_alloc w (.cells #[.int .i64 0, .int .i64 3, .int .i64 1, .bool true] 58))
  have hr : Rv (w.alloc (.cells #[.int .i64 0, .int .i64 3, .int .i64 1, .bool true] 58)) (w.alloc (.cells #[.int .i64 0, .int .i64 3, .int .i64 1, .bool true] 58)).heap.size (some ⟨w.heap.size, 0, none⟩) (hvs exG 1) := by
    rw [World.size_alloc]
    exact rv_new w 58 #[.int .i64 0, .int .i64 3, .int .i64 1, .bool true]
  have HN := hid (new_any (some ⟨w.heap.size, 0, none⟩) 1 1 exG 3 2 1 1 _ (by omega) (fun e => by cases e) hr)
  clear hr
  have r0 : rgi exG 0 1 = some 0 := by kernel_rfl
  have r1 : rgi exG 1 1 = some 0 := by kernel_rfl
  have r2 : rgi exG 2 1 = some 0 := by kernel_rfl
  have HK := hid (And.intro r0 (And.intro r1 r2))
  clear r0 r1 r2
  go_enter Try.func7, Try.ntmps7
  go_upto_region 2 with (go_at_call 9; refine HN.out.mono ?_; rintro e w2 (h | h | ⟨-, -, hb, g, A, c, B, d, rfl, hp, -⟩); exact absurd exG_cap h.1; exact absurd exG_ok h.2.1; have HB := hid (on HA.out hb); have HP := hid (hp.pn (T := 1) (by omega) (by omega)); clear hb hp)
  have HPT := hid exG_part
  have HQ := hid (pt_new HP.out)
  rw [show empt (cl (1 : Nat)) = [[]] from by decide] at HQ
  generalize hpt : (fun i => KP exG 1 (cN 2 1 1) i (1 - 1)) = pt at *
  have hpt0 : pt 0 = 2 := by rw [← hpt]; exact HPT.out
  have HP2 := hid hpt0
  clear hpt hpt0 HPT
  go_upto_region 5 with (go_at_call 10; refine HQ.out.mono ?_; rintro e w3 ⟨g3, k3, rfl, hq⟩; have H3 := hid hq; clear hq)
  have HA0 := hid (pt_add_room H3.out (b := 0) HK.out.1 (by simp) (by rw [HP2.out]; decide))
  go_upto_region 6 with (go_at_call 14; refine HA0.out.mono ?_; rintro e w4 ⟨rfl, hq, hc⟩; have H4 := hid (show Pt _ _ _ _ _ _ _ _ _ _ [[0]] from hq); clear hq hc)
  have HA1 := hid (pt_add_room H4.out (b := 1) HK.out.2.1 (by simp) (by rw [HP2.out]; decide))
  go_upto_region 7 with (go_at_call 14; refine HA1.out.mono ?_; rintro e w5 ⟨rfl, hq, hc⟩; have H5 := hid (show Pt _ _ _ _ _ _ _ _ _ _ [[1, 0]] from hq); clear hq hc)
  have HA2 := hid (pt_add_full H5.out (b := 2) HK.out.2.2 (by rw [HP2.out]; decide) (by simp) (by rw [HP2.out]; decide))
  rw [show gone ((fun i => (exG i).l) 0) ([[1, 0]].getD 0 []) = 1 from by decide] at HA2
  go_wp2_with (go_at_call 14; refine HA2.out.mono ?_; rintro e w6 ⟨rfl, hq, hc⟩; have H6 := hid hq; clear hq hc)
  go_ret
  exact ⟨rfl, on HB.out H6.out.bel⟩
set_option maxRecDepth 20000 in
set_option maxHeartbeats 1000000 in
theorem nil15 (z : Int) (w : World) : Calls Try.prog 5 #[.int .i64 z] w fun e w' => e = .returned (.bool true) ∧ Below w.heap.size w w' := by
  go_enter Try.func5, Try.ntmps5
  go_wp2_with (first
    | (go_at_call 7; refine (wakes15 _).mono ?_; rintro e w1 ⟨rfl, hb⟩; have HB := hid hb; clear hb)
    | (go_at_call 10; refine (pt_new_nil _ _).mono ?_; rintro e w2 ⟨rfl, rfl⟩)
    | (go_at_call 14; refine (add_nil _ _).mono ?_; rintro e w2 ⟨rfl, rfl⟩)
    | (go_at_call 22; refine (takes_nil _ _).mono ?_; rintro e w2 ⟨rfl, rfl⟩)
    | (go_at_call 13; refine (use_nil _ _).mono ?_; rintro e w2 ⟨rfl, rfl⟩)
    | (go_at_call 15; refine (prem_nil _ _).mono ?_; rintro e w2 ⟨rfl, rfl⟩)
    | (go_at_call 20; refine (phas_nil _ _).mono ?_; rintro e w2 ⟨rfl, rfl⟩)
    | (go_at_call 17; refine (pall_nil _).mono ?_; rintro e w2 ⟨rfl, rfl⟩)
    | (go_at_call 19; refine (plen_nil _).mono ?_; rintro e w2 ⟨rfl, rfl⟩))
  go_ret
  exact ⟨rfl, HB.out⟩
theorem long15 (A : Option Addr) (n c : Nat) (b x y z : Int) (A2 : Option Addr) (m c2 : Nat) (w : World) : Calls Try.prog 8 #[.agg #[.slice A n c, .int .i64 b, .int .i64 x, .int .i64 y, .int .i64 z], .slice A2 m c2] w fun e w' => e = .returned (.bool (decide (20 < n ∨ 150 < m))) ∧ Below w.heap.size w w' := by
  have HB := hid (below_alloc w (.cells #[.slice A n c, .int .i64 b, .int .i64 x, .int .i64 y, .int .i64 z] 25))
  have c0 : (w.alloc (.cells #[.slice A n c, .int .i64 b, .int .i64 x, .int .i64 y, .int .i64 z] 25)).cell? ⟨w.heap.size, 0, none⟩ = some (.slice A n c) := World.cell?_alloc_new w _ _ 0
  by_cases h1 : 20 < n
  · rw [decide_eq_true (show 20 < n ∨ 150 < m from .inl h1)]
    have hd : decide ((20 : Int) < (n : Int)) = true := by simp; omega
    clear h1
    go_enter Try.func8, Try.ntmps8
    go_upto_region 1 with fail
    generalize w.alloc (.cells #[.slice A n c, .int .i64 b, .int .i64 x, .int .i64 y, .int .i64 z] 25) = w1 at *
    go_wp2
    go_ret
    exact ⟨rfl, HB.out⟩
  · have hd : decide ((20 : Int) < (n : Int)) = false := by simp; omega
    have HD := hid (show decide ((150 : Int) < (m : Int)) = decide (20 < n ∨ 150 < m) from decide_eq_decide.2 (by omega))
    clear h1
    go_enter Try.func8, Try.ntmps8
    go_upto_region 1 with fail
    generalize w.alloc (.cells #[.slice A n c, .int .i64 b, .int .i64 x, .int .i64 y, .int .i64 z] 25) = w1 at *
    go_wp2
    go_ret
    exact ⟨congrArg (fun b => Ending.returned (.bool b)) HD.out, HB.out⟩
end Go.Proofs.Ytibppolcchhmaaa
