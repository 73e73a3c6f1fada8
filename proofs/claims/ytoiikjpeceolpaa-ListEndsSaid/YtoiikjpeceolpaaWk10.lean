/-
  What is proved: the fixed fact that each statement of this layer asks first holds; ListNil's walk. Condition: the act is read as such.
-/
import Derived.Test.YtoiikjpeceolpaaTw10
namespace Go.Proofs.Ytoiikjpeceolpaa
open Go.RowKit

theorem chg_bel {w0 w w' : World} {k : Nat} (hb : Below w0.heap.size w0 w) (hk : w0.heap.size ≤ k) (hc : Chg w w' (· = k) (· = k)) : Below w0.heap.size w0 w' := hb.trans (hc.bel hb.size fun j e => by rw [e]; exact hk)
set_option maxRecDepth 10000 in
set_option maxHeartbeats 1000000 in
theorem wakes_any (w : World) : Calls Try.prog 8 #[] w fun e w' => e = .returned (.bool true) ∧ Below w.heap.size w w' := by
  go_enter Try.func8, Try.ntmps8
  go_upto_region 2 with (go_at_call 9; refine (lnew_any 1 _).mono ?_; rintro e w1 ⟨k, rfl, hs, hb, hk⟩; have HS0 := hid hs; have HB0 := hid hb; have HK := hid hk; clear hs hb hk)
  rw [show empt (cl 1) = [[]] from by decide] at HS0
  have HF3 := hid (front_any HS0.out 0 3)
  rw [show putE [[]] 0 3 = 0 from by decide, show frontS [[]] 0 3 = [[3]] from by decide] at HF3
  go_wp2_with (first
    | (go_at_call 25; (with_reducible refine HF3.out.mono ?_); rintro e w2 ⟨rfl, hs, hc⟩; have HF4 := hid (front_any hs 0 4); rw [show putE [[3]] 0 4 = 0 from by decide, show frontS [[3]] 0 4 = [[4, 3]] from by decide] at HF4; have HB1 := hid (chg_bel HB0.out HK.out hc); clear hs hc)
    | (go_at_call 25; (with_reducible refine HF4.out.mono ?_); rintro e w3 ⟨rfl, hs, hc⟩; have HF5 := hid (back_any hs 0 5); rw [show putE [[4, 3]] 0 5 = 0 from by decide, show backS [[4, 3]] 0 5 = [[4, 3, 5]] from by decide] at HF5; have HB2 := hid (chg_bel HB1.out HK.out hc); clear hs hc)
    | (go_at_call 24; (with_reducible refine HF5.out.mono ?_); rintro e w4 ⟨rfl, hs, hc⟩; have HA := hid (all_in hs (i := 0) (l := [4, 3, 5]) rfl); have HB3 := hid (chg_bel HB2.out HK.out hc); clear hs hc)
    | (go_at_call 14; (refine HA.out.mono ?_); rintro e w5 ⟨A, c, rfl, ho, hg⟩; have HB4 := hid (on HB3.out hg.nilBelow); have B5 := below_alloc w5 (.cells #[.int .i64 4, .int .i64 3, .int .i64 5] 3); have HO := hid (ho.below B5); have HB5 := hid (on HB4.out B5); have HR5 := hid (rv_new w5 3 #[.int .i64 4, .int .i64 3, .int .i64 5]); clear ho hg B5)
    | (go_at_call 13; obtain ⟨A', c', e', hr, -⟩ := HO.out.read; simp only [Value.slice.injEq] at e'; obtain ⟨rfl, -, rfl⟩ := e'; refine (sameints_yes A (some ⟨w5.heap.size, 0, none⟩) _ _ _ _ [4, 3, 5] _ _ _ rfl rfl (by simp; unfold maxLen; omega) hr HR5.out).mono ?_; rintro e w6 ⟨rfl, d6, rfl⟩))
  go_ret
  exact ⟨rfl, below_draws HB5.out d6⟩
set_option maxRecDepth 10000 in
set_option maxHeartbeats 1000000 in
theorem nil_walk (κ x y : Int) (w : World) : Calls Try.prog 6 #[.agg #[.int .i64 κ, .int .i64 x, .int .i64 y]] w fun e w' => e = .returned (.bool true) ∧ Below w.heap.size w w' := by
  obtain ⟨g, hg⟩ : ∃ g, w.heap.size = g := ⟨_, rfl⟩
  obtain ⟨W, hW⟩ : ∃ W, w.alloc (.cells #[.int .i64 κ, .int .i64 x, .int .i64 y] 29) = W := ⟨_, rfl⟩
  have BW := hid (show Below w.heap.size w W from by rw [← hW]; exact below_alloc _ _)
  have XW := hid (show Bx W g 29 #[.int .i64 κ, .int .i64 x, .int .i64 y] from by rw [← hW, ← hg]; exact Bx.new _ _ _)
  go_enter Try.func6, Try.ntmps6
  go_upto_region 2 with fail
  have HGG := hid hg
  clear hg hW
  go_upto_region 4 with (go_at_call 8; refine (wakes_any _).mono ?_; rintro e w1 ⟨rfl, hb⟩; have B1 := hid (on BW.out hb); have X1 := hid (XW.out.next hb); clear hb)
  have y1 : w1.cell? ⟨g, 1, none⟩ = some (.int .i64 x) := X1.out.cell 1
  have y2 : w1.cell? ⟨g, 2, none⟩ = some (.int .i64 y) := X1.out.cell 2
  go_upto_region 7 with (first | (go_at_call 21; refine (first_nil _ _).mono ?_; rintro e w3 ⟨rfl, rfl⟩) | (go_at_call 22; refine (last_nil _ _).mono ?_; rintro e w3 ⟨rfl, rfl⟩) | (go_at_call 17; refine (of_nil _ _).mono ?_; rintro e w3 ⟨rfl, rfl⟩))
  clear y1 y2
  go_wp2_with (first
    | (with_reducible refine wpList_load_bx rfl 29 (.tmp 1) rfl g _ _ _ rfl X1.out Try.underlying29 rfl (by kernel_rfl) ?_)
    | (go_at_call 11; refine (ndo_nil _ _ _ _).mono ?_; rintro e w2 ⟨rfl, hb⟩; have B2 := hid (on B1.out hb); have X2 := hid (X1.out.next hb); have z1 : w2.cell? ⟨g, 1, none⟩ = some (.int .i64 x) := X2.out.cell 1; clear hb)
    | (go_at_call 14; refine (all_nil _ _).mono ?_; rintro e w3 ⟨A, c, rfl, ho, hg⟩; have B3 := hid (on B2.out hg.nilBelow); have X3 := hid (X2.out.next hg.nilBelow); have z3 : w3.cell? ⟨g, 1, none⟩ = some (.int .i64 x) := X3.out.cell 1; clear ho hg)
    | (go_at_call 15; refine (len_nil _ _).mono ?_; rintro e w4 ⟨rfl, hb⟩; have B4 := hid (on B3.out hb); have X4 := hid (X3.out.next hb); have z4 : w4.cell? ⟨g, 1, none⟩ = some (.int .i64 x) := X4.out.cell 1; have z5 : w4.cell? ⟨g, 2, none⟩ = some (.int .i64 y) := X4.out.cell 2; clear hb)
    | (go_at_call 20; refine (ahead_nil _ _ _).mono ?_; rintro e w5 ⟨rfl, rfl⟩))
  go_ret
  exact ⟨rfl, B4.out⟩
end Go.Proofs.Ytoiikjpeceolpaa
