/-
  What is proved: msg's get of a place, over bytes that are the beginning of a field's bytes and more: the field is set, and where it ends, or the error that the bytes end within; besides new memory it writes the message's block alone. Conditions: the message's block is known whole; the message told is small.
-/
import Derived.Test.YtihldenljddmoaaDoorGetT
import Derived.Test.YtihldenljddmoaaDoorEnc4
import Derived.Deep.RegionWith
import Derived.Deep.RegionHeld3
import Derived.Deep.DeepMust
namespace Go.Proofs.YtihldenljddmoaaDoor
open Go.RowKit

theorem msgC_set (c : Nat → Int) (gr : Bool) (D : Option Addr) (n cp : Nat) (x : Int) : ∀ j, j ≤ 8 → (msgC c gr D n cp).setIfInBounds j (.int .i64 x) = msgC (fun i => if i = j then x else c i) gr D n cp
  | 0, _ | 1, _ | 2, _ | 3, _ | 4, _ | 5, _ | 6, _ | 7, _ | 8, _ => by simp [msgC]
  | n + 9, h => absurd h (by omega)
theorem msgC_grant (c : Nat → Int) (gr g2 : Bool) (D : Option Addr) (n cp : Nat) : (msgC c gr D n cp).setIfInBounds 9 (.bool g2) = msgC c g2 D n cp := by simp [msgC]
theorem msgC_data (c : Nat → Int) (gr : Bool) (D E : Option Addr) (n cp m cq : Nat) : (msgC c gr D n cp).setIfInBounds 10 (.slice E m cq) = msgC c gr E m cq := by simp [msgC]
theorem msgC_at (c : Nat → Int) (gr : Bool) (D : Option Addr) (n cp : Nat) : ∀ j, j ≤ 8 → (msgC c gr D n cp)[j]? = some (.int .i64 (c j))
  | 0, _ | 1, _ | 2, _ | 3, _ | 4, _ | 5, _ | 6, _ | 7, _ | 8, _ => rfl
  | n + 9, h => absurd h (by omega)

theorem pcl_num (g f : Nat) (m : Int) (h1 : 1 ≤ f) (h7 : f ≤ 7) : pcl g f m = #[.int .i64 f, .pointer (some ⟨g, f, none⟩), .pointer none, .pointer none, .pointer none, .int .i64 m] := by
  match f, h1, h7 with
  | 1, _, _ | 2, _, _ | 3, _, _ | 4, _, _ | 5, _, _ | 6, _, _ | 7, _, _ => rfl
  | n + 8, _, h => omega
set_option maxRecDepth 100000 in
set_option maxHeartbeats 2000000 in
theorem pget_num (c c1 : Nat → Int) (g1 : Bool) (D : Option Addr) (n cp g : Nat) (mm : Int) (A : Option Addr) (cb p k L C : Nat) (l r : List Int) (w : World) (f x : Nat) (hf : 1 ≤ f ∧ f ≤ 8) (hxc : c f = x) (hX : Bx w g 25 (msgC c1 g1 D n cp))
    (hL : Hid (l.length = L)) (hlen : L ≤ 1000000) (hx : p ≤ L) (hb : Hid (∀ x ∈ l, 0 ≤ x ∧ x ≤ 255)) (ra : Rd w C A l) (hC : C ≤ g) (hxm : x ≤ 1099511627776) (hr : Hid (l.drop ((p : Int)).toNat = (enc x ++ r).take k)) :
    Calls Tryd.prog 29 #[.agg (pcl g f mm), .slice A L cb, .int .i64 p] w fun e w' => w.grownBy w' (some g) ∧
      (((enc x).length ≤ k ∧ e = .returned (.tuple #[.int .i64 (p + (enc x).length : Nat), .int .i64 0]) ∧ Bx w' g 25 (msgC (fun i => if i = f then c f else c1 i) g1 D n cp)) ∨
       (k < (enc x).length ∧ e = .returned (.tuple #[.int .i64 0, .int .i64 1]))) := by
  have X := hX.alloc (.cells (pcl g f mm) 55)
  have hc := X.cell f
  have hfz := X.free f
  rw [msgC_at _ _ _ _ _ f hf.2] at hc
  have HK := hid (grown_below (below_alloc w (.cells (pcl g f mm) 55)) (some g))
  have hgw := hX.lt
  have HA := hid (ra.alloc (by omega) (.cells (pcl g f mm) 55))
  have HSET := hid (fun W (h : Bx W g 25 (msgC c1 g1 D n cp)) => show Bx (W.setCell ⟨g, f, none⟩ (.int .i64 (x : Nat))) g 25 (msgC (fun i => if i = f then c f else c1 i) g1 D n cp) by
    have := h.set f (.int .i64 (x : Nat))
    rw [msgC_set _ _ _ _ _ _ f hf.2] at this
    rw [hxc]
    exact this)
  have HX := hid X
  have q8 := (pcl_lit g mm).2.2.2.2.2.2.2.1
  clear X hX ra hxc
  obtain ⟨h1, h2⟩ := hf
  by_cases hk : (enc x).length ≤ k
  · have R := fun W (h : Rd W C A l) => get_cut_yes A cb p x k L l r W C hL (by omega) (by omega) hx hb h (by omega) hr hk
    have HR := hid R
    clear R
    by_cases e8 : f = 8
    · subst e8
      rw [q8] at hc hfz HK HA HX ⊢
      clear q8
      go_enter Tryd.func29, Tryd.ntmps29
      go_wp2_with fail
      refine (HR.out _ HA.out).mono ?_
      rintro e w4 ⟨rfl, d, rfl⟩
      go_wp2_with fail
      go_ret2
      exact ⟨grown_set (grown_draws HK.out _) _ _, .inl ⟨hk, by simp, HSET.out _ (HX.out.draws d)⟩⟩
    · have q := pcl_num g f mm h1 (by omega)
      rw [q] at hc hfz HK HA HX ⊢
      have t8 : ((f : Int) == 8) = false := by simp; omega
      have t9 : ((f : Int) == 9) = false := by simp; omega
      have t10 : ((f : Int) == 10) = false := by simp; omega
      clear q q8
      go_enter Tryd.func29, Tryd.ntmps29
      go_wp2_with fail
      go_region_with (go_at_call 28; go_must (refine (HR.out _ (by exact HA.out)).mono ?_); rintro e w4 ⟨rfl, d, rfl⟩)
      all_goals
        go_wp2_with fail
        go_ret2
        exact ⟨grown_set (grown_draws HK.out _) _ _, .inl ⟨hk, by simp, HSET.out _ (HX.out.draws _)⟩⟩
  · have R := fun W (h : Rd W C A l) => get_cut_no A cb p x k L l r W C hL (by omega) (by omega) hx hb h (by omega) hr hk
    have HR := hid R
    clear R
    by_cases e8 : f = 8
    · subst e8
      rw [q8] at hc hfz HK HA HX ⊢
      clear q8
      go_enter Tryd.func29, Tryd.ntmps29
      go_wp2_with fail
      refine (HR.out _ HA.out).mono ?_
      rintro e w4 ⟨rfl, d, rfl⟩
      go_wp2_with fail
      go_ret2
      exact ⟨grown_set (grown_draws HK.out _) _ _, .inr ⟨by omega, rfl⟩⟩
    · have q := pcl_num g f mm h1 (by omega)
      rw [q] at hc hfz HK HA HX ⊢
      have t8 : ((f : Int) == 8) = false := by simp; omega
      have t9 : ((f : Int) == 9) = false := by simp; omega
      have t10 : ((f : Int) == 10) = false := by simp; omega
      clear q q8
      go_enter Tryd.func29, Tryd.ntmps29
      go_wp2_with fail
      go_region_with (go_at_call 28; go_must (refine (HR.out _ (by exact HA.out)).mono ?_); rintro e w4 ⟨rfl, d, rfl⟩)
      all_goals
        go_wp2_with fail
        go_ret2
        exact ⟨grown_set (grown_draws HK.out _) _ _, .inr ⟨by omega, rfl⟩⟩
set_option maxRecDepth 100000 in
set_option maxHeartbeats 2000000 in
theorem pget_truth (c1 : Nat → Int) (g1 gr : Bool) (D : Option Addr) (n cp g : Nat) (mm : Int) (A : Option Addr) (cb p k L C : Nat) (l r : List Int) (w : World) (hX : Bx w g 25 (msgC c1 g1 D n cp))
    (hL : Hid (l.length = L)) (hlen : L ≤ 1000000) (hx : p ≤ L) (ra : Rd w C A l) (hC : C ≤ g) (hr : Hid (l.drop ((p : Int)).toNat = (bit gr :: r).take k)) :
    Calls Tryd.prog 29 #[.agg (pcl g 9 mm), .slice A L cb, .int .i64 p] w fun e w' => w.grownBy w' (some g) ∧
      ((1 ≤ k ∧ e = .returned (.tuple #[.int .i64 (p + 1 : Nat), .int .i64 0]) ∧ Bx w' g 25 (msgC c1 gr D n cp)) ∨
       (k < 1 ∧ e = .returned (.tuple #[.int .i64 0, .int .i64 1]))) := by
  have X := hX.alloc (.cells (pcl g 9 mm) 55)
  have hc := X.cell 9
  have hfz := X.free 9
  rw [show (msgC c1 g1 D n cp)[9]? = some (.bool g1) from rfl] at hc
  have HK := hid (grown_below (below_alloc w (.cells (pcl g 9 mm) 55)) (some g))
  have hgw := hX.lt
  have HA := hid (ra.alloc (by omega) (.cells (pcl g 9 mm) 55))
  have HSET := hid (fun W (h : Bx W g 25 (msgC c1 g1 D n cp)) => show Bx (W.setCell ⟨g, 9, none⟩ (.bool gr)) g 25 (msgC c1 gr D n cp) by
    have := h.set 9 (.bool gr)
    rw [msgC_grant] at this
    exact this)
  have HX := hid X
  have HP := hid (Bx.new w 55 (pcl g 9 mm))
  have q9 := (pcl_lit g mm).2.2.2.2.2.2.2.2.1
  clear X hX ra
  rw [q9] at hc hfz HK HA HX HP ⊢
  clear q9
  by_cases hk : 1 ≤ k
  · go_enter Tryd.func29, Tryd.ntmps29
    go_wp2_with fail
    generalize w.alloc (.cells #[.int .i64 9, .pointer none, .pointer none, .pointer (some ⟨g, 9, none⟩), .pointer none, .int .i64 mm] 55) = w1 at *
    have p3 : w1.cell? ⟨w.heap.size, 3, none⟩ = some (.pointer (some ⟨g, 9, none⟩)) := by rw [HP.out.cell]; rfl
    go_region_with (go_at_call 34; go_must (refine (gettruth_yes A cb p L l r gr k _ C hL (by omega) hx (by exact HA.out) hr hk).mono ?_); rintro e w4 ⟨rfl, rfl⟩)
    all_goals
      go_wp2_with fail
      go_ret2
      exact ⟨grown_set (grown_draws HK.out 1) _ _, .inl ⟨hk, by simp, HSET.out _ (HX.out.draws 1)⟩⟩
  · go_enter Tryd.func29, Tryd.ntmps29
    go_wp2_with fail
    generalize w.alloc (.cells #[.int .i64 9, .pointer none, .pointer none, .pointer (some ⟨g, 9, none⟩), .pointer none, .int .i64 mm] 55) = w1 at *
    have p3 : w1.cell? ⟨w.heap.size, 3, none⟩ = some (.pointer (some ⟨g, 9, none⟩)) := by rw [HP.out.cell]; rfl
    go_region_with (go_at_call 34; go_must (refine (gettruth_no A cb p L l r gr k _ C hL (by omega) hx (by exact HA.out) hr hk).mono ?_); rintro e w4 ⟨rfl, rfl⟩)
    all_goals
      go_wp2_with fail
      go_ret2
      exact ⟨grown_set (grown_draws HK.out 1) _ _, .inr ⟨by omega, rfl⟩⟩
end Go.Proofs.YtihldenljddmoaaDoor
