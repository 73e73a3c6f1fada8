/-
  What is proved: msg's get of the place of a text, over bytes that are the beginning of a text's bytes and more. Conditions as for the other places.
-/
import Derived.Test.YtihldenljddmoaaDoorPGet
import Derived.Deep.Onto
namespace Go.Proofs.YtihldenljddmoaaDoor
open Go.RowKit

theorem gettext_sl (A : Option Addr) (c p m k L : Nat) (l ys r : List Int) (w : World) (C : Nat) (hL : Hid (l.length = L)) (hLc : L ≤ c) (hlen : L ≤ 1000000) (hx : p ≤ L) (hb : Hid (∀ x ∈ l, 0 ≤ x ∧ x ≤ 255)) (ra : Rd w C A l) (hC : C ≤ w.heap.size)
    (hy : Hid (ys.length = m)) (hm : m ≤ 64) (hr : Hid (l.drop ((p : Int)).toNat = (enc m ++ (ys ++ r)).take k)) (hk : (enc m).length + m ≤ k) :
    Calls Tryd.prog 35 #[.slice A L c, .int .i64 p, .int .i64 64] w fun e w' => ∃ E cq, e = .returned (.tuple #[.slice E m cq, .int .i64 (p + (enc m).length + m : Nat), .int .i64 0]) ∧ Own w' w.heap.size (.slice E m cq) ys ∧ Below w.heap.size w w' :=
  (gettext_yes A c p m k L l ys r w C hL hLc hlen hx hb ra hC hy hm hr hk).mono fun _ _ ⟨v, he, ho, hb⟩ => by
    obtain ⟨E, cq, e, -, -, -⟩ := ho.shape
    subst e
    have e2 := hy.out
    subst e2
    exact ⟨E, cq, he, ho, hb⟩

set_option maxRecDepth 100000 in
set_option maxHeartbeats 2000000 in
theorem pget_text (c1 : Nat → Int) (g1 : Bool) (g : Nat) (mm : Int) (A : Option Addr) (cb p k L C m : Nat) (l ds r : List Int) (w : World) (hX : Bx w g 25 (msgC c1 g1 none 0 0)) (hLc : L ≤ cb)
    (hL : Hid (l.length = L)) (hlen : L ≤ 1000000) (hx : p ≤ L) (hb : Hid (∀ x ∈ l, 0 ≤ x ∧ x ≤ 255)) (ra : Rd w C A l) (hC : C ≤ g) (hy : Hid (ds.length = m)) (hm : m ≤ 64) (hr : Hid (l.drop ((p : Int)).toNat = (enc m ++ (ds ++ r)).take k)) :
    Calls Tryd.prog 29 #[.agg (pcl g 10 mm), .slice A L cb, .int .i64 p] w fun e w' => w.grownBy w' (some g) ∧
      (((enc m).length + m ≤ k ∧ e = .returned (.tuple #[.int .i64 (p + (enc m).length + m : Nat), .int .i64 0]) ∧ ∃ E cq, Bx w' g 25 (msgC c1 g1 E m cq) ∧ Own w' w.heap.size (.slice E m cq) ds) ∨
       (k < (enc m).length + m ∧ e = .returned (.tuple #[.int .i64 0, .int .i64 1]))) := by
  have X := hX.alloc (.cells (pcl g 10 mm) 55)
  have hc := X.cell 10
  have hfz := X.free 10
  rw [show (msgC c1 g1 none 0 0)[10]? = some (.slice none 0 0) from rfl] at hc
  have hgw := hX.lt
  have HA := hid (ra.alloc (by omega) (.cells (pcl g 10 mm) 55))
  have HX := hid X
  have HP := hid (Bx.new w 55 (pcl g 10 mm))
  have HK := hid (below_alloc w (.cells (pcl g 10 mm) 55))
  have hz : (w.alloc (.cells (pcl g 10 mm) 55)).heap.size = w.heap.size + 1 := World.size_alloc _ _
  have HZ := hid hz
  have q10 := (pcl_lit g mm).2.2.2.2.2.2.2.2.2
  clear X hX ra hz
  rw [q10] at hc hfz HA HX HP HK HZ ⊢
  clear q10
  go_enter Tryd.func29, Tryd.ntmps29
  go_wp2_with fail
  generalize w.alloc (.cells #[.int .i64 10, .pointer none, .pointer none, .pointer none, .pointer (some ⟨g, 10, none⟩), .int .i64 mm] 55) = w1 at *
  have p4 : w1.cell? ⟨w.heap.size, 4, none⟩ = some (.pointer (some ⟨g, 10, none⟩)) := by rw [HP.out.cell]; rfl
  have HW := hid (Below.refl w1.heap.size w1)
  by_cases hk : (enc m).length + m ≤ k
  · have R := fun W (hC1 : C ≤ W.heap.size) (h : Rd W C A l) => gettext_sl A cb p m k L l ds r W C hL hLc hlen hx hb h hC1 hy hm hr hk
    have HR := hid R
    clear R
    go_region_held3 (fun w' => w'.cell? ⟨w.heap.size, 4, none⟩ = some (.pointer (some ⟨g, 10, none⟩))) (first | (exact by go_simp) | exact kp)
     (first
      | (go_at_call 35; go_must (refine (HR.out _ (by have := HZ.out; show C ≤ w1.heap.size; omega) (by exact HA.out)).mono ?_); rintro e w4 ⟨E, cq, rfl, hown, hb4⟩; have kp : w4.cell? ⟨w.heap.size, 4, none⟩ = some (.pointer (some ⟨g, 10, none⟩)) := ((hb4.cell (p := ⟨w.heap.size, 4, none⟩) (by have := HZ.out; show w.heap.size < w1.heap.size; omega)).trans p4); have hc4 : w4.cell? ⟨g, 10, none⟩ = some (.slice none 0 0) := ((hb4.cell (p := ⟨g, 10, none⟩) HX.out.lt).trans hc); have hf4 : w4.frozen? ⟨g, 10, none⟩ = false := ((hb4.frozen (p := ⟨g, 10, none⟩) HX.out.lt).trans hfz); have HOW := hid hown; have HB4 := hid hb4; clear hown hb4))
    all_goals
      go_wp2_with fail
      go_ret2
      have hgr : w.grownBy w4 (some g) := grown_on (grown_below HK.out (some g)) ((below_draws HW.out 1).trans HB4.out)
      have hox : Own (w4.setCell ⟨g, 10, none⟩ (.slice E m cq)) w.heap.size (.slice E m cq) ds :=
        World.ownsRow.kept (World.ownsRow.mono HOW.out (by have := HZ.out; show w.heap.size ≤ w1.heap.size; omega)) (grown_set (World.grownBy.refl w4 _) 10 (.slice E m cq)) (by
          rcases hob : (Value.slice E m cq).ownBlock with _ | j
          · exact .inl rfl
          · right
            intro e
            injection e with e
            have h1 := (World.ownsRow.lt HOW.out _ hob).1
            have h2 : w1.heap.size ≤ j := h1
            have := HX.out.lt
            omega)
      have hbx : Bx (w4.setCell ⟨g, 10, none⟩ (.slice E m cq)) g 25 (msgC c1 g1 E m cq) := by
        have := (HX.out.next ((below_draws HW.out 1).trans HB4.out)).set 10 (.slice E m cq)
        rw [msgC_data] at this
        exact this
      exact ⟨grown_set hgr _ _, .inl ⟨hk, by simp, E, cq, hbx, hox⟩⟩
  · have R := fun W (h : Rd W C A l) => gettext_no A cb p m k L l (ds ++ r) W C hL hlen hx hb h hm hr hk
    have HR := hid R
    clear R
    go_region_held3 (fun w' => w'.cell? ⟨w.heap.size, 4, none⟩ = some (.pointer (some ⟨g, 10, none⟩))) (first | (exact by go_simp) | exact kp)
     (first
      | (go_at_call 35; go_must (refine (HR.out _ (by exact HA.out)).mono ?_); rintro e w4 ⟨rfl, d, rfl⟩; have kp : (w1.drew.drewN d).cell? ⟨w.heap.size, 4, none⟩ = some (.pointer (some ⟨g, 10, none⟩)) := p4))
    all_goals
      go_wp2_with fail
      go_ret2
      have hgr : w.grownBy (w1.drewN (1 + d)) (some g) := grown_draws (grown_below HK.out (some g)) (1 + d)
      exact ⟨grown_set hgr _ _, .inr ⟨by omega, rfl⟩⟩
end Go.Proofs.YtihldenljddmoaaDoor
