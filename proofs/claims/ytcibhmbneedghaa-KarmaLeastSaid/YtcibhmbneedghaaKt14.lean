/-
  What is proved: karma's Set has the plan be by new hints, or changes nothing. Condition: the plan lies in memory as one, the hints are read as such.
-/
import Derived.Test.YtcibhmbneedghaaKs14
namespace Go.Proofs.Ytcibhmbneedghaa
open Go.RowKit

theorem Rv.off {w : World} {B : Nat} {A : Option Addr} {us : List Value} (h : Rv w B A us) (p : Addr) (u : Value) (hA : ∀ ad, A = some ad → ad.block ≠ p.block) : Rv (w.setCell p u) B A us := fun j x hx => by
  obtain ⟨ad, e, hb, hc⟩ := h j x hx
  refine ⟨ad, e, hb, ?_⟩
  rw [World.cell?_setCell_other _ _ _ _ (by intro q; have := congrArg Addr.block q; rw [addBlk] at this; exact hA ad e this.symm)]
  exact hc
theorem pc_put (b : Int) (x : Nat → Nat) (A : Option Addr) (n c : Nat) (B : Option Addr) (m d : Nat) (A1 : Option Addr) (n1 c1 : Nat) (B1 : Option Addr) (m1 d1 : Nat) : ((pc b x A n c B m d).setIfInBounds 4 (.slice A1 n1 c1)).setIfInBounds 5 (.slice B1 m1 d1) = pc b x A1 n1 c1 B1 m1 d1 := by simp [pc]
/-- what Set answers, and what is there then -/
def SetQ (w : World) (g : Nat) (b : Int) (x : Nat → Nat) (hm : Nat → Hn) (m : Nat) (e : Ending) (w' : World) : Prop :=
  (¬ HintsP hm m b ∧ e = .returned (.int .i64 14) ∧ Below w.heap.size w w') ∨ (HintsP hm m b ∧ e = .returned (.int .i64 0) ∧ Below g w w' ∧ ∃ A c B d, Pl w' g b x hm m A c B d)
theorem arr_pvs {w : World} {g n : Nat} {f : Nat → Nat → Nat} (h : Arr w g (n * 4) (ptv f)) : Rv w w.heap.size (some ⟨g, 0, none⟩) (pvs (fun i t => (f i t : Nat)) n) := fun j u hu => by
  have hj : j < n * 4 := by
    have := (List.getElem?_eq_some_iff.1 hu).1
    rwa [pvs_length] at this
  refine ⟨_, rfl, h.lt, ?_⟩
  rw [show (⟨g, 0, none⟩ : Addr).add j = ⟨g, j, none⟩ from by unfold Addr.add; split <;> simp_all, h.cell j hj, ← hu]
  unfold pvs ptv
  rw [List.getElem?_map, List.getElem?_range hj]
  rfl
set_option maxHeartbeats 2000000 in
theorem set_any {w : World} {g n c d : Nat} {b : Int} {x : Nat → Nat} {hh : Nat → Hn} {A B : Option Addr} (h : Pl w g b x hh n A c B d) (A' : Option Addr) (m c' : Nat) (hm : Nat → Hn) (hm1 : m ≤ 1000) (hb1 : 0 ≤ b) (hr : Rv w w.heap.size A' (hvs hm m)) (hc : A' = none → c' = 0) (hx : ∀ t, t < 3 → x t ≤ 1000) :
    Calls Try.prog 22 #[.pointer (some ⟨g, 0, none⟩), .slice A' m c'] w (SetQ w g b x hm m) := by
  have HCH := hid (chints_any A' m c' hm b w (by unfold maxLen; omega) (by omega) hr)
  have c0 : w.cell? ⟨g, 0, none⟩ = some (.int .i64 b) := h.bx.cell 0
  have H := hid h
  have HR := hid hr
  have HC := hid hc
  have HX := hid hx
  clear h hr hc hx
  by_cases hH : HintsP hm m b
  · rw [dec_true hH] at HCH
    have HH := hid hH
    clear hH
    go_enter Try.func22, Try.ntmps22
    go_upto_region 5 with (go_at_call 32; refine HCH.out.mono ?_; rintro e w2 ⟨rfl, hb⟩; have HB2 := hid hb; have H2 := hid (H.out.below hb); have HR2 := hid (HR.out.now hb); clear hb)
    clear c0
    have HD := hid (show Pl w2.drew g b x hh n A c B d from H2.out.below (below_draws (Below.refl _ _) 1))
    have HRD := hid (show Rv w2.drew w2.drew.heap.size A' (hvs hm m) from HR2.out.now (below_draws (Below.refl _ _) 1))
    have HBD := hid (show Below w.heap.size w w2.drew from below_draws HB2.out 1)
    have HGL := hid (show g < w.heap.size from H.out.bx.lt)
    have d1 : w2.drew.cell? ⟨g, 1, none⟩ = some (.int .i64 (x 0 : Nat)) := HD.out.bx.cell 1
    have d2 : w2.drew.cell? ⟨g, 2, none⟩ = some (.int .i64 (x 1 : Nat)) := HD.out.bx.cell 2
    have d3 : w2.drew.cell? ⟨g, 3, none⟩ = some (.int .i64 (x 2 : Nat)) := HD.out.bx.cell 3
    clear H2 HR2 HB2
    go_region_with (first
      | (go_at_call 33; refine (clone_hints A' m c' hm _ hm1 HC.out HRD.out).mono ?_; rintro e w3 ⟨A1, c1, rfl, h1, h2, h3⟩; have H3 := hid (HD.out.below h2); have HR3 := hid (HRD.out.now h2); have HB3 := hid (on HBD.out h2); have HR1 := hid h1; have HG1 := hid (fun ad e => Nat.le_trans HBD.out.size (h3 ad e)); have e1 : w3.cell? ⟨g, 1, none⟩ = some (.int .i64 (x 0 : Nat)) := H3.out.bx.cell 1; have e2 : w3.cell? ⟨g, 2, none⟩ = some (.int .i64 (x 1 : Nat)) := H3.out.bx.cell 2; have e3 : w3.cell? ⟨g, 3, none⟩ = some (.int .i64 (x 2 : Nat)) := H3.out.bx.cell 3; clear h1 h2 h3)
      | (go_at_call 34; refine (allocate_any A' m c' hm b x _ HH.out HR3.out HX.out).mono ?_; rintro e w4 ⟨g4, d4, rfl, hor, harr, hb, hg⟩; have H4 := hid (H3.out.below hb); have HR4 := hid (HR1.out.now hb); have HB4 := hid (on HB3.out hb); have HOR := hid hor; have HAR := hid harr; have HG4 := hid (Nat.le_trans HB3.out.size hg); have f4 := H4.out.bx.free 4; have f5 := H4.out.bx.free 5; have k4 := H4.out.c4; have k5 := H4.out.c5; clear hor harr hb hg))
    all_goals
      have hbx := (H4.out.bx.set 4 (.slice A1 m c1)).set 5 (.slice (some ⟨g4, 0, none⟩) m m)
      rw [pc_put] at hbx
      have hp := arr_pvs HAR.out
      rw [KP_of HOR.out x] at hp
      have hg4 : g4 ≠ g := by have := HG4.out; have := HGL.out; omega
      have hpl : Pl ((w4.setCell ⟨g, 4, none⟩ (.slice A1 m c1)).setCell ⟨g, 5, none⟩ (.slice (some ⟨g4, 0, none⟩) m m)) g b x hm m A1 c1 (some ⟨g4, 0, none⟩) m := by
        refine ⟨hbx, ?_, ?_, HH.out, HOR.out.ordd, fun e => by cases e⟩
        · rw [setSize, setSize]
          exact (HR4.out.off _ _ fun ad e => by have := HG1.out ad e; have := HGL.out; show ad.block ≠ g; omega).off _ _ fun ad e => by have := HG1.out ad e; have := HGL.out; show ad.block ≠ g; omega
        · rw [setSize, setSize]
          exact (hp.off _ _ fun ad e => by injection e with e; subst e; exact hg4).off _ _ fun ad e => by injection e with e; subst e; exact hg4
      have HPL := hid hpl
      have HBF := hid (below_set (below_set (HB4.out.mono (Nat.le_of_lt HGL.out)) ⟨g, 4, none⟩ (.slice A1 m c1) (Nat.le_refl g)) ⟨g, 5, none⟩ (.slice (some ⟨g4, 0, none⟩) m m) (Nat.le_refl g))
      clear hbx hp hg4 hpl
      go_wp2
      go_ret
      exact .inr ⟨HH.out, rfl, HBF.out, _, _, _, _, HPL.out⟩
  · rw [dec_false hH] at HCH
    have HH := hid hH
    clear hH
    go_enter Try.func22, Try.ntmps22
    go_wp2_with (go_at_call 32; refine HCH.out.mono ?_; rintro e w2 ⟨rfl, hb⟩; have HB2 := hid hb; clear hb)
    go_ret
    exact .inl ⟨HH.out, rfl, HB2.out⟩
end Go.Proofs.Ytcibhmbneedghaa
