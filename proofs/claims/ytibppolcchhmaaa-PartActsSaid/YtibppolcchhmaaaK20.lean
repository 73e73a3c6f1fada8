/-
  What is proved: what a plan is in memory; slices.Clone of hints and of parts; karma's Set, Parts. Condition: the plan lies in memory as one, the hints are read as such.
-/
import Derived.Test.YtibppolcchhmaaaK19
import Derived.Laws.Cover3
namespace Go.Proofs.Ytibppolcchhmaaa
open Go.RowKit

theorem infoHint : (Try.prog.info? 58).map (fun i => (i.zero, i.size, i.bytes)) = some (some (.agg #[.int .i64 0, .int .i64 0, .int .i64 0, .bool false]), 4, 32) := by kernel_rfl
theorem elt_hint : Elt Try.prog 22 58 (.agg #[.int .i64 0, .int .i64 0, .int .i64 0, .bool false]) 4 32 := ⟨Try.underlying22, infoHint, rfl, by decide⟩
/-- a row that is told: new memory -/
def RowQ (us : List Value) (n : Nat) (w : World) (e : Ending) (w' : World) : Prop :=
  ∃ A c, e = .returned (.slice A n c) ∧ Rv w' w'.heap.size A us ∧ Below w.heap.size w w' ∧ ∀ ad, A = some ad → w.heap.size ≤ ad.block
theorem own_row {w w' : World} {b s n : Nat} {e : TypeId} {v : Value} {us : List Value} (h : OwnV w' b e s v n us) (hb : w.heap.size ≤ b) : ∃ A c, v = .slice A n c ∧ Rv w' w'.heap.size A us ∧ ∀ ad, A = some ad → w.heap.size ≤ ad.block := by
  obtain ⟨A, c, e, hr, -, -⟩ := OwnV.read h
  exact ⟨A, c, e, hr, fun ad ea => Nat.le_trans hb (World.ownsRow.lt h ad.block (by rw [e, ea]; rfl)).1⟩
theorem rv_none {w : World} {B : Nat} {us : List Value} (h : Rv w B none us) : us = [] := by
  cases us with
  | nil => rfl
  | cons x r => obtain ⟨_, e, _⟩ := h 0 x rfl; cases e
theorem eql_nil {P : Program} (t e : TypeId) (a : Option Addr) (l c : Nat) (h : P.underlying t = some (.slice e)) (w : World) : (binOp .eql t (.slice a l c) (.slice none 0 0)).run P w = .ok (.bool a.isNone) w := by
  simp only [binOp]
  simp [run_equal_slice_nil w t e a l c h]
set_option maxHeartbeats 400000 in
theorem clone_hints (A : Option Addr) (n c : Nat) (hh : Nat → Hn) (w : World) (hn : n ≤ 1000) (hc : A = none → c = 0) (hr : Rv w w.heap.size A (hvs hh n)) :
    Calls Try.prog 47 #[.slice A n c] w (RowQ (hvs hh n) n w) := by
  cases A with
  | none =>
    have h0 := rv_none hr
    have hl := hvs_length hh n
    rw [h0] at hl
    obtain rfl : n = 0 := by simp at hl; omega
    obtain rfl := hc rfl
    rw [h0]
    clear h0 hl hr hc
    have hnil := fun w => eql_nil (P := Try.prog) 22 _ none 0 0 Try.underlying22 w
    rw [show (none : Option Addr).isNone = true from rfl] at hnil
    go_enter Try.func47, Try.ntmps47
    go_wp2
    go_ret
    exact ⟨none, 0, rfl, Rv.nil _ _ _, Below.refl _ _, fun ad e => by cases e⟩
  | some a =>
    have HR := hid hr
    clear hr hc
    have O := World.ownsRow_lit (size := 4) (e := 58) (base := w.heap.size) w #[] 0 (Nat.le_refl _) (by unfold maxLen; omega) rfl
    have HO := hid O
    clear O
    have hnil := fun w => eql_nil (P := Try.prog) 22 _ (some a) n c Try.underlying22 w
    rw [show (some a).isNone = false from rfl] at hnil
    go_enter Try.func47, Try.ntmps47
    go_wp2_with (at_builtin; refine wpList_appV elt_hint rfl _ _ rfl w.heap.size _ 0 [] HO.out rfl _ _ n c (hvs hh n) rfl (hvs_length hh n) (HR.out.below (below_alloc w _) (Nat.le_refl _)) (hvs_one hh n) (by unfold maxLen; omega) (by omega) (by rw [World.size_alloc]; omega) ?_; intro v' w2 hown2 hg2)
    have hb2 : Below w.heap.size w w2 := (below_alloc w _).trans (hg2.below HO.out (by rw [World.size_alloc]; omega))
    rw [List.nil_append, Nat.zero_add] at hown2
    obtain ⟨A', c', rfl, hr', hge⟩ := own_row (w := w) hown2 (Nat.le_refl _)
    have HF := hid (And.intro hr' (And.intro hb2 hge))
    clear hown2 hg2 hb2 hr' hge
    go_wp2
    go_ret
    exact ⟨A', c', rfl, HF.out.1, HF.out.2.1, HF.out.2.2⟩
set_option maxHeartbeats 400000 in
theorem clone_parts (A : Option Addr) (n c : Nat) (P : Nat → Nat → Int) (w : World) (hn : n ≤ 1000) (hc : A = none → c = 0) (hr : Rv w w.heap.size A (pvs P n)) :
    Calls Try.prog 50 #[.slice A n c] w (RowQ (pvs P n) n w) := by
  cases A with
  | none =>
    have h0 := rv_none hr
    have hl := pvs_length P n
    rw [h0] at hl
    obtain rfl : n = 0 := by simp at hl; omega
    obtain rfl := hc rfl
    rw [h0]
    clear h0 hl hr hc
    have hnil := fun w => eql_nil (P := Try.prog) 61 _ none 0 0 Try.underlying61 w
    rw [show (none : Option Addr).isNone = true from rfl] at hnil
    go_enter Try.func50, Try.ntmps50
    go_wp2
    go_ret
    exact ⟨none, 0, rfl, Rv.nil _ _ _, Below.refl _ _, fun ad e => by cases e⟩
  | some a =>
    have HR := hid hr
    clear hr hc
    have O := World.ownsRow_lit (size := 4) (e := 83) (base := w.heap.size) w #[] 0 (Nat.le_refl _) (by unfold maxLen; omega) rfl
    have HO := hid O
    clear O
    have hnil := fun w => eql_nil (P := Try.prog) 61 _ (some a) n c Try.underlying61 w
    rw [show (some a).isNone = false from rfl] at hnil
    go_enter Try.func50, Try.ntmps50
    go_wp2_with (at_builtin; refine wpList_appV elt_part rfl _ _ rfl w.heap.size _ 0 [] HO.out rfl _ _ n c (pvs P n) rfl (pvs_length P n) (HR.out.below (below_alloc w _) (Nat.le_refl _)) (pvs_one P n) (by unfold maxLen; omega) (by omega) (by rw [World.size_alloc]; omega) ?_; intro v' w2 hown2 hg2)
    have hb2 : Below w.heap.size w w2 := (below_alloc w _).trans (hg2.below HO.out (by rw [World.size_alloc]; omega))
    rw [List.nil_append, Nat.zero_add] at hown2
    obtain ⟨A', c', rfl, hr', hge⟩ := own_row (w := w) hown2 (Nat.le_refl _)
    have HF := hid (And.intro hr' (And.intro hb2 hge))
    clear hown2 hg2 hb2 hr' hge
    go_wp2
    go_ret
    exact ⟨A', c', rfl, HF.out.1, HF.out.2.1, HF.out.2.2⟩
/-- the parts of a plan, as they are told -/
noncomputable def kps (hh : Nat → Hn) (n : Nat) (x : Nat → Nat) (i t : Nat) : Int := (KP hh n x i t : Nat)
/-- a plan's cells -/
def pc (b : Int) (x : Nat → Nat) (A : Option Addr) (n c : Nat) (B : Option Addr) (m d : Nat) : Array Value := #[.int .i64 b, .int .i64 (x 0 : Nat), .int .i64 (x 1 : Nat), .int .i64 (x 2 : Nat), .slice A n c, .slice B m d]
/-- a plan in memory -/
structure Pl (w : World) (g : Nat) (b : Int) (x : Nat → Nat) (hh : Nat → Hn) (n : Nat) (A : Option Addr) (c : Nat) (B : Option Addr) (d : Nat) : Prop where
  bx : Bx w g 63 (pc b x A n c B n d)
  hr : Rv w w.heap.size A (hvs hh n)
  pr : Rv w w.heap.size B (pvs (kps hh n x) n)
  ok : HintsP hh n b
  od : OrdH hh n (ordd hh n)
  nb : B = none → d = 0
section
variable {w w' : World} {g n c d : Nat} {b : Int} {x : Nat → Nat} {hh : Nat → Hn} {A B : Option Addr}
theorem Pl.below (h : Pl w g b x hh n A c B d) (hb : Below w.heap.size w w') : Pl w' g b x hh n A c B d := ⟨h.bx.next hb, h.hr.now hb, h.pr.now hb, h.ok, h.od, h.nb⟩
theorem Pl.c4 (h : Pl w g b x hh n A c B d) : w.cell? ⟨g, 4, none⟩ = some (.slice A n c) := h.bx.cell 4
theorem Pl.c5 (h : Pl w g b x hh n A c B d) : w.cell? ⟨g, 5, none⟩ = some (.slice B n d) := h.bx.cell 5
set_option maxHeartbeats 400000 in
theorem parts_any (h : Pl w g b x hh n A c B d) : Calls Try.prog 30 #[.pointer (some ⟨g, 0, none⟩)] w (RowQ (pvs (kps hh n x) n) n w) := by
  have hn8 := h.ok.1
  have HC := hid (clone_parts B n d (kps hh n x) w (by omega) h.nb h.pr)
  have c5 := h.c5
  clear h
  go_enter Try.func30, Try.ntmps30
  go_wp2_with (go_at_call 50; refine HC.out.mono ?_; rintro e w2 ⟨A', c', rfl, h1, h2, h3⟩; have HF := hid (And.intro h1 (And.intro h2 h3)); clear h1 h2 h3)
  go_ret
  exact ⟨A', c', rfl, HF.out.1, HF.out.2.1, HF.out.2.2⟩
end
theorem parts_nil (w : World) : Calls Try.prog 30 #[.pointer none] w fun e w' => e = .returned (.slice none 0 0) ∧ w = w' := by
  go_enter Try.func30, Try.ntmps30
  go_wp2
  go_ret
  exact ⟨rfl, rfl⟩
theorem set_nil (A : Option Addr) (n c : Nat) (w : World) : Calls Try.prog 28 #[.pointer none, .slice A n c] w fun e w' => e = .returned (.int .i64 7) ∧ w = w' := by
  go_enter Try.func28, Try.ntmps28
  go_wp2
  go_ret
  exact ⟨rfl, rfl⟩
end Go.Proofs.Ytibppolcchhmaaa
/-
  What is proved: karma's Set has the plan be by new hints, or changes nothing. Condition: the plan lies in memory as one, the hints are read as such.
-/
namespace Go.Proofs.Ytibppolcchhmaaa
open Go.RowKit

theorem Rv.off {w : World} {B : Nat} {A : Option Addr} {us : List Value} (h : Rv w B A us) (p : Addr) (u : Value) (hA : ∀ ad, A = some ad → ad.block ≠ p.block) : Rv (w.setCell p u) B A us := fun j x hx => by
  obtain ⟨ad, e, hb, hc⟩ := h j x hx
  refine ⟨ad, e, hb, ?_⟩
  rw [World.cell?_setCell_other _ _ _ _ (by intro q; have := congrArg Addr.block q; rw [addBlk] at this; exact hA ad e this.symm)]
  exact hc
theorem pc_put (b : Int) (x : Nat → Nat) (A : Option Addr) (n c : Nat) (B : Option Addr) (m d : Nat) (A1 : Option Addr) (n1 c1 : Nat) (B1 : Option Addr) (m1 d1 : Nat) : ((pc b x A n c B m d).setIfInBounds 4 (.slice A1 n1 c1)).setIfInBounds 5 (.slice B1 m1 d1) = pc b x A1 n1 c1 B1 m1 d1 := by simp [pc]
/-- what Set answers, and what is there then -/
def SetQ (w : World) (g : Nat) (b : Int) (x : Nat → Nat) (hm : Nat → Hn) (m : Nat) (e : Ending) (w' : World) : Prop :=
  (¬ HintsP hm m b ∧ e = .returned (.int .i64 14) ∧ Below w.heap.size w w') ∨ (HintsP hm m b ∧ e = .returned (.int .i64 0) ∧ Below g w w' ∧ ∃ A c B d, Pl w' g b x hm m A c B d)
theorem arr_pvs {w : World} {g n : Nat} {f : Nat → Nat → Nat} (h : Arr w g (n * 4) (ptv f)) : Rv w w.heap.size (some ⟨g, 0, none⟩) (pvs (fun i t => (f i t : Nat)) n) := fun j u hu => by
  have hj : j < n * 4 := by
    have := (List.getElem?_eq_some_iff.1 hu).1
    rwa [pvs_length] at this
  refine ⟨_, rfl, h.lt, ?_⟩
  rw [show (⟨g, 0, none⟩ : Addr).add j = ⟨g, j, none⟩ from by unfold Addr.add; split <;> simp_all, h.cell j hj, ← hu]
  unfold pvs ptv
  rw [List.getElem?_map, List.getElem?_range hj]
  rfl
set_option maxHeartbeats 2000000 in
theorem set_any {w : World} {g n c d : Nat} {b : Int} {x : Nat → Nat} {hh : Nat → Hn} {A B : Option Addr} (h : Pl w g b x hh n A c B d) (A' : Option Addr) (m c' : Nat) (hm : Nat → Hn) (hm1 : m ≤ 1000) (hb1 : 0 ≤ b) (hr : Rv w w.heap.size A' (hvs hm m)) (hc : A' = none → c' = 0) (hx : ∀ t, t < 3 → x t ≤ 1000) :
    Calls Try.prog 28 #[.pointer (some ⟨g, 0, none⟩), .slice A' m c'] w (SetQ w g b x hm m) := by
  have HCH := hid (chints_any A' m c' hm b w (by unfold maxLen; omega) (by omega) hr)
  have c0 : w.cell? ⟨g, 0, none⟩ = some (.int .i64 b) := h.bx.cell 0
  have H := hid h
  have HR := hid hr
  have HC := hid hc
  have HX := hid hx
  clear h hr hc hx
  by_cases hH : HintsP hm m b
  · rw [dec_true hH] at HCH
    have HH := hid hH
    clear hH
    go_enter Try.func28, Try.ntmps28
    go_upto_region 5 with (go_at_call 46; refine HCH.out.mono ?_; rintro e w2 ⟨rfl, hb⟩; have HB2 := hid hb; have H2 := hid (H.out.below hb); have HR2 := hid (HR.out.now hb); clear hb)
    clear c0
    have HD := hid (show Pl w2.drew g b x hh n A c B d from H2.out.below (below_draws (Below.refl _ _) 1))
    have HRD := hid (show Rv w2.drew w2.drew.heap.size A' (hvs hm m) from HR2.out.now (below_draws (Below.refl _ _) 1))
    have HBD := hid (show Below w.heap.size w w2.drew from below_draws HB2.out 1)
    have HGL := hid (show g < w.heap.size from H.out.bx.lt)
    have d1 : w2.drew.cell? ⟨g, 1, none⟩ = some (.int .i64 (x 0 : Nat)) := HD.out.bx.cell 1
    have d2 : w2.drew.cell? ⟨g, 2, none⟩ = some (.int .i64 (x 1 : Nat)) := HD.out.bx.cell 2
    have d3 : w2.drew.cell? ⟨g, 3, none⟩ = some (.int .i64 (x 2 : Nat)) := HD.out.bx.cell 3
    clear H2 HR2 HB2
    go_region_with (first
      | (go_at_call 47; refine (clone_hints A' m c' hm _ hm1 HC.out HRD.out).mono ?_; rintro e w3 ⟨A1, c1, rfl, h1, h2, h3⟩; have H3 := hid (HD.out.below h2); have HR3 := hid (HRD.out.now h2); have HB3 := hid (on HBD.out h2); have HR1 := hid h1; have HG1 := hid (fun ad e => Nat.le_trans HBD.out.size (h3 ad e)); have e1 : w3.cell? ⟨g, 1, none⟩ = some (.int .i64 (x 0 : Nat)) := H3.out.bx.cell 1; have e2 : w3.cell? ⟨g, 2, none⟩ = some (.int .i64 (x 1 : Nat)) := H3.out.bx.cell 2; have e3 : w3.cell? ⟨g, 3, none⟩ = some (.int .i64 (x 2 : Nat)) := H3.out.bx.cell 3; clear h1 h2 h3)
      | (go_at_call 48; refine (allocate_any A' m c' hm b x _ HH.out HR3.out HX.out).mono ?_; rintro e w4 ⟨g4, d4, rfl, hor, harr, hb, hg⟩; have H4 := hid (H3.out.below hb); have HR4 := hid (HR1.out.now hb); have HB4 := hid (on HB3.out hb); have HOR := hid hor; have HAR := hid harr; have HG4 := hid (Nat.le_trans HB3.out.size hg); have f4 := H4.out.bx.free 4; have f5 := H4.out.bx.free 5; have k4 := H4.out.c4; have k5 := H4.out.c5; clear hor harr hb hg))
    all_goals
      have hbx := (H4.out.bx.set 4 (.slice A1 m c1)).set 5 (.slice (some ⟨g4, 0, none⟩) m m)
      rw [pc_put] at hbx
      have hp := arr_pvs HAR.out
      rw [KP_of HOR.out x] at hp
      have hg4 : g4 ≠ g := by have := HG4.out; have := HGL.out; omega
      have hpl : Pl ((w4.setCell ⟨g, 4, none⟩ (.slice A1 m c1)).setCell ⟨g, 5, none⟩ (.slice (some ⟨g4, 0, none⟩) m m)) g b x hm m A1 c1 (some ⟨g4, 0, none⟩) m := by
        refine ⟨hbx, ?_, ?_, HH.out, HOR.out.ordd, fun e => by cases e⟩
        · rw [setSize, setSize]
          exact (HR4.out.off _ _ fun ad e => by have := HG1.out ad e; have := HGL.out; show ad.block ≠ g; omega).off _ _ fun ad e => by have := HG1.out ad e; have := HGL.out; show ad.block ≠ g; omega
        · rw [setSize, setSize]
          exact (hp.off _ _ fun ad e => by injection e with e; subst e; exact hg4).off _ _ fun ad e => by injection e with e; subst e; exact hg4
      have HPL := hid hpl
      have HBF := hid (below_set (below_set (HB4.out.mono (Nat.le_of_lt HGL.out)) ⟨g, 4, none⟩ (.slice A1 m c1) (Nat.le_refl g)) ⟨g, 5, none⟩ (.slice (some ⟨g4, 0, none⟩) m m) (Nat.le_refl g))
      clear hbx hp hg4 hpl
      go_wp2
      go_ret
      exact .inr ⟨HH.out, rfl, HBF.out, _, _, _, _, HPL.out⟩
  · rw [dec_false hH] at HCH
    have HH := hid hH
    clear hH
    go_enter Try.func28, Try.ntmps28
    go_wp2_with (go_at_call 46; refine HCH.out.mono ?_; rintro e w2 ⟨rfl, hb⟩; have HB2 := hid hb; clear hb)
    go_ret
    exact .inl ⟨HH.out, rfl, HB2.out⟩
end Go.Proofs.Ytibppolcchhmaaa
