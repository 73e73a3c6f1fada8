/-
  What is proved: what a plan is in memory; slices.Clone of hints and of parts; karma's Set, Parts. Condition: the plan lies in memory as one, the hints are read as such.
-/
import Derived.Test.YtbcejfonkehjgaaGreatDoorK14
import Derived.Laws.Cover3
import Derived.Test.YtbcejfonkehjgaaGreatDoorK01
namespace Go.Proofs.YtbcejfonkehjgaaGreatDoor
open Go.RowKit

theorem infoHint : (Tryz.prog.info? 101).map (fun i => (i.zero, i.size, i.bytes)) = some (some (.agg #[.int .i64 0, .int .i64 0, .int .i64 0, .bool false]), 4, 32) := by kernel_rfl
theorem elt_hint : Elt Tryz.prog 23 101 (.agg #[.int .i64 0, .int .i64 0, .int .i64 0, .bool false]) 4 32 := ⟨Tryz.underlying23, infoHint, rfl, by decide⟩
def RowQ (us : List Value) (n : Nat) (w : World) (e : Ending) (w' : World) : Prop :=
  ∃ A c, e = .returned (.slice A n c) ∧ Rv w' w'.heap.size A us ∧ Below w.heap.size w w' ∧ ∀ ad, A = some ad → w.heap.size ≤ ad.block
theorem own_row {w w' : World} {b s n : Nat} {e : TypeId} {v : Value} {us : List Value} (h : OwnV w' b e s v n us) (hb : w.heap.size ≤ b) : ∃ A c, v = .slice A n c ∧ Rv w' w'.heap.size A us ∧ ∀ ad, A = some ad → w.heap.size ≤ ad.block := by
  obtain ⟨A, c, e, hr, -, -⟩ := OwnV.read h
  exact ⟨A, c, e, hr, fun ad ea => Nat.le_trans hb (World.ownsRow.lt h ad.block (by rw [e, ea]; rfl)).1⟩
theorem rv_none {w : World} {B : Nat} {us : List Value} (h : Rv w B none us) : us = [] := by
  cases us with
  | nil => rfl
  | cons x r => obtain ⟨_, e, _⟩ := h 0 x rfl; cases e
theorem eql_nil {P : Program} (t e : TypeId) (a : Option Addr) (l c : Nat) (h : P.underlying t = some (.slice e)) (w : World) : (binOp .eql t (.slice a l c) (.slice none 0 0)).run P w = .ok (.bool a.isNone) w := by
  simp only [binOp]
  simp [run_equal_slice_nil w t e a l c h]
set_option maxHeartbeats 400000 in
theorem clone_hints (A : Option Addr) (n c : Nat) (hh : Nat → Hn) (w : World) (hn : n ≤ 1000) (hc : A = none → c = 0) (hr : Rv w w.heap.size A (hvs hh n)) :
    Calls Tryz.prog 50 #[.slice A n c] w (RowQ (hvs hh n) n w) := by
  cases A with
  | none =>
    have h0 := rv_none hr
    have hl := hvs_length hh n
    rw [h0] at hl
    obtain rfl : n = 0 := by simp at hl; omega
    obtain rfl := hc rfl
    rw [h0]
    clear h0 hl hr hc
    have hnil := fun w => eql_nil (P := Tryz.prog) 23 _ none 0 0 Tryz.underlying23 w
    rw [show (none : Option Addr).isNone = true from rfl] at hnil
    go_enter Tryz.func50, Tryz.ntmps50
    go_wp2
    go_ret
    exact ⟨none, 0, rfl, Rv.nil _ _ _, Below.refl _ _, fun ad e => by cases e⟩
  | some a =>
    have HR := hid hr
    clear hr hc
    have O := World.ownsRow_lit (size := 4) (e := 101) (base := w.heap.size) w #[] 0 (Nat.le_refl _) (by unfold maxLen; omega) rfl
    have HO := hid O
    clear O
    have hnil := fun w => eql_nil (P := Tryz.prog) 23 _ (some a) n c Tryz.underlying23 w
    rw [show (some a).isNone = false from rfl] at hnil
    go_enter Tryz.func50, Tryz.ntmps50
    go_wp2_with (at_builtin; refine wpList_appV elt_hint rfl _ _ rfl w.heap.size _ 0 [] HO.out rfl _ _ n c (hvs hh n) rfl (hvs_length hh n) (HR.out.below (below_alloc w _) (Nat.le_refl _)) (hvs_one hh n) (by unfold maxLen; omega) (by omega) (by rw [World.size_alloc]; omega) ?_; intro v' w2 hown2 hg2)
    have hb2 : Below w.heap.size w w2 := (below_alloc w _).trans (hg2.below HO.out (by rw [World.size_alloc]; omega))
    rw [List.nil_append, Nat.zero_add] at hown2
    obtain ⟨A', c', rfl, hr', hge⟩ := own_row (w := w) hown2 (Nat.le_refl _)
    have HF := hid (And.intro hr' (And.intro hb2 hge))
    clear hown2 hg2 hb2 hr' hge
    go_wp2
    go_ret
    exact ⟨A', c', rfl, HF.out.1, HF.out.2.1, HF.out.2.2⟩
set_option maxHeartbeats 400000 in
theorem clone_parts (A : Option Addr) (n c : Nat) (P : Nat → Nat → Int) (w : World) (hn : n ≤ 1000) (hc : A = none → c = 0) (hr : Rv w w.heap.size A (pvs P n)) :
    Calls Tryz.prog 146 #[.slice A n c] w (RowQ (pvs P n) n w) := by
  cases A with
  | none =>
    have h0 := rv_none hr
    have hl := pvs_length P n
    rw [h0] at hl
    obtain rfl : n = 0 := by simp at hl; omega
    obtain rfl := hc rfl
    rw [h0]
    clear h0 hl hr hc
    have hnil := fun w => eql_nil (P := Tryz.prog) 191 _ none 0 0 Tryz.underlying191 w
    rw [show (none : Option Addr).isNone = true from rfl] at hnil
    go_enter Tryz.func146, Tryz.ntmps146
    go_wp2
    go_ret
    exact ⟨none, 0, rfl, Rv.nil _ _ _, Below.refl _ _, fun ad e => by cases e⟩
  | some a =>
    have HR := hid hr
    clear hr hc
    have O := World.ownsRow_lit (size := 4) (e := 237) (base := w.heap.size) w #[] 0 (Nat.le_refl _) (by unfold maxLen; omega) rfl
    have HO := hid O
    clear O
    have hnil := fun w => eql_nil (P := Tryz.prog) 191 _ (some a) n c Tryz.underlying191 w
    rw [show (some a).isNone = false from rfl] at hnil
    go_enter Tryz.func146, Tryz.ntmps146
    go_wp2_with (at_builtin; refine wpList_appV elt_part rfl _ _ rfl w.heap.size _ 0 [] HO.out rfl _ _ n c (pvs P n) rfl (pvs_length P n) (HR.out.below (below_alloc w _) (Nat.le_refl _)) (pvs_one P n) (by unfold maxLen; omega) (by omega) (by rw [World.size_alloc]; omega) ?_; intro v' w2 hown2 hg2)
    have hb2 : Below w.heap.size w w2 := (below_alloc w _).trans (hg2.below HO.out (by rw [World.size_alloc]; omega))
    rw [List.nil_append, Nat.zero_add] at hown2
    obtain ⟨A', c', rfl, hr', hge⟩ := own_row (w := w) hown2 (Nat.le_refl _)
    have HF := hid (And.intro hr' (And.intro hb2 hge))
    clear hown2 hg2 hb2 hr' hge
    go_wp2
    go_ret
    exact ⟨A', c', rfl, HF.out.1, HF.out.2.1, HF.out.2.2⟩
noncomputable def kps (hh : Nat → Hn) (n : Nat) (x : Nat → Nat) (i t : Nat) : Int := (KP hh n x i t : Nat)
def pc (b : Int) (x : Nat → Nat) (A : Option Addr) (n c : Nat) (B : Option Addr) (m d : Nat) : Array Value := #[.int .i64 b, .int .i64 (x 0 : Nat), .int .i64 (x 1 : Nat), .int .i64 (x 2 : Nat), .slice A n c, .slice B m d]
structure Pl (w : World) (g : Nat) (b : Int) (x : Nat → Nat) (hh : Nat → Hn) (n : Nat) (A : Option Addr) (c : Nat) (B : Option Addr) (d : Nat) : Prop where
  bx : Bx w g 193 (pc b x A n c B n d)
  hr : Rv w w.heap.size A (hvs hh n)
  pr : Rv w w.heap.size B (pvs (kps hh n x) n)
  ok : HintsP hh n b
  od : OrdH hh n (ordd hh n)
  nb : B = none → d = 0
  fa : ∀ ad, A = some ad → g ≤ ad.block
  fb : ∀ ad, B = some ad → g ≤ ad.block
section
variable {w w' : World} {g n c d : Nat} {b : Int} {x : Nat → Nat} {hh : Nat → Hn} {A B : Option Addr}
theorem Pl.below (h : Pl w g b x hh n A c B d) (hb : Below w.heap.size w w') : Pl w' g b x hh n A c B d := ⟨h.bx.next hb, h.hr.now hb, h.pr.now hb, h.ok, h.od, h.nb, h.fa, h.fb⟩
theorem Pl.c4 (h : Pl w g b x hh n A c B d) : w.cell? ⟨g, 4, none⟩ = some (.slice A n c) := h.bx.cell 4
theorem Pl.c5 (h : Pl w g b x hh n A c B d) : w.cell? ⟨g, 5, none⟩ = some (.slice B n d) := h.bx.cell 5
set_option maxHeartbeats 400000 in
theorem parts_any (h : Pl w g b x hh n A c B d) : Calls Tryz.prog 113 #[.pointer (some ⟨g, 0, none⟩)] w (RowQ (pvs (kps hh n x) n) n w) := by
  have hn8 := h.ok.1
  have HC := hid (clone_parts B n d (kps hh n x) w (by omega) h.nb h.pr)
  have c5 := h.c5
  clear h
  go_enter Tryz.func113, Tryz.ntmps113
  go_wp2_with (go_at_call 146; refine HC.out.mono ?_; rintro e w2 ⟨A', c', rfl, h1, h2, h3⟩; have HF := hid (And.intro h1 (And.intro h2 h3)); clear h1 h2 h3)
  go_ret
  exact ⟨A', c', rfl, HF.out.1, HF.out.2.1, HF.out.2.2⟩
end
end Go.Proofs.YtbcejfonkehjgaaGreatDoor
namespace Go.Proofs.YtbcejfonkehjgaaGreatDoor
open Go.RowKit

theorem Rv.off {w : World} {B : Nat} {A : Option Addr} {us : List Value} (h : Rv w B A us) (p : Addr) (u : Value) (hA : ∀ ad, A = some ad → ad.block ≠ p.block) : Rv (w.setCell p u) B A us := fun j x hx => by
  obtain ⟨ad, e, hb, hc⟩ := h j x hx
  refine ⟨ad, e, hb, ?_⟩
  rw [World.cell?_setCell_other _ _ _ _ (by intro q; have := congrArg Addr.block q; rw [addBlk] at this; exact hA ad e this.symm)]
  exact hc
theorem pc_put (b : Int) (x : Nat → Nat) (A : Option Addr) (n c : Nat) (B : Option Addr) (m d : Nat) (A1 : Option Addr) (n1 c1 : Nat) (B1 : Option Addr) (m1 d1 : Nat) : ((pc b x A n c B m d).setIfInBounds 4 (.slice A1 n1 c1)).setIfInBounds 5 (.slice B1 m1 d1) = pc b x A1 n1 c1 B1 m1 d1 := by simp [pc]
def SetQ (w : World) (g : Nat) (b : Int) (x : Nat → Nat) (hm : Nat → Hn) (m : Nat) (e : Ending) (w' : World) : Prop :=
  (¬ HintsP hm m b ∧ e = .returned (.int .i64 14) ∧ Below w.heap.size w w') ∨ (HintsP hm m b ∧ e = .returned (.int .i64 0) ∧ Below g w w' ∧ ∃ A c B d, Pl w' g b x hm m A c B d)
theorem arr_pvs {w : World} {g n : Nat} {f : Nat → Nat → Nat} (h : Arr w g (n * 4) (ptv f)) : Rv w w.heap.size (some ⟨g, 0, none⟩) (pvs (fun i t => (f i t : Nat)) n) := fun j u hu => by
  have hj : j < n * 4 := by
    have := (List.getElem?_eq_some_iff.1 hu).1
    rwa [pvs_length] at this
  refine ⟨_, rfl, h.lt, ?_⟩
  rw [show (⟨g, 0, none⟩ : Addr).add j = ⟨g, j, none⟩ from by unfold Addr.add; split <;> simp_all, h.cell j hj, ← hu]
  unfold pvs ptv
  rw [List.getElem?_map, List.getElem?_range hj]
  rfl
set_option maxHeartbeats 2000000 in
theorem set_any {w : World} {g n c d : Nat} {b : Int} {x : Nat → Nat} {hh : Nat → Hn} {A B : Option Addr} (h : Pl w g b x hh n A c B d) (A' : Option Addr) (m c' : Nat) (hm : Nat → Hn) (hm1 : m ≤ 1000) (hb1 : 0 ≤ b) (hr : Rv w w.heap.size A' (hvs hm m)) (hc : A' = none → c' = 0) (hx : ∀ t, t < 3 → x t ≤ 1000) :
    Calls Tryz.prog 111 #[.pointer (some ⟨g, 0, none⟩), .slice A' m c'] w (SetQ w g b x hm m) := by
  have HCH := hid (chints_any A' m c' hm b w (by unfold maxLen; omega) (by omega) hr)
  have c0 : w.cell? ⟨g, 0, none⟩ = some (.int .i64 b) := h.bx.cell 0
  have H := hid h
  have HR := hid hr
  have HC := hid hc
  have HX := hid hx
  clear h hr hc hx
  by_cases hH : HintsP hm m b
  · rw [dec_true hH] at HCH
    have HH := hid hH
    clear hH
    go_enter Tryz.func111, Tryz.ntmps111
    go_upto_region 5 with (go_at_call 77; refine HCH.out.mono ?_; rintro e w2 ⟨rfl, hb⟩; have HB2 := hid hb; have H2 := hid (H.out.below hb); have HR2 := hid (HR.out.now hb); clear hb)
    clear c0
    have HD := hid (show Pl w2.drew g b x hh n A c B d from H2.out.below (below_draws (Below.refl _ _) 1))
    have HRD := hid (show Rv w2.drew w2.drew.heap.size A' (hvs hm m) from HR2.out.now (below_draws (Below.refl _ _) 1))
    have HBD := hid (show Below w.heap.size w w2.drew from below_draws HB2.out 1)
    have HGL := hid (show g < w.heap.size from H.out.bx.lt)
    have d1 : w2.drew.cell? ⟨g, 1, none⟩ = some (.int .i64 (x 0 : Nat)) := HD.out.bx.cell 1
    have d2 : w2.drew.cell? ⟨g, 2, none⟩ = some (.int .i64 (x 1 : Nat)) := HD.out.bx.cell 2
    have d3 : w2.drew.cell? ⟨g, 3, none⟩ = some (.int .i64 (x 2 : Nat)) := HD.out.bx.cell 3
    clear H2 HR2 HB2
    go_region_with (first
      | (go_at_call 50; refine (clone_hints A' m c' hm _ hm1 HC.out HRD.out).mono ?_; rintro e w3 ⟨A1, c1, rfl, h1, h2, h3⟩; have H3 := hid (HD.out.below h2); have HR3 := hid (HRD.out.now h2); have HB3 := hid (on HBD.out h2); have HR1 := hid h1; have HG1 := hid (fun ad e => Nat.le_trans HBD.out.size (h3 ad e)); have e1 : w3.cell? ⟨g, 1, none⟩ = some (.int .i64 (x 0 : Nat)) := H3.out.bx.cell 1; have e2 : w3.cell? ⟨g, 2, none⟩ = some (.int .i64 (x 1 : Nat)) := H3.out.bx.cell 2; have e3 : w3.cell? ⟨g, 3, none⟩ = some (.int .i64 (x 2 : Nat)) := H3.out.bx.cell 3; clear h1 h2 h3)
      | (go_at_call 144; refine (allocate_any A' m c' hm b x _ HH.out HR3.out HX.out).mono ?_; rintro e w4 ⟨g4, d4, rfl, hor, harr, hb, hg⟩; have H4 := hid (H3.out.below hb); have HR4 := hid (HR1.out.now hb); have HB4 := hid (on HB3.out hb); have HOR := hid hor; have HAR := hid harr; have HG4 := hid (Nat.le_trans HB3.out.size hg); have f4 := H4.out.bx.free 4; have f5 := H4.out.bx.free 5; have k4 := H4.out.c4; have k5 := H4.out.c5; clear hor harr hb hg))
    all_goals
      have hbx := (H4.out.bx.set 4 (.slice A1 m c1)).set 5 (.slice (some ⟨g4, 0, none⟩) m m)
      rw [pc_put] at hbx
      have hp := arr_pvs HAR.out
      rw [KP_of HOR.out x] at hp
      have hg4 : g4 ≠ g := by have := HG4.out; have := HGL.out; omega
      have hpl : Pl ((w4.setCell ⟨g, 4, none⟩ (.slice A1 m c1)).setCell ⟨g, 5, none⟩ (.slice (some ⟨g4, 0, none⟩) m m)) g b x hm m A1 c1 (some ⟨g4, 0, none⟩) m := by
        refine ⟨hbx, ?_, ?_, HH.out, HOR.out.ordd, (fun e => by cases e), (fun ad e => by have := HG1.out ad e; have := HGL.out; omega), fun ad e => by injection e with e; subst e; have := HG4.out; have := HGL.out; show g ≤ g4; omega⟩
        · rw [setSize, setSize]
          exact (HR4.out.off _ _ fun ad e => by have := HG1.out ad e; have := HGL.out; show ad.block ≠ g; omega).off _ _ fun ad e => by have := HG1.out ad e; have := HGL.out; show ad.block ≠ g; omega
        · rw [setSize, setSize]
          exact (hp.off _ _ fun ad e => by injection e with e; subst e; exact hg4).off _ _ fun ad e => by injection e with e; subst e; exact hg4
      have HPL := hid hpl
      have HBF := hid (below_set (below_set (HB4.out.mono (Nat.le_of_lt HGL.out)) ⟨g, 4, none⟩ (.slice A1 m c1) (Nat.le_refl g)) ⟨g, 5, none⟩ (.slice (some ⟨g4, 0, none⟩) m m) (Nat.le_refl g))
      clear hbx hp hg4 hpl
      go_wp2
      go_ret
      exact .inr ⟨HH.out, rfl, HBF.out, _, _, _, _, HPL.out⟩
  · rw [dec_false hH] at HCH
    have HH := hid hH
    clear hH
    go_enter Tryz.func111, Tryz.ntmps111
    go_wp2_with (go_at_call 77; refine HCH.out.mono ?_; rintro e w2 ⟨rfl, hb⟩; have HB2 := hid hb; clear hb)
    go_ret
    exact .inl ⟨HH.out, rfl, HB2.out⟩
end Go.Proofs.YtbcejfonkehjgaaGreatDoor
namespace Go.Proofs.YtbcejfonkehjgaaGreatDoor
open Go.RowKit

abbrev f3 (a b c : Int) (i : Nat) : Int := [a, b, c].getD i 0
def cN (a b c : Int) (i : Nat) : Nat := (f3 a b c i).toNat
def CapP (b x y z : Int) : Prop := (1 ≤ b ∧ b ≤ 32) ∧ ¬ Outs 1 16 (f3 x y z) 3
def NewQ14 (w : World) (hh : Nat → Hn) (n : Nat) (b x y z : Int) (e : Ending) (w' : World) : Prop :=
  (¬ CapP b x y z ∧ e = .returned (.tuple #[.pointer none, .int .i64 6]) ∧ Below w.heap.size w w') ∨ (CapP b x y z ∧ ¬ HintsP hh n b ∧ e = .returned (.tuple #[.pointer none, .int .i64 14]) ∧ Below w.heap.size w w') ∨
  (CapP b x y z ∧ HintsP hh n b ∧ Below w.heap.size w w' ∧ ∃ g A c B d, e = .returned (.tuple #[.pointer (some ⟨g, 0, none⟩), .int .i64 0]) ∧ Pl w' g b (cN x y z) hh n A c B d ∧ w.heap.size ≤ g)
set_option maxRecDepth 20000 in
set_option maxHeartbeats 2000000 in
theorem new_any (A : Option Addr) (n c : Nat) (hh : Nat → Hn) (b x y z : Int) (w : World) (hn : n ≤ 1000) (hc : A = none → c = 0) (hr : Rv w w.heap.size A (hvs hh n)) :
    Calls Tryz.prog 78 #[.slice A n c, .int .i64 b, .agg #[.int .i64 x, .int .i64 y, .int .i64 z]] w (NewQ14 w hh n b x y z) := by
  have hb0 := below_alloc w (.cells #[.int .i64 x, .int .i64 y, .int .i64 z] 22)
  have hx0 := Bx.new w 22 #[.int .i64 x, .int .i64 y, .int .i64 z]
  have HR := hid hr
  have HC := hid hc
  have HB := hid hb0
  have HX := hid hx0
  clear hb0 hx0 hr hc
  obtain ⟨q0, hq0⟩ : ∃ q, w.heap.size = q := ⟨_, rfl⟩
  rw [hq0] at HX
  have HQ := hid hq0
  clear hq0
  go_enter Tryz.func78, Tryz.ntmps78
  go_upto_region 1 with fail
  rw [HQ.out]
  generalize w.alloc (.cells #[.int .i64 x, .int .i64 y, .int .i64 z] 22) = w1 at *
  have HBD := hid (show Below w.heap.size w w1.drew from below_draws HB.out 1)
  have HXD := hid (show Bx w1.drew q0 22 #[.int .i64 x, .int .i64 y, .int .i64 z] from HX.out)
  by_cases hb : b < 1 ∨ 32 < b
  · have HNC := hid (show ¬ CapP b x y z from fun h => by have := h.1; omega)
    have HO1 := hid (fun w p q h1 h2 => outs1_any b 1 32 p q w h1 h2)
    rw [decide_eq_true hb] at HO1
    clear hb
    -- drawn
    refine wp_region_noPanic ?_
    refine wp_region_held_drew (S := fun _ => True) (by kernel_rfl) ?_ (fun hHeld => ?_)
    · trivial
    refine tkv 1 (some 11) rfl ?_
    refine tkc 0 (some 10) rfl fun K hK => ?_
    go_simp
    refine (outside_any 1 32 _).mono ?_
    rintro e w2 ⟨v, rfl, hv, hb⟩
    obtain ⟨p, q, rfl, h1, h2, -, -⟩ := hv
    have HPQ := hid (HO1.out _ p q h1 h2)
    have HB2 := hid (show Below w.heap.size w w2 from on HBD.out hb)
    clear hb h1 h2
    go_simp
    refine hK.out _ _ trivial (fun hHeld => ?_)
    clear hK K
    (try simp only [Act.put, tkA, tk0, tk1])
    refine tkc 2 (some 12) rfl fun K hK => ?_
    go_simp
    refine HPQ.out.mono ?_
    rintro e w3 ⟨rfl, rfl⟩
    go_simp
    refine hK.out _ _ trivial (fun hHeld => ?_)
    clear hK K
    (try simp only [Act.put, tkA, tk0, tk1])
    refine tkv 3 (some 13) rfl ?_
    refine tks 4 (some 14) rfl ?_
    (try simp only [Act.put, tkA, tk0, tk1])
    refine tks 5 (some 15) rfl ?_
    (try simp only [Act.put, tkA, tk0, tk1])
    refine tks 6 (some 16) rfl ?_
    (try simp only [Act.put, tkA, tk0, tk1])
    refine tkv 7 (some 17) rfl ?_
    refine wpAnyH_done (by kernel_rfl) ?_ _
    refine NoPanic.normal ?_
    -- till here
    go_wp2
    go_ret2
    exact .inl ⟨HNC.out, rfl, HB2.out⟩
  · have HBB := hid (show 1 ≤ b ∧ b ≤ 32 from by omega)
    have HO1 := hid (fun w p q h1 h2 => outs1_any b 1 32 p q w h1 h2)
    rw [decide_eq_false hb] at HO1
    clear hb
    have HCF := hid (fun (w' : World) (v : Value) (hv : OutV w' 1 16 v) (hx : Bx w' q0 22 #[.int .i64 x, .int .i64 y, .int .i64 z]) => contains_out q0 3 3 (f3 x y z) 1 16 v w' (by omega) hv fun i hi => by
      rw [hx.cell]
      have h4 : i = 0 ∨ i = 1 ∨ i = 2 := by omega
      rcases h4 with rfl | rfl | rfl <;> rfl)
    by_cases hco : Outs 1 16 (f3 x y z) 3
    · rw [dec_true hco] at HCF
      have HNC := hid (show ¬ CapP b x y z from fun h => h.2 hco)
      clear hco
      go_region_with (first
        | (go_at_call 110; refine (HCF.out _ _ HV5.out HX5.out).mono ?_; rintro e w7 ⟨rfl, rfl⟩)
        | (go_at_call 142; refine HPQ.out.mono ?_; rintro e w3 ⟨rfl, rfl⟩)
        | (go_at_call 109; refine (outside_any 1 32 _).mono ?_; rintro e w2 ⟨v, rfl, hv, hb⟩; obtain ⟨p, q, rfl, h1, h2, -, -⟩ := hv; have HPQ := hid (HO1.out _ p q h1 h2); have HB2 := hid (show Below w.heap.size w w2 from on HBD.out hb); have HX2 := hid (HXD.out.next hb); clear hb h1 h2)
        | (go_at_call 109; refine (outside_any 1 16 _).mono ?_; rintro e w5 ⟨v, rfl, hv, hb⟩; have HV5 := hid hv; have HB5 := hid (on HB2.out hb); have HX5 := hid (HX2.out.next hb); clear hv hb))
      go_wp2
      go_ret2
      exact .inl ⟨HNC.out, rfl, HB5.out⟩
    · rw [dec_false hco] at HCF
      have HCP := hid (show CapP b x y z from ⟨HBB.out, hco⟩)
      clear hco
      go_region_with (first
        | (go_at_call 110; refine (HCF.out _ _ HV5.out HX5.out).mono ?_; rintro e w7 ⟨rfl, rfl⟩)
        | (go_at_call 142; refine HPQ.out.mono ?_; rintro e w3 ⟨rfl, rfl⟩)
        | (go_at_call 109; refine (outside_any 1 32 _).mono ?_; rintro e w2 ⟨v, rfl, hv, hb⟩; obtain ⟨p, q, rfl, h1, h2, -, -⟩ := hv; have HPQ := hid (HO1.out _ p q h1 h2); have HB2 := hid (show Below w.heap.size w w2 from on HBD.out hb); have HX2 := hid (HXD.out.next hb); clear hb h1 h2)
        | (go_at_call 109; refine (outside_any 1 16 _).mono ?_; rintro e w5 ⟨v, rfl, hv, hb⟩; have HV5 := hid hv; have HB5 := hid (on HB2.out hb); have HX5 := hid (HX2.out.next hb); clear hv hb))
      have y0 : w5.cell? ⟨q0, 0, none⟩ = some (.int .i64 x) := HX5.out.cell 0
      have y1 : w5.cell? ⟨q0, 1, none⟩ = some (.int .i64 y) := HX5.out.cell 1
      have y2 : w5.cell? ⟨q0, 2, none⟩ = some (.int .i64 z) := HX5.out.cell 2
      have hcr : ∀ i, i < 3 → 1 ≤ f3 x y z i ∧ f3 x y z i ≤ 16 := fun i hi => Classical.byContradiction fun h => HCP.out.2 ⟨i, hi, by omega⟩
      have HCR := hid (show ∀ t, t < 3 → cN x y z t ≤ 1000 from fun t ht => by have := hcr t ht; unfold cN; omega)
      have r0 := hcr 0 (by omega)
      have r1 := hcr 1 (by omega)
      have r2 := hcr 2 (by omega)
      have HE := hid (show pc b (cN x y z) none 0 0 none 0 0 = #[.int .i64 b, .int .i64 x, .int .i64 y, .int .i64 z, .slice none 0 0, .slice none 0 0] from by
        unfold pc
        rw [show ((cN x y z 0 : Nat) : Int) = x from Int.toNat_of_nonneg (by have := r0.1; show 0 ≤ f3 x y z 0; omega), show ((cN x y z 1 : Nat) : Int) = y from Int.toNat_of_nonneg (by have := r1.1; show 0 ≤ f3 x y z 1; omega), show ((cN x y z 2 : Nat) : Int) = z from Int.toNat_of_nonneg (by have := r2.1; show 0 ≤ f3 x y z 2; omega)])
      clear hcr r0 r1 r2
      go_upto_region 4 with fail
      clear y0 y1 y2
      have hbx := Bx.new w5 193 #[.int .i64 b, .int .i64 x, .int .i64 y, .int .i64 z, .slice none 0 0, .slice none 0 0]
      have hb6 := below_alloc w5 (.cells #[.int .i64 b, .int .i64 x, .int .i64 y, .int .i64 z, .slice none 0 0, .slice none 0 0] 193)
      have hpl : Pl (w5.alloc (.cells #[.int .i64 b, .int .i64 x, .int .i64 y, .int .i64 z, .slice none 0 0, .slice none 0 0] 193)) w5.heap.size b (cN x y z) (fun _ => ⟨0, 0, 0, false⟩) 0 none 0 none 0 :=
        ⟨by rw [HE.out]; exact hbx, Rv.nil _ _ _, Rv.nil _ _ _, ⟨by omega, fun i hi => absurd hi (Nat.not_lt_zero i), fun i hi => absurd hi (Nat.not_lt_zero i)⟩, ⟨fun i j h1 h2 => absurd h2 (Nat.not_lt_zero j), fun i hi => absurd hi (Nat.not_lt_zero i)⟩, fun _ => rfl, (fun _ e => by cases e), fun _ e => by cases e⟩
      have HSE := hid (set_any hpl A n c hh hn (by have := HBB.out; omega) (HR.out.now (on HB5.out hb6)) HC.out HCR.out)
      have HB6 := hid (on HB5.out hb6)
      have HG6 := hid (show w.heap.size ≤ w5.heap.size from HB5.out.size)
      have HB5' := hid (show Below w5.heap.size w5 _ from hb6)
      generalize w5.alloc (.cells #[.int .i64 b, .int .i64 x, .int .i64 y, .int .i64 z, .slice none 0 0, .slice none 0 0] 193) = w6 at *
      clear hbx hb6 hpl
      go_upto_region 5 with (go_at_call 111; refine HSE.out.mono ?_; rintro e w7 h7; rcases h7 with ⟨h1, rfl, h3⟩ | ⟨h1, rfl, h3, h4⟩)
      · have HN := hid h1
        have HB7 := hid (on HB6.out h3)
        clear h1 h3
        go_wp2
        go_ret2
        exact .inr (.inl ⟨HCP.out, HN.out, rfl, HB7.out⟩)
      · obtain ⟨A1, c1, B1, d1, hp⟩ := h4
        have HN := hid h1
        have HPL := hid hp
        have HB7 := hid (show Below w.heap.size w w7 from HB6.out.trans (h3.mono HG6.out))
        clear h1 h3 hp
        go_wp2
        go_ret2
        exact .inr (.inr ⟨HCP.out, HN.out, HB7.out, _, A1, c1, B1, d1, rfl, HPL.out, HG6.out⟩)
end Go.Proofs.YtbcejfonkehjgaaGreatDoor
namespace Go.Proofs.YtbcejfonkehjgaaGreatDoor
open Go.RowKit

theorem pvs_cell {w : World} {B : Option Addr} {P : Nat → Nat → Int} {n i t : Nat} (h : Rv w w.heap.size B (pvs P n)) (hi : i < n) (ht : t < 4) : ∃ bd, B = some bd ∧ w.cell? ((bd.add (i * 4)).add t) = some (.int .i64 (P i t)) := by
  obtain ⟨bd, e, _, q0⟩ := h _ _ (pvs_at P hi ht)
  exact ⟨bd, e, by rw [addAdd]; exact q0⟩
abbrev inR (hh : Nat → Hn) (b : Int) (i : Nat) : Prop := (hh i).f ≤ b ∧ b < (hh i).f + (hh i).s
def rgi (hh : Nat → Hn) (b : Int) : Nat → Option Nat
  | 0 => none
  | n + 1 => match rgi hh b n with
    | some i => some i
    | none => if inR hh b n then some n else none
theorem rgi_mono {hh : Nat → Hn} {b : Int} {j i : Nat} (h : rgi hh b j = some i) : ∀ {n : Nat}, j ≤ n → rgi hh b n = some i
  | 0, hn => by rw [show j = 0 by omega] at h; exact h
  | n + 1, hn => by
    by_cases e : j = n + 1
    · rw [← e]; exact h
    · unfold rgi
      rw [rgi_mono h (n := n) (by omega)]
theorem rgi_lt {hh : Nat → Hn} {b : Int} : ∀ {n i : Nat}, rgi hh b n = some i → i < n ∧ inR hh b i
  | 0, i, h => by cases h
  | n + 1, i, h => by
    unfold rgi at h
    cases hr : rgi hh b n with
    | some k =>
      rw [hr] at h
      injection h with h
      subst h
      have := rgi_lt hr
      exact ⟨by omega, this.2⟩
    | none =>
      rw [hr] at h
      dsimp only at h
      split at h
      · rename_i hc
        injection h with h
        subst h
        exact ⟨by omega, hc⟩
      · cases h
theorem rgi_yes {hh : Nat → Hn} {b : Int} {j n : Nat} (h0 : rgi hh b j = none) (h1 : inR hh b j) (hj : j < n) : rgi hh b n = some j :=
  rgi_mono (j := j + 1) (by unfold rgi; rw [h0]; exact if_pos h1) hj
theorem rgi_no {hh : Nat → Hn} {b : Int} {j : Nat} (h0 : rgi hh b j = none) (h1 : ¬ inR hh b j) : rgi hh b (j + 1) = none := by unfold rgi; rw [h0]; exact if_neg h1
section
variable {w : World} {g n c d : Nat} {b : Int} {x : Nat → Nat} {hh : Nat → Hn} {A B : Option Addr}
def rgV (o : Option Nat) : Value := .tuple #[.int .i64 ((o.getD 0 : Nat) : Int), .bool o.isSome]
set_option maxHeartbeats 1000000 in
theorem range_any (h : Pl w g b x hh n A c B d) (p : Int) : Calls Tryz.prog 168 #[.pointer (some ⟨g, 0, none⟩), .int .i64 p] w fun e w' => e = .returned (rgV (rgi hh p n)) ∧ Below w.heap.size w w' := by
  have hn8 := h.ok.1
  have c4 := h.c4
  have H := hid h
  clear h
  go_enter Tryz.func168, Tryz.ntmps168
  go_wp2
  clear c4
  go_loopg [15] n (fun gk t15 wr => ∃ j : Nat, j + gk = n ∧ t15 = .int .i64 j ∧ rgi hh p j = none ∧ Below w.heap.size w wr)
  case atStart => exact ⟨0, by omega, rfl, rfl, Below.refl _ _⟩
  case round =>
    obtain ⟨j, hj, rfl, hno, hb⟩ := hrel
    have HB := hid hb
    have HNO := hid hno
    clear hb hno
    by_cases hlt : j < n
    · have hlt' : (j : Int) < (n : Int) := by omega
      obtain ⟨ad, rfl, hat⟩ := (H.out.hr.now HB.out).hint hlt
      have ho := H.out.ok.2.1 j hlt
      have HY := hid (fun h => rgi_yes (n := n) HNO.out (show inR hh p j from h) hlt)
      have HN := hid (fun h => rgi_no HNO.out (show ¬ inR hh p j from h))
      obtain ⟨⟨f, s, o, l⟩, hH⟩ : ∃ x, hh j = x := ⟨_, rfl⟩
      unfold inR at HY HN
      rw [hH] at hat ho HY HN
      have c0 := hat.f
      have c1 := hat.s
      have c2 := hat.o
      have c3 := hat.l
      dsimp only at c0 c1 c2 c3 HY HN
      unfold okH at ho
      dsimp only at ho
      have hbx := below_alloc wr (.cells #[.int .i64 f, .int .i64 s, .int .i64 o, .bool l] 101)
      have HB3 := hid (on HB.out hbx)
      have HX3 := hid (hbox_new wr ⟨f, s, o, l⟩ 101)
      clear hat hH hbx
      go_upto_region 6 with fail
      obtain ⟨k, hk⟩ : ∃ k, wr.heap.size = k := ⟨_, rfl⟩
      rw [hk] at HX3 ⊢
      clear c0 c1 c2 c3
      generalize wr.alloc (.cells #[.int .i64 f, .int .i64 s, .int .i64 o, .bool l] 101) = w3 at *
      have x0 := HX3.out.f
      have x1 := HX3.out.s
      dsimp only at x0 x1
      by_cases h1 : p ≥ f
      · by_cases h2 : p < f + s
        · have HE := hid (HY.out ⟨h1, h2⟩)
          go_wp2
          go_ret2
          exact ⟨by rw [HE.out]; rfl, HB3.out⟩
        · have HE := hid (HN.out fun h => h2 h.2)
          go_wp2
          go_roundg (gk - 1)
          case measure => omega
          case rel => exact ⟨j + 1, by omega, by go_num, HE.out, HB3.out⟩
      · have HE := hid (HN.out fun h => h1 h.1)
        go_wp2
        go_roundg (gk - 1)
        case measure => omega
        case rel => exact ⟨j + 1, by omega, by go_num, HE.out, HB3.out⟩
    · have hlt' : ¬ (j : Int) < (n : Int) := by omega
      obtain rfl : j = n := by omega
      go_wp2
      go_ret2
      exact ⟨by rw [HNO.out]; rfl, HB.out⟩
noncomputable def ptV (hh : Nat → Hn) (n : Nat) (x : Nat → Nat) (o : Option Nat) (t : Int) : Int :=
  match o with
  | none => 0
  | some i => if 1 ≤ t ∧ t ≤ 3 then kps hh n x i (t - 1).toNat else 0
set_option maxHeartbeats 1000000 in
theorem part_any (h : Pl w g b x hh n A c B d) (p t : Int) : Calls Tryz.prog 163 #[.pointer (some ⟨g, 0, none⟩), .int .i64 p, .int .i64 t] w fun e w' => e = .returned (.int .i64 (ptV hh n x (rgi hh p n) t)) ∧ Below w.heap.size w w' := by
  have HRG := hid (range_any h p)
  have H := hid h
  have HLT := hid (fun i => rgi_lt (hh := hh) (b := p) (n := n) (i := i))
  clear h
  generalize rgi hh p n = o at *
  cases o with
  | none =>
    unfold rgV at HRG
    rw [show ((none : Option Nat).getD 0 : Nat) = 0 from rfl, show (none : Option Nat).isSome = false from rfl] at HRG
    go_enter Tryz.func163, Tryz.ntmps163
    go_wp2_with (go_at_call 168; refine HRG.out.mono ?_; rintro e w2 ⟨rfl, hb⟩; have HB := hid hb; clear hb)
    go_ret
    exact ⟨rfl, HB.out⟩
  | some i =>
    unfold rgV at HRG
    rw [show ((some i).getD 0 : Nat) = i from rfl, show (some i).isSome = true from rfl] at HRG
    have hin := (HLT.out i rfl).1
    have hn8 := H.out.ok.1
    have HO1 := hid (fun w p q h1 h2 => outs1_any t 1 3 p q w h1 h2)
    by_cases ht : t < 1 ∨ 3 < t
    · rw [decide_eq_true ht] at HO1
      have HE := hid (show ptV hh n x (some i) t = 0 from if_neg (by omega))
      clear ht
      go_enter Tryz.func163, Tryz.ntmps163
      go_wp2_with (first
        | (go_at_call 168; refine HRG.out.mono ?_; rintro e w2 ⟨rfl, hb⟩; have HB := hid hb; clear hb)
        | (go_at_call 142; refine HPQ.out.mono ?_; rintro e w4 ⟨rfl, rfl⟩)
        | (go_at_call 109; refine (outside_any 1 3 _).mono ?_; rintro e w3 ⟨v, rfl, hv, hb⟩; obtain ⟨q, r, rfl, h1, h2, -, -⟩ := hv; have HPQ := hid (HO1.out _ q r h1 h2); have HB3 := hid (on HB.out hb); clear hb h1 h2))
      go_ret
      exact ⟨by rw [HE.out]; rfl, HB3.out⟩
    · rw [decide_eq_false ht] at HO1
      obtain ⟨u, rfl, hu⟩ : ∃ u : Nat, t = (u : Int) + 1 ∧ u < 3 := ⟨(t - 1).toNat, by omega, by omega⟩
      have HE := hid (show ptV hh n x (some i) ((u : Int) + 1) = kps hh n x i u from by
        show (if _ then _ else _) = _
        rw [if_pos (by omega), show ((u : Int) + 1 - 1).toNat = u by omega])
      have hin' : (i : Int) < (n : Int) := by omega
      have hu4 : (u : Int) < 4 := by omega
      have hu5 : (u : Int) + 1 - 1 = (u : Int) := by omega
      clear ht
      go_enter Tryz.func163, Tryz.ntmps163
      go_upto_region 4 with (first
        | (go_at_call 168; refine HRG.out.mono ?_; rintro e w2 ⟨rfl, hb⟩; have HB := hid hb; have H2 := hid (H.out.below hb); clear hb)
        | (go_at_call 142; refine HPQ.out.mono ?_; rintro e w4 ⟨rfl, rfl⟩)
        | (go_at_call 109; refine (outside_any 1 3 _).mono ?_; rintro e w3 ⟨v, rfl, hv, hb⟩; obtain ⟨q, r, rfl, h1, h2, -, -⟩ := hv; have HPQ := hid (HO1.out _ q r h1 h2); have HB3 := hid (on HB.out hb); have H3 := hid (H2.out.below hb); clear hb h1 h2))
      have c5 := H3.out.c5
      obtain ⟨bd, rfl, q0⟩ := pvs_cell H3.out.pr hin (show u < 4 by omega)
      go_wp2
      go_ret
      exact ⟨by rw [HE.out]; rfl, HB3.out⟩
def lpV (hh : Nat → Hn) (o : Option Nat) : Bool :=
  match o with
  | none => false
  | some i => (hh i).l
set_option maxHeartbeats 1000000 in
theorem loop_any (h : Pl w g b x hh n A c B d) (p : Int) : Calls Tryz.prog 198 #[.pointer (some ⟨g, 0, none⟩), .int .i64 p] w fun e w' => e = .returned (.bool (lpV hh (rgi hh p n))) ∧ Below w.heap.size w w' := by
  have HRG := hid (range_any h p)
  have H := hid h
  have HLT := hid (fun i => rgi_lt (hh := hh) (b := p) (n := n) (i := i))
  clear h
  generalize rgi hh p n = o at *
  cases o with
  | none =>
    unfold rgV at HRG
    rw [show ((none : Option Nat).getD 0 : Nat) = 0 from rfl, show (none : Option Nat).isSome = false from rfl] at HRG
    go_enter Tryz.func198, Tryz.ntmps198
    go_wp2_with (go_at_call 168; refine HRG.out.mono ?_; rintro e w2 ⟨rfl, hb⟩; have HB := hid hb; clear hb)
    go_ret
    exact ⟨rfl, HB.out⟩
  | some i =>
    unfold rgV at HRG
    rw [show ((some i).getD 0 : Nat) = i from rfl, show (some i).isSome = true from rfl] at HRG
    have hin := (HLT.out i rfl).1
    have hn8 := H.out.ok.1
    have hin' : (i : Int) < (n : Int) := by omega
    go_enter Tryz.func198, Tryz.ntmps198
    go_upto_region 2 with (go_at_call 168; refine HRG.out.mono ?_; rintro e w2 ⟨rfl, hb⟩; have HB := hid hb; have H2 := hid (H.out.below hb); clear hb)
    have c4 := H2.out.c4
    obtain ⟨bd, rfl, hat⟩ := H2.out.hr.hint hin
    have q0 := hat.l
    clear hat
    go_wp2
    go_ret
    exact ⟨rfl, HB.out⟩
end
end Go.Proofs.YtbcejfonkehjgaaGreatDoor
