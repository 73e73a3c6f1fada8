/-
  What is proved: how a law's cache begins; New refuses what may not be; a Put's answer. No condition.
-/
import Derived.Test.YtmfdlkkligjcbaaGreatJ47
import Derived.Test.YtmfdlkkligjcbaaGreatJ03
import Derived.Test.YtmfdlkkligjcbaaGreatJ26
import Derived.Test.YtmfdlkkligjcbaaGreatJ17
import Derived.Deep.DeepCutAuto
import Derived.Deep.CutBlock
namespace Go.Proofs.YtmfdlkkligjcbaaGreat
open Go.RowKit

section
variable {c : Nat → Int} {A : Option Addr} {n cq : Nat} {hh : Nat → Hn} {w : World} {τ : Int}
set_option maxRecDepth 20000 in
set_option maxHeartbeats 1000000 in
theorem cm_new_no (hr : Rv w w.heap.size A (hvs hh n)) (hn : n ≤ maxLen) (h : ¬ (RightP c hh n ∧ 1 ≤ τ ∧ τ ≤ 3)) :
    Calls Tryz.prog 10 #[.agg (cfgC c A n cq), .int .i64 τ] w fun e w' => e = .returned (.tuple #[.pointer none, .int .i64 6]) ∧ Below w.heap.size w w' := by
  have hb0 := below_alloc w (.cells (cfgC c A n cq) 25)
  have HX0 := hid (Bx.new w 25 (cfgC c A n cq))
  have HB0 := hid hb0
  have HRI := hid (right_any A n cq c hh _ hn ((hr.below hb0 (Nat.le_refl _)).more hb0.size))
  by_cases rt : RightP c hh n
  · rw [dec_true rt] at HRI
    by_cases h1 : τ < 1
    · have d1 : decide (τ < 1) = true := decide_eq_true h1
      clear hr hb0 hn h rt h1
      go_enter Tryz.func10, Tryz.ntmps10
      go_upto_region 1 with fail
      obtain ⟨W0, hW0⟩ : ∃ x, w.alloc (.cells (cfgC c A n cq) 25) = x := ⟨_, rfl⟩
      obtain ⟨r0, hr0⟩ : ∃ x, w.heap.size = x := ⟨_, rfl⟩
      rw [hW0] at HB0 HX0 HRI ⊢
      rw [hr0] at HX0 ⊢
      clear hW0 hr0
      go_wp2_with (first
        | (go_at_call 32; refine HRI.out.mono ?_; rintro e w1 ⟨rfl, hb⟩; have HB1 := hid (on HB0.out hb); clear hb)
        | (refine wpList_load_bx rfl 25 (.tmp 2) rfl r0 _ _ _ rfl HX0.out Tryz.underlying25 rfl (by kernel_rfl) ?_))
      go_ret2
      exact ⟨rfl, HB1.out⟩
    · have d1 : decide (τ < 1) = false := decide_eq_false h1
      have d3 : decide (3 < τ) = true := decide_eq_true (Classical.byContradiction fun h3 => h ⟨rt, by omega, by omega⟩)
      clear hr hb0 hn h rt h1
      go_enter Tryz.func10, Tryz.ntmps10
      go_upto_region 1 with fail
      obtain ⟨W0, hW0⟩ : ∃ x, w.alloc (.cells (cfgC c A n cq) 25) = x := ⟨_, rfl⟩
      obtain ⟨r0, hr0⟩ : ∃ x, w.heap.size = x := ⟨_, rfl⟩
      rw [hW0] at HB0 HX0 HRI ⊢
      rw [hr0] at HX0 ⊢
      clear hW0 hr0
      go_wp2_with (first
        | (go_at_call 32; refine HRI.out.mono ?_; rintro e w1 ⟨rfl, hb⟩; have HB1 := hid (on HB0.out hb); clear hb)
        | (refine wpList_load_bx rfl 25 (.tmp 2) rfl r0 _ _ _ rfl HX0.out Tryz.underlying25 rfl (by kernel_rfl) ?_))
      go_ret2
      exact ⟨rfl, HB1.out⟩
  · rw [dec_false rt] at HRI
    clear hr hb0 hn h rt
    go_enter Tryz.func10, Tryz.ntmps10
    go_upto_region 1 with fail
    obtain ⟨W0, hW0⟩ : ∃ x, w.alloc (.cells (cfgC c A n cq) 25) = x := ⟨_, rfl⟩
    obtain ⟨r0, hr0⟩ : ∃ x, w.heap.size = x := ⟨_, rfl⟩
    rw [hW0] at HB0 HX0 HRI ⊢
    rw [hr0] at HX0 ⊢
    clear hW0 hr0
    go_wp2_with (first
      | (go_at_call 32; refine HRI.out.mono ?_; rintro e w1 ⟨rfl, hb⟩; have HB1 := hid (on HB0.out hb); clear hb)
      | (refine wpList_load_bx rfl 25 (.tmp 2) rfl r0 _ _ _ rfl HX0.out Tryz.underlying25 rfl (by kernel_rfl) ?_))
    go_ret2
    exact ⟨rfl, HB1.out⟩
end
end Go.Proofs.YtmfdlkkligjcbaaGreat
namespace Go.Proofs.YtmfdlkkligjcbaaGreat
open Go.RowKit

noncomputable def btw (x l m : Int) : Bool := dec (l ≤ x ∧ x ≤ m)
theorem btw_iff {x l m : Int} : btw x l m = true ↔ (l ≤ x ∧ x ≤ m) := by
  unfold btw
  by_cases h : l ≤ x ∧ x ≤ m
  · rw [dec_true h]; simp [h]
  · rw [dec_false h]; simp [h]
theorem between_any (x l m : Int) (w : World) : Calls Tryz.prog 35 #[.int .i64 x, .int .i64 l, .int .i64 m] w fun e w' => e = .returned (.bool (btw x l m)) ∧ w' = w := by
  go_enter Tryz.func35, Tryz.ntmps35
  go_wp2
  all_goals
    go_ret
    refine ⟨?_, rfl⟩
    unfold btw
    refine ret_dec ?_
    first
      | (simp only [decide_eq_true_eq]; omega)
      | exact ⟨(fun h => by cases h), (fun h => by omega)⟩

theorem all16 {c : Nat → Int} : (∀ i, i < 16 → lo i ≤ c i ∧ c i ≤ hi i) ↔
    ((1 ≤ c 0 ∧ c 0 ≤ 4) ∧ (1 ≤ c 1 ∧ c 1 ≤ 4) ∧ (1 ≤ c 2 ∧ c 2 ≤ 32) ∧ (1 ≤ c 3 ∧ c 3 ≤ 16)) ∧ ((1 ≤ c 4 ∧ c 4 ≤ 3) ∧ (0 ≤ c 5 ∧ c 5 ≤ 2)) ∧ (∀ t, t < 3 → (1 ≤ c (6 + t) ∧ c (6 + t) ≤ 2) ∧ (1 ≤ c (9 + t) ∧ c (9 + t) ≤ 16)) ∧
    ((1 ≤ c 12 ∧ c 12 ≤ 8) ∧ (1 ≤ c 13 ∧ c 13 ≤ 100) ∧ (0 ≤ c 14 ∧ c 14 ≤ 16) ∧ (1 ≤ c 15 ∧ c 15 ≤ 16)) := by
  constructor
  · intro h
    refine ⟨⟨h 0 (by omega), h 1 (by omega), h 2 (by omega), h 3 (by omega)⟩, ⟨h 4 (by omega), h 5 (by omega)⟩, fun t ht => ?_, h 12 (by omega), h 13 (by omega), h 14 (by omega), h 15 (by omega)⟩
    match t, ht with
    | 0, _ => exact ⟨h 6 (by omega), h 9 (by omega)⟩
    | 1, _ => exact ⟨h 7 (by omega), h 10 (by omega)⟩
    | 2, _ => exact ⟨h 8 (by omega), h 11 (by omega)⟩
  · rintro ⟨⟨h0, h1, h2, h3⟩, ⟨h4, h5⟩, ht, h12, h13, h14, h15⟩ i hi
    match i, hi with
    | 0, _ => exact h0
    | 1, _ => exact h1
    | 2, _ => exact h2
    | 3, _ => exact h3
    | 4, _ => exact h4
    | 5, _ => exact h5
    | 6, _ => exact (ht 0 (by omega)).1
    | 7, _ => exact (ht 1 (by omega)).1
    | 8, _ => exact (ht 2 (by omega)).1
    | 9, _ => exact (ht 0 (by omega)).2
    | 10, _ => exact (ht 1 (by omega)).2
    | 11, _ => exact (ht 2 (by omega)).2
    | 12, _ => exact h12
    | 13, _ => exact h13
    | 14, _ => exact h14
    | 15, _ => exact h15
    | n + 16, h => omega

def R1 (c : Nat → Int) : Prop := btw (c 0) 1 4 = true ∧ btw (c 1) 1 4 = true ∧ btw (c 2) 1 32 = true ∧ btw (c 3) 1 16 = true
def R2 (c : Nat → Int) : Prop := btw (c 4) 1 3 = true ∧ btw (c 5) 0 2 = true ∧ (c 5 = 0 ∨ c 4 = 2)
def RT (c : Nat → Int) (t : Nat) : Prop := btw (c (6 + t)) 1 2 = true ∧ btw (c (9 + t)) 1 16 = true
def R3 (c : Nat → Int) : Prop := btw (c 12) 1 8 = true ∧ btw (c 13) 1 100 = true ∧ btw (c 14) 0 16 = true ∧ btw (c 15) 1 16 = true
theorem right_iff {c : Nat → Int} {hh : Nat → Hn} {n : Nat} : RightP c hh n ↔ ((R1 c ∧ R2 c ∧ ∀ t, t < 3 → RT c t) ∧ R3 c) ∧ (c 5 = 2 ∨ n = 0) ∧ HintsP hh n (c 2) := by
  unfold RightP R1 R2 RT R3
  rw [all16]
  simp only [btw_iff]
  constructor
  · rintro ⟨⟨a1, ⟨a2, a3⟩, a4, a5⟩, a6, a7, a8⟩
    exact ⟨⟨⟨a1, ⟨a2, a3, a6⟩, a4⟩, a5⟩, a7, a8⟩
  · rintro ⟨⟨⟨a1, ⟨a2, a3, a6⟩, a4⟩, a5⟩, a7, a8⟩
    exact ⟨⟨a1, ⟨a2, a3⟩, a4, a5⟩, a6, a7, a8⟩
theorem rt_next {c : Nat → Int} {q : Nat} {b : Bool} {p : Prop} (h : b = true ↔ (p ∧ RT c q)) (e : p ↔ (R1 c ∧ R2 c ∧ ∀ t, t < q → RT c t)) : b = true ↔ (R1 c ∧ R2 c ∧ ∀ t, t < q + 1 → RT c t) := by
  rw [h, e]
  constructor
  · rintro ⟨⟨h1, h2, h3⟩, h4⟩
    refine ⟨h1, h2, fun t ht => ?_⟩
    by_cases et : t = q
    · rw [et]; exact h4
    · exact h3 t (by omega)
  · rintro ⟨h1, h2, h3⟩
    exact ⟨⟨h1, h2, fun t ht => h3 t (by omega)⟩, h3 q (by omega)⟩

set_option maxRecDepth 100000 in
set_option maxHeartbeats 4000000 in
theorem rright_any (A : Option Addr) (n cp : Nat) (c : Nat → Int) (hh : Nat → Hn) (w : World) (hn : n ≤ maxLen) (hr : Rv w w.heap.size A (hvs hh n)) :
    Calls Tryz.prog 11 #[.agg (cfgC c A n cp)] w fun e w' => e = .returned (.bool (dec (RightP c hh n))) ∧ Below w.heap.size w w' := by
  unfold maxLen at hn
  have HR := hid hr
  clear hr
  have HB := hid (below_alloc w (.cells (cfgC c A n cp) 25))
  have HX := hid (Bx.new w 25 (cfgC c A n cp))
  have hc : ∀ i, i < 16 → (w.alloc (.cells (cfgC c A n cp) 25)).cell? ⟨w.heap.size, i, none⟩ = some (.int .i64 (c i)) := fun i hi => by rw [HX.out.cell, cfgC_at _ _ _ _ _ hi]
  have c0 := hc 0 (by omega)
  have c1 := hc 1 (by omega)
  have c2 := hc 2 (by omega)
  have c3 := hc 3 (by omega)
  have c4 := hc 4 (by omega)
  have c5 := hc 5 (by omega)
  have c12 := hc 12 (by omega)
  have c13 := hc 13 (by omega)
  have c14 := hc 14 (by omega)
  have c15 := hc 15 (by omega)
  have c16 : (w.alloc (.cells (cfgC c A n cp) 25)).cell? ⟨w.heap.size, 16, none⟩ = some (.slice A n cp) := by rw [HX.out.cell]; rfl
  have HC := hid hc
  clear hc
  go_enter Tryz.func11, Tryz.ntmps11
  go_upto_region 1 with fail
  generalize w.alloc (.cells (cfgC c A n cp) 25) = w1 at *
  go_cut [3] (fun s3 wx => s3 = .bool (dec (R1 c)) ∧ w1 = wx)
  case first =>
    go_wp2_with (go_at_call 35; refine (between_any _ _ _ _).mono ?_; rintro e w' ⟨rfl, rfl⟩)
    all_goals
      go_meet
      exact ⟨val_dec (by unfold R1; simp [*]), rfl⟩
  case rest =>
    obtain ⟨rfl, rfl⟩ := hcut
    obtain ⟨b1, hb1⟩ : ∃ b, dec (R1 c) = b := ⟨_, rfl⟩
    have E1 := hid (show b1 = true ↔ R1 c by rw [← hb1]; exact dec_iff)
    rw [hb1]
    clear hb1
    go_upto_region 2 with fail
    go_cut [3] (fun s3 w2 => s3 = .bool (dec (R1 c ∧ R2 c ∧ ∀ t, t < 0 → RT c t)) ∧ w1 = w2)
    case first =>
      go_wp2_with (go_at_call 35; refine (between_any _ _ _ _).mono ?_; rintro e w' ⟨rfl, rfl⟩)
      all_goals
        go_meet
        exact ⟨val_dec (by rw [← E1.out]; unfold R2; have z1 : btw 0 0 2 = true := btw_iff.2 (by omega); have z2 : btw 2 1 3 = true := btw_iff.2 (by omega); simp [*]), rfl⟩
    case rest =>
      obtain ⟨rfl, rfl⟩ := hcut
      have hc := HC.out
      clear c0 c1 c2 c3 c4 c5 c12 c13 c14 c15 c16
      go_wp2_with fail
      go_loop [3, 4] (fun s i => ∃ q : Nat, q ≤ 3 ∧ i = .int .i64 q ∧ s = .bool (dec (R1 c ∧ R2 c ∧ ∀ t, t < q → RT c t))) (fun _ i => 3 - (intOf i).toNat)
      case atStart => exact ⟨0, by omega, rfl, rfl⟩
      case round =>
        obtain ⟨q, hq, rfl, rfl⟩ := hrel
        obtain ⟨b2, hb2⟩ : ∃ b, dec (R1 c ∧ R2 c ∧ ∀ t, t < q → RT c t) = b := ⟨_, rfl⟩
        have E2 := hid (show b2 = true ↔ (R1 c ∧ R2 c ∧ ∀ t, t < q → RT c t) by rw [← hb2]; exact dec_iff)
        rw [hb2]
        clear hb2
        by_cases hlt : q < 3
        · have hlt' : (q : Int) < 3 := by omega
          have x6 := hc (6 + q) (by omega)
          have x9 := hc (9 + q) (by omega)
          clear hc
          go_wp2_with (go_at_call 35; refine (between_any _ _ _ _).mono ?_; rintro e w' ⟨rfl, rfl⟩)
          all_goals
            go_round
            case rel => exact ⟨q + 1, by omega, by go_num, val_dec (rt_next (by unfold RT; simp [*]) E2.out)⟩
            case measure => simp [intOf]; omega
        · have hlt' : ¬ (q : Int) < 3 := by omega
          obtain rfl : q = 3 := by omega
          have c2 := hc 2 (by omega)
          have c5 := hc 5 (by omega)
          have c12 := hc 12 (by omega)
          have c13 := hc 13 (by omega)
          have c14 := hc 14 (by omega)
          have c15 := hc 15 (by omega)
          have c16 : w1.cell? ⟨w.heap.size, 16, none⟩ = some (.slice A n cp) := by rw [HX.out.cell]; rfl
          clear hc
          go_upto_region 7 with fail
          go_cut [3] (fun s3 w2 => s3 = .bool (dec ((R1 c ∧ R2 c ∧ ∀ t, t < 3 → RT c t) ∧ R3 c)) ∧ w1 = w2)
          case first =>
            go_wp2_with (go_at_call 35; refine (between_any _ _ _ _).mono ?_; rintro e w' ⟨rfl, rfl⟩)
            all_goals
              go_meet
              exact ⟨val_dec (by rw [← E2.out]; unfold R3; simp [*]), rfl⟩
          case rest =>
            obtain ⟨rfl, rfl⟩ := hcut
            obtain ⟨b3, hb3⟩ : ∃ b, dec ((R1 c ∧ R2 c ∧ ∀ t, t < 3 → RT c t) ∧ R3 c) = b := ⟨_, rfl⟩
            have E3 := hid (show b3 = true ↔ ((R1 c ∧ R2 c ∧ ∀ t, t < 3 → RT c t) ∧ R3 c) by rw [← hb3]; exact dec_iff)
            rw [hb3]
            clear hb3 c12 c13 c14 c15
            by_cases hk : b3 = true ∧ (c 5 = 2 ∨ n = 0)
            · obtain ⟨rfl, hk⟩ := hk
              have HK := hid hk
              have hb : ((c 5 == 2) = true) ∨ ((c 5 == 2) = false ∧ ((n : Int) == 0) = true) := by
                by_cases h : c 5 = 2
                · left; simp [h]
                · right; simp [h]; omega
              clear hk
              rcases hb with hb | ⟨hb, hb'⟩
              all_goals
                go_wp2_with fail
                refine (rhints_any A n cp hh _ _ (by unfold maxLen; omega) (HR.out.now HB.out)).mono ?_
                rintro e w3 ⟨rfl, hb3⟩
                go_wp2_with fail
                go_ret
                refine ⟨?_, on HB.out hb3⟩
                rw [dec_congr (show RightP c hh n ↔ HintsP hh n (c 2) by rw [right_iff]; exact ⟨fun h => h.2.2, fun h => ⟨E3.out.1 (by first | trivial | rfl), HK.out, h⟩⟩)]
                rfl
            · have HK := hid hk
              have hb : b3 = false ∨ (b3 = true ∧ (c 5 == 2) = false ∧ ((n : Int) == 0) = false) := by
                cases b3
                · left; rfl
                · right
                  have h1 : ¬ c 5 = 2 := fun h => hk ⟨rfl, .inl h⟩
                  have h2 : ¬ n = 0 := fun h => hk ⟨rfl, .inr h⟩
                  simp [h1, h2]
              clear hk
              rcases hb with rfl | ⟨rfl, hb, hb'⟩
              all_goals
                go_wp2_with fail
                go_ret
                refine ⟨?_, HB.out⟩
                rw [dec_false]
                · rfl
                · rw [right_iff]
                  exact fun h => HK.out ⟨E3.out.2 h.1, h.2.1⟩
end Go.Proofs.YtmfdlkkligjcbaaGreat
