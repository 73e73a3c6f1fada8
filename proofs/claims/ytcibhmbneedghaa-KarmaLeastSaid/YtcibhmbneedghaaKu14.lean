/-
  What is proved: karma's New answers a plan by the hints, or what is wrong. Condition: the hints are read as such.
-/
import Derived.Test.YtcibhmbneedghaaKt14
namespace Go.Proofs.Ytcibhmbneedghaa
open Go.RowKit

abbrev f3 (a b c : Int) (i : Nat) : Int := [a, b, c].getD i 0
/-- three numbers, as capacities -/
def cN (a b c : Int) (i : Nat) : Nat := (f3 a b c i).toNat
/-- blocks and capacities may be -/
def CapP (b x y z : Int) : Prop := (1 ≤ b ∧ b ≤ 32) ∧ ¬ Outs 1 16 (f3 x y z) 3
/-- what New answers -/
def NewQ (w : World) (hh : Nat → Hn) (n : Nat) (b x y z : Int) (e : Ending) (w' : World) : Prop :=
  (¬ CapP b x y z ∧ e = .returned (.tuple #[.pointer none, .int .i64 6]) ∧ Below w.heap.size w w') ∨ (CapP b x y z ∧ ¬ HintsP hh n b ∧ e = .returned (.tuple #[.pointer none, .int .i64 14]) ∧ Below w.heap.size w w') ∨
  (CapP b x y z ∧ HintsP hh n b ∧ Below w.heap.size w w' ∧ ∃ g A c B d, e = .returned (.tuple #[.pointer (some ⟨g, 0, none⟩), .int .i64 0]) ∧ Pl w' g b (cN x y z) hh n A c B d ∧ w.heap.size ≤ g)
set_option maxHeartbeats 2000000 in
theorem new_any (A : Option Addr) (n c : Nat) (hh : Nat → Hn) (b x y z : Int) (w : World) (hn : n ≤ 1000) (hc : A = none → c = 0) (hr : Rv w w.heap.size A (hvs hh n)) :
    Calls Try.prog 12 #[.slice A n c, .int .i64 b, .agg #[.int .i64 x, .int .i64 y, .int .i64 z]] w (NewQ w hh n b x y z) := by
  have hb0 := below_alloc w (.cells #[.int .i64 x, .int .i64 y, .int .i64 z] 23)
  have hx0 := Bx.new w 23 #[.int .i64 x, .int .i64 y, .int .i64 z]
  have HR := hid hr
  have HC := hid hc
  have HB := hid hb0
  have HX := hid hx0
  clear hb0 hx0 hr hc
  obtain ⟨q0, hq0⟩ : ∃ q, w.heap.size = q := ⟨_, rfl⟩
  rw [hq0] at HX
  have HQ := hid hq0
  clear hq0
  go_enter Try.func12, Try.ntmps12
  go_upto_region 1 with fail
  rw [HQ.out]
  generalize w.alloc (.cells #[.int .i64 x, .int .i64 y, .int .i64 z] 23) = w1 at *
  have HBD := hid (show Below w.heap.size w w1.drew from below_draws HB.out 1)
  have HXD := hid (show Bx w1.drew q0 23 #[.int .i64 x, .int .i64 y, .int .i64 z] from HX.out)
  by_cases hb : b < 1 ∨ 32 < b
  · have HNC := hid (show ¬ CapP b x y z from fun h => by have := h.1; omega)
    have HO1 := hid (fun w p q h1 h2 => outs1_any b 1 32 p q w h1 h2)
    rw [decide_eq_true hb] at HO1
    clear hb
    -- drawn
    refine wp_region_noPanic ?_
    refine wp_region_held_drew (S := fun _ => True) (by kernel_rfl) ?_ (fun hHeld => ?_)
    · trivial
    refine wpAnyH_take (i := 1) (oi := ⟨some 11, _, _, _, _, _⟩) (v := ?_) rfl (by kernel_rfl) (by kernel_rfl) (by kernel_rfl) (fun _ _ _ h => h) (Or.inl ⟨by rfl, ?_⟩) (by assumption) ?_
    rotate_left 1
    · intro w0 hSw
      try dsimp only at hSw
      go_simp
      try with_reducible rfl
    (try simp only [Act.put, List.setIfInBounds_toArray, List.set_cons_zero, List.set_cons_succ])
    refine wpAnyH_ready (rs := [0]) (by kernel_rfl) (by simp) ?_
    refine AllReadyH.cons (o := ⟨some 10, _, _, _, _, _⟩) rfl (fun K hK => ?_) AllReadyH.nil
    rw [if_pos (by rfl)]
    go_simp
    refine (outside_any 1 32 _).mono ?_
    rintro e w2 ⟨v, rfl, hv, hb⟩
    obtain ⟨p, q, rfl, h1, h2, -, -⟩ := hv
    have HPQ := hid (HO1.out _ p q h1 h2)
    have HB2 := hid (show Below w.heap.size w w2 from on HBD.out hb)
    clear hb h1 h2
    go_simp
    refine hK.out _ _ trivial (fun hHeld => ?_)
    clear hK K
    (try simp only [Act.put, List.setIfInBounds_toArray, List.set_cons_zero, List.set_cons_succ])
    refine wpAnyH_ready (rs := [2]) (by kernel_rfl) (by simp) ?_
    refine AllReadyH.cons (o := ⟨some 12, _, _, _, _, _⟩) rfl (fun K hK => ?_) AllReadyH.nil
    rw [if_pos (by rfl)]
    go_simp
    refine HPQ.out.mono ?_
    rintro e w3 ⟨rfl, rfl⟩
    go_simp
    refine hK.out _ _ trivial (fun hHeld => ?_)
    clear hK K
    (try simp only [Act.put, List.setIfInBounds_toArray, List.set_cons_zero, List.set_cons_succ])
    refine wpAnyH_take (i := 3) (oi := ⟨some 13, _, _, _, _, _⟩) (v := ?_) rfl (by kernel_rfl) (by kernel_rfl) (by kernel_rfl) (fun _ _ _ h => h) (Or.inl ⟨by rfl, ?_⟩) (by assumption) ?_
    rotate_left 1
    · intro w0 hSw
      try dsimp only at hSw
      go_simp
      try with_reducible rfl
    (try simp only [Act.put, List.setIfInBounds_toArray, List.set_cons_zero, List.set_cons_succ])
    refine wpAnyH_take (i := 4) (oi := ⟨some 14, _, _, _, _, _⟩) (v := undef) rfl (by kernel_rfl) (by kernel_rfl) (by kernel_rfl) (fun _ _ _ h => h) (Or.inr ⟨by rfl, rfl⟩) (by assumption) ?_
    (try simp only [Act.put, List.setIfInBounds_toArray, List.set_cons_zero, List.set_cons_succ])
    refine wpAnyH_take (i := 5) (oi := ⟨some 15, _, _, _, _, _⟩) (v := undef) rfl (by kernel_rfl) (by kernel_rfl) (by kernel_rfl) (fun _ _ _ h => h) (Or.inr ⟨by rfl, rfl⟩) (by assumption) ?_
    (try simp only [Act.put, List.setIfInBounds_toArray, List.set_cons_zero, List.set_cons_succ])
    refine wpAnyH_take (i := 6) (oi := ⟨some 16, _, _, _, _, _⟩) (v := undef) rfl (by kernel_rfl) (by kernel_rfl) (by kernel_rfl) (fun _ _ _ h => h) (Or.inr ⟨by rfl, rfl⟩) (by assumption) ?_
    (try simp only [Act.put, List.setIfInBounds_toArray, List.set_cons_zero, List.set_cons_succ])
    refine wpAnyH_take (i := 7) (oi := ⟨some 17, _, _, _, _, _⟩) (v := ?_) rfl (by kernel_rfl) (by kernel_rfl) (by kernel_rfl) (fun _ _ _ h => h) (Or.inl ⟨by rfl, ?_⟩) (by assumption) ?_
    rotate_left 1
    · intro w0 hSw
      try dsimp only at hSw
      go_simp
      try with_reducible rfl
    (try simp only [Act.put, List.setIfInBounds_toArray, List.set_cons_zero, List.set_cons_succ])
    refine wpAnyH_done (by kernel_rfl) ?_ _
    refine NoPanic.normal ?_
    -- till here
    go_wp2
    go_ret2
    exact .inl ⟨HNC.out, rfl, HB2.out⟩
  · have HBB := hid (show 1 ≤ b ∧ b ≤ 32 from by omega)
    have HO1 := hid (fun w p q h1 h2 => outs1_any b 1 32 p q w h1 h2)
    rw [decide_eq_false hb] at HO1
    clear hb
    have HCF := hid (fun (w' : World) (v : Value) (hv : OutV w' 1 16 v) (hx : Bx w' q0 23 #[.int .i64 x, .int .i64 y, .int .i64 z]) => contains_out q0 3 3 (f3 x y z) 1 16 v w' (by omega) hv fun i hi => by
      rw [hx.cell]
      have h4 : i = 0 ∨ i = 1 ∨ i = 2 := by omega
      rcases h4 with rfl | rfl | rfl <;> rfl)
    by_cases hco : Outs 1 16 (f3 x y z) 3
    · rw [dec_true hco] at HCF
      have HNC := hid (show ¬ CapP b x y z from fun h => h.2 hco)
      clear hco
      go_region_with (first
        | (go_at_call 28; refine (HCF.out _ _ HV5.out HX5.out).mono ?_; rintro e w7 ⟨rfl, rfl⟩)
        | (go_at_call 38; refine HPQ.out.mono ?_; rintro e w3 ⟨rfl, rfl⟩)
        | (go_at_call 27; refine (outside_any 1 32 _).mono ?_; rintro e w2 ⟨v, rfl, hv, hb⟩; obtain ⟨p, q, rfl, h1, h2, -, -⟩ := hv; have HPQ := hid (HO1.out _ p q h1 h2); have HB2 := hid (show Below w.heap.size w w2 from on HBD.out hb); have HX2 := hid (HXD.out.next hb); clear hb h1 h2)
        | (go_at_call 27; refine (outside_any 1 16 _).mono ?_; rintro e w5 ⟨v, rfl, hv, hb⟩; have HV5 := hid hv; have HB5 := hid (on HB2.out hb); have HX5 := hid (HX2.out.next hb); clear hv hb))
      go_wp2
      go_ret2
      exact .inl ⟨HNC.out, rfl, HB5.out⟩
    · rw [dec_false hco] at HCF
      have HCP := hid (show CapP b x y z from ⟨HBB.out, hco⟩)
      clear hco
      go_region_with (first
        | (go_at_call 28; refine (HCF.out _ _ HV5.out HX5.out).mono ?_; rintro e w7 ⟨rfl, rfl⟩)
        | (go_at_call 38; refine HPQ.out.mono ?_; rintro e w3 ⟨rfl, rfl⟩)
        | (go_at_call 27; refine (outside_any 1 32 _).mono ?_; rintro e w2 ⟨v, rfl, hv, hb⟩; obtain ⟨p, q, rfl, h1, h2, -, -⟩ := hv; have HPQ := hid (HO1.out _ p q h1 h2); have HB2 := hid (show Below w.heap.size w w2 from on HBD.out hb); have HX2 := hid (HXD.out.next hb); clear hb h1 h2)
        | (go_at_call 27; refine (outside_any 1 16 _).mono ?_; rintro e w5 ⟨v, rfl, hv, hb⟩; have HV5 := hid hv; have HB5 := hid (on HB2.out hb); have HX5 := hid (HX2.out.next hb); clear hv hb))
      have y0 : w5.cell? ⟨q0, 0, none⟩ = some (.int .i64 x) := HX5.out.cell 0
      have y1 : w5.cell? ⟨q0, 1, none⟩ = some (.int .i64 y) := HX5.out.cell 1
      have y2 : w5.cell? ⟨q0, 2, none⟩ = some (.int .i64 z) := HX5.out.cell 2
      have hcr : ∀ i, i < 3 → 1 ≤ f3 x y z i ∧ f3 x y z i ≤ 16 := fun i hi => Classical.byContradiction fun h => HCP.out.2 ⟨i, hi, by omega⟩
      have HCR := hid (show ∀ t, t < 3 → cN x y z t ≤ 1000 from fun t ht => by have := hcr t ht; unfold cN; omega)
      have r0 := hcr 0 (by omega)
      have r1 := hcr 1 (by omega)
      have r2 := hcr 2 (by omega)
      have HE := hid (show pc b (cN x y z) none 0 0 none 0 0 = #[.int .i64 b, .int .i64 x, .int .i64 y, .int .i64 z, .slice none 0 0, .slice none 0 0] from by
        unfold pc
        rw [show ((cN x y z 0 : Nat) : Int) = x from Int.toNat_of_nonneg (by have := r0.1; show 0 ≤ f3 x y z 0; omega), show ((cN x y z 1 : Nat) : Int) = y from Int.toNat_of_nonneg (by have := r1.1; show 0 ≤ f3 x y z 1; omega), show ((cN x y z 2 : Nat) : Int) = z from Int.toNat_of_nonneg (by have := r2.1; show 0 ≤ f3 x y z 2; omega)])
      clear hcr r0 r1 r2
      go_upto_region 4 with fail
      clear y0 y1 y2
      have hbx := Bx.new w5 63 #[.int .i64 b, .int .i64 x, .int .i64 y, .int .i64 z, .slice none 0 0, .slice none 0 0]
      have hb6 := below_alloc w5 (.cells #[.int .i64 b, .int .i64 x, .int .i64 y, .int .i64 z, .slice none 0 0, .slice none 0 0] 63)
      have hpl : Pl (w5.alloc (.cells #[.int .i64 b, .int .i64 x, .int .i64 y, .int .i64 z, .slice none 0 0, .slice none 0 0] 63)) w5.heap.size b (cN x y z) (fun _ => ⟨0, 0, 0, false⟩) 0 none 0 none 0 :=
        ⟨by rw [HE.out]; exact hbx, Rv.nil _ _ _, Rv.nil _ _ _, ⟨by omega, fun i hi => absurd hi (Nat.not_lt_zero i), fun i hi => absurd hi (Nat.not_lt_zero i)⟩, ⟨fun i j h1 h2 => absurd h2 (Nat.not_lt_zero j), fun i hi => absurd hi (Nat.not_lt_zero i)⟩, fun _ => rfl⟩
      have HSE := hid (set_any hpl A n c hh hn (by have := HBB.out; omega) (HR.out.now (on HB5.out hb6)) HC.out HCR.out)
      have HB6 := hid (on HB5.out hb6)
      have HG6 := hid (show w.heap.size ≤ w5.heap.size from HB5.out.size)
      have HB5' := hid (show Below w5.heap.size w5 _ from hb6)
      generalize w5.alloc (.cells #[.int .i64 b, .int .i64 x, .int .i64 y, .int .i64 z, .slice none 0 0, .slice none 0 0] 63) = w6 at *
      clear hbx hb6 hpl
      go_upto_region 5 with (go_at_call 22; refine HSE.out.mono ?_; rintro e w7 h7; rcases h7 with ⟨h1, rfl, h3⟩ | ⟨h1, rfl, h3, h4⟩)
      · have HN := hid h1
        have HB7 := hid (on HB6.out h3)
        clear h1 h3
        go_wp2
        go_ret2
        exact .inr (.inl ⟨HCP.out, HN.out, rfl, HB7.out⟩)
      · obtain ⟨A1, c1, B1, d1, hp⟩ := h4
        have HN := hid h1
        have HPL := hid hp
        have HB7 := hid (show Below w.heap.size w w7 from HB6.out.trans (h3.mono HG6.out))
        clear h1 h3 hp
        go_wp2
        go_ret2
        exact .inr (.inr ⟨HCP.out, HN.out, HB7.out, _, A1, c1, B1, d1, rfl, HPL.out, HG6.out⟩)
end Go.Proofs.Ytcibhmbneedghaa
