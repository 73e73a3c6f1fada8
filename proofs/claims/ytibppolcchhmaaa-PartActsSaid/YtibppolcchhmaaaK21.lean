/-
  What is proved: karma's New answers a plan by the hints, or what is wrong. Condition: the hints are read as such.
-/
import Derived.Test.YtibppolcchhmaaaK20
namespace Go.Proofs.Ytibppolcchhmaaa
open Go.RowKit

abbrev f3 (a b c : Int) (i : Nat) : Int := [a, b, c].getD i 0
/-- three numbers, as capacities -/
def cN (a b c : Int) (i : Nat) : Nat := (f3 a b c i).toNat
/-- blocks and capacities may be -/
def CapP (b x y z : Int) : Prop := (1 ≤ b ∧ b ≤ 32) ∧ ¬ Outs 1 16 (f3 x y z) 3
/-- what New answers -/
def NewQ14 (w : World) (hh : Nat → Hn) (n : Nat) (b x y z : Int) (e : Ending) (w' : World) : Prop :=
  (¬ CapP b x y z ∧ e = .returned (.tuple #[.pointer none, .int .i64 6]) ∧ Below w.heap.size w w') ∨ (CapP b x y z ∧ ¬ HintsP hh n b ∧ e = .returned (.tuple #[.pointer none, .int .i64 14]) ∧ Below w.heap.size w w') ∨
  (CapP b x y z ∧ HintsP hh n b ∧ Below w.heap.size w w' ∧ ∃ g A c B d, e = .returned (.tuple #[.pointer (some ⟨g, 0, none⟩), .int .i64 0]) ∧ Pl w' g b (cN x y z) hh n A c B d ∧ w.heap.size ≤ g)
set_option maxHeartbeats 2000000 in
theorem new_any (A : Option Addr) (n c : Nat) (hh : Nat → Hn) (b x y z : Int) (w : World) (hn : n ≤ 1000) (hc : A = none → c = 0) (hr : Rv w w.heap.size A (hvs hh n)) :
    Calls Try.prog 9 #[.slice A n c, .int .i64 b, .agg #[.int .i64 x, .int .i64 y, .int .i64 z]] w (NewQ14 w hh n b x y z) := by
  have hb0 := below_alloc w (.cells #[.int .i64 x, .int .i64 y, .int .i64 z] 23)
  have hx0 := Bx.new w 23 #[.int .i64 x, .int .i64 y, .int .i64 z]
  have HR := hid hr
  have HC := hid hc
  have HB := hid hb0
  have HX := hid hx0
  clear hb0 hx0 hr hc
  obtain ⟨q0, hq0⟩ : ∃ q, w.heap.size = q := ⟨_, rfl⟩
  rw [hq0] at HX
  have HQ := hid hq0
  clear hq0
  go_enter Try.func9, Try.ntmps9
  go_upto_region 1 with fail
  rw [HQ.out]
  generalize w.alloc (.cells #[.int .i64 x, .int .i64 y, .int .i64 z] 23) = w1 at *
  have HBD := hid (show Below w.heap.size w w1.drew from below_draws HB.out 1)
  have HXD := hid (show Bx w1.drew q0 23 #[.int .i64 x, .int .i64 y, .int .i64 z] from HX.out)
  by_cases hb : b < 1 ∨ 32 < b
  · have HNC := hid (show ¬ CapP b x y z from fun h => by have := h.1; omega)
    have HO1 := hid (fun w p q h1 h2 => outs1_any b 1 32 p q w h1 h2)
    rw [decide_eq_true hb] at HO1
    clear hb
    -- drawn
    refine wp_region_noPanic ?_
    refine wp_region_held_drew (S := fun _ => True) (by kernel_rfl) ?_ (fun hHeld => ?_)
    · trivial
    refine wpAnyH_take (i := 1) (oi := ⟨some 11, _, _, _, _, _⟩) (v := ?_) rfl (by kernel_rfl) (by kernel_rfl) (by kernel_rfl) (fun _ _ _ h => h) (Or.inl ⟨by rfl, ?_⟩) (by assumption) ?_
    rotate_left 1
    · intro w0 hSw
      try dsimp only at hSw
      go_simp
      try with_reducible rfl
    (try simp only [Act.put, List.setIfInBounds_toArray, List.set_cons_zero, List.set_cons_succ])
    refine wpAnyH_ready (rs := [0]) (by kernel_rfl) (by simp) ?_
    refine AllReadyH.cons (o := ⟨some 10, _, _, _, _, _⟩) rfl (fun K hK => ?_) AllReadyH.nil
    rw [if_pos (by rfl)]
    go_simp
    refine (outside_any 1 32 _).mono ?_
    rintro e w2 ⟨v, rfl, hv, hb⟩
    obtain ⟨p, q, rfl, h1, h2, -, -⟩ := hv
    have HPQ := hid (HO1.out _ p q h1 h2)
    have HB2 := hid (show Below w.heap.size w w2 from on HBD.out hb)
    clear hb h1 h2
    go_simp
    refine hK.out _ _ trivial (fun hHeld => ?_)
    clear hK K
    (try simp only [Act.put, List.setIfInBounds_toArray, List.set_cons_zero, List.set_cons_succ])
    refine wpAnyH_ready (rs := [2]) (by kernel_rfl) (by simp) ?_
    refine AllReadyH.cons (o := ⟨some 12, _, _, _, _, _⟩) rfl (fun K hK => ?_) AllReadyH.nil
    rw [if_pos (by rfl)]
    go_simp
    refine HPQ.out.mono ?_
    rintro e w3 ⟨rfl, rfl⟩
    go_simp
    refine hK.out _ _ trivial (fun hHeld => ?_)
    clear hK K
    (try simp only [Act.put, List.setIfInBounds_toArray, List.set_cons_zero, List.set_cons_succ])
    refine wpAnyH_take (i := 3) (oi := ⟨some 13, _, _, _, _, _⟩) (v := ?_) rfl (by kernel_rfl) (by kernel_rfl) (by kernel_rfl) (fun _ _ _ h => h) (Or.inl ⟨by rfl, ?_⟩) (by assumption) ?_
    rotate_left 1
    · intro w0 hSw
      try dsimp only at hSw
      go_simp
      try with_reducible rfl
    (try simp only [Act.put, List.setIfInBounds_toArray, List.set_cons_zero, List.set_cons_succ])
    refine wpAnyH_take (i := 4) (oi := ⟨some 14, _, _, _, _, _⟩) (v := undef) rfl (by kernel_rfl) (by kernel_rfl) (by kernel_rfl) (fun _ _ _ h => h) (Or.inr ⟨by rfl, rfl⟩) (by assumption) ?_
    (try simp only [Act.put, List.setIfInBounds_toArray, List.set_cons_zero, List.set_cons_succ])
    refine wpAnyH_take (i := 5) (oi := ⟨some 15, _, _, _, _, _⟩) (v := undef) rfl (by kernel_rfl) (by kernel_rfl) (by kernel_rfl) (fun _ _ _ h => h) (Or.inr ⟨by rfl, rfl⟩) (by assumption) ?_
    (try simp only [Act.put, List.setIfInBounds_toArray, List.set_cons_zero, List.set_cons_succ])
    refine wpAnyH_take (i := 6) (oi := ⟨some 16, _, _, _, _, _⟩) (v := undef) rfl (by kernel_rfl) (by kernel_rfl) (by kernel_rfl) (fun _ _ _ h => h) (Or.inr ⟨by rfl, rfl⟩) (by assumption) ?_
    (try simp only [Act.put, List.setIfInBounds_toArray, List.set_cons_zero, List.set_cons_succ])
    refine wpAnyH_take (i := 7) (oi := ⟨some 17, _, _, _, _, _⟩) (v := ?_) rfl (by kernel_rfl) (by kernel_rfl) (by kernel_rfl) (fun _ _ _ h => h) (Or.inl ⟨by rfl, ?_⟩) (by assumption) ?_
    rotate_left 1
    · intro w0 hSw
      try dsimp only at hSw
      go_simp
      try with_reducible rfl
    (try simp only [Act.put, List.setIfInBounds_toArray, List.set_cons_zero, List.set_cons_succ])
    refine wpAnyH_done (by kernel_rfl) ?_ _
    refine NoPanic.normal ?_
    -- till here
    go_wp2
    go_ret2
    exact .inl ⟨HNC.out, rfl, HB2.out⟩
  · have HBB := hid (show 1 ≤ b ∧ b ≤ 32 from by omega)
    have HO1 := hid (fun w p q h1 h2 => outs1_any b 1 32 p q w h1 h2)
    rw [decide_eq_false hb] at HO1
    clear hb
    have HCF := hid (fun (w' : World) (v : Value) (hv : OutV w' 1 16 v) (hx : Bx w' q0 23 #[.int .i64 x, .int .i64 y, .int .i64 z]) => contains_out q0 3 3 (f3 x y z) 1 16 v w' (by omega) hv fun i hi => by
      rw [hx.cell]
      have h4 : i = 0 ∨ i = 1 ∨ i = 2 := by omega
      rcases h4 with rfl | rfl | rfl <;> rfl)
    by_cases hco : Outs 1 16 (f3 x y z) 3
    · rw [dec_true hco] at HCF
      have HNC := hid (show ¬ CapP b x y z from fun h => h.2 hco)
      clear hco
      go_region_with (first
        | (go_at_call 27; refine (HCF.out _ _ HV5.out HX5.out).mono ?_; rintro e w7 ⟨rfl, rfl⟩)
        | (go_at_call 44; refine HPQ.out.mono ?_; rintro e w3 ⟨rfl, rfl⟩)
        | (go_at_call 26; refine (outside_any 1 32 _).mono ?_; rintro e w2 ⟨v, rfl, hv, hb⟩; obtain ⟨p, q, rfl, h1, h2, -, -⟩ := hv; have HPQ := hid (HO1.out _ p q h1 h2); have HB2 := hid (show Below w.heap.size w w2 from on HBD.out hb); have HX2 := hid (HXD.out.next hb); clear hb h1 h2)
        | (go_at_call 26; refine (outside_any 1 16 _).mono ?_; rintro e w5 ⟨v, rfl, hv, hb⟩; have HV5 := hid hv; have HB5 := hid (on HB2.out hb); have HX5 := hid (HX2.out.next hb); clear hv hb))
      go_wp2
      go_ret2
      exact .inl ⟨HNC.out, rfl, HB5.out⟩
    · rw [dec_false hco] at HCF
      have HCP := hid (show CapP b x y z from ⟨HBB.out, hco⟩)
      clear hco
      go_region_with (first
        | (go_at_call 27; refine (HCF.out _ _ HV5.out HX5.out).mono ?_; rintro e w7 ⟨rfl, rfl⟩)
        | (go_at_call 44; refine HPQ.out.mono ?_; rintro e w3 ⟨rfl, rfl⟩)
        | (go_at_call 26; refine (outside_any 1 32 _).mono ?_; rintro e w2 ⟨v, rfl, hv, hb⟩; obtain ⟨p, q, rfl, h1, h2, -, -⟩ := hv; have HPQ := hid (HO1.out _ p q h1 h2); have HB2 := hid (show Below w.heap.size w w2 from on HBD.out hb); have HX2 := hid (HXD.out.next hb); clear hb h1 h2)
        | (go_at_call 26; refine (outside_any 1 16 _).mono ?_; rintro e w5 ⟨v, rfl, hv, hb⟩; have HV5 := hid hv; have HB5 := hid (on HB2.out hb); have HX5 := hid (HX2.out.next hb); clear hv hb))
      have y0 : w5.cell? ⟨q0, 0, none⟩ = some (.int .i64 x) := HX5.out.cell 0
      have y1 : w5.cell? ⟨q0, 1, none⟩ = some (.int .i64 y) := HX5.out.cell 1
      have y2 : w5.cell? ⟨q0, 2, none⟩ = some (.int .i64 z) := HX5.out.cell 2
      have hcr : ∀ i, i < 3 → 1 ≤ f3 x y z i ∧ f3 x y z i ≤ 16 := fun i hi => Classical.byContradiction fun h => HCP.out.2 ⟨i, hi, by omega⟩
      have HCR := hid (show ∀ t, t < 3 → cN x y z t ≤ 1000 from fun t ht => by have := hcr t ht; unfold cN; omega)
      have r0 := hcr 0 (by omega)
      have r1 := hcr 1 (by omega)
      have r2 := hcr 2 (by omega)
      have HE := hid (show pc b (cN x y z) none 0 0 none 0 0 = #[.int .i64 b, .int .i64 x, .int .i64 y, .int .i64 z, .slice none 0 0, .slice none 0 0] from by
        unfold pc
        rw [show ((cN x y z 0 : Nat) : Int) = x from Int.toNat_of_nonneg (by have := r0.1; show 0 ≤ f3 x y z 0; omega), show ((cN x y z 1 : Nat) : Int) = y from Int.toNat_of_nonneg (by have := r1.1; show 0 ≤ f3 x y z 1; omega), show ((cN x y z 2 : Nat) : Int) = z from Int.toNat_of_nonneg (by have := r2.1; show 0 ≤ f3 x y z 2; omega)])
      clear hcr r0 r1 r2
      go_upto_region 4 with fail
      clear y0 y1 y2
      have hbx := Bx.new w5 63 #[.int .i64 b, .int .i64 x, .int .i64 y, .int .i64 z, .slice none 0 0, .slice none 0 0]
      have hb6 := below_alloc w5 (.cells #[.int .i64 b, .int .i64 x, .int .i64 y, .int .i64 z, .slice none 0 0, .slice none 0 0] 63)
      have hpl : Pl (w5.alloc (.cells #[.int .i64 b, .int .i64 x, .int .i64 y, .int .i64 z, .slice none 0 0, .slice none 0 0] 63)) w5.heap.size b (cN x y z) (fun _ => ⟨0, 0, 0, false⟩) 0 none 0 none 0 :=
        ⟨by rw [HE.out]; exact hbx, Rv.nil _ _ _, Rv.nil _ _ _, ⟨by omega, fun i hi => absurd hi (Nat.not_lt_zero i), fun i hi => absurd hi (Nat.not_lt_zero i)⟩, ⟨fun i j h1 h2 => absurd h2 (Nat.not_lt_zero j), fun i hi => absurd hi (Nat.not_lt_zero i)⟩, fun _ => rfl⟩
      have HSE := hid (set_any hpl A n c hh hn (by have := HBB.out; omega) (HR.out.now (on HB5.out hb6)) HC.out HCR.out)
      have HB6 := hid (on HB5.out hb6)
      have HG6 := hid (show w.heap.size ≤ w5.heap.size from HB5.out.size)
      have HB5' := hid (show Below w5.heap.size w5 _ from hb6)
      generalize w5.alloc (.cells #[.int .i64 b, .int .i64 x, .int .i64 y, .int .i64 z, .slice none 0 0, .slice none 0 0] 63) = w6 at *
      clear hbx hb6 hpl
      go_upto_region 5 with (go_at_call 28; refine HSE.out.mono ?_; rintro e w7 h7; rcases h7 with ⟨h1, rfl, h3⟩ | ⟨h1, rfl, h3, h4⟩)
      · have HN := hid h1
        have HB7 := hid (on HB6.out h3)
        clear h1 h3
        go_wp2
        go_ret2
        exact .inr (.inl ⟨HCP.out, HN.out, rfl, HB7.out⟩)
      · obtain ⟨A1, c1, B1, d1, hp⟩ := h4
        have HN := hid h1
        have HPL := hid hp
        have HB7 := hid (show Below w.heap.size w w7 from HB6.out.trans (h3.mono HG6.out))
        clear h1 h3 hp
        go_wp2
        go_ret2
        exact .inr (.inr ⟨HCP.out, HN.out, HB7.out, _, A1, c1, B1, d1, rfl, HPL.out, HG6.out⟩)
end Go.Proofs.Ytibppolcchhmaaa
/-
  What is proved: karma's Range, Part and Loop tell of a block its range, its part of a tier and its way to go; the reference's Range. Condition: the plan lies in memory as one, the hints are read as such.
-/
namespace Go.Proofs.Ytibppolcchhmaaa
open Go.RowKit

/-- one number of a part -/
theorem pvs_cell {w : World} {B : Option Addr} {P : Nat → Nat → Int} {n i t : Nat} (h : Rv w w.heap.size B (pvs P n)) (hi : i < n) (ht : t < 4) : ∃ bd, B = some bd ∧ w.cell? ((bd.add (i * 4)).add t) = some (.int .i64 (P i t)) := by
  obtain ⟨bd, e, _, q0⟩ := h _ _ (pvs_at P hi ht)
  exact ⟨bd, e, by rw [addAdd]; exact q0⟩
/-- a block is in a hint's range -/
abbrev inR (hh : Nat → Hn) (b : Int) (i : Nat) : Prop := (hh i).f ≤ b ∧ b < (hh i).f + (hh i).s
/-- the first range of n that a block is in -/
def rgi (hh : Nat → Hn) (b : Int) : Nat → Option Nat
  | 0 => none
  | n + 1 => match rgi hh b n with
    | some i => some i
    | none => if inR hh b n then some n else none
theorem rgi_mono {hh : Nat → Hn} {b : Int} {j i : Nat} (h : rgi hh b j = some i) : ∀ {n : Nat}, j ≤ n → rgi hh b n = some i
  | 0, hn => by rw [show j = 0 by omega] at h; exact h
  | n + 1, hn => by
    by_cases e : j = n + 1
    · rw [← e]; exact h
    · unfold rgi
      rw [rgi_mono h (n := n) (by omega)]
theorem rgi_lt {hh : Nat → Hn} {b : Int} : ∀ {n i : Nat}, rgi hh b n = some i → i < n ∧ inR hh b i
  | 0, i, h => by cases h
  | n + 1, i, h => by
    unfold rgi at h
    cases hr : rgi hh b n with
    | some k =>
      rw [hr] at h
      injection h with h
      subst h
      have := rgi_lt hr
      exact ⟨by omega, this.2⟩
    | none =>
      rw [hr] at h
      dsimp only at h
      split at h
      · rename_i hc
        injection h with h
        subst h
        exact ⟨by omega, hc⟩
      · cases h
theorem rgi_yes {hh : Nat → Hn} {b : Int} {j n : Nat} (h0 : rgi hh b j = none) (h1 : inR hh b j) (hj : j < n) : rgi hh b n = some j :=
  rgi_mono (j := j + 1) (by unfold rgi; rw [h0]; exact if_pos h1) hj
theorem rgi_no {hh : Nat → Hn} {b : Int} {j : Nat} (h0 : rgi hh b j = none) (h1 : ¬ inR hh b j) : rgi hh b (j + 1) = none := by unfold rgi; rw [h0]; exact if_neg h1
section
variable {w : World} {g n c d : Nat} {b : Int} {x : Nat → Nat} {hh : Nat → Hn} {A B : Option Addr}
/-- what Range answers -/
def rgV (o : Option Nat) : Value := .tuple #[.int .i64 ((o.getD 0 : Nat) : Int), .bool o.isSome]
set_option maxHeartbeats 1000000 in
theorem range_any (h : Pl w g b x hh n A c B d) (p : Int) : Calls Try.prog 24 #[.pointer (some ⟨g, 0, none⟩), .int .i64 p] w fun e w' => e = .returned (rgV (rgi hh p n)) ∧ Below w.heap.size w w' := by
  have hn8 := h.ok.1
  have c4 := h.c4
  have H := hid h
  clear h
  go_enter Try.func24, Try.ntmps24
  go_wp2
  clear c4
  go_loopg [15] n (fun gk t15 wr => ∃ j : Nat, j + gk = n ∧ t15 = .int .i64 j ∧ rgi hh p j = none ∧ Below w.heap.size w wr)
  case atStart => exact ⟨0, by omega, rfl, rfl, Below.refl _ _⟩
  case round =>
    obtain ⟨j, hj, rfl, hno, hb⟩ := hrel
    have HB := hid hb
    have HNO := hid hno
    clear hb hno
    by_cases hlt : j < n
    · have hlt' : (j : Int) < (n : Int) := by omega
      obtain ⟨ad, rfl, hat⟩ := (H.out.hr.now HB.out).hint hlt
      have ho := H.out.ok.2.1 j hlt
      have HY := hid (fun h => rgi_yes (n := n) HNO.out (show inR hh p j from h) hlt)
      have HN := hid (fun h => rgi_no HNO.out (show ¬ inR hh p j from h))
      obtain ⟨⟨f, s, o, l⟩, hH⟩ : ∃ x, hh j = x := ⟨_, rfl⟩
      unfold inR at HY HN
      rw [hH] at hat ho HY HN
      have c0 := hat.f
      have c1 := hat.s
      have c2 := hat.o
      have c3 := hat.l
      dsimp only at c0 c1 c2 c3 HY HN
      unfold okH at ho
      dsimp only at ho
      have hbx := below_alloc wr (.cells #[.int .i64 f, .int .i64 s, .int .i64 o, .bool l] 58)
      have HB3 := hid (on HB.out hbx)
      have HX3 := hid (hbox_new wr ⟨f, s, o, l⟩ 58)
      clear hat hH hbx
      go_upto_region 6 with fail
      obtain ⟨k, hk⟩ : ∃ k, wr.heap.size = k := ⟨_, rfl⟩
      rw [hk] at HX3 ⊢
      clear c0 c1 c2 c3
      generalize wr.alloc (.cells #[.int .i64 f, .int .i64 s, .int .i64 o, .bool l] 58) = w3 at *
      have x0 := HX3.out.f
      have x1 := HX3.out.s
      dsimp only at x0 x1
      by_cases h1 : p ≥ f
      · by_cases h2 : p < f + s
        · have HE := hid (HY.out ⟨h1, h2⟩)
          go_wp2
          go_ret2
          exact ⟨by rw [HE.out]; rfl, HB3.out⟩
        · have HE := hid (HN.out fun h => h2 h.2)
          go_wp2
          go_roundg (gk - 1)
          case measure => omega
          case rel => exact ⟨j + 1, by omega, by go_num, HE.out, HB3.out⟩
      · have HE := hid (HN.out fun h => h1 h.1)
        go_wp2
        go_roundg (gk - 1)
        case measure => omega
        case rel => exact ⟨j + 1, by omega, by go_num, HE.out, HB3.out⟩
    · have hlt' : ¬ (j : Int) < (n : Int) := by omega
      obtain rfl : j = n := by omega
      go_wp2
      go_ret2
      exact ⟨by rw [HNO.out]; rfl, HB.out⟩
/-- what Part answers -/
noncomputable def ptV (hh : Nat → Hn) (n : Nat) (x : Nat → Nat) (o : Option Nat) (t : Int) : Int :=
  match o with
  | none => 0
  | some i => if 1 ≤ t ∧ t ≤ 3 then kps hh n x i (t - 1).toNat else 0
set_option maxHeartbeats 1000000 in
theorem part_any (h : Pl w g b x hh n A c B d) (p t : Int) : Calls Try.prog 25 #[.pointer (some ⟨g, 0, none⟩), .int .i64 p, .int .i64 t] w fun e w' => e = .returned (.int .i64 (ptV hh n x (rgi hh p n) t)) ∧ Below w.heap.size w w' := by
  have HRG := hid (range_any h p)
  have H := hid h
  have HLT := hid (fun i => rgi_lt (hh := hh) (b := p) (n := n) (i := i))
  clear h
  generalize rgi hh p n = o at *
  cases o with
  | none =>
    unfold rgV at HRG
    rw [show ((none : Option Nat).getD 0 : Nat) = 0 from rfl, show (none : Option Nat).isSome = false from rfl] at HRG
    go_enter Try.func25, Try.ntmps25
    go_wp2_with (go_at_call 24; refine HRG.out.mono ?_; rintro e w2 ⟨rfl, hb⟩; have HB := hid hb; clear hb)
    go_ret
    exact ⟨rfl, HB.out⟩
  | some i =>
    unfold rgV at HRG
    rw [show ((some i).getD 0 : Nat) = i from rfl, show (some i).isSome = true from rfl] at HRG
    have hin := (HLT.out i rfl).1
    have hn8 := H.out.ok.1
    have HO1 := hid (fun w p q h1 h2 => outs1_any t 1 3 p q w h1 h2)
    by_cases ht : t < 1 ∨ 3 < t
    · rw [decide_eq_true ht] at HO1
      have HE := hid (show ptV hh n x (some i) t = 0 from if_neg (by omega))
      clear ht
      go_enter Try.func25, Try.ntmps25
      go_wp2_with (first
        | (go_at_call 24; refine HRG.out.mono ?_; rintro e w2 ⟨rfl, hb⟩; have HB := hid hb; clear hb)
        | (go_at_call 44; refine HPQ.out.mono ?_; rintro e w4 ⟨rfl, rfl⟩)
        | (go_at_call 26; refine (outside_any 1 3 _).mono ?_; rintro e w3 ⟨v, rfl, hv, hb⟩; obtain ⟨q, r, rfl, h1, h2, -, -⟩ := hv; have HPQ := hid (HO1.out _ q r h1 h2); have HB3 := hid (on HB.out hb); clear hb h1 h2))
      go_ret
      exact ⟨by rw [HE.out]; rfl, HB3.out⟩
    · rw [decide_eq_false ht] at HO1
      obtain ⟨u, rfl, hu⟩ : ∃ u : Nat, t = (u : Int) + 1 ∧ u < 3 := ⟨(t - 1).toNat, by omega, by omega⟩
      have HE := hid (show ptV hh n x (some i) ((u : Int) + 1) = kps hh n x i u from by
        show (if _ then _ else _) = _
        rw [if_pos (by omega), show ((u : Int) + 1 - 1).toNat = u by omega])
      have hin' : (i : Int) < (n : Int) := by omega
      have hu4 : (u : Int) < 4 := by omega
      have hu5 : (u : Int) + 1 - 1 = (u : Int) := by omega
      clear ht
      go_enter Try.func25, Try.ntmps25
      go_upto_region 4 with (first
        | (go_at_call 24; refine HRG.out.mono ?_; rintro e w2 ⟨rfl, hb⟩; have HB := hid hb; have H2 := hid (H.out.below hb); clear hb)
        | (go_at_call 44; refine HPQ.out.mono ?_; rintro e w4 ⟨rfl, rfl⟩)
        | (go_at_call 26; refine (outside_any 1 3 _).mono ?_; rintro e w3 ⟨v, rfl, hv, hb⟩; obtain ⟨q, r, rfl, h1, h2, -, -⟩ := hv; have HPQ := hid (HO1.out _ q r h1 h2); have HB3 := hid (on HB.out hb); have H3 := hid (H2.out.below hb); clear hb h1 h2))
      have c5 := H3.out.c5
      obtain ⟨bd, rfl, q0⟩ := pvs_cell H3.out.pr hin (show u < 4 by omega)
      go_wp2
      go_ret
      exact ⟨by rw [HE.out]; rfl, HB3.out⟩
/-- what Loop answers -/
def lpV (hh : Nat → Hn) (o : Option Nat) : Bool :=
  match o with
  | none => false
  | some i => (hh i).l
set_option maxHeartbeats 1000000 in
theorem loop_any (h : Pl w g b x hh n A c B d) (p : Int) : Calls Try.prog 40 #[.pointer (some ⟨g, 0, none⟩), .int .i64 p] w fun e w' => e = .returned (.bool (lpV hh (rgi hh p n))) ∧ Below w.heap.size w w' := by
  have HRG := hid (range_any h p)
  have H := hid h
  have HLT := hid (fun i => rgi_lt (hh := hh) (b := p) (n := n) (i := i))
  clear h
  generalize rgi hh p n = o at *
  cases o with
  | none =>
    unfold rgV at HRG
    rw [show ((none : Option Nat).getD 0 : Nat) = 0 from rfl, show (none : Option Nat).isSome = false from rfl] at HRG
    go_enter Try.func40, Try.ntmps40
    go_wp2_with (go_at_call 24; refine HRG.out.mono ?_; rintro e w2 ⟨rfl, hb⟩; have HB := hid hb; clear hb)
    go_ret
    exact ⟨rfl, HB.out⟩
  | some i =>
    unfold rgV at HRG
    rw [show ((some i).getD 0 : Nat) = i from rfl, show (some i).isSome = true from rfl] at HRG
    have hin := (HLT.out i rfl).1
    have hn8 := H.out.ok.1
    have hin' : (i : Int) < (n : Int) := by omega
    go_enter Try.func40, Try.ntmps40
    go_upto_region 2 with (go_at_call 24; refine HRG.out.mono ?_; rintro e w2 ⟨rfl, hb⟩; have HB := hid hb; have H2 := hid (H.out.below hb); clear hb)
    have c4 := H2.out.c4
    obtain ⟨bd, rfl, hat⟩ := H2.out.hr.hint hin
    have q0 := hat.l
    clear hat
    go_wp2
    go_ret
    exact ⟨rfl, HB.out⟩
end
theorem range_nil (p : Int) (w : World) : Calls Try.prog 24 #[.pointer none, .int .i64 p] w fun e w' => e = .returned (.tuple #[.int .i64 0, .bool false]) ∧ w = w' := by
  go_enter Try.func24, Try.ntmps24
  go_wp2
  go_ret2
  exact ⟨rfl, rfl⟩
theorem part_nil (p t : Int) (w : World) : Calls Try.prog 25 #[.pointer none, .int .i64 p, .int .i64 t] w fun e w' => e = .returned (.int .i64 0) ∧ w = w' := by
  go_enter Try.func25, Try.ntmps25
  go_wp2_with (go_at_call 24; refine (range_nil _ _).mono ?_; rintro e w2 ⟨rfl, rfl⟩)
  go_ret
  exact ⟨rfl, rfl⟩
theorem loop_nil (p : Int) (w : World) : Calls Try.prog 40 #[.pointer none, .int .i64 p] w fun e w' => e = .returned (.bool false) ∧ w = w' := by
  go_enter Try.func40, Try.ntmps40
  go_wp2_with (go_at_call 24; refine (range_nil _ _).mono ?_; rintro e w2 ⟨rfl, rfl⟩)
  go_ret
  exact ⟨rfl, rfl⟩
/-- what the reference's Range answers -/
def rrV (o : Option Nat) : Int := match o with | some i => (i : Int) | none => -1
set_option maxHeartbeats 1000000 in
theorem rrange_any (A : Option Addr) (n c : Nat) (hh : Nat → Hn) (b p : Int) (w : World) (hp0 : -9223372036854775808 ≤ p) (hp1 : p ≤ 9223372036854775807) (hP : HintsP hh n b) (hr : Rv w w.heap.size A (hvs hh n)) :
    Calls Try.prog 32 #[.slice A n c, .int .i64 p] w fun e w' => e = .returned (.int .i64 (rrV (rgi hh p n))) ∧ ∃ k, w' = w.drewN k := by
  have hn8 := hP.1
  have HR := hid hr
  have HP := hid hP
  clear hr hP
  go_enter Try.func32, Try.ntmps32
  go_wp2
  go_loopg [5] n (fun gk t5 wr => ∃ j k : Nat, j + gk = n ∧ t5 = .int .i64 j ∧ rgi hh p j = none ∧ wr = w.drewN k)
  case atStart => exact ⟨0, 0, by omega, rfl, rfl, rfl⟩
  case round =>
    obtain ⟨j, k, hj, rfl, hno, rfl⟩ := hrel
    have HNO := hid hno
    clear hno
    by_cases hlt : j < n
    · have hlt' : (j : Int) < (n : Int) := by omega
      obtain ⟨ad, rfl, hat⟩ := HR.out.hint hlt
      have ho := HP.out.2.1 j hlt
      have HY := hid (fun h => rgi_yes (n := n) HNO.out (show inR hh p j from h) hlt)
      have HN := hid (fun h => rgi_no HNO.out (show ¬ inR hh p j from h))
      obtain ⟨⟨f, s, o, l⟩, hH⟩ : ∃ x, hh j = x := ⟨_, rfl⟩
      unfold inR at HY HN
      rw [hH] at hat ho HY HN
      have c0 := hat.f
      have c1 := hat.s
      dsimp only at c0 c1
      dsimp only at HY HN
      unfold okH at ho
      dsimp only at ho
      clear hat hH
      go_upto_region 4 with fail
      by_cases h1 : p ≥ f
      · have d1 : decide (f ≤ p) = true := by simpa using h1
        by_cases h2 : p - f < s
        · have HE := hid (HY.out ⟨h1, by omega⟩)
          have d2 : decide (p - f < s) = true := by simpa using h2
          go_quiet (fail)
          go_wp2
          go_ret
          exact ⟨by rw [HE.out]; rfl, _, World.drewN_drewN _ _ _⟩
        · have HE := hid (HN.out fun h => h2 (by omega))
          have d2 : decide (p - f < s) = false := by simpa using h2
          go_quiet (fail)
          go_wp2
          go_roundg (gk - 1)
          case measure => omega
          case rel => exact ⟨j + 1, _, by omega, by go_num, HE.out, rfl⟩
      · have d1 : decide (f ≤ p) = false := by simpa using h1
        have HE := hid (HN.out fun h => h1 h.1)
        go_quiet (fail)
        go_wp2
        go_roundg (gk - 1)
        case measure => omega
        case rel => exact ⟨j + 1, _, by omega, by go_num, HE.out, rfl⟩
    · have hlt' : ¬ (j : Int) < (n : Int) := by omega
      obtain rfl : j = n := by omega
      go_wp2
      go_ret
      exact ⟨by rw [HNO.out]; rfl, k, rfl⟩
end Go.Proofs.Ytibppolcchhmaaa
