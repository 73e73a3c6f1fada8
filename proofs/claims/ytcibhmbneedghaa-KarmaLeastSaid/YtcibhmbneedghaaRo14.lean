/-
  What is proved: KarmaRoom's walk. Condition: hints are read as such.
-/
import Derived.Test.YtcibhmbneedghaaLw14
import Derived.Test.YtcibhmbneedghaaKc14
namespace Go.Proofs.Ytcibhmbneedghaa
open Go.RowKit

section
variable {hh : Nat → Hn} {n : Nat} {b : Int} {u : Nat → Nat}
theorem KP_sum (h : OrdH hh n (ordd hh n)) {i : Nat} (hi : i < n) : KP hh n u i 0 + KP hh n u i 1 + KP hh n u i 2 + KP hh n u i 3 = sz hh i := by
  obtain ⟨j, hj, rfl⟩ := h.on hi
  exact PP_sum h.inj hj
theorem KP_le (h : OrdH hh n (ordd hh n)) (hP : HintsP hh n b) {i t : Nat} (hi : i < n) : KP hh n u i t ≤ 32 := by
  obtain ⟨j, hj, e⟩ := h.on hi
  have h1 : KP hh n u i t = pr (sz hh (ordd hh n j)) (RM (sz hh) (ordd hh n) u j) t := by rw [← e]; exact PP_at h.inj hj t
  rw [h1]
  have h2 := pr_le (sz hh (ordd hh n j)) (RM (sz hh) (ordd hh n) u j) t
  have h3 := hP.2.1 i hi
  unfold okH at h3
  rw [e] at h2 ⊢
  unfold sz at h2 ⊢
  omega
/-- how many of the first j are in tier t -/
noncomputable def KS (hh : Nat → Hn) (n : Nat) (u : Nat → Nat) (t j : Nat) : Nat := sN (fun i => KP hh n u i t) j
theorem KS_le (h : OrdH hh n (ordd hh n)) (hP : HintsP hh n b) {t j : Nat} (hj : j ≤ n) : KS hh n u t j ≤ 256 := by
  have h1 : ∀ j, j ≤ n → KS hh n u t j ≤ 32 * j := fun j => by
    induction j with
    | zero => exact fun _ => Nat.le_refl _
    | succ j ih =>
      intro hj
      have := ih (by omega)
      have := KP_le (u := u) (t := t) h hP (i := j) (by omega)
      unfold KS at *
      rw [sN]
      omega
  have := h1 j hj
  have := hP.1
  omega
theorem KS_room (h : OrdH hh n (ordd hh n)) {t : Nat} (ht : t < 3) : KS hh n u t n ≤ u t ∧ (KS hh n u t n < u t → KS hh n u (t + 1) n = 0) := by
  have h1 := PP_room (z := sz hh) (c := u) h.inj h.lt ht (k := n) (Nat.le_refl n)
  refine ⟨?_, fun h2 => PP_next (z := sz hh) (c := u) h.inj h.lt ht (k := n) (Nat.le_refl n) ?_⟩
  · show sN (fun i => PP (sz hh) (ordd hh n) u n i t) n ≤ u t
    omega
  · have h3 : sN (fun i => PP (sz hh) (ordd hh n) u n i t) n < u t := h2
    omega
end
set_option maxRecDepth 20000 in
set_option maxHeartbeats 4000000 in
theorem room_bad (A : Option Addr) (n c : Nat) (hh : Nat → Hn) (b x y z : Int) (w : World) (hn : n ≤ 20) (hcA : A = none → c = 0) (hr : Rv w w.heap.size A (hvs hh n)) (hok : ¬ (CapP b x y z ∧ HintsP hh n b)) :
    Calls Try.prog 7 #[.agg #[.slice A n c, .int .i64 b, .int .i64 x, .int .i64 y, .int .i64 z]] w fun e w' => e = .returned (.bool true) ∧ Below w.heap.size w w' := by
  have hl20 : decide (20 < n) = false := by simp; omega
  have HLO := hid (fun w => long_any A n c b x y z w)
  rw [hl20] at HLO
  have HR := hid hr
  have HX0 := hid (Lx.new w A n c b x y z)
  obtain ⟨q, hq⟩ : ∃ q, w.heap.size = q := ⟨_, rfl⟩
  have HQ2 := hid hq
  rw [hq] at HX0
  have HN := hid (fun w (hr : Rv w w.heap.size A (hvs hh n)) => new_bad (w := w) (c := c) (b := b) (x := x) (y := y) (z := z) (by omega) hcA hr hok)
  clear hr hl20 hq hok hcA
  go_enter Try.func7, Try.ntmps7
  go_upto_region 1 with fail
  rw [HQ2.out]
  generalize w.alloc (.cells #[.slice A n c, .int .i64 b, .int .i64 x, .int .i64 y, .int .i64 z] 25) = w1 at *
  go_wp2_with (first
    | (go_at_call 10; refine (wakes_any _).mono ?_; rintro e w2 ⟨rfl, hb⟩; have HX2 := hid (HX0.out.below hb); obtain ⟨p0, p1, p2, p3, p4⟩ := HX2.out.all; clear hb)
    | (go_at_call 11; refine (HLO.out _).mono ?_; rintro e w3 ⟨rfl, hb⟩; have HX3 := hid (HX2.out.below hb); obtain ⟨r0, r1, r2, r3, r4⟩ := HX3.out.all; clear hb)
    | (go_at_call 12; refine (HN.out _ (HR.out.now HX3.out.bel)).mono ?_; rintro e w4 ⟨r, rfl, -, hr0, hb⟩; have HX4 := hid (HX3.out.below hb); clear hb))
  go_ret
  exact ⟨rfl, HX4.out.bel⟩
/-- what KarmaRoom's loops keep -/
structure Rom (w0 w : World) (q : Nat) (A : Option Addr) (n c : Nat) (b : Int) (u : Nat → Nat) (hh : Nat → Hn) (B : Option Addr) (s : Nat) (f : Nat → Nat) : Prop where
  x : Lx w0 w q A n c b (u 0 : Nat) (u 1 : Nat) (u 2 : Nat)
  r : Rv w w.heap.size B (pvs (kps hh n u) n)
  s : Arr w s 4 (fun t => .int .i64 (f t : Nat))
section
variable {w0 w w' : World} {q n c s : Nat} {A B : Option Addr} {b : Int} {u f g : Nat → Nat} {hh : Nat → Hn}
theorem Rom.below (h : Rom w0 w q A n c b u hh B s f) (hb : Below w.heap.size w w') : Rom w0 w' q A n c b u hh B s f := ⟨h.x.below hb, h.r.now hb, h.s.below hb⟩
theorem Rom.put (h : Rom w0 w q A n c b u hh B s f) {t v : Nat} {z : Int} (ht : t < 4) (hz : z = (v : Int)) (hw : w0.heap.size ≤ s) (hq : q ≠ s) (hB : ∀ ad, B = some ad → ad.block ≠ s) (hg : ∀ i, i < 4 → g i = if i = t then v else f i) : Rom w0 (w.setCell ⟨s, t, none⟩ (.int .i64 z)) q A n c b u hh B s g where
  x := ⟨below_set h.x.bel _ _ hw, h.x.bx.far _ _ fun e => hq e.symm⟩
  r := by rw [setSize]; exact h.r.off _ _ hB
  s := (h.s.set ht (.int .i64 z)).alike fun i hi => by
    by_cases e : i = t
    · rw [if_pos e, hg i hi, if_pos e, hz]
    · rw [if_neg e, hg i hi, if_neg e]
theorem Rom.alike (h : Rom w0 w q A n c b u hh B s f) (hg : ∀ i, i < 4 → g i = f i) : Rom w0 w q A n c b u hh B s g := ⟨h.x, h.r, h.s.alike fun i hi => by rw [hg i hi]⟩
end
set_option maxRecDepth 20000 in
set_option maxHeartbeats 4000000 in
theorem room_ok (A : Option Addr) (n c : Nat) (hh : Nat → Hn) (b : Int) (u : Nat → Nat) (w : World) (hcA : A = none → c = 0) (hr : Rv w w.heap.size A (hvs hh n))
    (hcp : CapP b (u 0 : Nat) (u 1 : Nat) (u 2 : Nat)) (hu : cN (u 0 : Nat) (u 1 : Nat) (u 2 : Nat) = u) (hu16 : ∀ t, t < 3 → u t ≤ 16) (hhp : HintsP hh n b) :
    Calls Try.prog 7 #[.agg #[.slice A n c, .int .i64 b, .int .i64 (u 0 : Nat), .int .i64 (u 1 : Nat), .int .i64 (u 2 : Nat)]] w fun e w' => e = .returned (.bool true) ∧ Below w.heap.size w w' := by
  have hn8 := hhp.1
  have hl20 : decide (20 < n) = false := by simp; omega
  have HLO := hid (fun w => long_any A n c b (u 0 : Nat) (u 1 : Nat) (u 2 : Nat) w)
  rw [hl20] at HLO
  have HR := hid hr
  have HX0 := hid (Lx.new w A n c b (u 0 : Nat) (u 1 : Nat) (u 2 : Nat))
  obtain ⟨q, hq⟩ : ∃ q, w.heap.size = q := ⟨_, rfl⟩
  have HQ2 := hid hq
  rw [hq] at HX0
  have HN := hid (fun w (hr : Rv w w.heap.size A (hvs hh n)) => new_ok (u := u) (w := w) (c := c) (by omega) hcA hr hcp hu hhp)
  have HH := hid hhp
  have HU := hid hu16
  clear hr hl20 hq hcp hu hu16 hhp hcA
  go_enter Try.func7, Try.ntmps7
  go_upto_region 1 with fail
  rw [HQ2.out]
  generalize w.alloc (.cells #[.slice A n c, .int .i64 b, .int .i64 (u 0 : Nat), .int .i64 (u 1 : Nat), .int .i64 (u 2 : Nat)] 25) = w1 at *
  go_upto_region 8 with (first
    | (go_at_call 10; refine (wakes_any _).mono ?_; rintro e w2 ⟨rfl, hb⟩; have HX2 := hid (HX0.out.below hb); obtain ⟨p0, p1, p2, p3, p4⟩ := HX2.out.all; clear hb)
    | (go_at_call 11; refine (HLO.out _).mono ?_; rintro e w3 ⟨rfl, hb⟩; have HX3 := hid (HX2.out.below hb); obtain ⟨r0, r1, r2, r3, r4⟩ := HX3.out.all; clear hb)
    | (go_at_call 12; refine (HN.out _ (HR.out.now HX3.out.bel)).mono ?_; rintro e w4 ⟨g, A1, c1, B1, d1, rfl, hp, hb, hg⟩; have HP4 := hid hp; have HX4 := hid (HX3.out.below hb); clear hp hb hg))
  clear p0 p1 p2 p3 p4 r0 r1 r2 r3 r4 HX0 HX2 HX3 HN HLO
  have HOD := hid HP4.out.od
  go_upto_region 9 with fail
  have hb5 := below_alloc w4 (.cells #[.int .i64 0, .int .i64 0, .int .i64 0, .int .i64 0] 50)
  have hs5 : Arr (w4.alloc (.cells #[.int .i64 0, .int .i64 0, .int .i64 0, .int .i64 0] 50)) w4.heap.size 4 (fun t => .int .i64 (KS hh n u t 0 : Nat)) := arr_new w4 _ _ 4 fun i hi => by
    have h4 : i = 0 ∨ i = 1 ∨ i = 2 ∨ i = 3 := by omega
    rcases h4 with rfl | rfl | rfl | rfl <;> rfl
  have HX5 := hid (HX4.out.below hb5)
  have HP5 := hid (HP4.out.below hb5)
  have HQS := hid (show q < w4.heap.size from HX4.out.lt)
  have HWS := hid (show w.heap.size ≤ w4.heap.size from HX4.out.bel.size)
  obtain ⟨s, hs⟩ : ∃ s, w4.heap.size = s := ⟨_, rfl⟩
  rw [hs] at hs5 HQS HWS ⊢
  have HS5 := hid hs5
  generalize w4.alloc (.cells #[.int .i64 0, .int .i64 0, .int .i64 0, .int .i64 0] 50) = w5 at *
  clear hb5 hs5 hs HX4 HP4
  go_upto_region 10 with (go_at_call 19; refine (parts_any HP5.out).mono ?_; rintro e w6 ⟨A6, c6, rfl, h1, h2, h3⟩; have HST := hid (show Rom w w6 q A n c b u hh A6 s (fun t => KS hh n u t 0) from ⟨HX5.out.below h2, h1, HS5.out.below h2⟩); have HAS := hid (fun ad (e : A6 = some ad) => (show ad.block ≠ s from by have := h3 ad e; have := HS5.out.lt; omega)); clear h1 h2 h3)
  go_loopg [32] n (fun gk t32 wr => ∃ j : Nat, j + gk = n ∧ t32 = .int .i64 j ∧ Rom w wr q A n c b u hh A6 s (fun t => KS hh n u t j))
  case atStart => exact ⟨0, by omega, rfl, HST.out⟩
  case round =>
    clear HST HX5 HP5 HS5
    obtain ⟨j, hj, rfl, hst⟩ := hrel
    have HST := hid hst
    clear hst
    by_cases hlt : j < n
    · have hlt' : (j : Int) < (n : Int) := by omega
      obtain ⟨bd, rfl, hpt⟩ := HST.out.r.part hlt
      have k0 := hpt.c0
      have k1 := hpt.c1
      have k2 := hpt.c2
      have k3 := hpt.c3
      have hK := fun t => KP_le (u := u) (t := t) HOD.out HH.out hlt
      have hS := fun t => KS_le (u := u) (t := t) HOD.out HH.out (show j ≤ n by omega)
      have HK := hid hK
      have HKS := hid hS
      have HNX := hid (fun t => (show KS hh n u t (j + 1) = KS hh n u t j + KP hh n u j t from rfl))
      have HSM := hid (KP_sum (u := u) HOD.out hlt)
      clear hpt hK hS
      go_upto_region 12 with fail
      clear k0 k1 k2 k3
      obtain ⟨xk, hxk⟩ : ∃ x, wr.heap.size = x := ⟨_, rfl⟩
      have hbx := below_alloc wr (.cells #[.int .i64 (kps hh n u j 0), .int .i64 (kps hh n u j 1), .int .i64 (kps hh n u j 2), .int .i64 (kps hh n u j 3)] 57)
      have hcb := Bx.new wr 57 #[.int .i64 (kps hh n u j 0), .int .i64 (kps hh n u j 1), .int .i64 (kps hh n u j 2), .int .i64 (kps hh n u j 3)]
      have HST2 := hid (HST.out.below hbx)
      have HXS := hid (show s < xk from by rw [← hxk]; exact HST.out.s.lt)
      rw [hxk] at hcb ⊢
      have HCB := hid hcb
      generalize wr.alloc (.cells #[.int .i64 (kps hh n u j 0), .int .i64 (kps hh n u j 1), .int .i64 (kps hh n u j 2), .int .i64 (kps hh n u j 3)] 57) = w7 at *
      clear hbx hcb hxk HST
      generalize gk = K0 at *
      go_wp2
      go_loopg [8, 37] 4 (fun gk t8 t37 wi => ∃ t : Nat, t + gk = 4 ∧ t8 = .int .i64 (sN (fun t => KP hh n u j t) t : Nat) ∧ t37 = .int .i64 t ∧ Rom w wi q A n c b u hh (some bd) s (fun t' => if t' < t then KS hh n u t' (j + 1) else KS hh n u t' j) ∧ Bx wi xk 57 #[.int .i64 (kps hh n u j 0), .int .i64 (kps hh n u j 1), .int .i64 (kps hh n u j 2), .int .i64 (kps hh n u j 3)])
      case atStart => exact ⟨0, by omega, rfl, rfl, HST2.out, HCB.out⟩
      case round =>
        clear HST2 HCB
        obtain ⟨t, ht, rfl, rfl, hst, hcb⟩ := hrel
        have HST := hid hst
        have HCB := hid hcb
        clear hst hcb
        by_cases ht4 : t < 4
        · have ht4' : (t : Int) < 4 := by omega
          have s0 : wr.drew.cell? ⟨s, t, none⟩ = some (.int .i64 (KS hh n u t j : Nat)) := by
            have := HST.out.s.cell t ht4
            rw [if_neg (Nat.lt_irrefl t)] at this
            exact this
          have s1 : wr.drew.frozen? ⟨s, t, none⟩ = false := HST.out.s.free t ht4
          have c0 : wr.drew.cell? ⟨xk, t, none⟩ = some (.int .i64 (KP hh n u j t : Nat)) := by
            have h4 : t = 0 ∨ t = 1 ∨ t = 2 ∨ t = 3 := by omega
            rcases h4 with rfl | rfl | rfl | rfl
            · exact HCB.out.cell 0
            · exact HCB.out.cell 1
            · exact HCB.out.cell 2
            · exact HCB.out.cell 3
          have hk := HK.out t
          have hs := HKS.out t
          have hsn : sN (fun t => KP hh n u j t) t ≤ 128 := Nat.le_trans (sN_le (B := 32) fun i _ => HK.out i) (by omega)
          have HN1 := hid (HNX.out t)
          have HN2 := hid (show sN (fun t => KP hh n u j t) (t + 1) = sN (fun t => KP hh n u j t) t + KP hh n u j t from rfl)
          have HR1 := hid (show Rom w (wr.setCell ⟨s, t, none⟩ (.int .i64 ((KS hh n u t j : Nat) + (KP hh n u j t : Nat)))).drew q A n c b u hh (some bd) s (fun t' => if t' < t + 1 then KS hh n u t' (j + 1) else KS hh n u t' j) from Rom.below (Rom.put (v := KS hh n u t (j + 1)) HST.out ht4 (by rw [HNX.out]; omega) HWS.out (by have := HQS.out; omega) HAS.out fun i hi => by
            by_cases e : i = t
            · rw [if_pos e, if_pos (by omega), e]
            · rw [if_neg e]
              by_cases e2 : i < t
              · rw [if_pos e2, if_pos (by omega)]
              · rw [if_neg e2, if_neg (by omega)]) (below_draws (Below.refl _ _) 1))
          have HC1 := hid (show Bx (wr.setCell ⟨s, t, none⟩ (.int .i64 ((KS hh n u t j : Nat) + (KP hh n u j t : Nat)))).drew xk 57 _ from HCB.out.far ⟨s, t, none⟩ _ (by have := HXS.out; show s ≠ xk; omega))
          have e0 : (wr.setCell ⟨s, t, none⟩ (.int .i64 ((KS hh n u t j : Nat) + (KP hh n u j t : Nat)))).drew.cell? ⟨xk, t, none⟩ = some (.int .i64 (KP hh n u j t : Nat)) := by
            have h4 : t = 0 ∨ t = 1 ∨ t = 2 ∨ t = 3 := by omega
            rcases h4 with rfl | rfl | rfl | rfl
            · exact HC1.out.cell 0
            · exact HC1.out.cell 1
            · exact HC1.out.cell 2
            · exact HC1.out.cell 3
          generalize sN (fun t => KP hh n u j t) t = Z at *
          generalize KP hh n u j t = X at *
          generalize KS hh n u t j = Y at *
          go_upto_region 16 with fail
          go_region
          generalize (wr.setCell ⟨s, t, none⟩ (.int .i64 ((Y : Int) + (X : Int)))).drew = w8 at *
          clear s0 s1 c0
          go_wp2
          go_roundg (gk - 1)
          case measure => omega
          case rel => exact ⟨t + 1, by omega, by rw [HN2.out]; go_num, by go_num, HR1.out, HC1.out⟩
        · have ht4' : ¬ (t : Int) < 4 := by omega
          have h4 : t = 4 := by omega
          subst h4
          have HST3 := hid (show Rom w wr q A n c b u hh (some bd) s (fun t => KS hh n u t (j + 1)) from HST.out.alike fun i hi => by rw [if_pos hi])
          obtain ⟨ad, rfl, hat⟩ := (HR.out.now HST.out.x.bel).hint hlt
          have c1 := hat.s
          have ho := HH.out.2.1 j hlt
          unfold okH at ho
          have hs2 : (hh j).s = (sz hh j : Nat) := by unfold sz; omega
          rw [hs2] at c1
          have HZ := hid (show sN (fun t => KP hh n u j t) 4 = sz hh j from by rw [← HSM.out]; show 0 + KP hh n u j 0 + KP hh n u j 1 + KP hh n u j 2 + KP hh n u j 3 = _; omega)
          rw [HZ.out]
          generalize sz hh j = S at *
          obtain ⟨b0, b1, b2, b3, b4⟩ := HST.out.x.all
          have ss : ((S : Int) != (S : Int)) = false := by simp
          clear hat ho hs2
          go_wp2
          go_roundg (K0 - 1)
          case measure => omega
          case rel => exact ⟨j + 1, by omega, by go_num, HST3.out⟩
    · have hlt' : ¬ (j : Int) < (n : Int) := by omega
      have hjn : n = j := by omega
      subst hjn
      have HRM := hid (fun t (ht : t < 3) => KS_room (u := u) HOD.out ht)
      have HKS := hid (fun t => KS_le (u := u) (t := t) HOD.out HH.out (Nat.le_refl n))
      go_wp2
      go_loopg [65] 3 (fun gk t65 wi => ∃ (t k : Nat), t + gk = 3 ∧ t65 = .int .i64 t ∧ wi = wr.drewN k)
      case atStart => exact ⟨0, 0, by omega, rfl, rfl⟩
      case round =>
        obtain ⟨t, k, ht, rfl, rfl⟩ := hrel
        by_cases ht3 : t < 3
        · have ht3' : (t : Int) < 3 := by omega
          have s0 := HST.out.s.cell t (by omega)
          have s1 := HST.out.s.cell (t + 1) (by omega)
          have q0 : wr.cell? ⟨q, 2 + t, none⟩ = some (.int .i64 (u t : Nat)) := by
            obtain ⟨b0, b1, b2, b3, b4⟩ := HST.out.x.all
            have h4 : t = 0 ∨ t = 1 ∨ t = 2 := by omega
            rcases h4 with rfl | rfl | rfl
            · exact b2
            · exact b3
            · exact b4
          obtain ⟨hle, hnx⟩ := HRM.out t ht3
          have hu := HU.out t ht3
          obtain ⟨T, hT⟩ : ∃ T : Nat, T = t + 1 := ⟨_, rfl⟩
          have hT' : (t : Int) + 1 = (T : Int) := by omega
          have hT4 : (T : Int) < 4 := by omega
          rw [← hT] at s1 hnx
          have hk2 := HKS.out T
          clear hT
          generalize KS hh n u t n = X at *
          generalize KS hh n u T n = Y at *
          generalize u t = C at *
          have g1 : ¬ (X : Int) > (C : Int) := by omega
          have g1' : decide (C < X) = false := by simp; omega
          go_upto_region 25 with fail
          by_cases hX : X < C
          · have g2 : decide (X < C) = true := by simpa using hX
            have hY := hnx hX
            subst hY
            clear hnx
            go_quiet (fail)
            go_wp2
            go_roundg (gk - 1)
            case measure => omega
            case rel => exact ⟨t + 1, _, by omega, by go_num, rfl⟩
          · have g2 : decide (X < C) = false := by simpa using hX
            clear hnx
            go_quiet (fail)
            go_wp2
            go_roundg (gk - 1)
            case measure => omega
            case rel => exact ⟨t + 1, _, by omega, by go_num, rfl⟩
        · have ht3' : ¬ (t : Int) < 3 := by omega
          go_wp2
          go_ret
          exact ⟨rfl, below_draws HST.out.x.bel k⟩
set_option maxRecDepth 20000 in
set_option maxHeartbeats 1000000 in
theorem room_walk (A : Option Addr) (n c : Nat) (hh : Nat → Hn) (b x y z : Int) (w : World) (hcA : A = none → c = 0) (hr : Rv w w.heap.size A (hvs hh n)) :
    Calls Try.prog 7 #[.agg #[.slice A n c, .int .i64 b, .int .i64 x, .int .i64 y, .int .i64 z]] w fun e w' => e = .returned (.bool true) ∧ Below w.heap.size w w' := by
  by_cases hn : n ≤ 20
  · by_cases hok : CapP b x y z ∧ HintsP hh n b
    · obtain ⟨hcp, hhp⟩ := hok
      obtain ⟨u, hu, rfl, rfl, rfl, hu16⟩ := capN hcp
      exact room_ok A n c hh b u w hcA hr hcp hu hu16 hhp
    · exact room_bad A n c hh b x y z w hn hcA hr hok
  · have hl20 : decide (20 < n) = true := by simp; omega
    have HLO := hid (fun w => long_any A n c b x y z w)
    rw [hl20] at HLO
    have HX0 := hid (Lx.new w A n c b x y z)
    obtain ⟨q, hq⟩ : ∃ q, w.heap.size = q := ⟨_, rfl⟩
    have HQ2 := hid hq
    rw [hq] at HX0
    clear hr hl20 hq hcA
    go_enter Try.func7, Try.ntmps7
    go_upto_region 1 with fail
    rw [HQ2.out]
    generalize w.alloc (.cells #[.slice A n c, .int .i64 b, .int .i64 x, .int .i64 y, .int .i64 z] 25) = w1 at *
    go_wp2_with (first
      | (go_at_call 10; refine (wakes_any _).mono ?_; rintro e w2 ⟨rfl, hb⟩; have HX2 := hid (HX0.out.below hb); obtain ⟨p0, p1, p2, p3, p4⟩ := HX2.out.all; clear hb)
      | (go_at_call 11; refine (HLO.out _).mono ?_; rintro e w3 ⟨rfl, hb⟩; have HX3 := hid (HX2.out.below hb); clear hb))
    go_ret
    exact ⟨rfl, HX3.out.bel⟩
end Go.Proofs.Ytcibhmbneedghaa
