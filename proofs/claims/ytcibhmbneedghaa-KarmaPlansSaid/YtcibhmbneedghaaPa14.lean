/-
  What is proved: KarmaPlans' walk. Condition: hints are read as such.
-/
import Derived.Test.YtcibhmbneedghaaLw14
namespace Go.Proofs.Ytcibhmbneedghaa
open Go.RowKit

set_option maxRecDepth 20000 in
set_option maxHeartbeats 4000000 in
theorem plans_bad (A : Option Addr) (n c : Nat) (hh : Nat → Hn) (b x y z p t : Int) (w : World) (hn : n ≤ 20) (hr : Rv w w.heap.size A (hvs hh n)) (hok : ¬ (CapP b x y z ∧ HintsP hh n b)) :
    Calls Try.prog 3 #[.agg #[.slice A n c, .int .i64 b, .int .i64 x, .int .i64 y, .int .i64 z], .int .i64 p, .int .i64 t] w fun e w' => e = .returned (.bool true) ∧ Below w.heap.size w w' := by
  have hl20 : decide (20 < n) = false := by simp; omega
  have HLO := hid (fun w => long_any A n c b x y z w)
  rw [hl20] at HLO
  have HR := hid hr
  have HX0 := hid (Lx.new w A n c b x y z)
  obtain ⟨q, hq⟩ : ∃ q, w.heap.size = q := ⟨_, rfl⟩
  have HQ2 := hid hq
  rw [hq] at HX0
  have HN := hid (fun A c w (hc : A = none → c = 0) (hr : Rv w w.heap.size A (hvs hh n)) => new_bad (w := w) (c := c) (b := b) (x := x) (y := y) (z := z) (by omega) hc hr hok)
  have HRC := hid (fun w => rcaps_any x y z w)
  clear hr hl20 hq hok
  go_enter Try.func3, Try.ntmps3
  go_upto_region 1 with fail
  rw [HQ2.out]
  generalize w.alloc (.cells #[.slice A n c, .int .i64 b, .int .i64 x, .int .i64 y, .int .i64 z] 25) = w1 at *
  go_upto_region 5 with (first
    | (go_at_call 10; refine (wakes_any _).mono ?_; rintro e w2 ⟨rfl, hb⟩; have HX2 := hid (HX0.out.below hb); obtain ⟨p0, p1, p2, p3, p4⟩ := HX2.out.all; clear hb)
    | (go_at_call 11; refine (HLO.out _).mono ?_; rintro e w3 ⟨rfl, hb⟩; have HX3 := hid (HX2.out.below hb); obtain ⟨r0, r1, r2, r3, r4⟩ := HX3.out.all; clear hb))
  clear p0 p1 p2 p3 p4
  have HM3 := hid (HR.out.now HX3.out.bel)
  have HO := hid (World.ownsRow_lit (size := 4) (e := 45) (base := w3.heap.size) w3 #[] 0 (Nat.le_refl _) (by unfold maxLen; omega) rfl)
  have a0 := (HX3.out.below (below_alloc w3 (.cells #[] 45))).all
  obtain ⟨a0, -, -, -, -⟩ := a0
  go_upto_region 6 with (at_builtin; refine wpList_appV elt_hint rfl _ _ rfl w3.heap.size _ 0 [] HO.out rfl _ _ n c (hvs hh n) rfl (hvs_length hh n) (HM3.out.below (below_alloc w3 _) (Nat.le_refl _)) (hvs_one hh n) (by unfold maxLen; omega) (by omega) (by rw [World.size_alloc]; omega) ?_; intro v5 w5 hown hg5)
  have hb5 : Below w3.heap.size w3 w5 := (below_alloc w3 _).trans (hg5.below HO.out (by rw [World.size_alloc]; omega))
  rw [List.nil_append, Nat.zero_add] at hown
  obtain ⟨A5, c5, rfl, hr5, hc5, -⟩ := own_row2 (w := w3) hown (Nat.le_refl _)
  have HX5 := hid (HX3.out.below hb5)
  have HN5 := hid (HN.out A5 c5 w5 hc5 hr5)
  obtain ⟨p0, p1, p2, p3, p4⟩ := HX5.out.all
  clear r0 r1 r2 r3 r4 a0 hown hg5 hb5 hr5 hc5
  go_upto_region 7 with (go_at_call 12; refine HN5.out.mono ?_; rintro e w6 ⟨r, rfl, hr, -, hb⟩; have HX6 := hid (HX5.out.below hb); have HV := hid hr; clear hr hb)
  obtain ⟨r0, r1, r2, r3, r4⟩ := HX6.out.all
  clear p0 p1 p2 p3 p4
  rcases HV.out with ⟨hnc, rfl⟩ | ⟨hcp, hnh, rfl⟩
  · by_cases ho : Outs 1 16 (f3 x y z) 3
    · rw [dec_false (fun h => h ho)] at HRC
      clear ho hnc HV
      go_wp2_with (go_at_call 13; refine (HRC.out _).mono ?_; rintro e w7 ⟨rfl, hb⟩; have HX7 := hid (HX6.out.below hb); clear hb)
      go_ret
      exact ⟨rfl, HX7.out.bel⟩
    · rw [dec_true ho] at HRC
      by_cases hb1 : b < 1
      · clear ho hnc HV
        go_wp2_with (go_at_call 13; refine (HRC.out _).mono ?_; rintro e w7 ⟨rfl, hb⟩; have HX7 := hid (HX6.out.below hb); obtain ⟨s0, s1, s2, s3, s4⟩ := HX7.out.all; clear hb)
        go_ret
        exact ⟨rfl, HX7.out.bel⟩
      · have hb2 : b > 32 := by
          refine Classical.byContradiction fun h => hnc ⟨by omega, ho⟩
        clear ho hnc HV
        go_wp2_with (go_at_call 13; refine (HRC.out _).mono ?_; rintro e w7 ⟨rfl, hb⟩; have HX7 := hid (HX6.out.below hb); obtain ⟨s0, s1, s2, s3, s4⟩ := HX7.out.all; clear hb)
        go_ret
        exact ⟨rfl, HX7.out.bel⟩
  · rw [dec_true hcp.2] at HRC
    have hb1 : ¬ b < 1 := by have := hcp.1; omega
    have hb2 : ¬ b > 32 := by have := hcp.1; omega
    have HNH := hid hnh
    clear hcp hnh HV
    go_wp2_with (first
      | (go_at_call 13; refine (HRC.out _).mono ?_; rintro e w7 ⟨rfl, hb⟩; have HX7 := hid (HX6.out.below hb); obtain ⟨s0, s1, s2, s3, s4⟩ := HX7.out.all; clear hb)
      | (go_at_call 14; refine (rhints_any A n c hh b _ (by unfold maxLen; omega) (HR.out.now HX7.out.bel)).mono ?_; rintro e w8 ⟨rfl, hb⟩; rw [dec_false HNH.out]; have HX8 := hid (HX7.out.below hb); clear hb))
    go_ret
    exact ⟨rfl, HX8.out.bel⟩
set_option maxRecDepth 20000 in
set_option maxHeartbeats 4000000 in
theorem plans_ok (A : Option Addr) (n c : Nat) (hh : Nat → Hn) (b : Int) (u : Nat → Nat) (p t : Int) (w : World) (hr : Rv w w.heap.size A (hvs hh n)) (hp0 : -9223372036854775808 ≤ p) (hp1 : p ≤ 9223372036854775807)
    (hcp : CapP b (u 0 : Nat) (u 1 : Nat) (u 2 : Nat)) (hu : cN (u 0 : Nat) (u 1 : Nat) (u 2 : Nat) = u) (hu16 : ∀ t, t < 3 → u t ≤ 16) (hhp : HintsP hh n b) :
    Calls Try.prog 3 #[.agg #[.slice A n c, .int .i64 b, .int .i64 (u 0 : Nat), .int .i64 (u 1 : Nat), .int .i64 (u 2 : Nat)], .int .i64 p, .int .i64 t] w fun e w' => e = .returned (.bool true) ∧ Below w.heap.size w w' := by
  have hn8 := hhp.1
  have hl20 : decide (20 < n) = false := by simp; omega
  have HLO := hid (fun w => long_any A n c b (u 0 : Nat) (u 1 : Nat) (u 2 : Nat) w)
  rw [hl20] at HLO
  have HR := hid hr
  have HX0 := hid (Lx.new w A n c b (u 0 : Nat) (u 1 : Nat) (u 2 : Nat))
  obtain ⟨q, hq⟩ : ∃ q, w.heap.size = q := ⟨_, rfl⟩
  have HQ2 := hid hq
  rw [hq] at HX0
  have HN := hid (fun A c w (hc : A = none → c = 0) (hr : Rv w w.heap.size A (hvs hh n)) => new_ok (u := u) (w := w) (c := c) (by omega) hc hr hcp hu hhp)
  have HRC := hid (fun w => rcaps_any (u 0 : Nat) (u 1 : Nat) (u 2 : Nat) w)
  rw [dec_true hcp.2] at HRC
  have hb1 : ¬ b < 1 := by have := hcp.1; omega
  have hb2 : ¬ b > 32 := by have := hcp.1; omega
  have HH := hid hhp
  have HU := hid (show ∀ t, t < 3 → u t ≤ 1000 from fun t ht => by have := hu16 t ht; omega)
  obtain ⟨N, hN⟩ : ∃ N : Nat, N = 4 * n := ⟨_, rfl⟩
  have HN4 := hid hN
  have HRP := hid (show ∀ w, Rv w w.heap.size A (hvs hh n) → Calls Try.prog 15 #[.slice A n c, .agg #[.int .i64 (u 0 : Nat), .int .i64 (u 1 : Nat), .int .i64 (u 2 : Nat)]] w fun e w' => ∃ g, e = .returned (.slice (some ⟨g, 0, none⟩) N N) ∧ Arr w' g (n * 4) (ptv (KP hh n u)) ∧ Below w.heap.size w w' from fun w hr => by rw [hN]; exact rparts_kp hhp hr fun t ht => by have := hu16 t ht; omega)
  clear hr hl20 hq hcp hu hu16 hhp hN
  go_enter Try.func3, Try.ntmps3
  go_upto_region 1 with fail
  rw [HQ2.out]
  generalize w.alloc (.cells #[.slice A n c, .int .i64 b, .int .i64 (u 0 : Nat), .int .i64 (u 1 : Nat), .int .i64 (u 2 : Nat)] 25) = w1 at *
  go_upto_region 5 with (first
    | (go_at_call 10; refine (wakes_any _).mono ?_; rintro e w2 ⟨rfl, hb⟩; have HX2 := hid (HX0.out.below hb); obtain ⟨p0, p1, p2, p3, p4⟩ := HX2.out.all; clear hb)
    | (go_at_call 11; refine (HLO.out _).mono ?_; rintro e w3 ⟨rfl, hb⟩; have HX3 := hid (HX2.out.below hb); obtain ⟨r0, r1, r2, r3, r4⟩ := HX3.out.all; clear hb))
  clear p0 p1 p2 p3 p4
  have HM3 := hid (HR.out.now HX3.out.bel)
  have HO := hid (World.ownsRow_lit (size := 4) (e := 45) (base := w3.heap.size) w3 #[] 0 (Nat.le_refl _) (by unfold maxLen; omega) rfl)
  have a0 := (HX3.out.below (below_alloc w3 (.cells #[] 45))).all
  obtain ⟨a0, -, -, -, -⟩ := a0
  go_upto_region 6 with (at_builtin; refine wpList_appV elt_hint rfl _ _ rfl w3.heap.size _ 0 [] HO.out rfl _ _ n c (hvs hh n) rfl (hvs_length hh n) (HM3.out.below (below_alloc w3 _) (Nat.le_refl _)) (hvs_one hh n) (by unfold maxLen; omega) (by omega) (by rw [World.size_alloc]; omega) ?_; intro v5 w5 hown hg5)
  have hb5 : Below w3.heap.size w3 w5 := (below_alloc w3 _).trans (hg5.below HO.out (by rw [World.size_alloc]; omega))
  rw [List.nil_append, Nat.zero_add] at hown
  obtain ⟨A5, c5, rfl, hr5, hc5, -⟩ := own_row2 (w := w3) hown (Nat.le_refl _)
  have HX5 := hid (HX3.out.below hb5)
  have HN5 := hid (HN.out A5 c5 w5 hc5 hr5)
  obtain ⟨p0, p1, p2, p3, p4⟩ := HX5.out.all
  clear r0 r1 r2 r3 r4 a0 hown hg5 hb5 hr5 hc5
  go_upto_region 7 with (go_at_call 12; refine HN5.out.mono ?_; rintro e w6 ⟨g, A6, c6, B6, d6, rfl, hp, hb, hg⟩; have HX6 := hid (HX5.out.below hb); have HP6 := hid hp; clear hp hb hg)
  obtain ⟨r0, r1, r2, r3, r4⟩ := HX6.out.all
  clear p0 p1 p2 p3 p4
  go_upto_region 12 with (first
    | (go_at_call 13; refine (HRC.out _).mono ?_; rintro e w7 ⟨rfl, hb⟩; have HX7 := hid (HX6.out.below hb); have HP7 := hid (HP6.out.below hb); obtain ⟨s0, s1, s2, s3, s4⟩ := HX7.out.all; clear hb)
    | (go_at_call 14; refine (rhints_any A n c hh b _ (by unfold maxLen; omega) (HR.out.now HX7.out.bel)).mono ?_; rintro e w8 ⟨rfl, hb⟩; rw [dec_true HH.out]; have HX8 := hid (HX7.out.below hb); have HP8 := hid (HP7.out.below hb); obtain ⟨t0, t1, t2, t3, t4⟩ := HX8.out.all; clear hb)
    | (go_at_call 15; refine (HRP.out _ (HR.out.now HX8.out.bel)).mono ?_; rintro e w9 ⟨g9, rfl, ha, hb⟩; have HX9 := hid (HX8.out.below hb); have HP9 := hid (HP8.out.below hb); have HA9 := hid ha; obtain ⟨v0, v1, v2, v3, v4⟩ := HX9.out.all; clear ha hb))
  clear r0 r1 r2 r3 r4 s0 s1 s2 s3 s4 t0 t1 t2 t3 t4
  have HRG := hid (range_any HP9.out p)
  have HPT := hid (fun w (h : Pl w g b u hh n A6 c6 B6 d6) => part_any h p t)
  have HLP := hid (fun w (h : Pl w g b u hh n A6 c6 B6 d6) => loop_any h p)
  have HRR := hid (fun w hr => rrange_any A n c hh b p w hp0 hp1 HH.out hr)
  have HLT := hid (fun i => rgi_lt (hh := hh) (b := p) (n := n) (i := i))
  generalize rgi hh p n = o at *
  cases o with
  | none =>
    rw [show rgV none = .tuple #[.int .i64 0, .bool false] from rfl] at HRG
    rw [show rrV none = -1 from rfl] at HRR
    rw [show ptV hh n u none t = 0 from rfl] at HPT
    rw [show lpV hh none = false from rfl] at HLP
    go_wp2_with (first
      | (go_at_call 16; refine HRG.out.mono ?_; rintro e w10 ⟨rfl, hb⟩; have HX10 := hid (HX9.out.below hb); have HP10 := hid (HP9.out.below hb); have HA10 := hid (HA9.out.below hb); obtain ⟨x0, x1, x2, x3, x4⟩ := HX10.out.all; clear hb)
      | (go_at_call 17; refine (HRR.out _ (HR.out.now HX10.out.bel)).mono ?_; rintro e w11 ⟨rfl, k, rfl⟩; have HX11 := hid (HX10.out.draws k); have HP11 := hid (HP10.out.below (below_draws (Below.refl _ _) k)); have HA11 := hid (HA10.out.below (below_draws (Below.refl _ _) k)))
      | (go_at_call 19; refine (parts_any HP11.out).mono ?_; rintro e w12 ⟨A12, c12, rfl, hr, hb, -⟩; have HX12 := hid (HX11.out.below hb); have HP12 := hid (HP11.out.below hb); have HA12 := hid (HA11.out.below hb); have HR12 := hid hr; clear hr hb)
      | (go_at_call 18; refine (same_yes _ n _ _ _ N (KP hh n u) _ hn8 HN4.out HR12.out HA12.out).mono ?_; rintro e w13 ⟨rfl, k, rfl⟩; have HX13 := hid (HX12.out.draws k); have HP13 := hid (HP12.out.below (below_draws (Below.refl _ _) k)); obtain ⟨y0, y1, y2, y3, y4⟩ := HX13.out.all)
      | (go_at_call 20; refine (HPT.out _ HP13.out).mono ?_; rintro e w14 ⟨rfl, hb⟩; have HX14 := hid (HX13.out.below hb); have HP14 := hid (HP13.out.below hb); clear hb)
      | (go_at_call 21; refine (HLP.out _ HP14.out).mono ?_; rintro e w15 ⟨rfl, hb⟩; have HX15 := hid (HX14.out.below hb); clear hb))
    go_ret
    exact ⟨rfl, HX15.out.bel⟩
  | some i =>
    have hin := (HLT.out i rfl).1
    have hin' : (i : Int) < (n : Int) := by omega
    rw [show rgV (some i) = .tuple #[.int .i64 i, .bool true] from rfl] at HRG
    rw [show rrV (some i) = (i : Int) from rfl] at HRR
    rw [show lpV hh (some i) = (hh i).l from rfl] at HLP
    have i0 : (i : Int) ≥ 0 := by omega
    have ii : ((i : Int) != (i : Int)) = false := by simp
    have ii' : (i != i) = false := by simp
    have ll : ((hh i).l == (hh i).l) = true := by simp
    obtain ⟨ad, rfl, hat⟩ := HR.out.hint hin
    have HAT := hid hat
    clear hat
    by_cases ht : 1 ≤ t ∧ t ≤ 3
    · obtain ⟨T, rfl⟩ : ∃ T : Nat, t = T := ⟨t.toNat, by omega⟩
      rw [show ptV hh n u (some i) (T : Int) = (KP hh n u i (T - 1) : Nat) from by
        show (if _ then _ else _) = _
        rw [if_pos ht, show ((T : Int) - 1).toNat = T - 1 by omega]
        rfl] at HPT
      obtain ⟨I, hI⟩ : ∃ I : Nat, I = 4 * i := ⟨_, rfl⟩
      obtain ⟨K, hK⟩ : ∃ K : Nat, K = I + T := ⟨_, rfl⟩
      obtain ⟨J, hJ⟩ : ∃ J : Nat, J = i * 4 + (T - 1) := ⟨_, rfl⟩
      have hI' : 4 * (i : Int) = (I : Int) := by omega
      have hK' : (I : Int) + (T : Int) = (K : Int) := by omega
      have hJ' : (K : Int) - 1 = (J : Int) := by omega
      have hJn : (J : Int) < (N : Int) := by have := HN4.out; omega
      have t1 : (T : Int) ≥ 1 := by omega
      have t2 : (T : Int) ≤ 3 := by omega
      have HJ := hid (fun w (ha : Arr w g9 (n * 4) (ptv (KP hh n u))) => (show w.cell? ⟨g9, J, none⟩ = some (.int .i64 (KP hh n u i (T - 1) : Nat)) from by rw [ha.cell J (by omega), hJ, ptv_at _ _ _ (by omega)]))
      clear hI hK hJ ht
      generalize KP hh n u i (T - 1) = V at *
      go_wp2_with (first
        | (go_at_call 16; refine HRG.out.mono ?_; rintro e w10 ⟨rfl, hb⟩; have HX10 := hid (HX9.out.below hb); have HP10 := hid (HP9.out.below hb); have HA10 := hid (HA9.out.below hb); obtain ⟨x0, x1, x2, x3, x4⟩ := HX10.out.all; clear hb)
        | (go_at_call 17; refine (HRR.out _ (HR.out.now HX10.out.bel)).mono ?_; rintro e w11 ⟨rfl, k, rfl⟩; have HX11 := hid (HX10.out.draws k); have HP11 := hid (HP10.out.below (below_draws (Below.refl _ _) k)); have HA11 := hid (HA10.out.below (below_draws (Below.refl _ _) k)))
        | (go_at_call 19; refine (parts_any HP11.out).mono ?_; rintro e w12 ⟨A12, c12, rfl, hr, hb, -⟩; have HX12 := hid (HX11.out.below hb); have HP12 := hid (HP11.out.below hb); have HA12 := hid (HA11.out.below hb); have HR12 := hid hr; clear hr hb)
        | (go_at_call 18; refine (same_yes _ n _ _ _ N (KP hh n u) _ hn8 HN4.out HR12.out HA12.out).mono ?_; rintro e w13 ⟨rfl, k, rfl⟩; have HX13 := hid (HX12.out.draws k); have HP13 := hid (HP12.out.below (below_draws (Below.refl _ _) k)); obtain ⟨y0, y1, y2, y3, y4⟩ := HX13.out.all; have q0 := HJ.out _ (HA12.out.below (below_draws (Below.refl _ _) k)))
        | (go_at_call 20; refine (HPT.out _ HP13.out).mono ?_; rintro e w14 ⟨rfl, hb⟩; have HX14 := hid (HX13.out.below hb); have HP14 := hid (HP13.out.below hb); clear hb)
        | (go_at_call 21; refine (HLP.out _ HP14.out).mono ?_; rintro e w15 ⟨rfl, hb⟩; have HX15 := hid (HX14.out.below hb); obtain ⟨z0, z1, z2, z3, z4⟩ := HX15.out.all; have q3 := (HAT.out.next HX15.out.bel).l; clear hb))
      go_ret
      exact ⟨rfl, HX15.out.bel⟩
    · rw [show ptV hh n u (some i) t = 0 from if_neg ht] at HPT
      by_cases t1 : t ≥ 1
      · have t2 : ¬ t ≤ 3 := fun h => ht ⟨t1, h⟩
        clear ht
        go_wp2_with (first
          | (go_at_call 16; refine HRG.out.mono ?_; rintro e w10 ⟨rfl, hb⟩; have HX10 := hid (HX9.out.below hb); have HP10 := hid (HP9.out.below hb); have HA10 := hid (HA9.out.below hb); obtain ⟨x0, x1, x2, x3, x4⟩ := HX10.out.all; clear hb)
          | (go_at_call 17; refine (HRR.out _ (HR.out.now HX10.out.bel)).mono ?_; rintro e w11 ⟨rfl, k, rfl⟩; have HX11 := hid (HX10.out.draws k); have HP11 := hid (HP10.out.below (below_draws (Below.refl _ _) k)); have HA11 := hid (HA10.out.below (below_draws (Below.refl _ _) k)))
          | (go_at_call 19; refine (parts_any HP11.out).mono ?_; rintro e w12 ⟨A12, c12, rfl, hr, hb, -⟩; have HX12 := hid (HX11.out.below hb); have HP12 := hid (HP11.out.below hb); have HA12 := hid (HA11.out.below hb); have HR12 := hid hr; clear hr hb)
          | (go_at_call 18; refine (same_yes _ n _ _ _ N (KP hh n u) _ hn8 HN4.out HR12.out HA12.out).mono ?_; rintro e w13 ⟨rfl, k, rfl⟩; have HX13 := hid (HX12.out.draws k); have HP13 := hid (HP12.out.below (below_draws (Below.refl _ _) k)); obtain ⟨y0, y1, y2, y3, y4⟩ := HX13.out.all)
          | (go_at_call 20; refine (HPT.out _ HP13.out).mono ?_; rintro e w14 ⟨rfl, hb⟩; have HX14 := hid (HX13.out.below hb); have HP14 := hid (HP13.out.below hb); clear hb)
          | (go_at_call 21; refine (HLP.out _ HP14.out).mono ?_; rintro e w15 ⟨rfl, hb⟩; have HX15 := hid (HX14.out.below hb); obtain ⟨z0, z1, z2, z3, z4⟩ := HX15.out.all; have q3 := (HAT.out.next HX15.out.bel).l; clear hb))
        go_ret
        exact ⟨rfl, HX15.out.bel⟩
      · clear ht
        go_wp2_with (first
          | (go_at_call 16; refine HRG.out.mono ?_; rintro e w10 ⟨rfl, hb⟩; have HX10 := hid (HX9.out.below hb); have HP10 := hid (HP9.out.below hb); have HA10 := hid (HA9.out.below hb); obtain ⟨x0, x1, x2, x3, x4⟩ := HX10.out.all; clear hb)
          | (go_at_call 17; refine (HRR.out _ (HR.out.now HX10.out.bel)).mono ?_; rintro e w11 ⟨rfl, k, rfl⟩; have HX11 := hid (HX10.out.draws k); have HP11 := hid (HP10.out.below (below_draws (Below.refl _ _) k)); have HA11 := hid (HA10.out.below (below_draws (Below.refl _ _) k)))
          | (go_at_call 19; refine (parts_any HP11.out).mono ?_; rintro e w12 ⟨A12, c12, rfl, hr, hb, -⟩; have HX12 := hid (HX11.out.below hb); have HP12 := hid (HP11.out.below hb); have HA12 := hid (HA11.out.below hb); have HR12 := hid hr; clear hr hb)
          | (go_at_call 18; refine (same_yes _ n _ _ _ N (KP hh n u) _ hn8 HN4.out HR12.out HA12.out).mono ?_; rintro e w13 ⟨rfl, k, rfl⟩; have HX13 := hid (HX12.out.draws k); have HP13 := hid (HP12.out.below (below_draws (Below.refl _ _) k)); obtain ⟨y0, y1, y2, y3, y4⟩ := HX13.out.all)
          | (go_at_call 20; refine (HPT.out _ HP13.out).mono ?_; rintro e w14 ⟨rfl, hb⟩; have HX14 := hid (HX13.out.below hb); have HP14 := hid (HP13.out.below hb); clear hb)
          | (go_at_call 21; refine (HLP.out _ HP14.out).mono ?_; rintro e w15 ⟨rfl, hb⟩; have HX15 := hid (HX14.out.below hb); obtain ⟨z0, z1, z2, z3, z4⟩ := HX15.out.all; have q3 := (HAT.out.next HX15.out.bel).l; clear hb))
        go_ret
        exact ⟨rfl, HX15.out.bel⟩
set_option maxRecDepth 20000 in
set_option maxHeartbeats 1000000 in
theorem plans_walk (A : Option Addr) (n c : Nat) (hh : Nat → Hn) (b x y z p t : Int) (w : World) (hr : Rv w w.heap.size A (hvs hh n)) (hp0 : -9223372036854775808 ≤ p) (hp1 : p ≤ 9223372036854775807) :
    Calls Try.prog 3 #[.agg #[.slice A n c, .int .i64 b, .int .i64 x, .int .i64 y, .int .i64 z], .int .i64 p, .int .i64 t] w fun e w' => e = .returned (.bool true) ∧ Below w.heap.size w w' := by
  by_cases hn : n ≤ 20
  · by_cases hok : CapP b x y z ∧ HintsP hh n b
    · obtain ⟨hcp, hhp⟩ := hok
      obtain ⟨u, hu, rfl, rfl, rfl, hu16⟩ := capN hcp
      exact plans_ok A n c hh b u p t w hr hp0 hp1 hcp hu hu16 hhp
    · exact plans_bad A n c hh b x y z p t w hn hr hok
  · have hl20 : decide (20 < n) = true := by simp; omega
    have HLO := hid (fun w => long_any A n c b x y z w)
    rw [hl20] at HLO
    have HX0 := hid (Lx.new w A n c b x y z)
    obtain ⟨q, hq⟩ : ∃ q, w.heap.size = q := ⟨_, rfl⟩
    have HQ2 := hid hq
    rw [hq] at HX0
    clear hr hl20 hq
    go_enter Try.func3, Try.ntmps3
    go_upto_region 1 with fail
    rw [HQ2.out]
    generalize w.alloc (.cells #[.slice A n c, .int .i64 b, .int .i64 x, .int .i64 y, .int .i64 z] 25) = w1 at *
    go_wp2_with (first
      | (go_at_call 10; refine (wakes_any _).mono ?_; rintro e w2 ⟨rfl, hb⟩; have HX2 := hid (HX0.out.below hb); obtain ⟨p0, p1, p2, p3, p4⟩ := HX2.out.all; clear hb)
      | (go_at_call 11; refine (HLO.out _).mono ?_; rintro e w3 ⟨rfl, hb⟩; have HX3 := hid (HX2.out.below hb); clear hb))
    go_ret
    exact ⟨rfl, HX3.out.bel⟩
end Go.Proofs.Ytcibhmbneedghaa
