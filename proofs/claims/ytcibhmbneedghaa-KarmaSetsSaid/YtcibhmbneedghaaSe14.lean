/-
  What is proved: KarmaSets' walk. Condition: hints are read as such.
-/
import Derived.Test.YtcibhmbneedghaaLw14
namespace Go.Proofs.Ytcibhmbneedghaa
open Go.RowKit

set_option maxRecDepth 20000 in
set_option maxHeartbeats 4000000 in
theorem sets_short (A B : Option Addr) (n c m d : Nat) (hh hm : Nat → Hn) (b x y z : Int) (w : World) (hn : n ≤ 20) (hm20 : m ≤ 20) (hcA : A = none → c = 0) (hr : Rv w w.heap.size A (hvs hh n)) (hrm : Rv w w.heap.size B (hvs hm m)) :
    Calls Try.prog 4 #[.agg #[.slice A n c, .int .i64 b, .int .i64 x, .int .i64 y, .int .i64 z], .slice B m d] w fun e w' => e = .returned (.bool true) ∧ Below w.heap.size w w' := by
  have hl20 : decide (20 < n) = false := by simp; omega
  have hm20' : ¬ (m : Int) > 20 := by omega
  have HLO := hid (fun w => long_any A n c b x y z w)
  rw [hl20] at HLO
  have HR := hid hr
  have HRM := hid hrm
  have HCA := hid hcA
  have HX0 := hid (Lx.new w A n c b x y z)
  have HQ := hid (show w.heap.size ≤ w.heap.size from Nat.le_refl _)
  obtain ⟨q, hq⟩ : ∃ q, w.heap.size = q := ⟨_, rfl⟩
  have HQ2 := hid hq
  rw [hq] at HX0
  clear hr hrm hcA hl20 hq HQ
  by_cases hok : CapP b x y z ∧ HintsP hh n b
  · obtain ⟨hcp, hhp⟩ := hok
    obtain ⟨u, hu, rfl, rfl, rfl, hu16⟩ := capN hcp
    have hbb := hcp.1
    have HN := hid (fun w (hr : Rv w w.heap.size A (hvs hh n)) => new_ok (u := u) (w := w) (c := c) (by omega) HCA.out hr hcp hu hhp)
    have HH := hid hhp
    have HU := hid (show ∀ t, t < 3 → u t ≤ 1000 from fun t ht => by have := hu16 t ht; omega)
    clear hcp hu hu16 hhp HCA
    go_enter Try.func4, Try.ntmps4
    go_upto_region 1 with fail
    rw [HQ2.out]
    generalize w.alloc (.cells #[.slice A n c, .int .i64 b, .int .i64 (u 0 : Nat), .int .i64 (u 1 : Nat), .int .i64 (u 2 : Nat)] 25) = w1 at *
    go_upto_region 8 with (first
      | (go_at_call 10; refine (wakes_any _).mono ?_; rintro e w2 ⟨rfl, hb⟩; have HX2 := hid (HX0.out.below hb); obtain ⟨p0, p1, p2, p3, p4⟩ := HX2.out.all; clear hb)
      | (go_at_call 11; refine (HLO.out _).mono ?_; rintro e w3 ⟨rfl, hb⟩; have HX3 := hid (HX2.out.below hb); obtain ⟨r0, r1, r2, r3, r4⟩ := HX3.out.all; clear hb)
      | (go_at_call 12; refine (HN.out _ (HR.out.now HX3.out.bel)).mono ?_; rintro e w4 ⟨g, A1, c1, B1, d1, rfl, hp, hb, hg⟩; have HP4 := hid hp; have HX4 := hid (HX3.out.below hb); have HG4 := hid (Nat.le_trans HX3.out.bel.size hg); have HQG := hid (Nat.lt_of_lt_of_le HX3.out.lt hg); clear hp hb hg))
    clear p0 p1 p2 p3 p4 r0 r1 r2 r3 r4 HX3 HX2 HX0
    have HM4 := hid (HRM.out.now HX4.out.bel)
    have HO := hid (World.ownsRow_lit (size := 4) (e := 45) (base := w4.heap.size) w4 #[] 0 (Nat.le_refl _) (by unfold maxLen; omega) rfl)
    go_upto_region 9 with (first
      | (at_builtin; refine wpList_appV elt_hint rfl _ _ rfl w4.heap.size _ 0 [] HO.out rfl _ _ m d (hvs hm m) rfl (hvs_length hm m) (HM4.out.below (below_alloc w4 _) (Nat.le_refl _)) (hvs_one hm m) (by unfold maxLen; omega) (by omega) (by rw [World.size_alloc]; omega) ?_; intro v5 w5 hown hg5; have hb5 : Below w4.heap.size w4 w5 := (below_alloc w4 _).trans (hg5.below HO.out (by rw [World.size_alloc]; omega)); rw [List.nil_append, Nat.zero_add] at hown; obtain ⟨B5, d5, rfl, hr5, hc5, -⟩ := own_row2 (w := w4) hown (Nat.le_refl _); have HP5 := hid (HP4.out.below hb5); have HX5 := hid (HX4.out.below hb5); have HSE := hid (set_any HP5.out B5 m d5 hm (by omega) (by omega) hr5 hc5 HU.out); clear hown hg5 hb5 hr5 hc5)
      | (go_at_call 22; refine HSE.out.mono ?_; rintro e w6 h6; rcases h6 with ⟨h1, rfl, h3⟩ | ⟨h1, rfl, h3, A6, c6, B6, d6, h4⟩))
    · have HX6 := hid (HX5.out.below h3)
      have HP6 := hid (HP5.out.below h3)
      have HRH := hid (rhints_any B m d hm b w6 (by unfold maxLen; omega) (HRM.out.now HX6.out.bel))
      rw [dec_false h1] at HRH
      obtain ⟨b0, b1, b2, b3, b4⟩ := HX6.out.all
      clear h1 h3
      go_upto_region 10 with (go_at_call 14; refine HRH.out.mono ?_; rintro e w7 ⟨rfl, hb⟩; have HX7 := hid (HX6.out.below hb); have HP7 := hid (HP6.out.below hb); clear hb)
      clear b0 b1 b2 b3 b4
      -- one
      have HXD := hid (show Lx w w7.drew q A n c b (u 0 : Nat) (u 1 : Nat) (u 2 : Nat) from HX7.out.draws 1)
      have HPD := hid (show Pl w7.drew g b u hh n _ _ _ _ from HP7.out.below (below_draws (Below.refl _ _) 1))
      have kq := HXD.out.all
      go_region_held3 (fun w' => w'.cell? ⟨q, 0, none⟩ = some (.slice A n c) ∧ w'.cell? ⟨q, 1, none⟩ = some (.int .i64 b) ∧ w'.cell? ⟨q, 2, none⟩ = some (.int .i64 (u 0 : Nat)) ∧ w'.cell? ⟨q, 3, none⟩ = some (.int .i64 (u 1 : Nat)) ∧ w'.cell? ⟨q, 4, none⟩ = some (.int .i64 (u 2 : Nat))) (first | exact kp | exact kq) (first
        | (go_at_call 18; refine (same_yes _ n _ _ _ (4 * n) (KP hh n u) _ (by have := HH.out.1; omega) rfl QR.out QA.out).mono ?_; rintro e w' ⟨rfl, m2, rfl⟩; have kp := (QX.out.draws m2).all; have FX := hid (QX.out.draws m2).bel)
        | (go_at_call 15; (with_reducible refine (rparts_kp HH.out (HR.out.now PX.out.bel) HU.out).mono ?_); rintro e P9 ⟨g9, rfl, h1, h2⟩; have QX := hid (PX.out.below h2); have QR := hid (PR.out.now h2); have QA := hid h1; have kp := QX.out.all; clear h1 h2)
        | (go_at_call 19; (with_reducible refine (parts_any OP.out).mono ?_); rintro e O9 ⟨A8, c8, rfl, h1, h2, -⟩; have QX := hid (OX.out.below h2); have QR := hid h1; have QA := hid (OA.out.below h2); have kp := QX.out.all; clear h1 h2)
        | (go_at_call 19; (with_reducible refine (parts_any HPD.out).mono ?_); rintro e P8 ⟨A8, c8, rfl, h1, h2, -⟩; have PX := hid (HXD.out.below h2); have PR := hid h1; have kp := PX.out.all; clear h1 h2)
        | (go_at_call 15; (with_reducible refine (rparts_kp HH.out (HR.out.now HXD.out.bel) HU.out).mono ?_); rintro e O8 ⟨g8, rfl, h1, h2⟩; have OX := hid (HXD.out.below h2); have OA := hid h1; have OP := hid (HPD.out.below h2); have kp := OX.out.all; clear h1 h2))
      all_goals
        go_wp2
        go_ret
        exact ⟨rfl, FX.out⟩
      -- one end
    · have HX6 := hid (HX5.out.belowG h3 HG4.out HQG.out)
      have HP6 := hid h4
      have HRH := hid (rhints_any B m d hm b w6 (by unfold maxLen; omega) (HRM.out.now HX6.out.bel))
      rw [dec_true h1] at HRH
      have HMH := hid h1
      obtain ⟨b0, b1, b2, b3, b4⟩ := HX6.out.all
      clear h1 h3 h4
      go_upto_region 11 with (go_at_call 14; refine HRH.out.mono ?_; rintro e w7 ⟨rfl, hb⟩; have HX7 := hid (HX6.out.below hb); have HP7 := hid (HP6.out.below hb); clear hb)
      clear b0 b1 b2 b3 b4
      -- two
      have HXD := hid (show Lx w w7.drew q A n c b (u 0 : Nat) (u 1 : Nat) (u 2 : Nat) from HX7.out.draws 1)
      have HPD := hid (show Pl w7.drew g b u hm m _ _ _ _ from HP7.out.below (below_draws (Below.refl _ _) 1))
      have kq := HXD.out.all
      go_region_held3 (fun w' => w'.cell? ⟨q, 0, none⟩ = some (.slice A n c) ∧ w'.cell? ⟨q, 1, none⟩ = some (.int .i64 b) ∧ w'.cell? ⟨q, 2, none⟩ = some (.int .i64 (u 0 : Nat)) ∧ w'.cell? ⟨q, 3, none⟩ = some (.int .i64 (u 1 : Nat)) ∧ w'.cell? ⟨q, 4, none⟩ = some (.int .i64 (u 2 : Nat))) (first | exact kp | exact kq) (first
        | (go_at_call 18; refine (same_yes _ m _ _ _ (4 * m) (KP hm m u) _ (by have := HMH.out.1; omega) rfl QR.out QA.out).mono ?_; rintro e w' ⟨rfl, m2, rfl⟩; have kp := (QX.out.draws m2).all; have FX := hid (QX.out.draws m2).bel)
        | (go_at_call 15; (with_reducible refine (rparts_kp HMH.out (HRM.out.now PX.out.bel) HU.out).mono ?_); rintro e P9 ⟨g9, rfl, h1, h2⟩; have QX := hid (PX.out.below h2); have QR := hid (PR.out.now h2); have QA := hid h1; have kp := QX.out.all; clear h1 h2)
        | (go_at_call 19; (with_reducible refine (parts_any OP.out).mono ?_); rintro e O9 ⟨A8, c8, rfl, h1, h2, -⟩; have QX := hid (OX.out.below h2); have QR := hid h1; have QA := hid (OA.out.below h2); have kp := QX.out.all; clear h1 h2)
        | (go_at_call 19; (with_reducible refine (parts_any HPD.out).mono ?_); rintro e P8 ⟨A8, c8, rfl, h1, h2, -⟩; have PX := hid (HXD.out.below h2); have PR := hid h1; have kp := PX.out.all; clear h1 h2)
        | (go_at_call 15; (with_reducible refine (rparts_kp HMH.out (HRM.out.now HXD.out.bel) HU.out).mono ?_); rintro e O8 ⟨g8, rfl, h1, h2⟩; have OX := hid (HXD.out.below h2); have OA := hid h1; have OP := hid (HPD.out.below h2); have kp := OX.out.all; clear h1 h2))
      all_goals
        go_wp2
        go_ret
        exact ⟨rfl, FX.out⟩
      -- two end
  · have HN := hid (fun w (hr : Rv w w.heap.size A (hvs hh n)) => new_bad (w := w) (c := c) (b := b) (x := x) (y := y) (z := z) (by omega) HCA.out hr hok)
    clear hok
    go_enter Try.func4, Try.ntmps4
    go_upto_region 1 with fail
    rw [HQ2.out]
    generalize w.alloc (.cells #[.slice A n c, .int .i64 b, .int .i64 x, .int .i64 y, .int .i64 z] 25) = w1 at *
    go_wp2_with (first
      | (go_at_call 10; refine (wakes_any _).mono ?_; rintro e w2 ⟨rfl, hb⟩; have HX2 := hid (HX0.out.below hb); obtain ⟨p0, p1, p2, p3, p4⟩ := HX2.out.all; clear hb)
      | (go_at_call 11; refine (HLO.out _).mono ?_; rintro e w3 ⟨rfl, hb⟩; have HX3 := hid (HX2.out.below hb); obtain ⟨r0, r1, r2, r3, r4⟩ := HX3.out.all; clear hb)
      | (go_at_call 12; refine (HN.out _ (HR.out.now HX3.out.bel)).mono ?_; rintro e w4 ⟨r, rfl, -, hr0, hb⟩; have HX4 := hid (HX3.out.below hb); clear hb))
    go_ret
    exact ⟨rfl, HX4.out.bel⟩
set_option maxRecDepth 20000 in
set_option maxHeartbeats 1000000 in
theorem sets_walk (A B : Option Addr) (n c m d : Nat) (hh hm : Nat → Hn) (b x y z : Int) (w : World) (hcA : A = none → c = 0) (hr : Rv w w.heap.size A (hvs hh n)) (hrm : Rv w w.heap.size B (hvs hm m)) :
    Calls Try.prog 4 #[.agg #[.slice A n c, .int .i64 b, .int .i64 x, .int .i64 y, .int .i64 z], .slice B m d] w fun e w' => e = .returned (.bool true) ∧ Below w.heap.size w w' := by
  by_cases hn : n ≤ 20
  · by_cases hm20 : m ≤ 20
    · exact sets_short A B n c m d hh hm b x y z w hn hm20 hcA hr hrm
    · have hl20 : decide (20 < n) = false := by simp; omega
      have hm20' : (m : Int) > 20 := by omega
      have HLO := hid (fun w => long_any A n c b x y z w)
      rw [hl20] at HLO
      have HX0 := hid (Lx.new w A n c b x y z)
      obtain ⟨q, hq⟩ : ∃ q, w.heap.size = q := ⟨_, rfl⟩
      have HQ2 := hid hq
      rw [hq] at HX0
      clear hr hrm hcA hl20 hq
      go_enter Try.func4, Try.ntmps4
      go_upto_region 1 with fail
      rw [HQ2.out]
      generalize w.alloc (.cells #[.slice A n c, .int .i64 b, .int .i64 x, .int .i64 y, .int .i64 z] 25) = w1 at *
      go_wp2_with (first
        | (go_at_call 10; refine (wakes_any _).mono ?_; rintro e w2 ⟨rfl, hb⟩; have HX2 := hid (HX0.out.below hb); obtain ⟨p0, p1, p2, p3, p4⟩ := HX2.out.all; clear hb)
        | (go_at_call 11; refine (HLO.out _).mono ?_; rintro e w3 ⟨rfl, hb⟩; have HX3 := hid (HX2.out.below hb); clear hb))
      go_ret
      exact ⟨rfl, HX3.out.bel⟩
  · have hl20 : decide (20 < n) = true := by simp; omega
    have HLO := hid (fun w => long_any A n c b x y z w)
    rw [hl20] at HLO
    have HX0 := hid (Lx.new w A n c b x y z)
    obtain ⟨q, hq⟩ : ∃ q, w.heap.size = q := ⟨_, rfl⟩
    have HQ2 := hid hq
    rw [hq] at HX0
    clear hr hrm hcA hl20 hq
    go_enter Try.func4, Try.ntmps4
    go_upto_region 1 with fail
    rw [HQ2.out]
    generalize w.alloc (.cells #[.slice A n c, .int .i64 b, .int .i64 x, .int .i64 y, .int .i64 z] 25) = w1 at *
    go_wp2_with (first
      | (go_at_call 10; refine (wakes_any _).mono ?_; rintro e w2 ⟨rfl, hb⟩; have HX2 := hid (HX0.out.below hb); obtain ⟨p0, p1, p2, p3, p4⟩ := HX2.out.all; clear hb)
      | (go_at_call 11; refine (HLO.out _).mono ?_; rintro e w3 ⟨rfl, hb⟩; have HX3 := hid (HX2.out.below hb); clear hb))
    go_ret
    exact ⟨rfl, HX3.out.bel⟩
end Go.Proofs.Ytcibhmbneedghaa
