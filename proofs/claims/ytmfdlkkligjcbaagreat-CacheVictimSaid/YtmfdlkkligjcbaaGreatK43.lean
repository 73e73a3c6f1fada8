/-
  What is proved: CacheVictim's walk. No condition.
-/
import Derived.Test.YtmfdlkkligjcbaaGreatK41
import Derived.Deep.RegionHeld3
import Derived.Carry
namespace Go.Proofs.YtmfdlkkligjcbaaGreat
open Go.RowKit

set_option maxRecDepth 20000 in
set_option maxHeartbeats 8000000 in
theorem victim16_ok {c : Nat → Int} {A A2 : Option Addr} {n cq m c2 : Nat} {hh : Nat → Hn} {f : Nat → A16} {w : World} {τ : Int} (hr : Rv w w.heap.size A (hvs hh n)) (_ : n ≤ maxLen) (ca : A = none → cq = 0) (hm : m ≤ maxLen) (hac : ActsC w A2 m f) (hg : ∀ i, i < m → (f i).Good w) (hτ : 0 ≤ τ ∧ τ < 256) (rt : RightP c hh n) :
    Calls Tryz.prog 7 #[.agg (cfgC c A n cq), .int .u8 τ, .slice A2 m c2] w fun e w' => e = .returned (.bool true) ∧ Below w.heap.size w w' := by
  obtain ⟨T, hT, hT1, hT3⟩ : ∃ T : Nat, 1 + τ % 3 = (T : Int) ∧ 1 ≤ T ∧ T ≤ 3 := ⟨(1 + τ % 3).toNat, by omega, by omega, by omega⟩
  have HT := hid (And.intro hT (And.intro hT1 hT3))
  have HNW := hid (fun w (h : Rv w w.heap.size A (hvs hh n)) => cm_new_yes (w := w) rt h ca hT1 hT3)
  have hb0 := below_alloc w (.cells (cfgC c A n cq) 25)
  have HX0 := hid (Bx.new w 25 (cfgC c A n cq))
  have HB0 := hid hb0
  have HR0 := hid ((hr.below hb0 (Nat.le_refl _)).more hb0.size)
  have HAC := hid hac
  have HGD := hid hg
  have HRT := hid rt
  have HLO := hid (fun (y : World) (hb : Below w.heap.size w y) => long16 (c := c) (A := A) (n := n) (cq := cq) (c2 := c2) hm (hac.below hb) fun i hi => (hg i hi).below hb)
  clear hr hb0 ca hac hg rt hT hT1 hT3 hm
  have hmm := @run_makeMap Tryz.prog
  go_enter Tryz.func7, Tryz.ntmps7
  go_upto_region 1 with fail
  obtain ⟨W0, hW0⟩ : ∃ x, w.alloc (.cells (cfgC c A n cq) 25) = x := ⟨_, rfl⟩
  obtain ⟨r0, hr0⟩ : ∃ x, w.heap.size = x := ⟨_, rfl⟩
  rw [hW0] at HB0 HX0 HR0 ⊢
  rw [hr0] at HX0 ⊢
  have HZ := hid hr0
  clear hW0 hr0
  go_upto_region 3 with (go_at_call 8; refine (wakes16 _).mono ?_; rintro e w1 ⟨rfl, hb⟩; have HB1 := hid (on HB0.out hb); have HX1 := hid (HX0.out.next hb); have HR1 := hid (Rv.more (HR0.out.below hb (Nat.le_refl _)) hb.size); clear hb)
  go_wp2_with (refine wpList_load_bxg (by rfl) 25 (.tmp 3) rfl r0 _ _ _ rfl HX1.out Tryz.underlying25 rfl (by kernel_rfl) ?_)
  refine (HLO.out _ HB1.out).mono ?_
  rintro e w2 ⟨bl, rfl, hb, hl⟩
  have HB2 := hid (on HB1.out hb)
  have HX2 := hid (HX1.out.next hb)
  have HR2 := hid (Rv.more (HR1.out.below hb (Nat.le_refl _)) hb.size)
  have HLI := hid hl
  clear hb hl
  cases bl with
  | true =>
    go_wp2
    go_ret
    exact ⟨rfl, HB2.out⟩
  | false =>
  have HLE := hid (HLI.out rfl)
  go_upto_region 6 with fail
  rw [HT.out.1]
  go_upto_region 9 with (first
    | (go_at_call 10; refine (HNW.out _ HR2.out).mono ?_; rintro e w4 ⟨G, M, A5, cp5, v5, F5, rfl, hb, ho, hc⟩; have HLC := hid (lc_new HX2.out HB2.out hb ho hc); clear hb ho hc)
    | (refine wpList_load_bxg (by rfl) 25 (.tmp 3) rfl r0 _ _ _ rfl HX2.out Tryz.underlying25 rfl (by kernel_rfl) ?_))
  obtain ⟨X, hlc⟩ := HLC.out
  have HLC0 := hid hlc
  clear hlc HLC HX0 HX1 HX2 HR0 HR1 HR2 HB0 HB1 HB2 HLO HNW
  obtain ⟨Ml, hMl⟩ : ∃ x, w4.heap.size = x := ⟨_, rfl⟩
  obtain ⟨W5, hW5⟩ : ∃ x, w4.alloc (.map #[] 0) = x := ⟨_, rfl⟩
  rw [hMl, hW5] at HLC0
  go_upto_region 10 with fail
  clear hMl hW5 hmm
  go_wp2
  go_loopg [37] m (fun gk tp wr => ∃ p : Nat, p + gk = m ∧ tp = .int .i64 p ∧ ∃ o D, Lc16 w wr X G M F5 c A5 n cp5 hh T v5 o D (17 * p) Ml r0 A n cq)
  case atStart => exact ⟨0, by omega, rfl, _, _, HLC0.out⟩
  case round =>
    obtain ⟨p, hp, rfl, o, D, hlc⟩ := hrel
    have HB := hid hlc
    clear hlc HLC0
    by_cases hlt : p < m
    · have hlt' : (p : Int) < (m : Int) := by omega
      obtain ⟨ad, rfl, hat⟩ := (HAC.out.below HB.out.bel) p hlt
      have hgood := HGD.out p hlt
      have hlen := HLE.out.2.2 p hlt
      have hp120 : p < 120 := by have := HLE.out.2.1; omega
      obtain ⟨⟨κ, lv, b, Bq, bc, l⟩, hf⟩ : ∃ y, f p = y := ⟨_, rfl⟩
      rw [hf] at hat hgood hlen
      obtain ⟨alt, c0, c1, c2', c3⟩ := hat
      dsimp only [A16.sl] at c0 c1 c2' c3
      obtain ⟨kl, hkl⟩ : ∃ x, l.length = x := ⟨_, rfl⟩
      have HKL := hid hkl
      rw [hkl] at c3
      have HGOOD := hid (fun (y : World) (hb : Below w.heap.size w y) => show By y X (.slice Bq kl bc) l from hkl ▸ hgood.at_ hb X HB.out.xo)
      have HWB := hid hgood.wb
      dsimp only at HWB
      obtain ⟨ra, hra⟩ : ∃ g, wr.heap.size = g := ⟨_, rfl⟩
      obtain ⟨W, hW⟩ : ∃ W, wr.alloc (.cells #[.int .i64 κ, .int .i64 lv, .int .i64 b, .slice Bq kl bc] 40) = W := ⟨_, rfl⟩
      have BW : Below wr.heap.size wr W := by rw [← hW]; exact below_alloc _ _
      have HXW := hid (show Bx W ra 40 #[.int .i64 κ, .int .i64 lv, .int .i64 b, .slice Bq kl bc] from by rw [← hW, ← hra]; exact Bx.new _ _ _)
      have HBW := hid (HB.out.below BW)
      have HWW := hid hW
      have HGG := hid hra
      have HRX := hid (show ¬ X ra from fun hx => by have := HB.out.cm.lt _ hx; omega)
      clear BW hf hW hra hgood hkl hlen
      go_upto_region 13 with fail
      rw [HGG.out, HWW.out]
      clear c0 c1 c2' c3 HGG HWW alt HB
      have x0 : W.cell? ⟨ra, 0, none⟩ = some (.int .i64 κ) := HXW.out.cell 0
      have x1 : W.cell? ⟨ra, 1, none⟩ = some (.int .i64 lv) := HXW.out.cell 1
      have x2 : W.cell? ⟨ra, 2, none⟩ = some (.int .i64 b) := HXW.out.cell 2
      have x3 : W.cell? ⟨ra, 3, none⟩ = some (.slice Bq kl bc) := HXW.out.cell 3
      cases hk2 : (κ == 2) with
      | true =>
        by_cases hse : b ∈ o.all ∧ (kl : Int) = c 3
        · have HSE := hid (cm_set_yes HBW.out.cm (by omega) (HGOOD.out W HBW.out.bel) hse.1 hse.2)
          clear hse
          go_upto_region 15 with (go_at_call 27; refine HSE.out.mono ?_; rintro e w6 ⟨rfl, hcm, hch⟩; have HCM6 := hid hcm; have HCH6 := hid hch; clear hcm hch)
          have HX6 := hid (HCH6.out.bx HXW.out fun e => HRX.out (HBW.out.wide ra e))
          obtain ⟨lf, hlm, hlb⟩ := HBW.out.lst
          obtain ⟨W8, hput, hm8, hg8⟩ := (hlm.same (HCH6.out.block Ml hlm.lt fun e => e.elim HBW.out.nl.2.2 HBW.out.nl.2.1)).put Tryz.underlying3 Tryz.underlying49 (by unfold maxLen; omega) (wf_small HWB.out) (.slice Bq kl bc)
          have HN8 := hid (HBW.out.noted HCM6.out HCH6.out hlb (fun x hx _ => hx) (grown_chg hg8) hm8 (if_pos rfl) (fun x hx => if_neg hx) (HGOOD.out _ (HBW.out.bel.trans (HCH6.out.bel HBW.out.bel.size fun j e => HBW.out.xo j (HBW.out.wide j e)))))
          clear x0 x1 x2 x3 hlm hlb hm8 hg8
          have x2 : w6.cell? ⟨ra, 2, none⟩ = some (.int .i64 b) := HX6.out.cell 2
          have x3 : w6.cell? ⟨ra, 3, none⟩ = some (.slice Bq kl bc) := HX6.out.cell 3
          go_wp2
          go_roundg (gk - 1)
          case measure => omega
          case rel => exact ⟨p + 1, by omega, by go_num, _, _, HN8.out.up (by omega)⟩
        · have HSE := hid (cm_set_no (A1 := Bq) (c1 := bc) HBW.out.cm hse)
          clear hse
          go_wp2_with (go_at_call 27; refine HSE.out.mono ?_; rintro e w6 ⟨rfl, hb⟩; have HB6 := hid (HBW.out.below hb); clear hb)
          go_roundg (gk - 1)
          case measure => omega
          case rel => exact ⟨p + 1, by omega, by go_num, _, _, HB6.out.up (by omega)⟩
      | false =>
        have HLN0 := hid (cm_len HBW.out.cm)
        obtain ⟨nn, hnn⟩ : ∃ x, o.all.length = x := ⟨_, rfl⟩
        have HNN := hid hnn
        rw [hnn] at HLN0
        clear hnn
        go_upto_region 17 with (go_at_call 18; refine HLN0.out.mono ?_; rintro e w5 ⟨rfl, hb⟩; have HBV := hid (HBW.out.below hb); have HXV := hid (HXW.out.next hb); clear hb)
        clear x0 x1 x2 x3
        have x1 : w5.cell? ⟨ra, 1, none⟩ = some (.int .i64 lv) := HXV.out.cell 1
        have x2 : w5.cell? ⟨ra, 2, none⟩ = some (.int .i64 b) := HXV.out.cell 2
        have x3 : w5.cell? ⟨ra, 3, none⟩ = some (.slice Bq kl bc) := HXV.out.cell 3
        have HPU := hid (cm_putB (b := b) HBV.out.cm (by omega) (HGOOD.out w5 HBV.out.bel) lv)
        go_upto_region 18 with (go_at_call 23; refine HPU.out.mono ?_; rintro e w6 ⟨x6, A6, k6, c6, gn6, z6, rfl, hq⟩; have HQ6 := hid hq; clear hq)
        clear x1 x2 x3
        have hb7 := below_alloc w6 (.cells #[.int .i64 x6, .slice A6 k6 c6] 38)
        have hx7 := Bx.new w6 38 #[.int .i64 x6, .slice A6 k6 c6]
        obtain ⟨W7, hW7⟩ : ∃ y, w6.alloc (.cells #[.int .i64 x6, .slice A6 k6 c6] 38) = y := ⟨_, rfl⟩
        obtain ⟨r7, hr7⟩ : ∃ y, w6.heap.size = y := ⟨_, rfl⟩
        rw [hW7] at hb7 hx7 ⊢
        rw [hr7] at hx7 ⊢
        have HB7 := hid hb7
        have HX7 := hid hx7
        have HR7 := hid hr7
        clear hb7 hx7 hW7 hr7
        rcases HQ6.out with ⟨hz, rfl, hb⟩ | ⟨rfl, hgn, htk, hcm, hch, hvi⟩
        · -- refused
          have HB8 := hid ((HBV.out.below hb).below HB7.out)
          clear hb HQ6
          go_wp2
          go_roundg (gk - 1)
          case measure => omega
          case rel => exact ⟨p + 1, by omega, by go_num, _, _, HB8.out.up (by omega)⟩
        · have HGN := hid hgn
          have HTK := hid htk
          have HCM7 := hid (hcm.below HB7.out)
          have HCH := hid hch
          have HCH7 := hid (hch.trans (Chg.of HB7.out _))
          have HVI := hid hvi
          have HXY := hid ((hch.bx HXV.out fun e => HRX.out (HBV.out.wide ra e)).next HB7.out)
          have HBXR := hid ((hch.bx HBV.out.bx fun e => HBV.out.xr (HBV.out.wide r0 e)).next HB7.out)
          have HGB := hid (HGOOD.out W7 ((HBV.out.bel.trans (hch.bel HBV.out.bel.size fun j e => HBV.out.xo j (HBV.out.wide j e))).trans (HB7.out.mono (Nat.le_trans HBV.out.bel.size hch.size))))
          clear hgn htk hcm hch hvi HQ6
          obtain ⟨lf, hlm, hlb⟩ := HBV.out.lst
          have HLM := hid (show Mc W7 Ml (17 * p) lf from (hlm.same (HCH.out.block Ml hlm.lt fun e => e.elim HBV.out.nl.2.2 HBV.out.nl.2.1)).below HB7.out)
          have HLB := hid hlb
          clear hlm hlb
          have HHD := hid (fun x (hx : x ∈ (o.add b).all) (hn : x ≠ b) => (((Ob.add_mem HBV.out.cm.ok HTK.out).1 x).1 hx).elim (fun e => absurd e hn) (·.1))
          cases gn6 with
          | false =>
            go_upto_region 22 with fail
            obtain ⟨W8, hput, hm8, hg8⟩ := HLM.out.put Tryz.underlying3 Tryz.underlying49 (by unfold maxLen; omega) (wf_small HWB.out) (.slice Bq kl bc)
            have HN8 := hid (HBV.out.noted HCM7.out HCH7.out HLB.out HHD.out (grown_chg hg8) hm8 (if_pos rfl) (fun x hx => if_neg hx) HGB.out)
            clear hm8 hg8
            have x2 : W7.cell? ⟨ra, 2, none⟩ = some (.int .i64 b) := HXY.out.cell 2
            have x3 : W7.cell? ⟨ra, 3, none⟩ = some (.slice Bq kl bc) := HXY.out.cell 3
            go_wp2
            go_roundg (gk - 1)
            case measure => omega
            case rel => exact ⟨p + 1, by omega, by go_num, _, _, HN8.out.up (by omega)⟩
          | true =>
            obtain ⟨hvx, hvb⟩ := HVI.out HGN.out.symm
            obtain ⟨hnb, hvm, hvn⟩ := (Ob.add_mem HBV.out.cm.ok HTK.out).2 HGN.out.symm
            have hout : o.vi b ∉ (o.add b).all := fun h => by
              rcases ((Ob.add_mem HBV.out.cm.ok HTK.out).1 _).1 h with h1 | h1
              · exact hvn h1
              · exact h1.2 ⟨HGN.out.symm, rfl⟩
            have hlen := Ob.add_len HBV.out.cm.ok HTK.out HGN.out.symm
            rw [HNN.out] at hlen
            obtain ⟨uv, hu1, hu2⟩ := HLB.out _ hvm
            rw [← hvx] at hout hu1 hu2 hvb hvm
            have HHA := hid (cm_has HCM7.out x6)
            rw [dec_false hout] at HHA
            have hlk := HLM.out.look Tryz.underlying3 Tryz.underlying49 (zero_u8s _) (HBV.out.cm.wf hvm)
            rw [hu1] at hlk
            have hlk2 : (Instr.lookup 49 (.map (some Ml)) (.int .i64 x6) false).run Tryz.prog W7 = .ok uv W7 := hlk
            have HSA := hid (same_by (hvb.below HB7.out) ((hu2.chg HCH.out HBV.out.wide).below HB7.out))
            have HLC := hid (fun d => cm_len (HCM7.out.draws d))
            rw [hlen] at HLC
            have y0 : W7.cell? ⟨r7, 0, none⟩ = some (.int .i64 x6) := HX7.out.cell 0
            have y1 : W7.cell? ⟨r7, 1, none⟩ = some (.slice A6 k6 c6) := HX7.out.cell 1
            clear hvx hvb hnb hvm hvn hout hlen hu1 hu2 hlk
            go_upto_region 20 with (first
              | (go_at_call 19; refine HHA.out.mono ?_; rintro e w12 ⟨rfl, rfl⟩)
              | (go_at_call 25; refine HSA.out.mono ?_; rintro e w13 ⟨rfl, kd, rfl⟩)
              | (go_at_call 18; refine (HLC.out _).mono ?_; rintro e w14 ⟨rfl, hb⟩; have HB14 := hid (show Below W7.heap.size W7 w14 from (below_draws (Below.refl _ _) kd).trans hb); clear hb))
            clear y0 y1 hlk2
            have HN9 := hid (fun (W8 : World) (lf' : Int → Option Value) (hg : Chg w14 W8 (· = Ml) (· = Ml)) (hm : Mc W8 Ml (17 * p + 1) lf') (h1 : lf' b = some (.slice Bq kl bc)) (h2 : ∀ x, x ≠ b → lf' x = lf x) => HBV.out.noted (HCM7.out.below HB14.out) (HCH7.out.trans (Chg.of HB14.out _)) HLB.out HHD.out hg hm h1 h2 (HGB.out.below HB14.out))
            obtain ⟨W8, hput, hm8, hg8⟩ := (HLM.out.below HB14.out).put Tryz.underlying3 Tryz.underlying49 (by unfold maxLen; omega) (wf_small HWB.out) (.slice Bq kl bc)
            have HN8 := hid (HN9.out W8 _ (grown_chg hg8) hm8 (if_pos rfl) (fun x hx => if_neg hx))
            have HXZ := hid (HXY.out.next HB14.out)
            have HBZ := hid (HBXR.out.next HB14.out)
            clear hm8 hg8 HN9
            have x2 : w14.cell? ⟨ra, 2, none⟩ = some (.int .i64 b) := HXZ.out.cell 2
            have x3 : w14.cell? ⟨ra, 3, none⟩ = some (.slice Bq kl bc) := HXZ.out.cell 3
            have q5 : w14.cell? ⟨r0, 5, none⟩ = some (.int .i64 (c 5)) := HBZ.out.cell 5
            cases h5 : (c 5 != 2) with
            | false =>
              go_wp2
              go_roundg (gk - 1)
              case measure => omega
              case rel => exact ⟨p + 1, by omega, by go_num, _, _, HN8.out.up (by omega)⟩
            | true =>
              obtain ⟨t0, ht0, ht3⟩ : ∃ t0 : Nat, T = t0 + 1 ∧ t0 < 3 := ⟨T - 1, by have := HT.out.2; omega, by have := HT.out.2; omega⟩
              have hfull := HBV.out.cm.full (by simpa using h5) HGN.out.symm
              rw [HNN.out, show T - 1 = t0 from by omega] at hfull
              have q9 : w14.cell? ⟨r0, 9 + t0, none⟩ = some (.int .i64 (c (9 + t0))) := by
                rw [HBZ.out.cell]
                obtain rfl | rfl | rfl : t0 = 0 ∨ t0 = 1 ∨ t0 = 2 := by omega
                all_goals rfl
              generalize c (9 + t0) = CP at hfull q9
              have hle : ¬ ((nn : Int) < CP) := by omega
              have hTm : (T : Int) - 1 = (t0 : Int) := by omega
              have ht0' : (0 : Int) ≤ (t0 : Int) := by omega
              have ht3' : (t0 : Int) < 3 := by omega
              clear hfull ht0 ht3
              go_wp2
              go_roundg (gk - 1)
              case measure => omega
              case rel => exact ⟨p + 1, by omega, by go_num, _, _, HN8.out.up (by omega)⟩
    · have hlt' : ¬ (p : Int) < (m : Int) := by omega
      go_wp2
      go_ret
      exact ⟨rfl, HB.out.bel⟩
set_option maxRecDepth 20000 in
set_option maxHeartbeats 2000000 in
theorem victim16 {c : Nat → Int} {A A2 : Option Addr} {n cq m c2 : Nat} {hh : Nat → Hn} {f : Nat → A16} {w : World} {τ : Int} (hr : Rv w w.heap.size A (hvs hh n)) (hn : n ≤ maxLen) (ca : A = none → cq = 0) (hm : m ≤ maxLen) (hac : ActsC w A2 m f) (hg : ∀ i, i < m → (f i).Good w) (hτ : 0 ≤ τ ∧ τ < 256) :
    Calls Tryz.prog 7 #[.agg (cfgC c A n cq), .int .u8 τ, .slice A2 m c2] w fun e w' => e = .returned (.bool true) ∧ Below w.heap.size w w' := by
  by_cases rt : RightP c hh n
  · exact victim16_ok hr hn ca hm hac hg hτ rt
  · obtain ⟨T, hT⟩ : ∃ T : Int, 1 + τ % 3 = T := ⟨_, rfl⟩
    have HT := hid hT
    have HNW := hid (fun w (h : Rv w w.heap.size A (hvs hh n)) => cm_new_no (cq := cq) (τ := T) h hn fun h => rt h.1)
    have hb0 := below_alloc w (.cells (cfgC c A n cq) 25)
    have HX0 := hid (Bx.new w 25 (cfgC c A n cq))
    have HB0 := hid hb0
    have HR0 := hid ((hr.below hb0 (Nat.le_refl _)).more hb0.size)
    have HLO := hid (fun (y : World) (hb : Below w.heap.size w y) => long16 (c := c) (A := A) (n := n) (cq := cq) (c2 := c2) hm (hac.below hb) fun i hi => (hg i hi).below hb)
    clear hr hb0 ca hn hac hg rt hT hm
    go_enter Tryz.func7, Tryz.ntmps7
    go_upto_region 1 with fail
    obtain ⟨W0, hW0⟩ : ∃ x, w.alloc (.cells (cfgC c A n cq) 25) = x := ⟨_, rfl⟩
    obtain ⟨r0, hr0⟩ : ∃ x, w.heap.size = x := ⟨_, rfl⟩
    rw [hW0] at HB0 HX0 HR0 ⊢
    rw [hr0] at HX0 ⊢
    clear hW0 hr0
    go_upto_region 3 with (go_at_call 8; refine (wakes16 _).mono ?_; rintro e w1 ⟨rfl, hb⟩; have HB1 := hid (on HB0.out hb); have HX1 := hid (HX0.out.next hb); have HR1 := hid (Rv.more (HR0.out.below hb (Nat.le_refl _)) hb.size); clear hb)
    go_wp2_with (refine wpList_load_bxg (by rfl) 25 (.tmp 3) rfl r0 _ _ _ rfl HX1.out Tryz.underlying25 rfl (by kernel_rfl) ?_)
    refine (HLO.out _ HB1.out).mono ?_
    rintro e w2 ⟨bl, rfl, hb, -⟩
    have HB2 := hid (on HB1.out hb)
    have HX2 := hid (HX1.out.next hb)
    have HR2 := hid (Rv.more (HR1.out.below hb (Nat.le_refl _)) hb.size)
    clear hb
    cases bl with
    | true =>
      go_wp2
      go_ret
      exact ⟨rfl, HB2.out⟩
    | false =>
    skip
    go_upto_region 6 with fail
    rw [HT.out]
    go_wp2_with (first
      | (go_at_call 10; refine (HNW.out _ HR2.out).mono ?_; rintro e w4 ⟨rfl, hb⟩; have HB4 := hid (on HB2.out hb); clear hb)
      | (refine wpList_load_bxg (by rfl) 25 (.tmp 3) rfl r0 _ _ _ rfl HX2.out Tryz.underlying25 rfl (by kernel_rfl) ?_))
    go_ret
    exact ⟨rfl, HB4.out⟩
end Go.Proofs.YtmfdlkkligjcbaaGreat
