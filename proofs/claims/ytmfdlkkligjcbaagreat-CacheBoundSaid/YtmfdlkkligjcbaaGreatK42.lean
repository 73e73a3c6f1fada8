/-
  What is proved: CacheBound's walk. No condition.
-/
import Derived.Test.YtmfdlkkligjcbaaGreatK41
import Derived.Deep.RegionHeld3
import Derived.Carry
namespace Go.Proofs.YtmfdlkkligjcbaaGreat
open Go.RowKit

set_option maxRecDepth 20000 in
set_option maxHeartbeats 8000000 in
theorem bound16_ok {c : Nat → Int} {A A2 : Option Addr} {n cq m c2 : Nat} {hh : Nat → Hn} {f : Nat → A16} {w : World} {τ : Int} (hr : Rv w w.heap.size A (hvs hh n)) (_ : n ≤ maxLen) (ca : A = none → cq = 0) (hm : m ≤ maxLen) (hac : ActsC w A2 m f) (hg : ∀ i, i < m → (f i).Good w) (hτ : 0 ≤ τ ∧ τ < 256) (rt : RightP c hh n) :
    Calls Tryz.prog 4 #[.agg (cfgC c A n cq), .int .u8 τ, .slice A2 m c2] w fun e w' => e = .returned (.bool true) ∧ Below w.heap.size w w' := by
  obtain ⟨T, hT, hT1, hT3⟩ : ∃ T : Nat, 1 + τ % 3 = (T : Int) ∧ 1 ≤ T ∧ T ≤ 3 := ⟨(1 + τ % 3).toNat, by omega, by omega, by omega⟩
  have HT := hid (And.intro hT (And.intro hT1 hT3))
  have HNW := hid (fun w (h : Rv w w.heap.size A (hvs hh n)) => cm_new_yes (w := w) rt h ca hT1 hT3)
  have hb0 := below_alloc w (.cells (cfgC c A n cq) 25)
  have HX0 := hid (Bx.new w 25 (cfgC c A n cq))
  have HB0 := hid hb0
  have HR0 := hid ((hr.below hb0 (Nat.le_refl _)).more hb0.size)
  have HAC := hid hac
  have HGD := hid hg
  have HRT := hid rt
  have HLO := hid (fun (y : World) (hb : Below w.heap.size w y) => long16 (c := c) (A := A) (n := n) (cq := cq) (c2 := c2) hm (hac.below hb) fun i hi => (hg i hi).below hb)
  clear hr hb0 ca hac hg rt hT hT1 hT3 hm
  have hmm := @run_makeMap Tryz.prog
  go_enter Tryz.func4, Tryz.ntmps4
  go_upto_region 1 with fail
  obtain ⟨W0, hW0⟩ : ∃ x, w.alloc (.cells (cfgC c A n cq) 25) = x := ⟨_, rfl⟩
  obtain ⟨r0, hr0⟩ : ∃ x, w.heap.size = x := ⟨_, rfl⟩
  rw [hW0] at HB0 HX0 HR0 ⊢
  rw [hr0] at HX0 ⊢
  have HZ := hid hr0
  clear hW0 hr0
  go_upto_region 3 with (go_at_call 8; refine (wakes16 _).mono ?_; rintro e w1 ⟨rfl, hb⟩; have HB1 := hid (on HB0.out hb); have HX1 := hid (HX0.out.next hb); have HR1 := hid (Rv.more (HR0.out.below hb (Nat.le_refl _)) hb.size); clear hb)
  go_wp2_with (refine wpList_load_bxg (by rfl) 25 (.tmp 3) rfl r0 _ _ _ rfl HX1.out Tryz.underlying25 rfl (by kernel_rfl) ?_)
  refine (HLO.out _ HB1.out).mono ?_
  rintro e w2 ⟨bl, rfl, hb, hl⟩
  have HB2 := hid (on HB1.out hb)
  have HX2 := hid (HX1.out.next hb)
  have HR2 := hid (Rv.more (HR1.out.below hb (Nat.le_refl _)) hb.size)
  have HLI := hid hl
  clear hb hl
  cases bl with
  | true =>
    go_wp2
    go_ret
    exact ⟨rfl, HB2.out⟩
  | false =>
  have HLE := hid (HLI.out rfl)
  go_upto_region 6 with fail
  rw [HT.out.1]
  go_upto_region 9 with (first
    | (go_at_call 10; refine (HNW.out _ HR2.out).mono ?_; rintro e w4 ⟨G, M, A5, cp5, v5, F5, rfl, hb, ho, hc⟩; have HLC := hid (lc_new HX2.out HB2.out hb ho hc); clear hb ho hc)
    | (refine wpList_load_bxg (by rfl) 25 (.tmp 3) rfl r0 _ _ _ rfl HX2.out Tryz.underlying25 rfl (by kernel_rfl) ?_))
  obtain ⟨X, hlc⟩ := HLC.out
  have HLC0 := hid hlc
  clear hlc HLC HX0 HX1 HX2 HR0 HR1 HR2 HB0 HB1 HB2 HLO HNW
  obtain ⟨Ml, hMl⟩ : ∃ x, w4.heap.size = x := ⟨_, rfl⟩
  obtain ⟨W5, hW5⟩ : ∃ x, w4.alloc (.map #[] 0) = x := ⟨_, rfl⟩
  rw [hMl, hW5] at HLC0
  go_upto_region 10 with fail
  clear hMl hW5 hmm
  go_wp2
  go_loopg [40] m (fun gk tp wr => ∃ p : Nat, p + gk = m ∧ tp = .int .i64 p ∧ ∃ o D, Lc16 w wr X G M F5 c A5 n cp5 hh T v5 o D (17 * p) Ml r0 A n cq)
  case atStart => exact ⟨0, by omega, rfl, _, _, HLC0.out⟩
  case round =>
    obtain ⟨p, hp, rfl, o, D, hlc⟩ := hrel
    have HB := hid hlc
    clear hlc HLC0
    by_cases hlt : p < m
    · have hlt' : (p : Int) < (m : Int) := by omega
      obtain ⟨ad, rfl, hat⟩ := (HAC.out.below HB.out.bel) p hlt
      have hgood := HGD.out p hlt
      have hlen := HLE.out.2.2 p hlt
      have hp120 : p < 120 := by have := HLE.out.2.1; omega
      obtain ⟨⟨κ, lv, b, Bq, bc, l⟩, hf⟩ : ∃ y, f p = y := ⟨_, rfl⟩
      rw [hf] at hat hgood hlen
      obtain ⟨alt, c0, c1, c2', c3⟩ := hat
      dsimp only [A16.sl] at c0 c1 c2' c3
      obtain ⟨kl, hkl⟩ : ∃ x, l.length = x := ⟨_, rfl⟩
      have HKL := hid hkl
      rw [hkl] at c3
      have HGOOD := hid (fun (y : World) (hb : Below w.heap.size w y) => show By y X (.slice Bq kl bc) l from hkl ▸ hgood.at_ hb X HB.out.xo)
      have HWB := hid hgood.wb
      dsimp only at HWB
      obtain ⟨ra, hra⟩ : ∃ g, wr.heap.size = g := ⟨_, rfl⟩
      obtain ⟨W, hW⟩ : ∃ W, wr.alloc (.cells #[.int .i64 κ, .int .i64 lv, .int .i64 b, .slice Bq kl bc] 40) = W := ⟨_, rfl⟩
      have BW : Below wr.heap.size wr W := by rw [← hW]; exact below_alloc _ _
      have HXW := hid (show Bx W ra 40 #[.int .i64 κ, .int .i64 lv, .int .i64 b, .slice Bq kl bc] from by rw [← hW, ← hra]; exact Bx.new _ _ _)
      have HBW := hid (HB.out.below BW)
      have HWW := hid hW
      have HGG := hid hra
      have HRX := hid (show ¬ X ra from fun hx => by have := HB.out.cm.lt _ hx; omega)
      clear BW hf hW hra hgood hkl hlen
      go_upto_region 13 with fail
      rw [HGG.out, HWW.out]
      clear c0 c1 c2' c3 HGG HWW alt HB
      have HPU := hid (cm_putB (b := b) HBW.out.cm (by omega) (HGOOD.out W HBW.out.bel) lv)
      have x1 : W.cell? ⟨ra, 1, none⟩ = some (.int .i64 lv) := HXW.out.cell 1
      have x2 : W.cell? ⟨ra, 2, none⟩ = some (.int .i64 b) := HXW.out.cell 2
      have x3 : W.cell? ⟨ra, 3, none⟩ = some (.slice Bq kl bc) := HXW.out.cell 3
      go_upto_region 14 with (go_at_call 23; refine HPU.out.mono ?_; rintro e w6 ⟨x6, A6, k6, c6, gn6, z6, rfl, hq⟩; have HQ6 := hid hq; clear hq)
      clear x1 x2 x3
      have hb7 := below_alloc w6 (.cells #[.int .i64 x6, .slice A6 k6 c6] 38)
      obtain ⟨W7, hW7⟩ : ∃ y, w6.alloc (.cells #[.int .i64 x6, .slice A6 k6 c6] 38) = y := ⟨_, rfl⟩
      obtain ⟨r7, hr7⟩ : ∃ y, w6.heap.size = y := ⟨_, rfl⟩
      rw [hW7] at hb7 ⊢
      rw [hr7]
      have HB7 := hid hb7
      clear hb7 hW7 hr7
      -- behind the Put: the map notes it, or nothing was put
      have HST : Hid (∀ W8, (z6 = 0 → ∃ lf lf' : Int → Option Value, (∀ x, x ∈ o.all → ∃ u, lf x = some u ∧ By W X u (D x)) ∧ Chg W7 W8 (· = Ml) (· = Ml) ∧ Mc W8 Ml (17 * p + 1) lf' ∧ lf' b = some (.slice Bq kl bc) ∧ (∀ x, x ≠ b → lf' x = lf x)) → ((z6 == 0) = false → W8 = W7) → ∃ o2 D2, Lc16 w W8 X G M F5 c A5 n cp5 hh T v5 o2 D2 (17 * p + 1) Ml r0 A n cq) := hid (by
        intro W8 h1 h2
        rcases HQ6.out with ⟨hz, -, hb⟩ | ⟨hz, -, htk, hcm, hch, -⟩
        · rw [h2 hz]
          exact ⟨o, D, ((HBW.out.below hb).below HB7.out).up (Nat.le_succ _)⟩
        · obtain ⟨lf, lf', h3, h4, h5, h6, h7⟩ := h1 hz
          exact ⟨_, _, HBW.out.noted (hcm.below HB7.out) (hch.trans (Chg.of HB7.out _)) h3 (fun x hx hn => (((Ob.add_mem HBW.out.cm.ok htk).1 x).1 hx).elim (fun e => absurd e hn) (·.1)) h4 h5 h6 h7 ((HGOOD.out _ (HBW.out.bel.trans (hch.bel HBW.out.bel.size fun j e => HBW.out.xo j (HBW.out.wide j e)))).below HB7.out)⟩)
      have HX7 := hid (show Bx W7 ra 40 #[.int .i64 κ, .int .i64 lv, .int .i64 b, .slice Bq kl bc] from by
        rcases HQ6.out with ⟨-, -, hb⟩ | ⟨-, -, -, -, hch, -⟩
        · exact (HXW.out.next hb).next HB7.out
        · exact (hch.bx HXW.out fun e => HRX.out (HBW.out.wide ra e)).next HB7.out)
      cases hz : (z6 == 0) with
      | true =>
        have hz0 : z6 = 0 := by simpa using hz
        have HZ0 := hid hz0
        obtain ⟨lf, hlm, hlb⟩ := HBW.out.lst
        have hlm7 : Mc W7 Ml (17 * p) lf := by
          rcases HQ6.out with ⟨hz2, -, -⟩ | ⟨-, -, -, -, hch, -⟩
          · rw [hz] at hz2; cases hz2
          · exact (hlm.same (hch.block Ml hlm.lt fun e => e.elim HBW.out.nl.2.2 HBW.out.nl.2.1)).below HB7.out
        obtain ⟨W8, hput, hm8, hg8⟩ := hlm7.put Tryz.underlying3 Tryz.underlying49 (by unfold maxLen; omega) (wf_small HWB.out) (.slice Bq kl bc)
        have HS8 := hid (HST.out W8 (fun _ => ⟨lf, _, hlb, grown_chg hg8, hm8, if_pos rfl, fun x hx => if_neg hx⟩) fun h => by rw [hz] at h; cases h)
        have x2 : W7.cell? ⟨ra, 2, none⟩ = some (.int .i64 b) := HX7.out.cell 2
        have x3 : W7.cell? ⟨ra, 3, none⟩ = some (.slice Bq kl bc) := HX7.out.cell 3
        clear hlm hlb hlm7 hm8 hg8 HST
        go_upto_region 16 with fail
        obtain ⟨o2, D2, hl2⟩ := HS8.out
        have HB8 := hid hl2
        clear x2 x3 hput hl2 HS8 hz hz0
        obtain ⟨t0, ht0, ht3⟩ : ∃ t0 : Nat, T = t0 + 1 ∧ t0 < 3 := ⟨T - 1, by have := HT.out.2; omega, by have := HT.out.2; omega⟩
        obtain ⟨L, hL⟩ : ∃ L, o2.all = L := ⟨_, rfl⟩
        have HL := hid hL
        have hcap := HB8.out.cm.cap
        have hl16 : L.length ≤ 16 := by
          have h1 := Ob.le HB8.out.cm.ok
          have h2 := HRT.out.caps.2.2.2.1 (T - 1) (by omega)
          rw [hL] at h1
          omega
        have HLN := hid (fun (s_ : Since W8) => cm_len (HB8.out.below s_.bel).cm)
        rw [hL] at hcap HLN
        rw [show T - 1 = t0 from by omega] at hcap
        obtain ⟨ln, hln⟩ : ∃ x, L.length = x := ⟨_, rfl⟩
        have HLL := hid hln
        rw [hln] at hcap hl16 HLN
        have hcu : ∀ s_ : Since W8, s_.at_.cell? ⟨r0, 9 + t0, none⟩ = some (.int .i64 (c (9 + t0))) := fun s_ => by
          rw [(HB8.out.below s_.bel).bx.cell]
          obtain rfl | rfl | rfl : t0 = 0 ∨ t0 = 1 ∨ t0 = 2 := by omega
          all_goals rfl
        generalize c (9 + t0) = CP at hcap hcu
        have hle : ¬ ((ln : Int) > CP) := by omega
        have hTm : (T : Int) - 1 = (t0 : Int) := by omega
        have ht0' : (0 : Int) ≤ (t0 : Int) := by omega
        have ht3' : (t0 : Int) < 3 := by omega
        clear hcap hL hln ht0 ht3
        refine wp_region_since (by kernel_rfl) (by kernel_rfl) ?_
        repeat (go_big_quiet_step ((go_at_call 18; exact Calls.since _ (HLN.out _))))
        refine wpQuiet_nil ?_
        rintro _ ⟨s_, rfl⟩
        have HB9 := hid (HB8.out.below s_.bel)
        have HALL := hid (cm_all HB9.out.cm)
        rw [HL.out] at HALL
        clear hle hTm ht0' ht3' hcu HLN
        rw [← HLL.out] at hl16
        go_wp2_with (go_at_call 16; refine HALL.out.mono ?_; rintro e w10 ⟨A8, c8, rfl, ho, hg⟩; have HB10 := hid (HB9.out.below hg.nilBelow); have HR10 := hid (rw_told ho hg).1; have HNA := hid (fun ad (e : A8 = some ad) (hx : X ad.block) => Nat.lt_irrefl _ (Nat.lt_of_lt_of_le (HB9.out.cm.lt _ hx) ((rw_told ho hg).2.1 ad e))); clear ho hg)
        generalize gk = K0 at *
        rw [HLL.out] at hl16 ⊢
        go_loopg [74] ln (fun gk t wr2 => ∃ j : Nat, j + gk = ln ∧ t = .int .i64 j ∧ ∃ o3, Lc16 w wr2 X G M F5 c A5 n cp5 hh T v5 o3 D2 (17 * p + 1 + j) Ml r0 A n cq ∧ (∀ x, x ∈ o3.all ↔ x ∈ L) ∧ Rw wr2 A8 L)
        case atStart => exact ⟨0, by omega, rfl, o2, HB10.out, fun x => by rw [HL.out], HR10.out⟩
        case round =>
          obtain ⟨j, hj, rfl, o3, hbi, hmi, hri⟩ := hrel
          have HBI := hid hbi
          have HMI := hid hmi
          have HRI := hid hri
          clear hbi hmi hri HB10 HR10
          by_cases hjl : j < ln
          · have hjL : j < L.length := by rw [HLL.out]; exact hjl
            have hjn : (j : Int) < (ln : Int) := by omega
            obtain ⟨a8, rfl, _, hca⟩ := rv_at HRI.out.rd hjL
            have hxL : L[j] ∈ L := List.getElem_mem hjL
            generalize L[j] = x at *
            have HXM := hid ((HMI.out x).2 hxL)
            have HUS := hid (cm_useY HBI.out.cm (by omega) HXM.out)
            clear hxL hjL
            go_upto_region 22 with (go_at_call 24; refine HUS.out.mono ?_; rintro e w12 ⟨A9, k9, c9, rfl, hcm, hch, hby⟩; have HB12 := hid (HBI.out.step hcm (hch.wide fun j h => .inl h) (Nat.le_succ _) fun y hy => ⟨(Ob.use_mem HBI.out.cm.ok x y).1 hy, rfl⟩); have HR12 := hid (HRI.out.chg hch fun ad e hf => HNA.out ad e (HBI.out.cm.fx _ hf)); have HY12 := hid hby; have HCX := hid ((Ob.use_mem HBI.out.cm.ok x x).2 HXM.out); clear hcm hch hby hca)
            obtain ⟨lf, hlm, hlb⟩ := HB12.out.lst
            obtain ⟨u9, hu9, hv9⟩ := hlb x HCX.out
            have hlk := hlm.look Tryz.underlying3 Tryz.underlying49 (zero_u8s _) (HB12.out.cm.wf HCX.out)
            rw [hu9] at hlk
            have hlk2 : (Instr.lookup 49 (.map (some Ml)) (.int .i64 x) false).run Tryz.prog w12 = .ok u9 w12 := hlk
            have HSA := hid (same_by HY12.out hv9)
            have HME := hid (fun y => (Ob.use_mem HBI.out.cm.ok x y).trans (HMI.out y))
            clear hlk hlm hlb hu9 hv9
            go_wp2_with (go_at_call 25; refine HSA.out.mono ?_; rintro e w13 ⟨rfl, kd, rfl⟩)
            go_roundg (gk - 1)
            case measure => omega
            case rel => exact ⟨j + 1, by omega, by go_num, _, (HB12.out.draws kd).up (by omega), HME.out, HR12.out.below (below_draws (Below.refl _ _) kd)⟩
          · obtain rfl : j = ln := by omega
            have hjn : ¬ (j : Int) < (j : Int) := by omega
            go_wp2
            go_roundg (K0 - 1)
            case measure => omega
            case rel => exact ⟨p + 1, by omega, by go_num, _, _, HBI.out.up (by omega)⟩
      | false =>
        have HS8 := hid (HST.out W7 (fun h => by rw [h] at hz; cases hz) fun _ => rfl)
        go_upto_region 16 with fail
        obtain ⟨o2, D2, hl2⟩ := HS8.out
        have HB8 := hid hl2
        clear hl2 HS8 hz HST
        obtain ⟨t0, ht0, ht3⟩ : ∃ t0 : Nat, T = t0 + 1 ∧ t0 < 3 := ⟨T - 1, by have := HT.out.2; omega, by have := HT.out.2; omega⟩
        obtain ⟨L, hL⟩ : ∃ L, o2.all = L := ⟨_, rfl⟩
        have HL := hid hL
        have hcap := HB8.out.cm.cap
        have hl16 : L.length ≤ 16 := by
          have h1 := Ob.le HB8.out.cm.ok
          have h2 := HRT.out.caps.2.2.2.1 (T - 1) (by omega)
          rw [hL] at h1
          omega
        have HLN := hid (fun (s_ : Since W7) => cm_len (HB8.out.below s_.bel).cm)
        rw [hL] at hcap HLN
        rw [show T - 1 = t0 from by omega] at hcap
        obtain ⟨ln, hln⟩ : ∃ x, L.length = x := ⟨_, rfl⟩
        have HLL := hid hln
        rw [hln] at hcap hl16 HLN
        have hcu : ∀ s_ : Since W7, s_.at_.cell? ⟨r0, 9 + t0, none⟩ = some (.int .i64 (c (9 + t0))) := fun s_ => by
          rw [(HB8.out.below s_.bel).bx.cell]
          obtain rfl | rfl | rfl : t0 = 0 ∨ t0 = 1 ∨ t0 = 2 := by omega
          all_goals rfl
        generalize c (9 + t0) = CP at hcap hcu
        have hle : ¬ ((ln : Int) > CP) := by omega
        have hTm : (T : Int) - 1 = (t0 : Int) := by omega
        have ht0' : (0 : Int) ≤ (t0 : Int) := by omega
        have ht3' : (t0 : Int) < 3 := by omega
        clear hcap hL hln ht0 ht3
        refine wp_region_since (by kernel_rfl) (by kernel_rfl) ?_
        repeat (go_big_quiet_step ((go_at_call 18; exact Calls.since _ (HLN.out _))))
        refine wpQuiet_nil ?_
        rintro _ ⟨s_, rfl⟩
        have HB9 := hid (HB8.out.below s_.bel)
        have HALL := hid (cm_all HB9.out.cm)
        rw [HL.out] at HALL
        clear hle hTm ht0' ht3' hcu HLN
        rw [← HLL.out] at hl16
        go_wp2_with (go_at_call 16; refine HALL.out.mono ?_; rintro e w10 ⟨A8, c8, rfl, ho, hg⟩; have HB10 := hid (HB9.out.below hg.nilBelow); have HR10 := hid (rw_told ho hg).1; have HNA := hid (fun ad (e : A8 = some ad) (hx : X ad.block) => Nat.lt_irrefl _ (Nat.lt_of_lt_of_le (HB9.out.cm.lt _ hx) ((rw_told ho hg).2.1 ad e))); clear ho hg)
        generalize gk = K0 at *
        rw [HLL.out] at hl16 ⊢
        go_loopg [74] ln (fun gk t wr2 => ∃ j : Nat, j + gk = ln ∧ t = .int .i64 j ∧ ∃ o3, Lc16 w wr2 X G M F5 c A5 n cp5 hh T v5 o3 D2 (17 * p + 1 + j) Ml r0 A n cq ∧ (∀ x, x ∈ o3.all ↔ x ∈ L) ∧ Rw wr2 A8 L)
        case atStart => exact ⟨0, by omega, rfl, o2, HB10.out, fun x => by rw [HL.out], HR10.out⟩
        case round =>
          obtain ⟨j, hj, rfl, o3, hbi, hmi, hri⟩ := hrel
          have HBI := hid hbi
          have HMI := hid hmi
          have HRI := hid hri
          clear hbi hmi hri HB10 HR10
          by_cases hjl : j < ln
          · have hjL : j < L.length := by rw [HLL.out]; exact hjl
            have hjn : (j : Int) < (ln : Int) := by omega
            obtain ⟨a8, rfl, _, hca⟩ := rv_at HRI.out.rd hjL
            have hxL : L[j] ∈ L := List.getElem_mem hjL
            generalize L[j] = x at *
            have HXM := hid ((HMI.out x).2 hxL)
            have HUS := hid (cm_useY HBI.out.cm (by omega) HXM.out)
            clear hxL hjL
            go_upto_region 22 with (go_at_call 24; refine HUS.out.mono ?_; rintro e w12 ⟨A9, k9, c9, rfl, hcm, hch, hby⟩; have HB12 := hid (HBI.out.step hcm (hch.wide fun j h => .inl h) (Nat.le_succ _) fun y hy => ⟨(Ob.use_mem HBI.out.cm.ok x y).1 hy, rfl⟩); have HR12 := hid (HRI.out.chg hch fun ad e hf => HNA.out ad e (HBI.out.cm.fx _ hf)); have HY12 := hid hby; have HCX := hid ((Ob.use_mem HBI.out.cm.ok x x).2 HXM.out); clear hcm hch hby hca)
            obtain ⟨lf, hlm, hlb⟩ := HB12.out.lst
            obtain ⟨u9, hu9, hv9⟩ := hlb x HCX.out
            have hlk := hlm.look Tryz.underlying3 Tryz.underlying49 (zero_u8s _) (HB12.out.cm.wf HCX.out)
            rw [hu9] at hlk
            have hlk2 : (Instr.lookup 49 (.map (some Ml)) (.int .i64 x) false).run Tryz.prog w12 = .ok u9 w12 := hlk
            have HSA := hid (same_by HY12.out hv9)
            have HME := hid (fun y => (Ob.use_mem HBI.out.cm.ok x y).trans (HMI.out y))
            clear hlk hlm hlb hu9 hv9
            go_wp2_with (go_at_call 25; refine HSA.out.mono ?_; rintro e w13 ⟨rfl, kd, rfl⟩)
            go_roundg (gk - 1)
            case measure => omega
            case rel => exact ⟨j + 1, by omega, by go_num, _, (HB12.out.draws kd).up (by omega), HME.out, HR12.out.below (below_draws (Below.refl _ _) kd)⟩
          · obtain rfl : j = ln := by omega
            have hjn : ¬ (j : Int) < (j : Int) := by omega
            go_wp2
            go_roundg (K0 - 1)
            case measure => omega
            case rel => exact ⟨p + 1, by omega, by go_num, _, _, HBI.out.up (by omega)⟩
    · have hlt' : ¬ (p : Int) < (m : Int) := by omega
      go_wp2
      go_ret
      exact ⟨rfl, HB.out.bel⟩
set_option maxRecDepth 20000 in
set_option maxHeartbeats 2000000 in
theorem bound16 {c : Nat → Int} {A A2 : Option Addr} {n cq m c2 : Nat} {hh : Nat → Hn} {f : Nat → A16} {w : World} {τ : Int} (hr : Rv w w.heap.size A (hvs hh n)) (hn : n ≤ maxLen) (ca : A = none → cq = 0) (hm : m ≤ maxLen) (hac : ActsC w A2 m f) (hg : ∀ i, i < m → (f i).Good w) (hτ : 0 ≤ τ ∧ τ < 256) :
    Calls Tryz.prog 4 #[.agg (cfgC c A n cq), .int .u8 τ, .slice A2 m c2] w fun e w' => e = .returned (.bool true) ∧ Below w.heap.size w w' := by
  by_cases rt : RightP c hh n
  · exact bound16_ok hr hn ca hm hac hg hτ rt
  · obtain ⟨T, hT⟩ : ∃ T : Int, 1 + τ % 3 = T := ⟨_, rfl⟩
    have HT := hid hT
    have HNW := hid (fun w (h : Rv w w.heap.size A (hvs hh n)) => cm_new_no (cq := cq) (τ := T) h hn fun h => rt h.1)
    have hb0 := below_alloc w (.cells (cfgC c A n cq) 25)
    have HX0 := hid (Bx.new w 25 (cfgC c A n cq))
    have HB0 := hid hb0
    have HR0 := hid ((hr.below hb0 (Nat.le_refl _)).more hb0.size)
    have HLO := hid (fun (y : World) (hb : Below w.heap.size w y) => long16 (c := c) (A := A) (n := n) (cq := cq) (c2 := c2) hm (hac.below hb) fun i hi => (hg i hi).below hb)
    clear hr hb0 ca hn hac hg rt hT hm
    go_enter Tryz.func4, Tryz.ntmps4
    go_upto_region 1 with fail
    obtain ⟨W0, hW0⟩ : ∃ x, w.alloc (.cells (cfgC c A n cq) 25) = x := ⟨_, rfl⟩
    obtain ⟨r0, hr0⟩ : ∃ x, w.heap.size = x := ⟨_, rfl⟩
    rw [hW0] at HB0 HX0 HR0 ⊢
    rw [hr0] at HX0 ⊢
    clear hW0 hr0
    go_upto_region 3 with (go_at_call 8; refine (wakes16 _).mono ?_; rintro e w1 ⟨rfl, hb⟩; have HB1 := hid (on HB0.out hb); have HX1 := hid (HX0.out.next hb); have HR1 := hid (Rv.more (HR0.out.below hb (Nat.le_refl _)) hb.size); clear hb)
    go_wp2_with (refine wpList_load_bxg (by rfl) 25 (.tmp 3) rfl r0 _ _ _ rfl HX1.out Tryz.underlying25 rfl (by kernel_rfl) ?_)
    refine (HLO.out _ HB1.out).mono ?_
    rintro e w2 ⟨bl, rfl, hb, -⟩
    have HB2 := hid (on HB1.out hb)
    have HX2 := hid (HX1.out.next hb)
    have HR2 := hid (Rv.more (HR1.out.below hb (Nat.le_refl _)) hb.size)
    clear hb
    cases bl with
    | true =>
      go_wp2
      go_ret
      exact ⟨rfl, HB2.out⟩
    | false =>
    skip
    go_upto_region 6 with fail
    rw [HT.out]
    go_wp2_with (first
      | (go_at_call 10; refine (HNW.out _ HR2.out).mono ?_; rintro e w4 ⟨rfl, hb⟩; have HB4 := hid (on HB2.out hb); clear hb)
      | (refine wpList_load_bxg (by rfl) 25 (.tmp 3) rfl r0 _ _ _ rfl HX2.out Tryz.underlying25 rfl (by kernel_rfl) ?_))
    go_ret
    exact ⟨rfl, HB4.out⟩
end Go.Proofs.YtmfdlkkligjcbaaGreat
