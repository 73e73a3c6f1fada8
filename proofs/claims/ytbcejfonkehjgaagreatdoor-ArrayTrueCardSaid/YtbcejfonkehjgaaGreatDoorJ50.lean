/-
  What is proved: ArrayTrue's walk. Condition: the table of the kinds' fields lies where the program lays it.
-/
import Derived.Test.YtbcejfonkehjgaaGreatDoorJ49
import Derived.Deep.RegionHeld3
namespace Go.Proofs.YtbcejfonkehjgaaGreatDoor
open Go.RowKit

set_option maxRecDepth 20000 in
set_option maxHeartbeats 8000000 in
theorem true18 {c : Nat → Int} {A A2 : Option Addr} {n cq m c2 : Nat} {hh : Nat → Hn} {f : Nat → A18} {w : World} (hN : Nm w) (hn : n ≤ maxLen) (hr : Rv w w.heap.size A (hvs hh n)) (ca : A = none → cq = 0) (hm : m ≤ maxLen) (hac : Acts18 w A2 m f) (hg : ∀ i, i < m → (f i).Good w) :
  Calls Tryz.prog 4 #[.agg (cfgC c A n cq), .slice A2 m c2] w fun e w' => e = .returned (.bool true) ∧ Below w.heap.size w w' := by
 have hb0 := below_alloc w (.cells (cfgC c A n cq) 25)
 have HX0 := hid (Bx.new w 25 (cfgC c A n cq))
 have HB0 := hid hb0
 have HR0 := hid ((hr.below hb0 (Nat.le_refl _)).more hb0.size)
 have HN := hid hN
 have HAC := hid hac
 have HGD := hid hg
 have HCA := hid ca
 have HNN := hid hn
 have HLO := hid (fun (y : World) (hb : Below w.heap.size w y) => long18 (c := c) (A := A) (n := n) (cq := cq) (c2 := c2) hm (hac.below hb) fun i hi => (hg i hi).below hb)
 clear hr hb0 hac hg hm hN ca hn
 go_enter Tryz.func4, Tryz.ntmps4
 go_upto_region 1 with fail
 obtain ⟨W0, hW0⟩ : ∃ x, w.alloc (.cells (cfgC c A n cq) 25) = x := ⟨_, rfl⟩
 obtain ⟨r0, hr0⟩ : ∃ x, w.heap.size = x := ⟨_, rfl⟩
 rw [hW0] at HB0 HX0 HR0 ⊢
 rw [hr0] at HX0 ⊢
 have HZ := hid hr0
 have HRL := hid HX0.out.lt
 clear hW0 hr0
 go_upto_region 3 with (go_at_call 8; refine (wakes18 _ (HN.out.next HB0.out)).mono ?_; rintro e w1 ⟨rfl, hb⟩; have HB1 := hid hb; have HX1 := hid (HX0.out.next hb); have HR1 := hid (Rv.more (HR0.out.below hb (Nat.le_refl _)) hb.size); clear hb)
 go_wp2_with (refine wpList_load_bxg (by rfl) 25 (.tmp 2) rfl r0 _ _ _ rfl HX1.out Tryz.underlying25 rfl (by kernel_rfl) ?_)
 refine (HLO.out _ (on HB0.out HB1.out)).mono ?_
 rintro e w2 ⟨bl, rfl, hb, hl⟩
 have HB2 := hid (on HB1.out hb)
 have HX2 := hid (HX1.out.next hb)
 have HR2 := hid (Rv.more (HR1.out.below hb (Nat.le_refl _)) hb.size)
 have HLI := hid hl
 clear hb hl HX1 HR1 HB1 HLO
 cases bl with
 | true =>
  go_wp2
  go_ret
  exact ⟨rfl, on HB0.out HB2.out⟩
 | false =>
 have HLE := hid (HLI.out rfl)
 clear HLI
 go_upto_region 6 with (go_at_call 11; refine (disknew_any 64 _).mono ?_; rintro e w3 ⟨kd, vv, rfl, hk, hb⟩; have HK3 := hid (show Dk w3 77 w2.heap.size kd vv ⟨List.replicate 64 [], -1, false⟩ from hk); have HB3 := hid (on HB2.out hb); have HX3 := hid (HX2.out.next hb); have HR3 := hid (Rv.more (HR2.out.below hb (Nat.le_refl _)) hb.size); clear hk hb)
 by_cases rt : RightP c hh n
 rotate_left 1
 ·have HNW := hid (fun vd => anew_no (cq := cq) HR3.out HNN.out rt vd)
  clear rt
  go_wp2_with (first | (refine wpList_load_bxg (by rfl) 25 (.tmp 2) rfl r0 _ _ _ rfl HX3.out Tryz.underlying25 rfl (by kernel_rfl) ?_) | (go_at_call 10; refine (HNW.out _).mono ?_; rintro e w4 ⟨rfl, hb⟩; have HB4 := hid hb; clear hb))
  go_ret
  exact ⟨rfl, on HB0.out (on HB3.out HB4.out)⟩
 have RT := hid rt
 clear rt
 have HNW := hid (anew_new RT.out HR3.out HCA.out HK3.out (Z := fun _ => False) (fun _ h => h.elim))
 go_upto_region 7 with (first | (refine wpList_load_bxg (by rfl) 25 (.tmp 2) rfl r0 _ _ _ rfl HX3.out Tryz.underlying25 rfl (by kernel_rfl) ?_) | (go_at_call 10; refine HNW.out.mono ?_; rintro e w4 hq; obtain ⟨K0, rfl, ha, h5, h6, h7, h8, -, -, hb, ho, hxm, -⟩ := hq.law HB3.out HK3.out HB2.out.size; have HB4 := hid hb; have HTV := hid (tv_new RT.out ha h8 h5 h6 h7 hb (HX0.out.next hb) HRL.out (fun j hj => ho j (.inl hj)) (fun j hj => (hxm j hj).elim (fun h => Nat.le_trans HB0.out.size (ho j (.inl h))) fun h => h.elim) HB2.out.size); clear ha h5 h6 h7 h8 hb ho hxm hq))
 clear HNW
 have H45 := hid (show c 5 = 0 ∨ c 4 = 2 from RT.out.2.1)
 have HNT := hid (rt_nat RT.out)
 obtain ⟨bb, hbb⟩ : ∃ x, w2.heap.size = x := ⟨_, rfl⟩
 rw [hbb] at HTV
 clear hbb
 go_wp2
 go_loopg [6, 7, 34] m (fun gk x6 x7 tp wr => ∃ p : Nat, p + gk = m ∧ tp = .int .i64 p ∧ x7 = .int .i64 0 ∧ ∃ K L f d o D B r X, x6 = AC.ptr K ∧ B ≤ 2 * p ∧ Tv18 w.heap.size W0 wr K c bb kd vv r0 (cfgC c A n cq) L f d o D B r X)
 case atStart => exact ⟨0, by omega, rfl, rfl, _, _, _, _, _, _, _, _, _, rfl, Nat.le_refl _, HTV.out⟩
 case round =>
  obtain ⟨p, hp, rfl, rfl, Kq, L, fz, d, o, D, B, r, X, rfl, hBp, htv⟩ := hrel
  have HLV := hid htv
  clear htv HTV
  by_cases hlt : p < m
  ·have hlt' : (p : Int) < (m : Int) := by omega
   obtain ⟨ad, rfl, hat⟩ := (HAC.out.below (on HB0.out HLV.out.bel)) p hlt
   have hgood := HGD.out p hlt
   have hlen := HLE.out.2.2 p hlt
   have hp100 : p < 100 := by have := HLE.out.2.1; omega
   obtain ⟨⟨fu, ⟨tc, tg, l⟩, Bq, bc⟩, hf⟩ : ∃ y, f p = y := ⟨_, rfl⟩
   rw [hf] at hat hgood hlen
   obtain ⟨c0, c1, c2', c3, c4, c5, c6, c7, c8, c9, c10, c11⟩ := hat.all
   dsimp only [A18.sl] at c0 c1 c2' c3 c4 c5 c6 c7 c8 c9 c10 c11
   obtain ⟨kl, hkl⟩ : ∃ x, l.length = x := ⟨_, rfl⟩
   rw [hkl] at c11
   have HGOOD := hid (fun (y : World) (hb : Below w.heap.size w y) => show By y Kq.X (.slice Bq kl bc) l from hkl ▸ (hgood.y.below hb).less fun j hj => HLV.out.xlo j hj)
   have HWF := hid (show -9223372036854775808 ≤ fu ∧ fu ≤ 9223372036854775807 from hgood.wf)
   have HBYT := hid (show Byt l from hgood.b)
   obtain ⟨ra, hra⟩ : ∃ g, wr.heap.size = g := ⟨_, rfl⟩
   obtain ⟨W, hW⟩ : ∃ W, wr.alloc (.cells #[.int .i64 fu, .int .i64 (tc 0), .int .i64 (tc 1), .int .i64 (tc 2), .int .i64 (tc 3), .int .i64 (tc 4), .int .i64 (tc 5), .int .i64 (tc 6), .int .i64 (tc 7), .int .i64 (tc 8), .bool tg, .slice Bq kl bc] 42) = W := ⟨_, rfl⟩
   have BW : Below wr.heap.size wr W := by rw [← hW]; exact below_alloc _ _
   have HXW := hid (show Bx W ra 42 #[.int .i64 fu, .int .i64 (tc 0), .int .i64 (tc 1), .int .i64 (tc 2), .int .i64 (tc 3), .int .i64 (tc 4), .int .i64 (tc 5), .int .i64 (tc 6), .int .i64 (tc 7), .int .i64 (tc 8), .bool tg, .slice Bq kl bc] from by rw [← hW, ← hra]; exact Bx.new _ _ _)
   have HLW := hid (HLV.out.below BW)
   have HWW := hid hW
   have HGG := hid hra
   have HRA := hid (show W0.heap.size ≤ ra from by rw [← hra]; exact HLV.out.bel.size)
   have HBWR := hid BW
   clear BW hf hW hra hgood hkl hlen
   go_upto_region 23 with fail
   rw [HGG.out, HWW.out]
   clear c0 c1 c2' c3 c4 c5 c6 c7 c8 c9 c10 c11
   have x0 : W.cell? ⟨ra, 0, none⟩ = some (.int .i64 fu) := HXW.out.cell 0
   by_cases hf1 : 0 < fu
   ·have d1 : decide ((0 : Int) < fu) = true := decide_eq_true hf1
    have HFU := hid (fuse_any HLW.out.dk (fu - 1) (by have := HWF.out; omega))
    have hfr : -9223372036854775808 ≤ fu - 1 ∧ fu - 1 ≤ 9223372036854775807 := by have := HWF.out; omega
    go_upto_region 30 with (go_at_call 24; refine HFU.out.mono ?_; rintro e w5 ⟨rfl, hk, ho⟩; have HT5 := hid (HLW.out.fused _ hk ho); clear hk ho)
    obtain ⟨f5, ht5⟩ := HT5.out
    have HT6 := hid ht5
    clear ht5 HT5 x0 d1 hf1 hfr
    have HDD := hid (down_any HT6.out.dk)
    have HAD := hid (adown_any HT6.out.am)
    cases d with
    | false =>
     go_wp2_with (first | (go_at_call 26; refine HDD.out.mono ?_; rintro e w9 ⟨rfl, rfl⟩))
     go_roundg (m - p - 1)
     case measure => omega
     case rel => exact ⟨p + 1, by omega, by go_num, rfl, _, _, _, _, _, _, _, _, _, rfl, (by omega), HT6.out⟩
    | true =>
     go_wp2_with (first | (go_at_call 26; refine HDD.out.mono ?_; rintro e w9 ⟨rfl, rfl⟩) | (go_at_call 22; refine HAD.out.mono ?_; rintro e w8 ⟨rfl, rfl⟩))
     go_roundg (m - p - 1)
     case measure => omega
     case rel => exact ⟨p + 1, by omega, by go_num, rfl, _, _, _, _, _, _, _, _, _, rfl, (by omega), HT6.out⟩
   have d1 : decide ((0 : Int) < fu) = false := decide_eq_false hf1
   by_cases hf2 : fu < 0
   ·have d2 : decide (fu < (0 : Int)) = true := decide_eq_true hf2
    have HUP := hid (up_any HLW.out.dk)
    go_upto_region 27 with (go_at_call 25; refine HUP.out.mono ?_; rintro e w5 ⟨rfl, hk, ho⟩; have HK5 := hid hk; have HO5 := hid ho; clear hk ho)
    have hon := HLW.out.only HO5.out
    have HX5 := hid hon.2
    have HR5 := hid (Rv.more (HR0.out.below hon.1 (Nat.le_refl _)) hon.1.size)
    have HNE := hid (HLW.out.anew (cq := cq) HK5.out HO5.out RT.out HR5.out HCA.out HB0.out.size)
    clear hon x0 d1 d2 hf1 hf2
    go_upto_region 28 with (first | (refine wpList_load_bxg (by rfl) 25 (.tmp 2) rfl r0 _ _ _ rfl HX5.out Tryz.underlying25 rfl (by kernel_rfl) ?_) | (go_at_call 10; refine HNE.out.mono ?_; rintro e w6 ⟨K2, L2, X2, rfl, ht6⟩; have HT6 := hid ht6; clear ht6))
    have HDD := hid (down_any HT6.out.dk)
    go_wp2_with (first | (go_at_call 26; refine HDD.out.mono ?_; rintro e w9 ⟨rfl, rfl⟩))
    go_roundg (m - p - 1)
    case measure => omega
    case rel => exact ⟨p + 1, by omega, by go_num, rfl, _, _, _, _, _, _, _, _, _, rfl, by omega, HT6.out⟩
   have d2 : decide (fu < (0 : Int)) = false := decide_eq_false hf2
   have x1 : W.cell? ⟨ra, 1, none⟩ = some (.int .i64 (tc 0)) := HXW.out.cell 1
   have HX1 := hid d1
   have HX2' := hid d2
   go_upto_if 41 with fail
   go_cut [10, 11, 12, 34] from 34 to 123 (fun s10 s11 s12 s34 wx => s34 = .int .i64 p ∧ ∃ A9 k9 c9 l9, Tv18 w.heap.size W0 wx Kq c bb kd vv r0 (cfgC c A n cq) L fz d o D B r X ∧ Bx wx ra 42 #[.int .i64 fu, .int .i64 (tc 0), .int .i64 (tc 1), .int .i64 (tc 2), .int .i64 (tc 3), .int .i64 (tc 4), .int .i64 (tc 5), .int .i64 (tc 6), .int .i64 (tc 7), .int .i64 (tc 8), .bool tg, .slice A9 k9 c9] ∧ By wx Kq.X (.slice A9 k9 c9) l9 ∧ Byt l9 ∧ (tc 0 = 10 → d = false → 0 ≤ tc 5 → tc 5 < c 2 → l9 = X.T (tc 5).toNat))
   case first =>
    by_cases k10 : tc 0 = 10
    ·have q10 : ((tc 0 : Int) == 10) = true := by simpa using k10
     have x6 : W.cell? ⟨ra, 6, none⟩ = some (.int .i64 (tc 5)) := HXW.out.cell 6
     have hst := HLV.out.stored (.cells #[.int .i64 fu, .int .i64 (tc 0), .int .i64 (tc 1), .int .i64 (tc 2), .int .i64 (tc 3), .int .i64 (tc 4), .int .i64 (tc 5), .int .i64 (tc 6), .int .i64 (tc 7), .int .i64 (tc 8), .bool tg, .slice Bq kl bc] 42) (tc 5)
     rw [HWW.out, HGG.out] at hst
     have HST := hid hst
     clear hst
     by_cases hrg : 0 ≤ tc 5 ∧ tc 5 < c 2
     ·have HRE := hid (show rdE c (tc 5) = 0 from if_pos hrg)
      have HRG := hid hrg
      have HK10 := hid k10
      have x11 : W.cell? ⟨ra, 11, none⟩ = some (.slice Bq kl bc) := HXW.out.cell 11
      clear hrg k10
      go_wp2_with fail
      refine HST.out.mono ?_
      rintro e w5 ⟨A9, k9, c9, V9, rfl, hb5, hby5, h59⟩
      rw [HRE.out]
      have HX5 := hid (HXW.out.next hb5)
      have HT5 := hid (h59 11).1
      have HY5 := hid (h59 11).2
      have HBY5 := hid hby5
      have y11 : w5.cell? ⟨ra, 11, none⟩ = some (.slice Bq kl bc) := HX5.out.cell 11
      have yf : w5.frozen? ⟨ra, 11, none⟩ = false := HX5.out.free 11
      clear hb5 hby5 h59 x0 x1 x6 x11 d1 d2 q10 hf1 hf2 HST
      go_wp2
      have hx8 := HX5.out.set 11 (.slice A9 k9 c9)
      obtain ⟨W8, hW8⟩ : ∃ x, w5.setCell ⟨ra, 11, none⟩ (.slice A9 k9 c9) = x := ⟨_, rfl⟩
      rw [hW8] at HT5 HY5 hx8 ⊢
      have HX8 := hid (show Bx W8 ra 42 #[.int .i64 fu, .int .i64 (tc 0), .int .i64 (tc 1), .int .i64 (tc 2), .int .i64 (tc 3), .int .i64 (tc 4), .int .i64 (tc 5), .int .i64 (tc 6), .int .i64 (tc 7), .int .i64 (tc 8), .bool tg, .slice A9 k9 c9] from hx8)
      clear hx8 hW8 y11 yf HX5
      have HMM := hid (fun (_ : tc 0 = 10) (hd : d = false) (h0 : 0 ≤ tc 5) (h2 : tc 5 < c 2) => show rdL c ⟨L, fz, d⟩ (tc 5) = X.T (tc 5).toNat from by
       have h9 := (rd_fine HLV.out.am (by rw [HLV.out.kc]; exact (HLV.out.up hd).1) (tc 5) h0 (by rw [HLV.out.kc]; exact h2)).1
       rw [HLV.out.kc] at h9
       exact h9)
      go_wp2
      go_meet
      exact ⟨rfl, A9, k9, c9, _, HT5.out, HX8.out, HY5.out, HBY5.out, HMM.out⟩
     ·have HRE := hid (show rdE c (tc 5) = 9 from if_neg hrg)
      clear hrg k10
      go_wp2_with fail
      refine HST.out.mono ?_
      rintro e w5 ⟨A9, k9, c9, V9, rfl, hb5, -, -⟩
      rw [HRE.out]
      have HB5 := hid hb5
      clear hb5
      go_wp2
      go_roundg (gk - 1)
      case measure => omega
      case rel => exact ⟨p + 1, by omega, by go_num, rfl, _, _, _, _, _, _, _, _, _, rfl, by omega, HLW.out.below HB5.out⟩
    ·have q10 : ((tc 0 : Int) == 10) = false := by simpa using k10
     have HK10 := hid k10
     clear k10
     have HY8 := hid (HGOOD.out W (on HB0.out HLW.out.bel))
     have HMM := hid (fun (h : tc 0 = 10) (_ : d = false) (_ : 0 ≤ tc 5) (_ : tc 5 < c 2) => show l = X.T (tc 5).toNat from absurd h HK10.out)
     go_wp2
     go_meet
     exact ⟨rfl, Bq, kl, bc, l, HLW.out, HXW.out, HY8.out, HBYT.out, HMM.out⟩
   case rest =>
   obtain ⟨rfl, A9, k9, c9, l9, ht9, hx9, hy9, hb9, hm9⟩ := hcut
   obtain ⟨W8, hW8⟩ : ∃ y, wc = y := ⟨_, rfl⟩
   rw [hW8] at ht9 hx9 hy9 ⊢
   have HT5 := hid ht9
   have HX8 := hid hx9
   have HY5 := hid hy9
   have HBY5 := hid hb9
   have HMM := hid hm9
   clear hW8 ht9 hx9 hy9 hb9 hm9 x0 x1 d1 d2 hf1 hf2 HGOOD HBYT HXW HLW HWW HBWR
   have x1 : W8.cell? ⟨ra, 1, none⟩ = some (.int .i64 (tc 0)) := HX8.out.cell 1
   have x2 : W8.cell? ⟨ra, 2, none⟩ = some (.int .i64 (tc 1)) := HX8.out.cell 2
   have x3 : W8.cell? ⟨ra, 3, none⟩ = some (.int .i64 (tc 2)) := HX8.out.cell 3
   have x4 : W8.cell? ⟨ra, 4, none⟩ = some (.int .i64 (tc 3)) := HX8.out.cell 4
   have x5 : W8.cell? ⟨ra, 5, none⟩ = some (.int .i64 (tc 4)) := HX8.out.cell 5
   have x6 : W8.cell? ⟨ra, 6, none⟩ = some (.int .i64 (tc 5)) := HX8.out.cell 6
   have x7 : W8.cell? ⟨ra, 7, none⟩ = some (.int .i64 (tc 6)) := HX8.out.cell 7
   have x8 : W8.cell? ⟨ra, 8, none⟩ = some (.int .i64 (tc 7)) := HX8.out.cell 8
   have x9 : W8.cell? ⟨ra, 9, none⟩ = some (.int .i64 (tc 8)) := HX8.out.cell 9
   have x10 : W8.cell? ⟨ra, 10, none⟩ = some (.bool tg) := HX8.out.cell 10
   have x11 : W8.cell? ⟨ra, 11, none⟩ = some (.slice A9 k9 c9) := HX8.out.cell 11
   have HHE := hid (show Calls Tryz.prog 15 #[Kq.ptr, .agg #[.int .i64 (tc 0), .int .i64 (tc 1), .int .i64 (tc 2), .int .i64 (tc 3), .int .i64 (tc 4), .int .i64 (tc 5), .int .i64 (tc 6), .int .i64 (tc 7), .int .i64 (tc 8), .bool tg, .slice A9 k9 c9]] W8 _ from HT5.out.hear (mc := tc) (gr := tg) (n := k9) (cp := c9) (HN.out.next (on HB0.out HT5.out.bel)) (by omega) H45.out ⟨HNT.out.1, HNT.out.2.1⟩ (HY5.out) (HBY5.out) (HMM.out))
   go_wp2_with fail
   refine HHE.out.mono ?_
   rintro e W2 ⟨u, L2, f2, d2, o2, D2, r2, X2, tl, rfl, ht2, htl, -, htt⟩
   clear x1 x2 x3 x4 x5 x6 x7 x8 x9 x10 x11 HHE
   have HT2 := hid ht2
   have HTT := hid htt
   obtain ⟨A5, c5, rfl, h5a, h5b, -, h5d⟩ := htl.at_
   have HTD := hid h5d
   obtain ⟨n5, hn5⟩ : ∃ n, tl.length = n := ⟨_, rfl⟩
   have h5m : n5 ≤ 9223372036854775807 := by unfold maxLen at h5b; omega
   rw [hn5]
   have HN5 := hid hn5
   clear ht2 htt htl h5a h5b h5d hn5
   go_wp2
   go_loopg [61] n5 (fun gk2 tq wr2 => ∃ q : Nat, q + gk2 = n5 ∧ tq = .int .i64 q ∧ Below W2.heap.size W2 wr2)
   case atStart => exact ⟨0, by omega, rfl, Below.refl _ _⟩
   case round =>
    obtain ⟨q, hq, rfl, hb2⟩ := hrel
    have HQB := hid hb2
    clear hb2
    by_cases hql : q < n5
    ·have hql' : (q : Int) < (n5 : Int) := by omega
     obtain ⟨t, ht⟩ : ∃ t, tl[q]? = some t := ⟨_, List.getElem?_eq_getElem (by have := HN5.out; omega)⟩
     have hbt := HTT.out t (List.mem_of_getElem? ht)
     obtain ⟨ad5, u5, rfl, hat5⟩ := HTD.out q t ht
     obtain ⟨dc, dg, dl⟩ := t
     obtain ⟨A7, c7, rfl, -⟩ := id hat5.y
     obtain ⟨e0, e1, e2, e3, e4, e5, e6, e7, e8, e9, e10⟩ := (TmAt.mono hat5 HQB.out).all
     dsimp only at e0 e1 e2 e3 e4 e5 e6 e7 e8 e9 e10 hbt
     have HBTQ := hid hbt
     obtain ⟨rb, hrb⟩ : ∃ g, wr.heap.size = g := ⟨_, rfl⟩
     obtain ⟨W3, hW3⟩ : ∃ x, wr.alloc (.cells #[.int .i64 (dc 0), .int .i64 (dc 1), .int .i64 (dc 2), .int .i64 (dc 3), .int .i64 (dc 4), .int .i64 (dc 5), .int .i64 (dc 6), .int .i64 (dc 7), .int .i64 (dc 8), .bool dg, .slice A7 dl.length c7] 40) = x := ⟨_, rfl⟩
     have BW3 : Below wr.heap.size wr W3 := by rw [← hW3]; exact below_alloc _ _
     have HX3 := hid (show Bx W3 rb 40 #[.int .i64 (dc 0), .int .i64 (dc 1), .int .i64 (dc 2), .int .i64 (dc 3), .int .i64 (dc 4), .int .i64 (dc 5), .int .i64 (dc 6), .int .i64 (dc 7), .int .i64 (dc 8), .bool dg, .slice A7 dl.length c7] from by rw [← hW3, ← hrb]; exact Bx.new _ _ _)
     have HB3' := hid (on HQB.out BW3)
     have HY3 := hid (show By W3 Kq.X (.slice A7 dl.length c7) dl from hat5.y.below HB3'.out)
     have HW3 := hid hW3
     have HRB := hid hrb
     clear hat5 hbt BW3 hW3 hrb ht
     go_upto_region 19 with fail
     rw [HRB.out, HW3.out]
     clear e0 e1 e2 e3 e4 e5 e6 e7 e8 e9 e10 HW3
     have HT3 := hid (HT2.out.below HB3'.out)
     have z5 : W3.cell? ⟨rb, 5, none⟩ = some (.int .i64 (dc 5)) := HX3.out.cell 5
     have HST := hid (astored_any HT3.out.am (dc 5))
     rw [HT3.out.kc] at HST
     go_wp2_with fail
     refine HST.out.mono ?_
     rintro e W4 ⟨u9, rfl, hy9, hb9⟩
     have HY9 := hid hy9
     have HB9 := hid (on HB3'.out hb9)
     have HY4 := hid (HY3.out.below hb9)
     have HX4' := hid (HX3.out.next hb9)
     clear hy9 hb9 z5 HST HY3 HX3 HT3 HB3'
     have z0 : W4.cell? ⟨rb, 0, none⟩ = some (.int .i64 (dc 0)) := HX4'.out.cell 0
     have z8 : W4.cell? ⟨rb, 8, none⟩ = some (.int .i64 (dc 8)) := HX4'.out.cell 8
     have z10 : W4.cell? ⟨rb, 10, none⟩ = some (.slice A7 dl.length c7) := HX4'.out.cell 10
     by_cases k12 : dc 0 = 12
     ·have q12 : ((dc 0 : Int) == 12) = true := by simpa using k12
      by_cases k8 : dc 8 = 0
      ·have q8 : ((dc 8 : Int) == 0) = true := by simpa using k8
       obtain ⟨g1, g2⟩ := HBTQ.out k12 k8
       have HRE := hid (show rdE c (dc 5) = 0 from if_pos g1)
       have HSA := hid (same_by (show By W4 Kq.X u9 dl from by rw [g2]; exact HY9.out) HY4.out)
       rw [HRE.out]
       clear k12 k8 g1 g2
       go_wp2_with (go_at_call 17; refine HSA.out.mono ?_; rintro e W6 ⟨rfl, k6, rfl⟩)
       go_roundg (gk - 1)
       case measure => omega
       case rel => exact ⟨q + 1, by omega, by go_num, below_draws HB9.out k6⟩
      ·have q8 : ((dc 8 : Int) == 0) = false := by simpa using k8
       clear k12 k8
       go_wp2
       go_roundg (gk - 1)
       case measure => omega
       case rel => exact ⟨q + 1, by omega, by go_num, HB9.out⟩
     ·have q12 : ((dc 0 : Int) == 12) = false := by simpa using k12
      clear k12
      go_wp2
      go_roundg (gk - 1)
      case measure => omega
      case rel => exact ⟨q + 1, by omega, by go_num, HB9.out⟩
    ·have hql' : ¬ (q : Int) < (n5 : Int) := by omega
     have HT4 := hid (HT2.out.below HQB.out)
     clear HTD HTT HT2
     have HDD := hid (down_any HT4.out.dk)
     have HAD := hid (adown_any HT4.out.am)
     cases d2 with
     | false =>
      go_wp2_with (first | (go_at_call 26; refine HDD.out.mono ?_; rintro e w9 ⟨rfl, rfl⟩))
      go_roundg (m - p - 1)
      case measure => omega
      case rel => exact ⟨p + 1, by omega, by go_num, rfl, _, _, _, _, _, _, _, _, _, rfl, (by omega), HT4.out⟩
     | true =>
      go_wp2_with (first | (go_at_call 26; refine HDD.out.mono ?_; rintro e w9 ⟨rfl, rfl⟩) | (go_at_call 22; refine HAD.out.mono ?_; rintro e w8 ⟨rfl, rfl⟩))
      go_roundg (m - p - 1)
      case measure => omega
      case rel => exact ⟨p + 1, by omega, by go_num, rfl, _, _, _, _, _, _, _, _, _, rfl, (by omega), HT4.out⟩
  ·have hlt' : ¬ (p : Int) < (m : Int) := by omega
   go_wp2
   go_ret
   exact ⟨rfl, on HB0.out HLV.out.bel⟩
end Go.Proofs.YtbcejfonkehjgaaGreatDoor
