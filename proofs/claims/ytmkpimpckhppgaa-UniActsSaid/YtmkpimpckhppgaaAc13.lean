/-
  What is proved: the walk of UniActs: whatever is used and dropped, one behind the other, levels, moves, the stack and its yardsticks are the reference's. Condition: the capacities and the acts are read as such.
-/
import Derived.Test.YtmkpimpckhppgaaTw13
import Derived.Test.YtmkpimpckhppgaaAr13
import Derived.Test.YtmkpimpckhppgaaBo13
namespace Go.Proofs.Ytmkpimpckhppgaa
open Go.RowKit

set_option maxRecDepth 100000 in
set_option maxHeartbeats 8000000 in
theorem acts_walk (x y z : Int) (A : Option Addr) (n cp : Nat) (f : Nat → UA) (w : World) (hm : n ≤ maxLen) (h : UActs w A n f) :
    Calls Try.prog 3 #[.agg #[.int .i64 x, .int .i64 y, .int .i64 z], .slice A n cp] w fun e w' => e = .returned (.bool true) ∧ Below w.heap.size w w' := by
  have HA := hid h
  unfold maxLen at hm
  have HX0 := hid (Bx.new w 22 #[.int .i64 x, .int .i64 y, .int .i64 z])
  have HB0 := hid (below_alloc w (.cells #[.int .i64 x, .int .i64 y, .int .i64 z] 22))
  obtain ⟨q, hq⟩ : ∃ q, w.heap.size = q := ⟨_, rfl⟩
  rw [hq] at HX0
  have HQ := hid hq
  have HNEW := hid (fun w => un_new x y z w)
  have HRI := hid (fun w => r_right x y z w)
  clear h hq
  go_enter Try.func3, Try.ntmps3
  go_upto_region 3 with (go_at_call 8; refine (wakes_any _).mono ?_; rintro e w1 ⟨rfl, hb⟩; have HX1 := hid (HX0.out.next hb); have HB := hid (on HB0.out hb); clear hb)
  rw [HQ.out]
  by_cases h120 : 120 < n
  · have hd : decide ((120 : Int) < (n : Int)) = true := by simp; omega
    clear h120
    go_wp2
    go_ret
    exact ⟨rfl, HB.out⟩
  have hd : decide ((120 : Int) < (n : Int)) = false := by simp; omega
  obtain ⟨a0, a1, a2⟩ := HX1.out.all3
  by_cases hR : capR [x, y, z]
  · obtain ⟨C1, C2, C3, rfl, rfl, rfl, e1, e2, e3⟩ := caps_nat hR
    obtain ⟨c, hcf⟩ : ∃ c, capf [(C1 : Int), (C2 : Int), (C3 : Int)] = c := ⟨_, rfl⟩
    rw [decide_eq_true hR] at HRI
    unfold NewR at HNEW
    rw [hcf] at e1 e2 e3 HNEW
    have HCE := hid (show (c 1 : Int) = C1 ∧ (c 2 : Int) = C2 ∧ (c 3 : Int) = C3 from by rw [e1, e2, e3]; exact ⟨rfl, rfl, rfl⟩)
    have HR := hid hR
    clear e1 e2 e3 hcf hR
    go_upto_region 6 with (go_at_call 9; refine (HNEW.out _).mono ?_; intro e w2 hq; rw [if_pos HR.out] at hq; obtain ⟨g, k, rfl, hu, hb, hg, hk⟩ := hq; have HL0 := hid (Ls.new HB.out hu hb hg hk); have HX2 := hid (HX1.out.next hb); clear hu hb hg hk)
    clear a0 a1 a2
    obtain ⟨a0, a1, a2⟩ := HX2.out.all3
    go_upto_region 8 with (go_at_call 10; refine (HRI.out _).mono ?_; rintro e w3 ⟨rfl, hb⟩; have HL3 := hid (HL0.out.below hb); have HX3 := hid (HX2.out.next hb); clear hb)
    clear a0 a1 a2
    obtain ⟨a0, a1, a2⟩ := HX3.out.all3
    have HRN := hid (r_new (C1 : Int) (C2 : Int) (C3 : Int) c (Uf g k) w3 (fun j e => e.elim (fun e => by rw [e]; exact HL3.out.u.box.lt) (fun e => by rw [e]; exact HL3.out.u.sq.lt)) HCE.out)
    go_upto_region 9 with (go_at_call 11; refine HRN.out.mono ?_; rintro e w4 ⟨h, E, ce, rfl, hu, hb, hlh⟩; have HT0 := hid (show Tw w w4 (Uf g k) g k c s00 h none 0 E ce from ⟨HL3.out.below hb, hu, fun _ e => e, Nat.le_trans HL3.out.bel.size hlh⟩); clear hu hb hlh)
    clear a0 a1 a2
    go_wp2
    go_loopg [40] n (fun gk t wr => ∃ p : Nat, p + gk = n ∧ t = .int .i64 p ∧ ∃ s A0 cp0, Tw w wr (Uf g k) g k c s h A0 cp0 E ce)
    case atStart => exact ⟨0, by omega, rfl, _, _, _, HT0.out⟩
    case round =>
      obtain ⟨p, hp, rfl, s, A0, cp0, hT⟩ := hrel
      have HT := hid hT
      clear hT HT0
      by_cases hlt : p < n
      · obtain ⟨ad, rfl, hat⟩ := (HA.out.below HT.out.l.bel) p hlt
        obtain ⟨⟨d, b⟩, hH⟩ : ∃ y, f p = y := ⟨_, rfl⟩
        rw [hH] at hat
        obtain ⟨alt, c0, c1⟩ := hat
        dsimp only at c0 c1
        obtain ⟨r, hr⟩ : ∃ g, wr.heap.size = g := ⟨_, rfl⟩
        obtain ⟨W, hW⟩ : ∃ W, wr.alloc (.cells #[.bool d, .int .i64 b] 33) = W := ⟨_, rfl⟩
        have BW : Below wr.heap.size wr W := by rw [← hW]; exact below_alloc _ _
        have HXW := hid (show Bx W r 33 #[.bool d, .int .i64 b] from by rw [← hW, ← hr]; exact Bx.new _ _ _)
        have HTW := hid (HT.out.below BW)
        have HRM := hid (show r ≠ h ∧ ¬ Uf g k r from ⟨fun e => by have := HT.out.r.box.lt; omega, fun e => e.elim (fun e => by have := HT.out.l.u.box.lt; omega) (fun e => by have := HT.out.l.u.sq.lt; omega)⟩)
        have HWW := hid (And.intro hr hW)
        have hpn : (p : Int) < (n : Int) := by omega
        clear BW hH hW hr HT
        go_upto_region 16 with fail
        rw [HWW.out.1, HWW.out.2]
        clear c0 c1 HWW alt
        have y0 : W.cell? ⟨r, 0, none⟩ = some (.bool d) := HXW.out.cell 0
        have y1 : W.cell? ⟨r, 1, none⟩ = some (.int .i64 b) := HXW.out.cell 1
        generalize gk = K0 at *
        cases d with
        | true =>
          have HTD := hid (show Tw w W.drew (Uf g k) g k c s h A0 cp0 E ce from HTW.out.draws 1)
          have HXD := hid (show Bx W.drew r 33 #[.bool true, .int .i64 b] from HXW.out)
          have HDA := hid (un_drop HTD.out.l.u HTD.out.l.ok b)
          have HDB := hid (fun (y : World) (hy : Ur y (Uf g k) h A0 cp0 E ce c s) => r_drop hy HTD.out.l.ok b)
          have HOK := hid (HTD.out.l.ok.dr b)
          generalize decide (b ∈ s.L) = t at *
          have nt : (t != t) = false := by simp
          go_upto_region 17 with fail
          clear y0
          go_region_held3 (fun w' => w'.cell? ⟨r, 1, none⟩ = some (.int .i64 b)) (first | exact kp | exact y1) (first
            | (go_at_call 12; (with_reducible refine HDA.out.mono ?_); rintro e2 w5 ⟨rfl, hu, hc⟩; have HL5 := hid (HTD.out.l.step hu hc HOK.out); have HR5 := hid (HTD.out.r.chg hc HTD.out.hx); have HX5 := hid (hc.bx HXD.out HRM.out.2); have kp := HX5.out.cell 1; clear hu hc)
            | (go_at_call 13; (with_reducible refine (HDB.out _ HR5.out).mono ?_); rintro e2 w6 ⟨rfl, A9, cp9, hu, hc⟩; have HL6 := hid (HL5.out.chg hc (fun j e => by rw [e]; exact HTD.out.lh) (fun e => HR5.out.hX (.inl e.symm)) (fun e => HR5.out.hX (.inr e.symm))); have HX6 := hid (hc.bx HX5.out HRM.out.1); have HT9 := hid (show Tw w w6 (Uf g k) g k c (s.dr b) h A9 cp9 E ce from ⟨HL6.out, hu, HTD.out.hx, HTD.out.lh⟩); have kp := HX6.out.cell 1; clear hu hc))
          go_upto_region 23 with fail
          have HX9 := hid HX6.out
          clear kp y1 nt HX6 HL6 HL5 HR5 HX5 HTD HXD HDA HDB
          generalize s.dr b = s9 at *
          generalize w6 = w9 at *
          have y9 : w9.cell? ⟨r, 1, none⟩ = some (.int .i64 b) := HX9.out.cell 1
          have HSM := hid (same_any HT9.out)
          have HPL := hid (fun (y : World) (hy : Tw w y (Uf g k) g k c s9 h A9 cp9 E ce) => r_place hy.r hy.l.ok b)
          have HLV := hid (fun (y : World) (hy : Tw w y (Uf g k) g k c s9 h A9 cp9 E ce) => un_level hy.l.u hy.l.ok b)
          by_cases hb9 : b ∈ s9.L
          · rw [show plc s9 b = (px b s9.L : Int) from by unfold plc; rw [if_pos hb9]] at HPL
            generalize px b s9.L = p9 at *
            have hp9 : ¬ (p9 : Int) < 0 := by omega
            clear HLV hb9
            go_upto_region 25 with (first
              | (go_at_call 17; refine HSM.out.mono ?_; rintro e w10 ⟨rfl, hb⟩; have HT10 := hid (HT9.out.below hb); have y10 : w10.cell? ⟨r, 1, none⟩ = some (.int .i64 b) := (HX9.out.next hb).cell 1; clear hb)
              | (go_at_call 18; refine (HPL.out _ HT10.out).mono ?_; rintro e w' ⟨rfl, rfl⟩))
            clear y9 y10
            go_wp2
            go_roundg (K0 - 1)
            case measure => omega
            case rel => exact ⟨p + 1, by omega, by go_num, _, _, _, HT10.out⟩
          · rw [show plc s9 b = -1 from by unfold plc; rw [if_neg hb9]] at HPL
            rw [HT9.out.l.ok.out b hb9] at HLV
            clear hb9
            go_upto_region 25 with (first
              | (go_at_call 17; refine HSM.out.mono ?_; rintro e w10 ⟨rfl, hb⟩; have HT10 := hid (HT9.out.below hb); have y10 : w10.cell? ⟨r, 1, none⟩ = some (.int .i64 b) := (HX9.out.next hb).cell 1; clear hb)
              | (go_at_call 18; refine (HPL.out _ HT10.out).mono ?_; rintro e w' ⟨rfl, rfl⟩)
              | (go_at_call 19; refine (HLV.out _ HT10.out).mono ?_; rintro e w' ⟨rfl, rfl⟩))
            clear y9 y10
            go_wp2
            go_roundg (K0 - 1)
            case measure => omega
            case rel => exact ⟨p + 1, by omega, by go_num, _, _, _, HT10.out⟩
        | false =>
          by_cases hv : vb b
          · have v0 : ¬ b < 0 := by have := hv.1; omega
            have v1 : ¬ (63 : Int) < b := by have := hv.2; omega
            have HUB := hid (r_use HTW.out.r HTW.out.l.ok hv)
            have HUA := hid (fun (y : World) (hy : Ls w y g k c s) => un_use hy.u HTW.out.l.ok hv)
            have HOK := hid (HTW.out.l.ok.us (c := c) hv)
            have HLM := hid (show (s.ust c b).2.length ≤ 4 from Nat.le_trans (stl_le (c := c) (k := 4 - s.nx c b) (s := s.pt b (s.nx c b))) (by omega))
            unfold RUse at HUB
            unfold UseQ at HUA
            generalize s.nx c b = nx at *
            generalize (s.ust c b).2 = M at *
            generalize s.us c b = s9 at *
            clear hv
            go_upto_region 12 with fail
            clear y0
            have nnx : ((nx : Int) != (nx : Int)) = false := by simp
            go_upto_region 13 with (go_at_call 15; refine HUB.out.mono ?_; rintro e w5 ⟨A9, cp9, mv, rfl, hm, hu, hc⟩; obtain ⟨A5, c5, rfl, hr5, -, -⟩ := OwnV.read hm; have HM5 := hid hm; have HR5 := hid hu; have HL5 := hid (HTW.out.l.chg hc (fun j e => by rw [e]; exact HTW.out.lh) (fun e => HTW.out.r.hX (.inl e.symm)) (fun e => HTW.out.r.hX (.inr e.symm))); have HX5 := hid (hc.bx HXW.out HRM.out.1); clear hm hu hc hr5)
            clear y1
            obtain ⟨m, hml⟩ : ∃ m, M.length = m := ⟨_, rfl⟩
            rw [hml]
            have HML := hid hml
            clear hml
            have HB6 := hid (show Bx (w5.alloc (.cells #[.int .i64 nx, .slice A5 m c5] 39)) w5.heap.size 39 #[.int .i64 nx, .slice A5 m c5] from Bx.new _ _ _)
            have BW6 := below_alloc w5 (.cells #[.int .i64 nx, .slice A5 m c5] 39)
            have HL6 := hid (HL5.out.below BW6)
            have HR6 := hid (HR5.out.below BW6)
            have HX6 := hid (HX5.out.next BW6)
            have HM6 := hid (OwnV.below HM5.out BW6)
            have HR6N := hid (show ¬ Uf g k w5.heap.size from fun e => e.elim (fun e => by have := HL5.out.u.box.lt; omega) (fun e => by have := HL5.out.u.sq.lt; omega))
            clear BW6 HM5 HR5 HL5 HX5 HUB
            generalize w5.heap.size = r6 at *
            generalize w5.alloc (.cells #[.int .i64 nx, .slice A5 m c5] 39) = w6 at *
            have y1 : w6.cell? ⟨r, 1, none⟩ = some (.int .i64 b) := HX6.out.cell 1
            go_upto_region 14 with (go_at_call 14; refine (HUA.out _ HL6.out).mono ?_; rintro e w7 ⟨v, rfl, ho, hu, hc⟩; obtain ⟨A7, c7, rfl, hr7, -, -⟩ := OwnV.read ho; have HL7 := hid (HL6.out.step hu hc HOK.out); have HR7 := hid (HR6.out.chg hc (fun _ e => e)); have HX7 := hid (hc.bx HX6.out HRM.out.2); have HB7 := hid (hc.bx HB6.out HR6N.out); have HRA := hid hr7; have HRB := hid (hc.rv (show Rv w6 w6.heap.size A5 (mvc M) from by (obtain ⟨A', c', e', hr', -⟩ := OwnV.read HM6.out); (simp only [Value.slice.injEq] at e'); (obtain ⟨rfl, -, -⟩ := e'); exact hr') (fun ad e f => by have h1 := (World.ownsRow.lt HM6.out ad.block (by rw [e]; rfl)).1; exact f.elim (fun f => by have := HTW.out.l.u.box.lt; omega) (fun f => by have := HTW.out.l.u.sq.lt; omega))); rw [HML.out]; clear ho hu hc hr7)
            clear y1
            have HSMM := hid (same_moves A7 A5 m c7 c5 _ _ M w7 HML.out (by have := HLM.out; rw [HML.out] at this; exact this) HRA.out HRB.out (Nat.le_refl _) (Nat.le_refl _))
            have z0 : w7.cell? ⟨r6, 0, none⟩ = some (.int .i64 nx) := HB7.out.cell 0
            have z1 : w7.cell? ⟨r6, 1, none⟩ = some (.slice A5 m c5) := HB7.out.cell 1
            go_upto_region 23 with (go_at_call 16; refine HSMM.out.mono ?_; rintro e w9 ⟨rfl, hb⟩; have HT9 := hid (show Tw w w9 (Uf g k) g k c s9 h A9 cp9 E ce from ⟨HL7.out.below hb, HR7.out.below hb, fun _ e => e, HTW.out.lh⟩); have HX9 := hid (HX7.out.next hb); clear hb)
            clear z0 z1 HL7 HR7 HX7 HB7 HRA HRB HSMM HM6 HL6 HR6 HX6 HB6 HUA
            have y9 : w9.cell? ⟨r, 1, none⟩ = some (.int .i64 b) := HX9.out.cell 1
            have HSM := hid (same_any HT9.out)
            have HPL := hid (fun (y : World) (hy : Tw w y (Uf g k) g k c s9 h A9 cp9 E ce) => r_place hy.r hy.l.ok b)
            have HLV := hid (fun (y : World) (hy : Tw w y (Uf g k) g k c s9 h A9 cp9 E ce) => un_level hy.l.u hy.l.ok b)
            by_cases hb9 : b ∈ s9.L
            · rw [show plc s9 b = (px b s9.L : Int) from by unfold plc; rw [if_pos hb9]] at HPL
              generalize px b s9.L = p9 at *
              have hp9 : ¬ (p9 : Int) < 0 := by omega
              clear HLV hb9
              go_upto_region 25 with (first
                | (go_at_call 17; refine HSM.out.mono ?_; rintro e w10 ⟨rfl, hb⟩; have HT10 := hid (HT9.out.below hb); have y10 : w10.cell? ⟨r, 1, none⟩ = some (.int .i64 b) := (HX9.out.next hb).cell 1; clear hb)
                | (go_at_call 18; refine (HPL.out _ HT10.out).mono ?_; rintro e w' ⟨rfl, rfl⟩))
              clear y9 y10
              go_wp2
              go_roundg (K0 - 1)
              case measure => omega
              case rel => exact ⟨p + 1, by omega, by go_num, _, _, _, HT10.out⟩
            · rw [show plc s9 b = -1 from by unfold plc; rw [if_neg hb9]] at HPL
              rw [HT9.out.l.ok.out b hb9] at HLV
              clear hb9
              go_upto_region 25 with (first
                | (go_at_call 17; refine HSM.out.mono ?_; rintro e w10 ⟨rfl, hb⟩; have HT10 := hid (HT9.out.below hb); have y10 : w10.cell? ⟨r, 1, none⟩ = some (.int .i64 b) := (HX9.out.next hb).cell 1; clear hb)
                | (go_at_call 18; refine (HPL.out _ HT10.out).mono ?_; rintro e w' ⟨rfl, rfl⟩)
                | (go_at_call 19; refine (HLV.out _ HT10.out).mono ?_; rintro e w' ⟨rfl, rfl⟩))
              clear y9 y10
              go_wp2
              go_roundg (K0 - 1)
              case measure => omega
              case rel => exact ⟨p + 1, by omega, by go_num, _, _, _, HT10.out⟩
          · have HU := hid (un_use_out W g hv)
            have hcase : b < 0 ∨ (¬ b < 0 ∧ (63 : Int) < b) := by
              unfold vb at hv
              omega
            clear hv
            have HT9 := hid HTW.out
            have HX9 := hid HXW.out
            clear HTW HXW
            generalize s = s9 at *
            generalize A0 = A9 at *
            generalize cp0 = cp9 at *
            generalize W = w9 at *
            rcases hcase with hb0 | ⟨hb0, hb1⟩
            all_goals
              go_upto_region 23 with (go_at_call 14; refine HU.out.mono ?_; rintro e w' ⟨rfl, rfl⟩)
              clear y0 y1
              have y9 : w9.cell? ⟨r, 1, none⟩ = some (.int .i64 b) := HX9.out.cell 1
              have HSM := hid (same_any HT9.out)
              have HPL := hid (fun (y : World) (hy : Tw w y (Uf g k) g k c s9 h A9 cp9 E ce) => r_place hy.r hy.l.ok b)
              have HLV := hid (fun (y : World) (hy : Tw w y (Uf g k) g k c s9 h A9 cp9 E ce) => un_level hy.l.u hy.l.ok b)
              by_cases hb9 : b ∈ s9.L
              · rw [show plc s9 b = (px b s9.L : Int) from by unfold plc; rw [if_pos hb9]] at HPL
                generalize px b s9.L = p9 at *
                have hp9 : ¬ (p9 : Int) < 0 := by omega
                clear HLV hb9
                go_upto_region 25 with (first
                  | (go_at_call 17; refine HSM.out.mono ?_; rintro e w10 ⟨rfl, hb⟩; have HT10 := hid (HT9.out.below hb); have y10 : w10.cell? ⟨r, 1, none⟩ = some (.int .i64 b) := (HX9.out.next hb).cell 1; clear hb)
                  | (go_at_call 18; refine (HPL.out _ HT10.out).mono ?_; rintro e w' ⟨rfl, rfl⟩))
                clear y9 y10
                go_wp2
                go_roundg (K0 - 1)
                case measure => omega
                case rel => exact ⟨p + 1, by omega, by go_num, _, _, _, HT10.out⟩
              · rw [show plc s9 b = -1 from by unfold plc; rw [if_neg hb9]] at HPL
                rw [HT9.out.l.ok.out b hb9] at HLV
                clear hb9
                go_upto_region 25 with (first
                  | (go_at_call 17; refine HSM.out.mono ?_; rintro e w10 ⟨rfl, hb⟩; have HT10 := hid (HT9.out.below hb); have y10 : w10.cell? ⟨r, 1, none⟩ = some (.int .i64 b) := (HX9.out.next hb).cell 1; clear hb)
                  | (go_at_call 18; refine (HPL.out _ HT10.out).mono ?_; rintro e w' ⟨rfl, rfl⟩)
                  | (go_at_call 19; refine (HLV.out _ HT10.out).mono ?_; rintro e w' ⟨rfl, rfl⟩))
                clear y9 y10
                go_wp2
                go_roundg (K0 - 1)
                case measure => omega
                case rel => exact ⟨p + 1, by omega, by go_num, _, _, _, HT10.out⟩
      · obtain rfl : p = n := by omega
        clear hlt hp
        go_wp2
        go_ret
        exact ⟨rfl, HT.out.l.bel⟩
  · rw [decide_eq_false hR] at HRI
    unfold NewR at HNEW
    have HR := hid hR
    clear hR
    go_upto_region 6 with (go_at_call 9; refine (HNEW.out _).mono ?_; intro e w2 hq; rw [if_neg HR.out] at hq; obtain ⟨rfl, hb⟩ := hq; have HB2 := hid (on HB.out hb); have HX2 := hid (HX1.out.next hb); clear hb)
    clear a0 a1 a2
    obtain ⟨a0, a1, a2⟩ := HX2.out.all3
    go_wp2_with (go_at_call 10; refine (HRI.out _).mono ?_; rintro e w3 ⟨rfl, hb⟩; have HB3 := hid (on HB2.out hb); clear hb)
    go_ret
    exact ⟨rfl, HB3.out⟩
end Go.Proofs.Ytmkpimpckhppgaa
