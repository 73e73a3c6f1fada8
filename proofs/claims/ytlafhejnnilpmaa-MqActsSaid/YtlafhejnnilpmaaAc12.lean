/-
  What is proved: the walk of MqActs: whatever is used, added and removed, one behind the other, what goes, and all queues and ghosts, are what the document says. Condition: the shape and the acts are read as such.
-/
import Derived.Test.YtlafhejnnilpmaaTw12
import Derived.Test.YtlafhejnnilpmaaAr12
namespace Go.Proofs.Ytlafhejnnilpmaa
open Go.RowKit

set_option maxRecDepth 100000 in
set_option maxHeartbeats 8000000 in
theorem acts_walk (cc nn ll hh : Int) (A : Option Addr) (n c : Nat) (f : Nat → A2) (w : World) (hn : n ≤ maxLen) (h : Acts w A n f) :
    Calls Try.prog 3 #[.agg #[.int .i64 cc, .int .i64 nn, .int .i64 ll, .int .i64 hh], .slice A n c] w fun e w' => e = .returned (.bool true) ∧ Below w.heap.size w w' := by
  have HA := hid h
  unfold maxLen at hn
  have HX0 := hid (Bx.new w 23 #[.int .i64 cc, .int .i64 nn, .int .i64 ll, .int .i64 hh])
  have HB0 := hid (below_alloc w (.cells #[.int .i64 cc, .int .i64 nn, .int .i64 ll, .int .i64 hh] 23))
  obtain ⟨q, hq⟩ : ∃ q, w.heap.size = q := ⟨_, rfl⟩
  rw [hq] at HX0
  have HQ := hid hq
  clear h hq
  go_enter Try.func3, Try.ntmps3
  go_upto_region 3 with (go_at_call 8; refine (wakes_any _).mono ?_; rintro e w1 ⟨rfl, hb⟩; have HX1 := hid (HX0.out.next hb); have HB := hid (on HB0.out hb); clear hb)
  rw [HQ.out]
  by_cases h150 : 150 < n
  · have hd : decide ((150 : Int) < (n : Int)) = true := by simp; omega
    clear h150
    go_wp2
    go_ret
    exact ⟨rfl, HB.out⟩
  have hd : decide ((150 : Int) < (n : Int)) = false := by simp; omega
  by_cases hs : shp cc nn ll hh
  · obtain ⟨C, N, L, H, rfl, rfl, rfl, rfl, hC, hN, hL, hH⟩ := shp_nat hs
    obtain ⟨b0, b1, b2, b3⟩ := HX1.out.all4
    have HNEW := hid (mq_new_yes C N L H hs w1)
    have HSH := hid (And.intro hC (And.intro hN (And.intro hL hH)))
    have hs0 := hs
    clear hs hC hN hL hH
    have HRI := hid (fun w => rright_any (C : Int) (N : Int) (L : Int) (H : Int) w)
    rw [decide_eq_true hs0] at HRI
    clear hs0
    go_upto_region 6 with (go_at_call 9; refine HNEW.out.mono ?_; rintro e w2 ⟨g, k, rfl, hm, hb, hg, hk⟩; have HL0 := hid (Lm.new HB.out hm hb hg hk HSH.out.1 HSH.out.2.1 HSH.out.2.2.1 HSH.out.2.2.2); have HX2 := hid (HX1.out.next hb); clear hm hb hg hk)
    clear b0 b1 b2 b3
    obtain ⟨b0, b1, b2, b3⟩ := HX2.out.all4
    have HRN := hid (rmq_new C N L H HSH.out.2.1 w2)
    go_upto_region 9 with (first
      | (go_at_call 10; refine (HRI.out _).mono ?_; rintro e w3 ⟨rfl, rfl⟩)
      | (go_at_call 11; refine HRN.out.mono ?_; rintro e1 w4 ⟨h, a, p, e, rfl, hb, hlow, hq⟩; go_loud (have HT0 := hid (show Tw w w4 (fun j => Mf g k j ∨ Fr h a p e j) g k h a p e C N L H 0 m00 m00 from ⟨HL0.out.below hb, rs_new HSH.out.2.1.2 (hq (Mf g k) (fun j hj => by rcases hj with rfl | rfl <;> first | exact HL0.out.q.box.lt | exact HL0.out.q.sq.lt)), fun j hj => .inl hj, fun j hj hf => by have := hlow j hf; rcases hj with rfl | rfl <;> first | (have := HL0.out.q.box.lt; omega) | (have := HL0.out.q.sq.lt; omega), fun j hj => Nat.le_trans HL0.out.bel.size (hlow j hj)⟩)); clear hb hlow hq))
    clear b0 b1 b2 b3
    go_wp2
    go_loopg [51] n (fun gk s wr => ∃ i : Nat, i + gk = n ∧ s = .int .i64 i ∧ ∃ m, Tw w wr (fun j => Mf g k j ∨ Fr h a p e j) g k h a p e C N L H i m m)
    case atStart => exact ⟨0, by omega, rfl, _, HT0.out⟩
    case round =>
      obtain ⟨i, hp, rfl, m, hT⟩ := hrel
      have HT := hid hT
      clear hT HT0 HL0 HX2
      by_cases hlt : i < n
      · obtain ⟨ad, rfl, hat⟩ := (HA.out.below HT.out.l.bel) i hlt
        obtain ⟨⟨κ, b⟩, hH⟩ : ∃ y, f i = y := ⟨_, rfl⟩
        rw [hH] at hat
        obtain ⟨alt, c0, c1⟩ := hat
        dsimp only at c0 c1
        obtain ⟨r, hg⟩ : ∃ g, wr.heap.size = g := ⟨_, rfl⟩
        obtain ⟨W, hW⟩ : ∃ W, wr.alloc (.cells #[.int .i64 κ, .int .i64 b] 34) = W := ⟨_, rfl⟩
        have BW : Below wr.heap.size wr W := by rw [← hW]; exact below_alloc _ _
        have HXW := hid (show Bx W r 34 #[.int .i64 κ, .int .i64 b] from by rw [← hW, ← hg]; exact Bx.new _ _ _)
        have HTW := hid (HT.out.below BW)
        have HRM := hid (show ¬ Mf g k r from fun hm => by have h1 := HT.out.l.q.box.lt; have h2 := HT.out.l.q.sq.lt; rcases hm with e2 | e2 <;> omega)
        have HRF := hid (show ¬ Fr h a p e r from fun hm => by have := HT.out.r.xf.2 r (.inr hm); omega)
        have HWW := hid hW
        have HGG := hid hg
        have hpn : (i : Int) < (n : Int) := by omega
        have HT200 := hid (show m.t ≤ 200 from by have := HT.out.l.t; omega)
        clear BW hH hW hg HT
        go_upto_region 12 with fail
        rw [HGG.out, HWW.out]
        clear c0 c1 HGG HWW alt
        have y0 : W.cell? ⟨r, 0, none⟩ = some (.int .i64 κ) := HXW.out.cell 0
        have y1 : W.cell? ⟨r, 1, none⟩ = some (.int .i64 b) := HXW.out.cell 1
        generalize gk = K0 at *
        by_cases hk0 : κ = 0
        · subst hk0
          have HU := hid (fun (y : World) (hy : Tw w y (fun j => Mf g k j ∨ Fr h a p e j) g k h a p e C N L H i m m) => mq_Use hy.l.q hy.l.ok HT200.out b)
          have HV := hid (fun (y : World) (hy : Rs y (fun j => Mf g k j ∨ Fr h a p e j) h a p e C N L H m) => rs_use hy HTW.out.l.ok HT200.out b)
          have OKM := hid (HTW.out.l.ok.useM b)
          have HTD := hid (show Tw w W.drew (fun j => Mf g k j ∨ Fr h a p e j) g k h a p e C N L H i m m from HTW.out.draws 1)
          have HXD := hid (show Bx W.drew r 34 #[.int .i64 0, .int .i64 b] from HXW.out)
          have bnn : ∀ b : Bool, (b != b) = false := fun b => by simp
          have hTT := HTW.out.l.t
          generalize hdb : decide (b ∈ m.al) = bb at *
          have bn := bnn bb
          clear hdb bnn
          go_upto_region 14 with fail
          clear y0
          go_region_held3 (fun w' => w'.cell? ⟨r, 1, none⟩ = some (.int .i64 b)) (first | exact kp | exact y1) (first
            | (go_at_call 12; (with_reducible refine (HU.out _ HTD.out).mono ?_); rintro e2 w5 ⟨rfl, hq, hc⟩; have HT5 := hid (HTD.out.mq hq hc OKM.out.1 (Nat.le_trans OKM.out.2 (Nat.succ_le_succ hTT))); have HX5 := hid (hc.bx HXD.out HRM.out); have kp := HX5.out.cell 1; clear hq hc)
            | (go_at_call 13; (with_reducible refine (HV.out _ HT5.out.r).mono ?_); rintro e2 w6 ⟨rfl, hz, hc⟩; have HT6 := hid (HT5.out.ref hz hc); have HX6 := hid (hc.bx HX5.out HRF.out); have kp := HX6.out.cell 1; clear hz hc))
          generalize m.useM N L b = M at *
          clear y1 bn kp
          go_upto_region 24 with fail
          have y1 : w6.cell? ⟨r, 1, none⟩ = some (.int .i64 b) := HX6.out.cell 1
          have HTF := hid (show Tw w w6.drew (fun j => Mf g k j ∨ Fr h a p e j) g k h a p e C N L H (i + 1) M M from HT6.out.draws 1)
          have HXF := hid (show w6.drew.heap.size = w6.drew.heap.size ∧ Bx w6.drew r 34 (#[.int .i64 0, .int .i64 b]) from ⟨rfl, HX6.out⟩)
          have onn : (M.o b != M.o b) = false := by simp
          have HOF := hid (fun (y : World) (hy : Rs y (fun j => Mf g k j ∨ Fr h a p e j) h a p e C N L H M) => rs_times hy HTF.out.l.ok b)
          by_cases hin : b ∈ M.al
          · obtain ⟨z, hz, hzm⟩ := HTF.out.l.ok.there hin
            have HO2 := hid (fun (y : World) (hy : Rs y (fun j => Mf g k j ∨ Fr h a p e j) h a p e C N L H M) => rs_of_yes hy HTF.out.l.ok hz hzm)
            have HHA := hid (fun (y : World) (hy : Mq y g k C N L H M) => mq_has hy HTF.out.l.ok b)
            rw [decide_eq_true hin] at HHA
            have HOT := hid (fun (y : World) (hy : Mq y g k C N L H M) => mq_often hy HTF.out.l.ok b)
            clear hin hzm
            generalize M.o b = ob at *
            go_region_held3 (fun w' => w'.cell? ⟨r, 1, none⟩ = some (.int .i64 b)) (first | exact kp | exact y1) (first
              | (go_at_call 18; (with_reducible refine (same_walk HTF.out).mono ?_); rintro e2 w8 ⟨rfl, hb⟩; have HT8 := hid (HTF.out.below hb); have kp := (HXF.out.2.next hb).cell 1; clear hb)
              | (go_at_call 19; (with_reducible refine (HHA.out _ HT8.out.l.q).mono ?_); rintro e2 w9 ⟨rfl, rfl⟩)
              | (go_at_call 20; (with_reducible refine (HO2.out _ HT8.out.r).mono ?_); rintro e2 w9 ⟨rfl, rfl⟩)
              | (go_at_call 21; (with_reducible refine (HOT.out _ HT8.out.l.q).mono ?_); rintro e2 w9 ⟨rfl, rfl⟩)
              | (go_at_call 22; (with_reducible refine (HOF.out _ HT8.out.r).mono ?_); rintro e2 w9 ⟨rfl, rfl⟩))
            all_goals
              go_wp2
              go_roundg (K0 - 1)
              case measure => omega
              case rel => exact ⟨i + 1, by omega, by go_num, M, HT8.out⟩
          · have HO2 := hid (fun (y : World) (hy : Rs y (fun j => Mf g k j ∨ Fr h a p e j) h a p e C N L H M) => rs_of_no hy hin HTF.out.l.ok)
            have HHA := hid (fun (y : World) (hy : Mq y g k C N L H M) => mq_has hy HTF.out.l.ok b)
            rw [decide_eq_false hin] at HHA
            have HOT := hid (fun (y : World) (hy : Mq y g k C N L H M) => mq_often hy HTF.out.l.ok b)
            clear hin
            generalize M.o b = ob at *
            go_region_held3 (fun w' => w'.cell? ⟨r, 1, none⟩ = some (.int .i64 b)) (first | exact kp | exact y1) (first
              | (go_at_call 18; (with_reducible refine (same_walk HTF.out).mono ?_); rintro e2 w8 ⟨rfl, hb⟩; have HT8 := hid (HTF.out.below hb); have kp := (HXF.out.2.next hb).cell 1; clear hb)
              | (go_at_call 19; (with_reducible refine (HHA.out _ HT8.out.l.q).mono ?_); rintro e2 w9 ⟨rfl, rfl⟩)
              | (go_at_call 20; (with_reducible refine (HO2.out _ HT8.out.r).mono ?_); rintro e2 w9 ⟨rfl, rfl⟩)
              | (go_at_call 21; (with_reducible refine (HOT.out _ HT8.out.l.q).mono ?_); rintro e2 w9 ⟨rfl, rfl⟩)
              | (go_at_call 22; (with_reducible refine (HOF.out _ HT8.out.r).mono ?_); rintro e2 w9 ⟨rfl, rfl⟩))
            all_goals
              go_wp2
              go_roundg (K0 - 1)
              case measure => omega
              case rel => exact ⟨i + 1, by omega, by go_num, M, HT8.out⟩
        by_cases hk1 : κ = 1
        · subst hk1
          have HU := hid (fun (y : World) (m2 : Ms) (hy : Tw w y (fun j => Mf g k j ∨ Fr h a p e j) g k h a p e C N L H i m m2) => mq_add hy.l.q hy.l.ok hy.l.h16 HT200.out b)
          have HV := hid (rs_add HTW.out.r HTW.out.l.ok HTW.out.l.h16 HT200.out b)
          have OKM := hid (HTW.out.l.ok.adM HTW.out.l.h16 b)
          have hTT := HTW.out.l.t
          generalize m.adV C b = vi at *
          generalize hdb : decide (m.goes C b) = gg at *
          generalize Ms.adE b = er at *
          have vnn : (vi != vi) = false := by simp
          have gnn : (gg != gg) = false := by simp
          have enn : (er != er) = false := by simp
          clear hdb
          go_upto_region 18 with (go_at_call 14; refine HV.out.mono ?_; rintro e2 w5 ⟨rfl, hz, hc⟩; have HT5 := hid (HTW.out.ref hz hc); have HX5 := hid (hc.bx HXW.out HRF.out); clear hz hc)
          clear y0 y1
          have HZ := hid (Bx.new w5 37 #[.int .i64 vi, .bool gg, .int .i64 er])
          have BZ := below_alloc w5 (.cells #[.int .i64 vi, .bool gg, .int .i64 er] 37)
          have HT6 := hid (HT5.out.below BZ)
          have HX6 := hid (HX5.out.next BZ)
          obtain ⟨s, hs⟩ : ∃ s, w5.heap.size = s := ⟨_, rfl⟩
          have HSG := hid (show ¬ Mf g k s from fun hm => by have h8 := HT5.out.l.q.box.lt; have h9 := HT5.out.l.q.sq.lt; rcases hm with e2 | e2 <;> omega)
          rw [hs] at HZ ⊢
          generalize w5.alloc (.cells #[.int .i64 vi, .bool gg, .int .i64 er] 37) = w6 at *
          clear hs BZ HT5 HX5
          have y1 : w6.cell? ⟨r, 1, none⟩ = some (.int .i64 b) := HX6.out.cell 1
          go_upto_region 19 with (go_at_call 15; refine (HU.out _ _ HT6.out).mono ?_; rintro e2 w7 ⟨rfl, hq, hc⟩; have HT7 := hid (HT6.out.mq hq hc OKM.out.1 (Nat.le_trans OKM.out.2 (Nat.succ_le_succ hTT))); have HX7 := hid (hc.bx HX6.out HRM.out); have z0 := (hc.bx HZ.out HSG.out).cell 0; have z1 := (hc.bx HZ.out HSG.out).cell 1; have z2 := (hc.bx HZ.out HSG.out).cell 2; clear hq hc)
          clear y1
          go_upto_region 24 with fail
          clear z0 z1 z2 vnn gnn enn HT6 HX6 HZ
          have HT6 := HT7
          have HX6 := HX7
          generalize hw : w7 = w6 at *
          generalize m.adM C N L H b = M at *
          go_upto_region 24 with fail
          have y1 : w6.cell? ⟨r, 1, none⟩ = some (.int .i64 b) := HX6.out.cell 1
          have HTF := hid (show Tw w w6.drew (fun j => Mf g k j ∨ Fr h a p e j) g k h a p e C N L H (i + 1) M M from HT6.out.draws 1)
          have HXF := hid (show w6.drew.heap.size = w6.drew.heap.size ∧ Bx w6.drew r 34 (#[.int .i64 1, .int .i64 b]) from ⟨rfl, HX6.out⟩)
          have onn : (M.o b != M.o b) = false := by simp
          have HOF := hid (fun (y : World) (hy : Rs y (fun j => Mf g k j ∨ Fr h a p e j) h a p e C N L H M) => rs_times hy HTF.out.l.ok b)
          by_cases hin : b ∈ M.al
          · obtain ⟨z, hz, hzm⟩ := HTF.out.l.ok.there hin
            have HO2 := hid (fun (y : World) (hy : Rs y (fun j => Mf g k j ∨ Fr h a p e j) h a p e C N L H M) => rs_of_yes hy HTF.out.l.ok hz hzm)
            have HHA := hid (fun (y : World) (hy : Mq y g k C N L H M) => mq_has hy HTF.out.l.ok b)
            rw [decide_eq_true hin] at HHA
            have HOT := hid (fun (y : World) (hy : Mq y g k C N L H M) => mq_often hy HTF.out.l.ok b)
            clear hin hzm
            generalize M.o b = ob at *
            go_region_held3 (fun w' => w'.cell? ⟨r, 1, none⟩ = some (.int .i64 b)) (first | exact kp | exact y1) (first
              | (go_at_call 18; (with_reducible refine (same_walk HTF.out).mono ?_); rintro e2 w8 ⟨rfl, hb⟩; have HT8 := hid (HTF.out.below hb); have kp := (HXF.out.2.next hb).cell 1; clear hb)
              | (go_at_call 19; (with_reducible refine (HHA.out _ HT8.out.l.q).mono ?_); rintro e2 w9 ⟨rfl, rfl⟩)
              | (go_at_call 20; (with_reducible refine (HO2.out _ HT8.out.r).mono ?_); rintro e2 w9 ⟨rfl, rfl⟩)
              | (go_at_call 21; (with_reducible refine (HOT.out _ HT8.out.l.q).mono ?_); rintro e2 w9 ⟨rfl, rfl⟩)
              | (go_at_call 22; (with_reducible refine (HOF.out _ HT8.out.r).mono ?_); rintro e2 w9 ⟨rfl, rfl⟩))
            all_goals
              go_wp2
              go_roundg (K0 - 1)
              case measure => omega
              case rel => exact ⟨i + 1, by omega, by go_num, M, HT8.out⟩
          · have HO2 := hid (fun (y : World) (hy : Rs y (fun j => Mf g k j ∨ Fr h a p e j) h a p e C N L H M) => rs_of_no hy hin HTF.out.l.ok)
            have HHA := hid (fun (y : World) (hy : Mq y g k C N L H M) => mq_has hy HTF.out.l.ok b)
            rw [decide_eq_false hin] at HHA
            have HOT := hid (fun (y : World) (hy : Mq y g k C N L H M) => mq_often hy HTF.out.l.ok b)
            clear hin
            generalize M.o b = ob at *
            go_region_held3 (fun w' => w'.cell? ⟨r, 1, none⟩ = some (.int .i64 b)) (first | exact kp | exact y1) (first
              | (go_at_call 18; (with_reducible refine (same_walk HTF.out).mono ?_); rintro e2 w8 ⟨rfl, hb⟩; have HT8 := hid (HTF.out.below hb); have kp := (HXF.out.2.next hb).cell 1; clear hb)
              | (go_at_call 19; (with_reducible refine (HHA.out _ HT8.out.l.q).mono ?_); rintro e2 w9 ⟨rfl, rfl⟩)
              | (go_at_call 20; (with_reducible refine (HO2.out _ HT8.out.r).mono ?_); rintro e2 w9 ⟨rfl, rfl⟩)
              | (go_at_call 21; (with_reducible refine (HOT.out _ HT8.out.l.q).mono ?_); rintro e2 w9 ⟨rfl, rfl⟩)
              | (go_at_call 22; (with_reducible refine (HOF.out _ HT8.out.r).mono ?_); rintro e2 w9 ⟨rfl, rfl⟩))
            all_goals
              go_wp2
              go_roundg (K0 - 1)
              case measure => omega
              case rel => exact ⟨i + 1, by omega, by go_num, M, HT8.out⟩
        by_cases hk2 : κ = 2
        · subst hk2
          have HU := hid (fun (y : World) (hy : Tw w y (fun j => Mf g k j ∨ Fr h a p e j) g k h a p e C N L H i m m) => mq_remove hy.l.q hy.l.ok b)
          have HV := hid (fun (y : World) (hy : Rs y (fun j => Mf g k j ∨ Fr h a p e j) h a p e C N L H m) => rs_remove hy HTW.out.l.ok b)
          have OKM := hid (HTW.out.l.ok.remM b)
          have HTD := hid (show Tw w W.drew (fun j => Mf g k j ∨ Fr h a p e j) g k h a p e C N L H i m m from HTW.out.draws 1)
          have HXD := hid (show Bx W.drew r 34 #[.int .i64 2, .int .i64 b] from HXW.out)
          have bnn : ∀ b : Bool, (b != b) = false := fun b => by simp
          have hTT := HTW.out.l.t
          generalize hdb : decide (b ∈ m.al) = bb at *
          have bn := bnn bb
          clear hdb bnn
          go_upto_region 22 with fail
          clear y0
          go_region_held3 (fun w' => w'.cell? ⟨r, 1, none⟩ = some (.int .i64 b)) (first | exact kp | exact y1) (first
            | (go_at_call 16; (with_reducible refine (HU.out _ HTD.out).mono ?_); rintro e2 w5 ⟨rfl, hq, hc⟩; have HT5 := hid (HTD.out.mq hq hc OKM.out.1 (Nat.le_trans (Nat.le_of_eq OKM.out.2) (Nat.le_succ_of_le hTT))); have HX5 := hid (hc.bx HXD.out HRM.out); have kp := HX5.out.cell 1; clear hq hc)
            | (go_at_call 17; (with_reducible refine (HV.out _ HT5.out.r).mono ?_); rintro e2 w6 ⟨rfl, hz, hc⟩; have HT6 := hid (HT5.out.ref hz hc); have HX6 := hid (hc.bx HX5.out HRF.out); have kp := HX6.out.cell 1; clear hz hc))
          generalize m.remM b = M at *
          clear y1 bn kp
          go_upto_region 24 with fail
          have y1 : w6.cell? ⟨r, 1, none⟩ = some (.int .i64 b) := HX6.out.cell 1
          have HTF := hid (show Tw w w6.drew (fun j => Mf g k j ∨ Fr h a p e j) g k h a p e C N L H (i + 1) M M from HT6.out.draws 1)
          have HXF := hid (show w6.drew.heap.size = w6.drew.heap.size ∧ Bx w6.drew r 34 (#[.int .i64 2, .int .i64 b]) from ⟨rfl, HX6.out⟩)
          have onn : (M.o b != M.o b) = false := by simp
          have HOF := hid (fun (y : World) (hy : Rs y (fun j => Mf g k j ∨ Fr h a p e j) h a p e C N L H M) => rs_times hy HTF.out.l.ok b)
          by_cases hin : b ∈ M.al
          · obtain ⟨z, hz, hzm⟩ := HTF.out.l.ok.there hin
            have HO2 := hid (fun (y : World) (hy : Rs y (fun j => Mf g k j ∨ Fr h a p e j) h a p e C N L H M) => rs_of_yes hy HTF.out.l.ok hz hzm)
            have HHA := hid (fun (y : World) (hy : Mq y g k C N L H M) => mq_has hy HTF.out.l.ok b)
            rw [decide_eq_true hin] at HHA
            have HOT := hid (fun (y : World) (hy : Mq y g k C N L H M) => mq_often hy HTF.out.l.ok b)
            clear hin hzm
            generalize M.o b = ob at *
            go_region_held3 (fun w' => w'.cell? ⟨r, 1, none⟩ = some (.int .i64 b)) (first | exact kp | exact y1) (first
              | (go_at_call 18; (with_reducible refine (same_walk HTF.out).mono ?_); rintro e2 w8 ⟨rfl, hb⟩; have HT8 := hid (HTF.out.below hb); have kp := (HXF.out.2.next hb).cell 1; clear hb)
              | (go_at_call 19; (with_reducible refine (HHA.out _ HT8.out.l.q).mono ?_); rintro e2 w9 ⟨rfl, rfl⟩)
              | (go_at_call 20; (with_reducible refine (HO2.out _ HT8.out.r).mono ?_); rintro e2 w9 ⟨rfl, rfl⟩)
              | (go_at_call 21; (with_reducible refine (HOT.out _ HT8.out.l.q).mono ?_); rintro e2 w9 ⟨rfl, rfl⟩)
              | (go_at_call 22; (with_reducible refine (HOF.out _ HT8.out.r).mono ?_); rintro e2 w9 ⟨rfl, rfl⟩))
            all_goals
              go_wp2
              go_roundg (K0 - 1)
              case measure => omega
              case rel => exact ⟨i + 1, by omega, by go_num, M, HT8.out⟩
          · have HO2 := hid (fun (y : World) (hy : Rs y (fun j => Mf g k j ∨ Fr h a p e j) h a p e C N L H M) => rs_of_no hy hin HTF.out.l.ok)
            have HHA := hid (fun (y : World) (hy : Mq y g k C N L H M) => mq_has hy HTF.out.l.ok b)
            rw [decide_eq_false hin] at HHA
            have HOT := hid (fun (y : World) (hy : Mq y g k C N L H M) => mq_often hy HTF.out.l.ok b)
            clear hin
            generalize M.o b = ob at *
            go_region_held3 (fun w' => w'.cell? ⟨r, 1, none⟩ = some (.int .i64 b)) (first | exact kp | exact y1) (first
              | (go_at_call 18; (with_reducible refine (same_walk HTF.out).mono ?_); rintro e2 w8 ⟨rfl, hb⟩; have HT8 := hid (HTF.out.below hb); have kp := (HXF.out.2.next hb).cell 1; clear hb)
              | (go_at_call 19; (with_reducible refine (HHA.out _ HT8.out.l.q).mono ?_); rintro e2 w9 ⟨rfl, rfl⟩)
              | (go_at_call 20; (with_reducible refine (HO2.out _ HT8.out.r).mono ?_); rintro e2 w9 ⟨rfl, rfl⟩)
              | (go_at_call 21; (with_reducible refine (HOT.out _ HT8.out.l.q).mono ?_); rintro e2 w9 ⟨rfl, rfl⟩)
              | (go_at_call 22; (with_reducible refine (HOF.out _ HT8.out.r).mono ?_); rintro e2 w9 ⟨rfl, rfl⟩))
            all_goals
              go_wp2
              go_roundg (K0 - 1)
              case measure => omega
              case rel => exact ⟨i + 1, by omega, by go_num, M, HT8.out⟩
        · have e0 : (κ == 0) = false := by simpa using hk0
          have e1 : (κ == 1) = false := by simpa using hk1
          have e2 : (κ == 2) = false := by simpa using hk2
          go_upto_region 24 with fail
          have HT6 := hid (show Tw w W (fun j => Mf g k j ∨ Fr h a p e j) g k h a p e C N L H (i + 1) m m from ⟨⟨HTW.out.l.q, HTW.out.l.ok, HTW.out.l.h16, Nat.le_succ_of_le HTW.out.l.t, HTW.out.l.lg, HTW.out.l.lk, HTW.out.l.bel⟩, HTW.out.r, HTW.out.xm, HTW.out.dj, HTW.out.lf⟩)
          have HX6 := HXW
          clear y0 y1 e0 e1 e2 HTW HXW
          generalize W = w6 at *
          generalize m = M at *
          go_upto_region 24 with fail
          have y1 : w6.cell? ⟨r, 1, none⟩ = some (.int .i64 b) := HX6.out.cell 1
          have HTF := hid (show Tw w w6.drew (fun j => Mf g k j ∨ Fr h a p e j) g k h a p e C N L H (i + 1) M M from HT6.out.draws 1)
          have HXF := hid (show w6.drew.heap.size = w6.drew.heap.size ∧ Bx w6.drew r 34 (#[.int .i64 κ, .int .i64 b]) from ⟨rfl, HX6.out⟩)
          have onn : (M.o b != M.o b) = false := by simp
          have HOF := hid (fun (y : World) (hy : Rs y (fun j => Mf g k j ∨ Fr h a p e j) h a p e C N L H M) => rs_times hy HTF.out.l.ok b)
          by_cases hin : b ∈ M.al
          · obtain ⟨z, hz, hzm⟩ := HTF.out.l.ok.there hin
            have HO2 := hid (fun (y : World) (hy : Rs y (fun j => Mf g k j ∨ Fr h a p e j) h a p e C N L H M) => rs_of_yes hy HTF.out.l.ok hz hzm)
            have HHA := hid (fun (y : World) (hy : Mq y g k C N L H M) => mq_has hy HTF.out.l.ok b)
            rw [decide_eq_true hin] at HHA
            have HOT := hid (fun (y : World) (hy : Mq y g k C N L H M) => mq_often hy HTF.out.l.ok b)
            clear hin hzm
            generalize M.o b = ob at *
            go_region_held3 (fun w' => w'.cell? ⟨r, 1, none⟩ = some (.int .i64 b)) (first | exact kp | exact y1) (first
              | (go_at_call 18; (with_reducible refine (same_walk HTF.out).mono ?_); rintro e2 w8 ⟨rfl, hb⟩; have HT8 := hid (HTF.out.below hb); have kp := (HXF.out.2.next hb).cell 1; clear hb)
              | (go_at_call 19; (with_reducible refine (HHA.out _ HT8.out.l.q).mono ?_); rintro e2 w9 ⟨rfl, rfl⟩)
              | (go_at_call 20; (with_reducible refine (HO2.out _ HT8.out.r).mono ?_); rintro e2 w9 ⟨rfl, rfl⟩)
              | (go_at_call 21; (with_reducible refine (HOT.out _ HT8.out.l.q).mono ?_); rintro e2 w9 ⟨rfl, rfl⟩)
              | (go_at_call 22; (with_reducible refine (HOF.out _ HT8.out.r).mono ?_); rintro e2 w9 ⟨rfl, rfl⟩))
            all_goals
              go_wp2
              go_roundg (K0 - 1)
              case measure => omega
              case rel => exact ⟨i + 1, by omega, by go_num, M, HT8.out⟩
          · have HO2 := hid (fun (y : World) (hy : Rs y (fun j => Mf g k j ∨ Fr h a p e j) h a p e C N L H M) => rs_of_no hy hin HTF.out.l.ok)
            have HHA := hid (fun (y : World) (hy : Mq y g k C N L H M) => mq_has hy HTF.out.l.ok b)
            rw [decide_eq_false hin] at HHA
            have HOT := hid (fun (y : World) (hy : Mq y g k C N L H M) => mq_often hy HTF.out.l.ok b)
            clear hin
            generalize M.o b = ob at *
            go_region_held3 (fun w' => w'.cell? ⟨r, 1, none⟩ = some (.int .i64 b)) (first | exact kp | exact y1) (first
              | (go_at_call 18; (with_reducible refine (same_walk HTF.out).mono ?_); rintro e2 w8 ⟨rfl, hb⟩; have HT8 := hid (HTF.out.below hb); have kp := (HXF.out.2.next hb).cell 1; clear hb)
              | (go_at_call 19; (with_reducible refine (HHA.out _ HT8.out.l.q).mono ?_); rintro e2 w9 ⟨rfl, rfl⟩)
              | (go_at_call 20; (with_reducible refine (HO2.out _ HT8.out.r).mono ?_); rintro e2 w9 ⟨rfl, rfl⟩)
              | (go_at_call 21; (with_reducible refine (HOT.out _ HT8.out.l.q).mono ?_); rintro e2 w9 ⟨rfl, rfl⟩)
              | (go_at_call 22; (with_reducible refine (HOF.out _ HT8.out.r).mono ?_); rintro e2 w9 ⟨rfl, rfl⟩))
            all_goals
              go_wp2
              go_roundg (K0 - 1)
              case measure => omega
              case rel => exact ⟨i + 1, by omega, by go_num, M, HT8.out⟩
      · obtain rfl : i = n := by omega
        clear hlt hp
        go_wp2
        go_ret
        exact ⟨rfl, HT.out.l.bel⟩
  · obtain ⟨b0, b1, b2, b3⟩ := HX1.out.all4
    have HNEW := hid (mq_new_no cc nn ll hh hs w1)
    have hs0 := hs
    clear hs
    have HRI := hid (fun w => rright_any cc nn ll hh w)
    rw [decide_eq_false hs0] at HRI
    clear hs0
    go_upto_region 6 with (go_at_call 9; refine HNEW.out.mono ?_; rintro e w2 ⟨rfl, hb⟩; have HB2 := hid (on HB.out hb); have HX2 := hid (HX1.out.next hb); clear hb)
    clear b0 b1 b2 b3
    obtain ⟨b0, b1, b2, b3⟩ := HX2.out.all4
    go_wp2_with (go_at_call 10; refine (HRI.out _).mono ?_; rintro e w3 ⟨rfl, rfl⟩)
    go_ret
    exact ⟨rfl, HB2.out⟩
end Go.Proofs.Ytlafhejnnilpmaa
