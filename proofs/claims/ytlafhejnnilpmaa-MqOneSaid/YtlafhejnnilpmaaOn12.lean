/-
  What is proved: with one queue an MQ is an LRU of its capacity; the walk of MqOne. Condition: the shape and the acts are read as such.
-/
import Derived.Test.YtlafhejnnilpmaaBo12
import Derived.Test.YtlafhejnnilpmaaWk11
namespace Go.Proofs.Ytlafhejnnilpmaa
open Go.RowKit

section
variable {C L H : Nat} {m : Ms}
theorem al_one (ok : Okm C 1 L H m) : m.al = m.S.getD 0 [] := by
  rw [← ok.allsN]
  show m.S.getD 0 [] ++ [] = _
  rw [List.append_nil]
theorem us_one (ok : Okm C 1 L H m) (b : Int) (ok2 : Okm C 1 L H (m.us 1 L b)) : (m.us 1 L b).al = b :: wo b m.al := by
  rw [al_one ok2, al_one ok]
  have e : qn (m.o b + 1) 1 = 0 := by unfold qn; omega
  have hl : 0 < (woS b m.S).length := by rw [woS_len, ok.len]; omega
  show ((woS b m.S).set (qn (m.o b + 1) 1) (b :: (woS b m.S).getD (qn (m.o b + 1) 1) [])).getD 0 [] = _
  rw [e, gd_set _ hl, if_pos rfl, gd_wo]
theorem al_nd (ok : Okm C 1 L H m) : m.al.Nodup := alls_nd ok.wf 8
theorem al_vb (ok : Okm C 1 L H m) {x : Int} (h : x ∈ m.al) : vb x := ok.lt (ok.in_al h)
theorem use_one (ok : Okm C 1 L H m) (b : Int) : (m.useM 1 L b).al = useL b m.al := by
  have o2 := (ok.useM b).1
  unfold Ms.useM at o2 ⊢
  unfold useL
  by_cases hb : b ∈ m.al
  · rw [if_pos hb] at o2 ⊢
    rw [dec_true hb, us_one ok b o2]
    rfl
  · rw [if_neg hb, dec_false hb]
    rfl
theorem rem_one (_ : Okm C 1 L H m) (b : Int) : (m.remM b).al = wo b m.al := by
  unfold Ms.remM
  by_cases hb : b ∈ m.al
  · rw [if_pos hb]
    exact alls_wo b m.S 8
  · rw [if_neg hb, wo_out hb]
theorem ha_S (ok : Okm C 1 L H m) (hH : H ≤ 16) {v : Int} (hv : v ∈ m.al) : (m.ha H v).S.getD 0 [] = wo v (m.S.getD 0 []) := by
  have hl : 8 < (woS v m.S).length := by rw [woS_len, ok.len]; omega
  unfold Ms.ha
  split
  · show ((woS v m.S).set 8 (m.gg v)).getD 0 [] = _
    rw [gd_set _ hl, if_neg (by omega), gd_wo]
  · show (woS ((m.gg v).getLast (by simp [Ms.gg])) ((woS v m.S).set 8 (m.gg v))).getD 0 [] = _
    rw [drop_ghost ok hH hv, gd_set _ hl, if_neg (by omega), gd_wo]
theorem goes_one (ok : Okm C 1 L H m) (b : Int) : m.goes C b ↔ goes C b m.al := by
  unfold Ms.goes goes
  have hcap := ok.cap
  constructor
  · rintro ⟨h1, h2, h3⟩
    refine ⟨h1, ?_⟩
    rw [wo_out h2, List.length_cons]
    omega
  · rintro ⟨h1, h2⟩
    by_cases hb : b ∈ m.al
    · rw [wo_len_lt (al_nd ok) hb] at h2
      omega
    · rw [wo_out hb, List.length_cons] at h2
      exact ⟨h1, hb, by omega⟩
theorem add_one (ok : Okm C 1 L H m) (hH : H ≤ 16) (b : Int) : (m.adM C 1 L H b).al = addL C b m.al ∧ m.adV C b = vict C b m.al := by
  have hgo := goes_one ok b
  unfold Ms.adM addL Ms.adV vict
  by_cases hg : m.goes C b
  · have hg2 := hgo.1 hg
    rw [if_pos hg, if_pos hg2, if_pos hg, if_pos hg2]
    have hc := ok.c
    obtain ⟨v1, v2, -, v4⟩ := ok.vic (by rw [hg.2.2]; omega)
    have hv0 : m.vi = 0 := by omega
    rw [hv0] at v2
    have hal := al_one ok
    rw [← hal] at v2
    have hne : m.al ≠ [] := fun e => by rw [e] at v2; cases v2
    have e2 : m.al.getLast hne = m.vc := by
      rw [List.getLast?_eq_some_getLast hne] at v2
      injection v2
    obtain ⟨o1, o2⟩ := ok.ha hH v4
    have o3 := o1.us hg.1 (.inr (by have := hg.2.2; omega))
    have hb := hg.2.1
    have hd := al_nd ok
    constructor
    · rw [us_one o1 b o3, al_one o1, ha_S ok hH v4, ← hal, ← e2, wo_getLast hne hd, wo_out (fun h => hb (mem_dropLast_of h)), wo_out hb, List.dropLast_cons_of_ne_nil hne]
    · rw [← e2]
      simp only [wo_out hb]
      rw [List.getLast_cons hne]
  · have hg2 : ¬ goes C b m.al := fun e => hg (hgo.2 e)
    rw [if_neg hg, if_neg hg2, if_neg hg, if_neg hg2]
    refine ⟨?_, rfl⟩
    by_cases hv : vb b
    · rw [if_pos hv, if_pos hv]
      have o2 := (ok.adM hH b).1
      unfold Ms.adM at o2
      rw [if_neg hg, if_pos hv] at o2
      exact us_one ok b o2
    · rw [if_neg hv, if_neg hv]
end
set_option maxRecDepth 100000 in
set_option maxHeartbeats 2000000 in
theorem one_walk (cc nn ll hh : Int) (A : Option Addr) (n c : Nat) (f : Nat → A2) (w : World) (hn : n ≤ maxLen) (h : Acts w A n f) :
    Calls Try.prog 4 #[.agg #[.int .i64 cc, .int .i64 nn, .int .i64 ll, .int .i64 hh], .slice A n c] w fun e w' => e = .returned (.bool true) ∧ Below w.heap.size w w' := by
  have HA := hid h
  unfold maxLen at hn
  have HX0 := hid (Bx.new w 23 #[.int .i64 cc, .int .i64 nn, .int .i64 ll, .int .i64 hh])
  have HB0 := hid (below_alloc w (.cells #[.int .i64 cc, .int .i64 nn, .int .i64 ll, .int .i64 hh] 23))
  obtain ⟨q, hq⟩ : ∃ q, w.heap.size = q := ⟨_, rfl⟩
  rw [hq] at HX0
  have HQ := hid hq
  clear h hq
  go_enter Try.func4, Try.ntmps4
  go_upto_region 3 with (go_at_call 8; refine (wakes_any _).mono ?_; rintro e w1 ⟨rfl, hb⟩; have HX1 := hid (HX0.out.next hb); have HB := hid (on HB0.out hb); clear hb)
  rw [HQ.out]
  by_cases h150 : 150 < n
  · have hd : decide ((150 : Int) < (n : Int)) = true := by simp; omega
    clear h150
    go_wp2
    go_ret
    exact ⟨rfl, HB.out⟩
  have hd : decide ((150 : Int) < (n : Int)) = false := by simp; omega
  have hbw : w.heap.size ≤ q := Nat.le_of_eq HQ.out
  have b1 : w1.cell? ⟨q, 1, none⟩ = some (.int .i64 nn) := HX1.out.cell 1
  have bf := HX1.out.free
  go_upto_region 6 with fail
  have HX2 := hid (show Bx (w1.setCell ⟨q, 1, none⟩ (.int .i64 1)) q 23 #[.int .i64 cc, .int .i64 1, .int .i64 ll, .int .i64 hh] from HX1.out.set 1 _)
  have HB2 := hid (HB.out.setCell (show w.heap.size ≤ (⟨q, 1, none⟩ : Addr).block from hbw) (.int .i64 1))
  generalize w1.setCell ⟨q, 1, none⟩ (.int .i64 1) = w2 at *
  clear b1 bf hbw HX1 HB
  by_cases hs : shp cc 1 ll hh
  · obtain ⟨C, N, L, H, rfl, hN1, rfl, rfl, hC, hN, hL, hH⟩ := shp_nat hs
    obtain rfl : N = 1 := by omega
    obtain ⟨b0, b1, b2, b3⟩ := HX2.out.all4
    have HNEW : Hid (Calls Try.prog 9 #[.agg #[.int .i64 C, .int .i64 1, .int .i64 L, .int .i64 H]] w2 (NewQ w2 C 1 L H)) := hid (mq_new_yes C 1 L H hs w2)
    have HSH := hid (And.intro hC (And.intro hN (And.intro hL hH)))
    clear hs hC hN hL hH hN1
    go_upto_region 9 with (go_at_call 9; refine HNEW.out.mono ?_; rintro e w3 ⟨g, k, rfl, hm, hb, hg, hk⟩; have HL0 := hid (show Lb w w3 g k C 1 L H 0 q m00 from ⟨Lm.new HB2.out hm hb hg hk HSH.out.1 HSH.out.2.1 HSH.out.2.2.1 HSH.out.2.2.2, HX2.out.next hb, fun e => by have := HX2.out.lt; omega, fun e => by have := HX2.out.lt; omega⟩); clear hm hb hg hk)
    clear b0 b1 b2 b3
    go_wp2
    go_loopg [31, 7] n (fun gk t x wr => ∃ p : Nat, p + gk = n ∧ t = .int .i64 p ∧ ∃ m A0 c0, x = .slice A0 m.al.length c0 ∧ Lb w wr g k C 1 L H p q m ∧ Rw wr A0 m.al ∧ m.al.length ≤ c0 ∧ c0 ≤ maxLen ∧ ∀ ad, A0 = some ad → ¬ Mf g k ad.block)
    case atStart => exact ⟨0, by omega, rfl, _, none, 0, rfl, HL0.out, rw_nil _, Nat.le_refl _, by unfold maxLen; omega, fun _ e => by cases e⟩
    case round =>
      obtain ⟨p, hp, rfl, m, A0, c0, rfl, hT, hR, hc1, hc2, hoff⟩ := hrel
      have HT := hid hT
      have HR := hid hR
      have HCC := hid (And.intro hc1 hc2)
      have HOF := hid hoff
      clear hT HL0 hR hc1 hc2 hoff
      by_cases hlt : p < n
      · obtain ⟨ad, rfl, hat⟩ := (HA.out.below HT.out.l.bel) p hlt
        obtain ⟨⟨κ, b⟩, hH⟩ : ∃ y, f p = y := ⟨_, rfl⟩
        rw [hH] at hat
        obtain ⟨alt, c00, c01⟩ := hat
        dsimp only at c00 c01
        obtain ⟨r, hg⟩ : ∃ g, wr.heap.size = g := ⟨_, rfl⟩
        obtain ⟨W, hW⟩ : ∃ W, wr.alloc (.cells #[.int .i64 κ, .int .i64 b] 34) = W := ⟨_, rfl⟩
        have BW : Below wr.heap.size wr W := by rw [← hW]; exact below_alloc _ _
        have HXW := hid (show Bx W r 34 #[.int .i64 κ, .int .i64 b] from by rw [← hW, ← hg]; exact Bx.new _ _ _)
        have HTW := hid (HT.out.below BW)
        have HRW := hid (HR.out.below BW)
        have HNR := hid (show ∀ j, Mf g k j → j ≠ r from fun j hj e => by have := HT.out.l.q.box.lt; have := HT.out.l.q.sq.lt; rcases hj with h | h <;> omega)
        have HWW := hid hW
        have HGG := hid hg
        have hpn : (p : Int) < (n : Int) := by omega
        clear BW hH hW hg
        go_upto_region 13 with fail
        rw [HGG.out, HWW.out]
        clear c00 c01 HGG HWW alt
        have y0 : W.cell? ⟨r, 0, none⟩ = some (.int .i64 κ) := HXW.out.cell 0
        have y1 : W.cell? ⟨r, 1, none⟩ = some (.int .i64 b) := HXW.out.cell 1
        by_cases hneg : κ < 0
        · have d1 : decide (κ < (0 : Int)) = true := by simpa using hneg
          clear hneg
          go_wp2_with fail
          go_roundg (gk - 1)
          case measure => omega
          case rel => exact ⟨p + 1, by omega, by go_num, m, A0, c0, rfl, ⟨⟨HTW.out.l.q, HTW.out.l.ok, HTW.out.l.h16, Nat.le_succ_of_le HTW.out.l.t, HTW.out.l.lg, HTW.out.l.lk, HTW.out.l.bel⟩, HTW.out.box, HTW.out.ng, HTW.out.nk⟩, HRW.out, HCC.out.1, HCC.out.2, HOF.out⟩
        by_cases hbig : 2 < κ
        · have d1 : decide (κ < (0 : Int)) = false := by simpa using hneg
          have d2 : decide ((2 : Int) < κ) = true := by simpa using hbig
          clear hneg hbig
          go_wp2_with fail
          go_roundg (gk - 1)
          case measure => omega
          case rel => exact ⟨p + 1, by omega, by go_num, m, A0, c0, rfl, ⟨⟨HTW.out.l.q, HTW.out.l.ok, HTW.out.l.h16, Nat.le_succ_of_le HTW.out.l.t, HTW.out.l.lg, HTW.out.l.lk, HTW.out.l.bel⟩, HTW.out.box, HTW.out.ng, HTW.out.nk⟩, HRW.out, HCC.out.1, HCC.out.2, HOF.out⟩
        have d1 : decide (κ < (0 : Int)) = false := by simpa using hneg
        have d2 : decide ((2 : Int) < κ) = false := by simpa using hbig
        have hkk : 0 ≤ κ ∧ κ ≤ 2 := by omega
        have HDO := hid (rdo_any (b := b) HRW.out rfl HCC.out HSH.out.1.2 HTW.out.l.ok.cap (al_nd HTW.out.l.ok) (fun x hx => al_vb HTW.out.l.ok hx) κ hkk)
        clear hneg hbig
        have z0 : W.cell? ⟨q, 0, none⟩ = some (.int .i64 C) := HTW.out.box.cell 0
        go_upto_region 15 with (go_at_call 23; refine HDO.out.mono ?_; rintro e w7 ⟨A7, c7, rfl, h1, h2, h3, h4, h5⟩; have HR7 := hid h1; have HC7 := hid (And.intro h2 h3); have HO7 := hid (show ∀ ad, A7 = some ad → ¬ Mf g k ad.block from fun ad e => by
          rcases h4 with h6 | h6
          · exact HOF.out ad (by rw [← h6]; exact e)
          · intro hm
            have h7 := h6 ad e
            have h8 := HTW.out.l.q.box.lt
            have h9 := HTW.out.l.q.sq.lt
            rcases hm with h | h <;> omega); have HT7 := hid (HTW.out.below h5); have HX7 := hid (HXW.out.next h5); clear h1 h2 h3 h4 h5)
        have HZ := hid (Bx.new w7 46 #[.slice A7 (dL C κ b m.al).length c7, .int .i64 (dV C κ b m.al), .bool (dG C κ b m.al), .bool (dec (b ∈ m.al)), .int .i64 (dE κ b)])
        have BZ := below_alloc w7 (.cells #[.slice A7 (dL C κ b m.al).length c7, .int .i64 (dV C κ b m.al), .bool (dG C κ b m.al), .bool (dec (b ∈ m.al)), .int .i64 (dE κ b)] 46)
        have HT8 := hid (HT7.out.below BZ)
        have HX8 := hid (HX7.out.next BZ)
        have HR8 := hid (HR7.out.below BZ)
        obtain ⟨s, hs⟩ : ∃ s, w7.heap.size = s := ⟨_, rfl⟩
        have HSG := hid (show ¬ Mf g k s from fun hm => by have h8 := HT7.out.l.q.box.lt; have h9 := HT7.out.l.q.sq.lt; rcases hm with h | h <;> omega)
        rw [hs] at HZ ⊢
        generalize w7.alloc (.cells #[.slice A7 (dL C κ b m.al).length c7, .int .i64 (dV C κ b m.al), .bool (dG C κ b m.al), .bool (dec (b ∈ m.al)), .int .i64 (dE κ b)] 46) = W8 at *
        obtain ⟨L', hL'⟩ : ∃ x, dL C κ b m.al = x := ⟨_, rfl⟩
        obtain ⟨vi, hvi⟩ : ∃ x, dV C κ b m.al = x := ⟨_, rfl⟩
        obtain ⟨gn, hgn⟩ : ∃ x, dG C κ b m.al = x := ⟨_, rfl⟩
        obtain ⟨ln, hln⟩ : ∃ x, L'.length = x := ⟨_, rfl⟩
        rw [hL', hvi, hgn, hln] at HZ
        rw [hL'] at HR8 HC7
        rw [hln] at HC7
        rw [hL', hln]
        have HEQ := hid (And.intro hL' (And.intro hvi hgn))
        have HLN := hid hln
        have z0 := HZ.out.cell 0
        have z1 := HZ.out.cell 1
        have z2 := HZ.out.cell 2
        have y0 := HX8.out.cell 0
        have y1 := HX8.out.cell 1
        have HT200 := hid (show m.t ≤ 200 from by have := HT8.out.l.t; omega)
        clear hs hL' hvi hgn hln BZ HT7 HX7 HR7 HTW HXW HRW HT HR HOF HDO
        go_upto_region 17 with fail
        clear z0 y0 d1 d2
        have h3 : κ = 0 ∨ κ = 1 ∨ κ = 2 := by omega
        clear hkk
        rcases h3 with rfl | rfl | rfl
        · have e1 : dL C 0 b m.al = useL b m.al := by unfold dL; rw [if_neg (by omega), if_pos rfl]
          have HALL := hid (show (m.useM 1 L b).al = L' from (use_one HT8.out.l.ok b).trans (e1.symm.trans HEQ.out.1))
          have OKM := hid (HT8.out.l.ok.useM b)
          have HU := hid (mq_Use HT8.out.l.q HT8.out.l.ok HT200.out b)
          clear e1 z1 z2
          go_upto_region 25 with (go_at_call 12; refine HU.out.mono ?_; rintro e w9 ⟨rfl, hq, hc⟩; have HT9 := hid (HT8.out.step hq hc OKM.out.1 (Nat.le_trans OKM.out.2 (Nat.succ_le_succ HT8.out.l.t))); have HR9 := hid (HR8.out.chg hc HO7.out); clear hq hc)
          clear y1
          generalize m.useM 1 L b = M at *
          have h64 : ln ≤ 64 := by have := HT9.out.l.ok.cap; rw [HALL.out, HLN.out] at this; have := HSH.out.1.2; omega
          have HLM := hid (show M.al.length = ln from by rw [HALL.out]; exact HLN.out)
          go_wp2_with (first
            | (go_at_call 25; refine (mq_all HT9.out.l.q HT9.out.l.ok).mono ?_; rintro e w10 ⟨A10, c10, rfl, ho, hg⟩; have HR10 := hid (rw_told ho hg).1; have HT10 := hid (HT9.out.below hg.nilBelow); have HRA := hid (HR9.out.below hg.nilBelow); rw [HLM.out]; rw [HALL.out] at HR10; clear ho hg)
            | (go_at_call 24; refine (sameints_yes A10 A7 ln ln _ _ L' _ _ _ HLN.out HLN.out (by unfold maxLen; omega) HR10.out.rd HRA.out.rd).mono ?_; rintro e w11 ⟨rfl, d, rfl⟩; have HT11 := hid (HT10.out.draws d); have HR11 := hid (HRA.out.draws d)))
          go_roundg (gk - 1)
          case measure => omega
          case rel => exact ⟨p + 1, by omega, by go_num, M, A7, c7, by rw [HLM.out], HT11.out, by rw [HALL.out]; exact HR11.out, by rw [HLM.out]; exact HC7.out.1, HC7.out.2, HO7.out⟩
        · have e1 : dL C 1 b m.al = addL C b m.al := by unfold dL; rw [if_neg (by omega), if_neg (by omega)]
          have e2 : dV C 1 b m.al = vict C b m.al := if_pos rfl
          have e3 : dG C 1 b m.al = decide (goes C b m.al) := decide_eq_decide.2 ⟨fun h => h.2, fun h => ⟨rfl, h⟩⟩
          obtain ⟨a1, a2⟩ := add_one HT8.out.l.ok HT8.out.l.h16 b
          have HALL := hid (show (m.adM C 1 L H b).al = L' from a1.trans (e1.symm.trans HEQ.out.1))
          have HVV := hid (show m.adV C b = vi from a2.trans (e2.symm.trans HEQ.out.2.1))
          have HGV := hid (show decide (m.goes C b) = gn from (decide_eq_decide.2 (goes_one HT8.out.l.ok b)).trans (e3.symm.trans HEQ.out.2.2))
          have OKM := hid (HT8.out.l.ok.adM HT8.out.l.h16 b)
          have HU := hid (mq_add HT8.out.l.q HT8.out.l.ok HT8.out.l.h16 HT200.out b)
          rw [HVV.out, HGV.out] at HU
          have vnn : (vi != vi) = false := by simp
          have gnn : (gn != gn) = false := by simp
          clear e1 e2 e3 a1 a2 z1 z2
          go_upto_region 21 with (go_at_call 15; refine HU.out.mono ?_; rintro e w9 ⟨rfl, hq, hc⟩; have HT9 := hid (HT8.out.step hq hc OKM.out.1 (Nat.le_trans OKM.out.2 (Nat.succ_le_succ HT8.out.l.t))); have HR9 := hid (HR8.out.chg hc HO7.out); have z1 := (hc.bx HZ.out HSG.out).cell 1; have z2 := (hc.bx HZ.out HSG.out).cell 2; clear hq hc)
          clear y1
          go_upto_region 25 with fail
          clear z1 z2
          generalize m.adM C 1 L H b = M at *
          have h64 : ln ≤ 64 := by have := HT9.out.l.ok.cap; rw [HALL.out, HLN.out] at this; have := HSH.out.1.2; omega
          have HLM := hid (show M.al.length = ln from by rw [HALL.out]; exact HLN.out)
          go_wp2_with (first
            | (go_at_call 25; refine (mq_all HT9.out.l.q HT9.out.l.ok).mono ?_; rintro e w10 ⟨A10, c10, rfl, ho, hg⟩; have HR10 := hid (rw_told ho hg).1; have HT10 := hid (HT9.out.below hg.nilBelow); have HRA := hid (HR9.out.below hg.nilBelow); rw [HLM.out]; rw [HALL.out] at HR10; clear ho hg)
            | (go_at_call 24; refine (sameints_yes A10 A7 ln ln _ _ L' _ _ _ HLN.out HLN.out (by unfold maxLen; omega) HR10.out.rd HRA.out.rd).mono ?_; rintro e w11 ⟨rfl, d, rfl⟩; have HT11 := hid (HT10.out.draws d); have HR11 := hid (HRA.out.draws d)))
          go_roundg (gk - 1)
          case measure => omega
          case rel => exact ⟨p + 1, by omega, by go_num, M, A7, c7, by rw [HLM.out], HT11.out, by rw [HALL.out]; exact HR11.out, by rw [HLM.out]; exact HC7.out.1, HC7.out.2, HO7.out⟩
        · have e1 : dL C 2 b m.al = wo b m.al := if_pos rfl
          have HALL := hid (show (m.remM b).al = L' from (rem_one HT8.out.l.ok b).trans (e1.symm.trans HEQ.out.1))
          have OKM := hid (HT8.out.l.ok.remM b)
          have HU := hid (mq_remove HT8.out.l.q HT8.out.l.ok b)
          clear e1 z1 z2
          go_upto_region 25 with (go_at_call 16; refine HU.out.mono ?_; rintro e w9 ⟨rfl, hq, hc⟩; have HT9 := hid (HT8.out.step hq hc OKM.out.1 (Nat.le_trans (Nat.le_of_eq OKM.out.2) (Nat.le_succ_of_le HT8.out.l.t))); have HR9 := hid (HR8.out.chg hc HO7.out); clear hq hc)
          clear y1
          generalize m.remM b = M at *
          have h64 : ln ≤ 64 := by have := HT9.out.l.ok.cap; rw [HALL.out, HLN.out] at this; have := HSH.out.1.2; omega
          have HLM := hid (show M.al.length = ln from by rw [HALL.out]; exact HLN.out)
          go_wp2_with (first
            | (go_at_call 25; refine (mq_all HT9.out.l.q HT9.out.l.ok).mono ?_; rintro e w10 ⟨A10, c10, rfl, ho, hg⟩; have HR10 := hid (rw_told ho hg).1; have HT10 := hid (HT9.out.below hg.nilBelow); have HRA := hid (HR9.out.below hg.nilBelow); rw [HLM.out]; rw [HALL.out] at HR10; clear ho hg)
            | (go_at_call 24; refine (sameints_yes A10 A7 ln ln _ _ L' _ _ _ HLN.out HLN.out (by unfold maxLen; omega) HR10.out.rd HRA.out.rd).mono ?_; rintro e w11 ⟨rfl, d, rfl⟩; have HT11 := hid (HT10.out.draws d); have HR11 := hid (HRA.out.draws d)))
          go_roundg (gk - 1)
          case measure => omega
          case rel => exact ⟨p + 1, by omega, by go_num, M, A7, c7, by rw [HLM.out], HT11.out, by rw [HALL.out]; exact HR11.out, by rw [HLM.out]; exact HC7.out.1, HC7.out.2, HO7.out⟩
      · obtain rfl : p = n := by omega
        clear hlt hp
        go_wp2
        go_ret
        exact ⟨rfl, HT.out.l.bel⟩
  · obtain ⟨b0, b1, b2, b3⟩ := HX2.out.all4
    have HNEW := hid (mq_new_no cc 1 ll hh hs w2)
    clear hs
    go_wp2_with (go_at_call 9; refine HNEW.out.mono ?_; rintro e w3 ⟨rfl, hb⟩; have HB3 := hid (on HB2.out hb); clear hb)
    go_ret
    exact ⟨rfl, HB3.out⟩
end Go.Proofs.Ytlafhejnnilpmaa
