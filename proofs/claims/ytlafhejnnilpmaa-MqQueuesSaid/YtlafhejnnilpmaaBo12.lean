/-
  What is proved: the walk of MqBound: never are there more blocks than the capacity, nor more ghosts than may be, nor one that is both. Condition: the shape and the acts are read as such.
-/
import Derived.Test.YtlafhejnnilpmaaWk12
import Derived.Test.YtlafhejnnilpmaaRe11
import Derived.Test.YtlafhejnnilpmaaAr12
namespace Go.Proofs.Ytlafhejnnilpmaa
open Go.RowKit

/-- an MQ that a law has made, beside the shape's own block -/
structure Lb (w0 w : World) (g k C N L H T q : Nat) (m : Ms) : Prop where
  l : Lm w0 w g k C N L H T m
  box : Bx w q 23 #[.int .i64 C, .int .i64 N, .int .i64 L, .int .i64 H]
  ng : q ≠ g
  nk : q ≠ k
section
variable {w0 w w' : World} {g k C N L H T q : Nat} {m m' : Ms}
theorem Lb.below (h : Lb w0 w g k C N L H T q m) (hb : Below w.heap.size w w') : Lb w0 w' g k C N L H T q m := ⟨h.l.below hb, h.box.next hb, h.ng, h.nk⟩
theorem Lb.draws (h : Lb w0 w g k C N L H T q m) (n : Nat) : Lb w0 (w.drewN n) g k C N L H T q m := h.below (below_draws (Below.refl _ _) n)
theorem Lb.step {T' : Nat} (h : Lb w0 w g k C N L H T q m) (hq : Mq w' g k C N L H m') (hc : Chg w w' (Mf g k) (Mf g k)) (ok : Okm C N L H m') (ht : m'.t ≤ T') : Lb w0 w' g k C N L H T' q m' :=
  ⟨h.l.step hq hc ok ht, hc.bx h.box (fun e => e.elim h.ng h.nk), h.ng, h.nk⟩
theorem Lb.add (h : Lb w0 w g k C N L H T q m) {b : Int} (hq : Mq w' g k C N L H (m.adM C N L H b)) (hc : Chg w w' (Mf g k) (Mf g k)) : Lb w0 w' g k C N L H (T + 1) q (m.adM C N L H b) :=
  h.step hq hc (h.l.ok.adM h.l.h16 b).1 (Nat.le_trans (h.l.ok.adM h.l.h16 b).2 (Nat.succ_le_succ h.l.t))
end
set_option maxRecDepth 100000 in
set_option maxHeartbeats 2000000 in
theorem bound_walk (cc nn ll hh : Int) (A : Option Addr) (n c : Nat) (f : Nat → A2) (w : World) (hn : n ≤ maxLen) (h : Acts w A n f) :
    Calls Try.prog 5 #[.agg #[.int .i64 cc, .int .i64 nn, .int .i64 ll, .int .i64 hh], .slice A n c] w fun e w' => e = .returned (.bool true) ∧ Below w.heap.size w w' := by
  have HA := hid h
  unfold maxLen at hn
  have HX0 := hid (Bx.new w 23 #[.int .i64 cc, .int .i64 nn, .int .i64 ll, .int .i64 hh])
  have HB0 := hid (below_alloc w (.cells #[.int .i64 cc, .int .i64 nn, .int .i64 ll, .int .i64 hh] 23))
  obtain ⟨q, hq⟩ : ∃ q, w.heap.size = q := ⟨_, rfl⟩
  rw [hq] at HX0
  have HQ := hid hq
  clear h hq
  go_enter Try.func5, Try.ntmps5
  go_upto_region 3 with (go_at_call 8; refine (wakes_any _).mono ?_; rintro e w1 ⟨rfl, hb⟩; have HX1 := hid (HX0.out.next hb); have HB := hid (on HB0.out hb); clear hb)
  rw [HQ.out]
  by_cases h150 : 150 < n
  · have hd : decide ((150 : Int) < (n : Int)) = true := by simp; omega
    clear h150
    go_wp2
    go_ret
    exact ⟨rfl, HB.out⟩
  have hd : decide ((150 : Int) < (n : Int)) = false := by simp; omega
  by_cases hs : shp cc nn ll hh
  · obtain ⟨C, N, L, H, rfl, rfl, rfl, rfl, hC, hN, hL, hH⟩ := shp_nat hs
    obtain ⟨b0, b1, b2, b3⟩ := HX1.out.all4
    have HNEW := hid (mq_new_yes C N L H hs w1)
    have HSH := hid (And.intro hC (And.intro hN (And.intro hL hH)))
    clear hs hC hN hL hH
    go_upto_region 8 with (go_at_call 9; refine HNEW.out.mono ?_; rintro e w2 ⟨g, k, rfl, hm, hb, hg, hk⟩; have HL0 := hid (show Lb w w2 g k C N L H 0 q m00 from ⟨Lm.new HB.out hm hb hg hk HSH.out.1 HSH.out.2.1 HSH.out.2.2.1 HSH.out.2.2.2, HX1.out.next hb, fun e => by have := HX1.out.lt; omega, fun e => by have := HX1.out.lt; omega⟩); clear hm hb hg hk)
    clear b0 b1 b2 b3
    go_wp2
    go_loopg [28] n (fun gk t wr => ∃ p : Nat, p + gk = n ∧ t = .int .i64 p ∧ ∃ m, Lb w wr g k C N L H p q m)
    case atStart => exact ⟨0, by omega, rfl, _, HL0.out⟩
    case round =>
      obtain ⟨p, hp, rfl, m, hT⟩ := hrel
      have HT := hid hT
      clear hT HL0
      by_cases hlt : p < n
      · obtain ⟨ad, rfl, hat⟩ := (HA.out.below HT.out.l.bel) p hlt
        obtain ⟨⟨κ, b⟩, hH⟩ : ∃ y, f p = y := ⟨_, rfl⟩
        rw [hH] at hat
        obtain ⟨alt, c0, c1⟩ := hat
        dsimp only at c0 c1
        obtain ⟨r, hg⟩ : ∃ g, wr.heap.size = g := ⟨_, rfl⟩
        obtain ⟨W, hW⟩ : ∃ W, wr.alloc (.cells #[.int .i64 κ, .int .i64 b] 34) = W := ⟨_, rfl⟩
        have BW : Below wr.heap.size wr W := by rw [← hW]; exact below_alloc _ _
        have HXW := hid (show Bx W r 34 #[.int .i64 κ, .int .i64 b] from by rw [← hW, ← hg]; exact Bx.new _ _ _)
        have HTW := hid (HT.out.below BW)
        have HWW := hid hW
        have HGG := hid hg
        have hpn : (p : Int) < (n : Int) := by omega
        clear BW hH hW hg
        go_upto_region 11 with fail
        rw [HGG.out, HWW.out]
        clear c0 c1 HGG HWW alt
        have y1 : W.cell? ⟨r, 1, none⟩ = some (.int .i64 b) := HXW.out.cell 1
        have HADD := hid (mq_add HTW.out.l.q HTW.out.l.ok HTW.out.l.h16 (by have := HTW.out.l.t; omega) b)
        generalize gk = K0 at *
        go_upto_region 12 with (go_at_call 15; refine HADD.out.mono ?_; rintro e w3 ⟨rfl, hq, hc⟩; have HT3 := hid (HTW.out.add hq hc); clear hq hc)
        clear y1 HADD HTW HXW HT
        generalize m.adM C N L H b = M at *
        obtain ⟨ng, hng⟩ : ∃ x, (M.S.getD 8 []).length = x := ⟨_, rfl⟩
        obtain ⟨na, hna⟩ : ∃ x, M.al.length = x := ⟨_, rfl⟩
        have HNG := hid hng
        have HNA := hid hna
        have hgle : ¬ (H : Int) < (ng : Int) := by have := HT3.out.l.ok.gh; omega
        have hale : ¬ (C : Int) < (na : Int) := by have := HT3.out.l.ok.cap; omega
        have ha16 : na ≤ 16 := by have := HT3.out.l.ok.cap; have := HSH.out.1.2; omega
        have hg16 : ng ≤ 16 := by have := HT3.out.l.ok.gh; have := HSH.out.2.2.2; omega
        clear hng hna
        go_wp2_with (first
          | (go_at_call 26; refine (mq_ghosts HT3.out.l.q HT3.out.l.ok).mono ?_; rintro e w4 ⟨A4, c4, rfl, ho, hg⟩; have HR4 := hid (rw_told ho hg).1; have HT4 := hid (HT3.out.below hg.nilBelow); rw [HNG.out]; clear ho hg)
          | (go_at_call 25; refine (mq_all HT4.out.l.q HT4.out.l.ok).mono ?_; rintro e w5 ⟨A5, c5, rfl, ho, hg⟩; have HR5 := hid (rw_told ho hg).1; have HR45 := hid (HR4.out.below hg.nilBelow); have HT5 := hid (HT4.out.below hg.nilBelow); rw [HNA.out]; clear ho hg))
        go_loopg [41] na (fun gk t wr => ∃ j : Nat, j + gk = na ∧ t = .int .i64 j ∧ Lb w wr g k C N L H (p + 1) q M ∧ Rw wr A5 M.al ∧ Rw wr A4 (M.S.getD 8 []))
        case atStart => exact ⟨0, by omega, rfl, HT5.out, HR5.out, HR45.out⟩
        case round =>
          obtain ⟨j, hj, rfl, hTi, hRi, hGi⟩ := hrel
          have HTI := hid hTi
          have HRI := hid hRi
          have HGI := hid hGi
          clear hTi hRi hGi HT5 HR5 HR45
          by_cases hjl : j < na
          · have hjL : j < M.al.length := by rw [HNA.out]; exact hjl
            obtain ⟨a5, rfl, _, hca⟩ := rv_at HRI.out.rd hjL
            have hmem : M.al[j] ∈ M.al := List.getElem_mem hjL
            generalize M.al[j] = x at *
            have hno : x ∉ M.S.getD 8 [] := fun hx => by
              obtain ⟨i, hi, hm⟩ := HTI.out.l.ok.there hmem
              have := HTI.out.l.ok.wf.same hm hx
              have := HTI.out.l.ok.n
              omega
            have HX := hid (rhas_any A4 ng c4 (M.S.getD 8 []) x wr _ HNG.out (by unfold maxLen; omega) HGI.out.rd)
            rw [dec_false hno] at HX
            have HH := hid (mq_has HTI.out.l.q HTI.out.l.ok x)
            rw [decide_eq_true hmem] at HH
            have HO := hid (mq_often HTI.out.l.q HTI.out.l.ok x)
            have ho1 := (HTI.out.l.ok.o1 x (HTI.out.l.ok.in_al hmem)).1
            generalize M.o x = ox at *
            have hox : ¬ ox < 1 := by omega
            have hjn : (j : Int) < (na : Int) := by omega
            clear hjL hmem hno ho1
            go_wp2_with (first
              | (go_at_call 27; refine HX.out.mono ?_; rintro e w6 ⟨rfl, rfl⟩)
              | (go_at_call 19; refine HH.out.mono ?_; rintro e w6 ⟨rfl, rfl⟩)
              | (go_at_call 21; refine HO.out.mono ?_; rintro e w6 ⟨rfl, rfl⟩))
            go_roundg (gk - 1)
            case measure => omega
            case rel => exact ⟨j + 1, by omega, by go_num, HTI.out, HRI.out, HGI.out⟩
          · obtain rfl : j = na := by omega
            have b0 : wr.cell? ⟨q, 0, none⟩ = some (.int .i64 C) := HTI.out.box.cell 0
            have b3 : wr.cell? ⟨q, 3, none⟩ = some (.int .i64 H) := HTI.out.box.cell 3
            have HTD := hid (show Lb w wr.drew g k C N L H (p + 1) q M from HTI.out.draws 1)
            have nn : ((j : Int) != (j : Int)) = false := by simp
            have hd1 : decide (C < j) = false := by simp; omega
            have hd2 : decide (H < ng) = false := by simp; omega
            clear hale hgle
            clear hjl hj
            go_upto_region 19 with fail
            go_region_held3 (fun w' => w'.cell? ⟨q, 0, none⟩ = some (.int .i64 C) ∧ w'.cell? ⟨q, 3, none⟩ = some (.int .i64 H)) (first | exact kp | exact ⟨b0, b3⟩) (first
              | (go_at_call 28; (with_reducible refine (mq_len HTD.out.l.q HTD.out.l.ok).mono ?_); rintro e w7 ⟨rfl, hb⟩; rw [HNA.out]; have HT7 := hid (HTD.out.below hb); have kp := And.intro (HT7.out.box.cell 0) (HT7.out.box.cell 3); clear hb)
              | (go_at_call 28; (with_reducible refine (mq_len HT7.out.l.q HT7.out.l.ok).mono ?_); rintro e w8 ⟨rfl, hb⟩; rw [HNA.out]; have HT8 := hid (HT7.out.below hb); have kp := And.intro (HT8.out.box.cell 0) (HT8.out.box.cell 3); clear hb)
              | (go_at_call 25; (with_reducible refine (mq_all HT8.out.l.q HT8.out.l.ok).mono ?_); rintro e w9 ⟨A9, c9, rfl, ho, hg⟩; rw [HNA.out]; have HT9 := hid (HT8.out.below hg.nilBelow); have kp := And.intro (HT9.out.box.cell 0) (HT9.out.box.cell 3); clear ho hg))
            all_goals
              go_wp2
              go_roundg (K0 - 1)
              case measure => omega
              case rel => exact ⟨p + 1, by omega, by go_num, _, HT9.out⟩
      · obtain rfl : p = n := by omega
        clear hlt hp
        go_wp2
        go_ret
        exact ⟨rfl, HT.out.l.bel⟩
  · obtain ⟨b0, b1, b2, b3⟩ := HX1.out.all4
    have HNEW := hid (mq_new_no cc nn ll hh hs w1)
    clear hs
    go_wp2_with (go_at_call 9; refine HNEW.out.mono ?_; rintro e w2 ⟨rfl, hb⟩; have HB2 := hid (on HB.out hb); clear hb)
    go_ret
    exact ⟨rfl, HB2.out⟩
end Go.Proofs.Ytlafhejnnilpmaa
