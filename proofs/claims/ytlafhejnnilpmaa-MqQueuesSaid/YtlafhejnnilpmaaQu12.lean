/-
  What is proved: the walk of MqQueues: a block in a queue behind the first was used at least as often as two to the power of the queue's number. Condition: the shape and the acts are read as such.
-/
import Derived.Test.YtlafhejnnilpmaaBo12
namespace Go.Proofs.Ytlafhejnnilpmaa
open Go.RowKit

set_option maxRecDepth 100000 in
set_option maxHeartbeats 2000000 in
theorem queues_walk (cc nn ll hh : Int) (A : Option Addr) (n c : Nat) (f : Nat → A2) (w : World) (hn : n ≤ maxLen) (h : Acts w A n f) :
    Calls Try.prog 7 #[.agg #[.int .i64 cc, .int .i64 nn, .int .i64 ll, .int .i64 hh], .slice A n c] w fun e w' => e = .returned (.bool true) ∧ Below w.heap.size w w' := by
  have HA := hid h
  unfold maxLen at hn
  have HX0 := hid (Bx.new w 23 #[.int .i64 cc, .int .i64 nn, .int .i64 ll, .int .i64 hh])
  have HB0 := hid (below_alloc w (.cells #[.int .i64 cc, .int .i64 nn, .int .i64 ll, .int .i64 hh] 23))
  obtain ⟨q, hq⟩ : ∃ q, w.heap.size = q := ⟨_, rfl⟩
  rw [hq] at HX0
  have HQ := hid hq
  clear h hq
  go_enter Try.func7, Try.ntmps7
  go_upto_region 3 with (go_at_call 8; refine (wakes_any _).mono ?_; rintro e w1 ⟨rfl, hb⟩; have HX1 := hid (HX0.out.next hb); have HB := hid (on HB0.out hb); clear hb)
  rw [HQ.out]
  by_cases h150 : 150 < n
  · have hd : decide ((150 : Int) < (n : Int)) = true := by simp; omega
    clear h150
    go_wp2
    go_ret
    exact ⟨rfl, HB.out⟩
  have hd : decide ((150 : Int) < (n : Int)) = false := by simp; omega
  by_cases hs : shp cc nn ll hh
  · obtain ⟨C, N, L, H, rfl, rfl, rfl, rfl, hC, hN, hL, hH⟩ := shp_nat hs
    obtain ⟨b0, b1, b2, b3⟩ := HX1.out.all4
    have HNEW := hid (mq_new_yes C N L H hs w1)
    have HSH := hid (And.intro hC (And.intro hN (And.intro hL hH)))
    clear hs hC hN hL hH
    go_upto_region 8 with (go_at_call 9; refine HNEW.out.mono ?_; rintro e w2 ⟨g, k, rfl, hm, hb, hg, hk⟩; have HL0 := hid (show Lb w w2 g k C N L H 0 q m00 from ⟨Lm.new HB.out hm hb hg hk HSH.out.1 HSH.out.2.1 HSH.out.2.2.1 HSH.out.2.2.2, HX1.out.next hb, fun e => by have := HX1.out.lt; omega, fun e => by have := HX1.out.lt; omega⟩); clear hm hb hg hk)
    clear b0 b1 b2 b3
    go_wp2
    go_loopg [28] n (fun gk t wr => ∃ p : Nat, p + gk = n ∧ t = .int .i64 p ∧ ∃ m, Lb w wr g k C N L H p q m)
    case atStart => exact ⟨0, by omega, rfl, _, HL0.out⟩
    case round =>
      obtain ⟨p, hp, rfl, m, hT⟩ := hrel
      have HT := hid hT
      clear hT HL0
      by_cases hlt : p < n
      · obtain ⟨ad, rfl, hat⟩ := (HA.out.below HT.out.l.bel) p hlt
        obtain ⟨⟨κ, b⟩, hH⟩ : ∃ y, f p = y := ⟨_, rfl⟩
        rw [hH] at hat
        obtain ⟨alt, c0, c1⟩ := hat
        dsimp only at c0 c1
        obtain ⟨r, hg⟩ : ∃ g, wr.heap.size = g := ⟨_, rfl⟩
        obtain ⟨W, hW⟩ : ∃ W, wr.alloc (.cells #[.int .i64 κ, .int .i64 b] 34) = W := ⟨_, rfl⟩
        have BW : Below wr.heap.size wr W := by rw [← hW]; exact below_alloc _ _
        have HXW := hid (show Bx W r 34 #[.int .i64 κ, .int .i64 b] from by rw [← hW, ← hg]; exact Bx.new _ _ _)
        have HTW := hid (HT.out.below BW)
        have HWW := hid hW
        have HGG := hid hg
        have hpn : (p : Int) < (n : Int) := by omega
        clear BW hH hW hg
        go_upto_region 11 with fail
        rw [HGG.out, HWW.out]
        clear c0 c1 HGG HWW alt
        have y1 : W.cell? ⟨r, 1, none⟩ = some (.int .i64 b) := HXW.out.cell 1
        have HADD := hid (mq_add HTW.out.l.q HTW.out.l.ok HTW.out.l.h16 (by have := HTW.out.l.t; omega) b)
        generalize gk = K0 at *
        go_upto_region 12 with (go_at_call 15; refine HADD.out.mono ?_; rintro e w3 ⟨rfl, hq, hc⟩; have HT3 := hid (HTW.out.add hq hc); clear hq hc)
        clear y1 HADD HTW HXW HT
        generalize m.adM C N L H b = M at *
        have b1 : w3.cell? ⟨q, 1, none⟩ = some (.int .i64 N) := HT3.out.box.cell 1
        go_wp2
        go_loopg [38] N (fun gk t wr => ∃ i : Nat, i + gk = N ∧ t = .int .i64 i ∧ Lb w wr g k C N L H (p + 1) q M)
        case atStart => exact ⟨0, by omega, rfl, HT3.out⟩
        case round =>
          obtain ⟨i, hi, rfl, hTi⟩ := hrel
          have HTI := hid hTi
          clear hTi b1 HT3
          by_cases hiN : i < N
          · have hin : (i : Int) < (N : Int) := by omega
            have HQU := hid (mq_queue HTI.out.l.q HTI.out.l.ok hiN)
            have HLO := hid (fun x (hx : x ∈ M.S.getD i []) => HTI.out.l.ok.lo i x (by have := HTI.out.l.ok.n; omega) hx)
            have hi8 : i < 8 := by have := HTI.out.l.ok.n; omega
            have hq64 : (M.S.getD i []).length ≤ 64 := HTI.out.l.ok.wf.len (gd_some (by rw [HTI.out.l.ok.len]; omega))
            generalize M.S.getD i [] = lq at *
            obtain ⟨nlq, hnq⟩ : ∃ x, lq.length = x := ⟨_, rfl⟩
            rw [hnq] at hq64
            have HNQ := hid hnq
            clear hnq
            generalize gk = K1 at *
            go_wp2_with (go_at_call 29; refine HQU.out.mono ?_; rintro e w4 ⟨A4, c4, rfl, ho, hg⟩; have HR4 := hid (rw_told ho hg).1; have HT4 := hid (HTI.out.below hg.nilBelow); rw [HNQ.out]; clear ho hg)
            go_loopg [45] nlq (fun gk t wr => ∃ j : Nat, j + gk = nlq ∧ t = .int .i64 j ∧ Lb w wr g k C N L H (p + 1) q M ∧ Rw wr A4 lq)
            case atStart => exact ⟨0, by omega, rfl, HT4.out, HR4.out⟩
            case round =>
              obtain ⟨j, hj, rfl, hTj, hRj⟩ := hrel
              have HTJ := hid hTj
              have HRJ := hid hRj
              clear hTj hRj HT4 HR4
              by_cases hjl : j < nlq
              · have hjL : j < lq.length := by rw [HNQ.out]; exact hjl
                obtain ⟨a5, rfl, _, hca⟩ := rv_at HRJ.out.rd hjL
                have hlo := HLO.out _ (List.getElem_mem hjL)
                generalize lq[j] = x at *
                have HO := hid (fun d => mq_often (HTJ.out.draws d).l.q HTJ.out.l.ok x)
                generalize M.o x = ox at *
                have hox : ¬ ox < wrap64 ((2 : Int) ^ i) := by
                  have e : (2 : Int) ^ i = ((2 ^ i : Nat) : Int) := (Int.natCast_pow 2 i).symm
                  have hle : 2 ^ i ≤ 2 ^ 7 := Nat.pow_le_pow_right (by omega) (by omega)
                  rw [e]
                  generalize 2 ^ i = u at *
                  unfold wrap64
                  omega
                have hjn : (j : Int) < (nlq : Int) := by omega
                clear hjL
                go_upto_region 18 with fail
                go_quiet (first | (go_at_call 21; exact quietL (HO.out _)))
                go_wp2
                go_roundg (gk - 1)
                case measure => omega
                case rel => exact ⟨j + 1, by omega, by go_num, HTJ.out.draws _, HRJ.out.draws _⟩
              · obtain rfl : j = nlq := by omega
                clear hjl hj
                go_wp2
                go_roundg (K1 - 1)
                case measure => omega
                case rel => exact ⟨i + 1, by omega, by go_num, HTJ.out⟩
          · obtain rfl : i = N := by omega
            clear hiN hi
            go_wp2
            go_roundg (K0 - 1)
            case measure => omega
            case rel => exact ⟨p + 1, by omega, by go_num, _, HTI.out⟩
      · obtain rfl : p = n := by omega
        clear hlt hp
        go_wp2
        go_ret
        exact ⟨rfl, HT.out.l.bel⟩
  · obtain ⟨b0, b1, b2, b3⟩ := HX1.out.all4
    have HNEW := hid (mq_new_no cc nn ll hh hs w1)
    clear hs
    go_wp2_with (go_at_call 9; refine HNEW.out.mono ?_; rintro e w2 ⟨rfl, hb⟩; have HB2 := hid (on HB.out hb); clear hb)
    go_ret
    exact ⟨rfl, HB2.out⟩
end Go.Proofs.Ytlafhejnnilpmaa
