/-
  What is proved: the reference's used and Use, beside the lists. Condition: its MQ lies in memory as one.
-/
import Derived.Test.YtlafhejnnilpmaaRi12
import Derived.Test.YtlafhejnnilpmaaMu12
namespace Go.Proofs.Ytlafhejnnilpmaa
open Go.RowKit

/-- the reference's MQ is at these lists, but for how often -/
def Rz (w : World) (X : Nat → Prop) (h a p e C N L H : Nat) (o' : Int → Int) (m : Ms) : Prop := Rq w X h a p e C N L H (m.S.take N) (m.S.getD 8 []) o' m.x m.t
theorem pl_take (m : Ms) (L q : Nat) (b : Int) {N : Nat} (hq : q < N) : (woS b (m.S.take N)).set q (b :: wo b ((m.S.take N).getD q [])) = (m.pl L q b).S.take N := by
  show _ = ((woS b m.S).set q (b :: (woS b m.S).getD q [])).take N
  rw [gd_take hq, gd_wo, List.take_set]
  unfold woS
  rw [List.map_take]
theorem pl_ghost (m : Ms) (L q : Nat) (b : Int) (hl : m.S.length = 9) (hq : q < 8) : wo b (m.S.getD 8 []) = (m.pl L q b).S.getD 8 [] := by
  show _ = ((woS b m.S).set q (b :: (woS b m.S).getD q [])).getD 8 []
  rw [gd_set _ (by rw [woS_len, hl]; omega), if_neg (by omega), gd_wo]
theorem wo_64 {S : List (List Int)} (hw : Wf S) {b : Int} (hb : 0 ≤ b ∧ b < 64) (q : Nat) : (wo b (S.getD q [])).length < 64 := by
  have := nodup_le 64 (b :: wo b (S.getD q [])) (List.nodup_cons.2 ⟨fun h => (mem_wo.1 h).2 rfl, wo_nodup (hw.ndg q)⟩) (fun x hx => by
    rcases List.mem_cons.1 hx with rfl | h
    · exact hb
    · exact hw.ltg (mem_wo.1 h).1)
  rw [List.length_cons] at this
  omega
section
variable {w w' : World} {X : Nat → Prop} {h a p e C N L H : Nat} {o' : Int → Int} {m : Ms}
theorem rz_first (hz : Rz w X h a p e C N L H o' m) (hw : Wf m.S) (hl : m.S.length = 9) (hN : N ≤ 8) (ht : m.t ≤ 2000) (hL : L ≤ 100) {q : Nat} (hqN : q < N) {b : Int} (hb : 0 ≤ b ∧ b < 64) :
    Calls Try.prog 47 #[.pointer (some ⟨h, 0, none⟩), .int .i64 q, .int .i64 b] w fun en w' => en = .returned (.tuple #[]) ∧
      Rz w' X h a p e C N L H o' (m.pl L q b) ∧ Chg w w' (Fr h a p e) (Fr h a p e) := by
  obtain ⟨d, rfl⟩ : ∃ d : Nat, b = d := ⟨b.toNat, by omega⟩
  refine (rmq_first hz ht hL hqN (b := d) (by omega) (by rw [gd_take hqN]; exact wo_64 hw hb q)).mono ?_
  rintro en w2 ⟨e1, h2, h3⟩
  refine ⟨e1, ?_, h3⟩
  rw [pl_take m L q d hqN, pl_ghost m L q d hl (by omega)] at h2
  exact h2
theorem log2_half {n : Nat} (h : 2 ≤ n) : Nat.log2 n = Nat.log2 (n / 2) + 1 := by
  rw [Nat.log2_def n, if_pos h]
theorem log2_one {n : Nat} (h : ¬ 2 ≤ n) : Nat.log2 n = 0 := by
  rw [Nat.log2_def n, if_neg h]
set_option maxRecDepth 10000 in
set_option maxHeartbeats 4000000 in
theorem rz_used (hz : Rz w X h a p e C N L H o' { m with t := m.t + 1 }) (ok : Okm C N L H m) (ht : m.t ≤ 200) {b : Int} (hb : 0 ≤ b ∧ b < 64) (hob : o' b = m.o b) (hc : b ∈ m.al ∨ m.al.length < C) :
    Calls Try.prog 33 #[.pointer (some ⟨h, 0, none⟩), .int .i64 b] w fun en w' => en = .returned (.tuple #[]) ∧
      Rz w' X h a p e C N L H (upd o' b (m.o b + 1)) (m.us N L b) ∧ Chg w w' (Fr h a p e) (Fr h a p e) := by
  have HPL := hid (ok.placed hb hc)
  have HT := hid (show ((m.bump b).pl L (qn (m.o b + 1) N) b).t ≤ 2000 from by show m.t + 1 ≤ 2000; omega)
  have HWF := hid (And.intro ok.wf ok.len)
  have HN8 := hid (show N ≤ 8 ∧ L ≤ 100 ∧ m.t + 1 ≤ 2000 from ⟨ok.n.2, ok.l.2, by omega⟩)
  have HUS := hid (show m.us N L b = Ms.ags L (N - 1) ((m.bump b).pl L (qn (m.o b + 1) N) b) from rfl)
  have HVB := hid hb
  have HOB := hid hob
  have hnn := ok.o_nn b
  have h8 := ok.n
  obtain ⟨u, hu⟩ : ∃ u : Nat, m.o b = (u : Int) := ⟨(m.o b).toNat, by omega⟩
  have hu200 : u ≤ 200 := by omega
  have HU := hid hu
  obtain ⟨d, rfl⟩ : ∃ d : Nat, b = d := ⟨b.toNat, by omega⟩
  have hd : d < 64 := by omega
  have hdd : (d : Int) < 64 := by omega
  obtain ⟨cv, us, ug, hm⟩ := hz
  have HM := hid hm
  have c5 := hm.c5
  have co := hm.co hd
  rw [hob, hu] at co
  have fo := hm.oft.free
  clear hm ok hb hob hnn hc hu ht
  go_enter Try.func33, Try.ntmps33
  go_upto_region 1 with fail
  have HM1 := hid (HM.out.setO (b := d) ((u : Int) + 1))
  have HC1 := hid (chg_in (Chg.refl w (Fr h a p e)) fr_p d (.int .i64 ((u : Int) + 1)))
  generalize w.setCell ⟨p, d, none⟩ (.int .i64 ((u : Int) + 1)) = w1 at *
  clear c5 co fo
  have c5 := HM1.out.c5
  have co := HM1.out.co hd
  rw [upd_same] at co
  go_wp2
  clear c5 co
  obtain ⟨K, hK⟩ : ∃ K, Nat.log2 (u + 1) = K := ⟨_, rfl⟩
  have hK8 : K < 8 := by rw [← hK]; exact (Nat.log2_lt (by omega)).2 (by omega)
  have HK := hid hK
  go_loopg [4, 5] K (fun gk s4 s5 wr => ∃ n i : Nat, 1 ≤ n ∧ n ≤ 255 ∧ Nat.log2 n = gk ∧ i + gk = K ∧ s4 = .int .i64 i ∧ s5 = .int .i64 n ∧ wr = w1)
  case atStart => exact ⟨u + 1, 0, by omega, by omega, HK.out, by omega, rfl, by go_num, rfl⟩
  case round =>
    obtain ⟨n, i, hn1, hn2, hlog, hi, rfl, rfl, rfl⟩ := hrel
    by_cases h2 : 2 ≤ n
    · have hgt : (1 : Int) < (n : Int) := by omega
      have HLH := hid (log2_half h2)
      have HLG := hid hlog
      clear hlog h2
      go_wp2
      go_roundg (gk - 1)
      case measure => have := HLH.out; have := HLG.out; omega
      case rel => exact ⟨n / 2, i + 1, by omega, by omega, by have := HLH.out; have := HLG.out; omega, by have := HLH.out; have := HLG.out; omega, by go_num, congrArg (Value.int IntKind.i64) (by omega), rfl⟩
    · have hgt : ¬ (1 : Int) < (n : Int) := by omega
      have h0 := log2_one h2
      obtain rfl : K = i := by omega
      have c3 := HM1.out.c3
      have hqn : qn ((u : Int) + 1) N = min K (N - 1) := by
        unfold qn
        rw [show ((u : Int) + 1).toNat = u + 1 from by omega, HK.out]
      rw [HU.out] at HPL HT HUS
      have HPL2 := hid (show Okm C N L H ((m.bump d).pl L (qn ((u : Int) + 1) N) d) ∧ ((m.bump d).pl L (qn ((u : Int) + 1) N) d).t ≤ 2000 ∧ m.us N L d = Ms.ags L (N - 1) ((m.bump d).pl L (qn ((u : Int) + 1) N) d) from ⟨HPL.out, HT.out, HUS.out⟩)
      rw [hqn] at HPL2
      obtain ⟨Q, hQ⟩ : ∃ Q, min K (N - 1) = Q := ⟨_, rfl⟩
      rw [hQ] at HPL2
      have hQN : Q < N := by omega
      have HQN := hid hQN
      have HB1 : Hid (Rz wr X h a p e C N L H (upd o' d ((u : Int) + 1)) (m.bump d)) := hid ⟨_, _, _, HM1.out⟩
      have wn : IntKind.i64.wrap ((N : Int) - 1) = (N : Int) - 1 := by rw [IntKind.wrap_i64]; omega
      clear hn1 hn2 h0 h2 hlog hqn HPL HT HUS
      have hk2 : (Q = K ∧ ¬ ((N : Int) - 1 < (Q : Int))) ∨ ((N : Int) - 1 = (Q : Int) ∧ (N : Int) - 1 < (K : Int)) := by omega
      clear hQ
      have HF := hid (rz_first HB1.out HWF.out.1 HWF.out.2 HN8.out.1 HN8.out.2.2 HN8.out.2.1 HQN.out HVB.out)
      rcases hk2 with ⟨rfl, hk1⟩ | ⟨hNQ, hk1⟩
      all_goals
        go_upto_region 9 with (go_at_call 47; refine HF.out.mono ?_; rintro e2 w3 ⟨rfl, hz, hc⟩; have HZ3 := hid hz; have HC3 := hid (HC1.out.trans hc); clear hz hc)
        clear c3 hk1 wn
        try clear hNQ
        have HO := hid (And.intro HPL2.out.1 HPL2.out.2.1)
        have HUSM := hid HPL2.out.2.2
        generalize (m.bump d).pl L Q d = M at *
        go_wp2
        go_loopg [6] N (fun gk s6 wr => ∃ i j : Nat, j = i + 1 ∧ i + gk = N ∧ i + 1 ≤ N ∧ s6 = .int .i64 j ∧ Rz wr X h a p e C N L H (upd o' d ((u : Int) + 1)) (Ms.ags L i M) ∧ Chg w wr (Fr h a p e) (Fr h a p e))
        case atStart => exact ⟨0, 1, rfl, by omega, by omega, rfl, HZ3.out, HC3.out⟩
        case round =>
          obtain ⟨i, j, hj, hgk, hi, rfl, hz, hc⟩ := hrel
          obtain ⟨cv, us, ug, hm⟩ := hz
          have HM := hid hm
          have HC := hid hc
          have c3 := hm.c3
          clear hc HM1 HC1 HB1 HF HZ3 HC3
          by_cases hlt : j < N
          · have hl1 : (j : Int) < (N : Int) := by omega
            obtain ⟨A, c, hu, q1, f1, hr, hcc, hcm⟩ := hm.at_ hlt
            rw [gd_take hlt] at hu q1 hr hcc
            have HJ := hid (And.intro hj (show i + 1 < N from by omega))
            have HO2 := hid (HO.out.1.ags (i := i) (by omega))
            have HT2 := hid (show (Ms.ags L i M).t ≤ 2000 from by rw [(ags_t L i M).1]; exact HO.out.2)
            have HS2 := hid (show Ms.ags L (i + 1) M = (Ms.ags L i M).ag1 L j from by rw [hj]; rfl)
            clear hj
            have h64 : ((Ms.ags L i M).S.getD j []).length ≤ 64 := HO2.out.wf.len (gd_some (by rw [HO2.out.len]; omega))
            have HRW := hid hr
            generalize Ms.ags L i M = M2 at *
            clear hm hr hu f1
            cases hl : (M2.S.getD j []).getLast? with
            | none =>
              have hn : M2.S.getD j [] = [] := List.getLast?_eq_none_iff.1 hl
              have HA := hid (ag1_none (L := L) hn)
              rw [hn] at q1
              rw [List.length_nil] at q1
              clear hl hn hcc hcm h64
              go_upto_region 13 with fail
              go_region
              go_wp2
              go_roundg (gk - 1)
              case measure => have := HJ.out.2; omega
              case rel => exact ⟨i + 1, j + 1, by have := HJ.out.1; omega, by have := HJ.out.2; omega, by have := HJ.out.2; omega, by go_num, by rw [HS2.out, HA.out]; exact ⟨_, _, _, HM.out.draws 1⟩, Chg.draws HC.out 1⟩
            | some b2 =>
              have hne : M2.S.getD j [] ≠ [] := fun e => by rw [e] at hl; cases hl
              have hb2 := HO2.out.wf.ltg (last_mem hl)
              have HA := hid (ag1_some (L := L) hl)
              rw [List.getLast?_eq_some_getLast hne, List.getLast_eq_getElem] at hl
              injection hl with hl
              have HW2 := hid (And.intro HO2.out.wf HO2.out.len)
              generalize hS : M2.S.getD j [] = lq at *
              obtain ⟨nn, hnn⟩ : ∃ n, lq.length = n + 1 := ⟨lq.length - 1, by have := List.length_pos_iff.2 hne; omega⟩
              obtain ⟨ad, rfl, hbd, hcl⟩ := rv_at HRW.out.rd (j := nn) (by omega)
              have el : lq[nn]'(by omega) = b2 := by rw [← hl]; congr 1; omega
              rw [el] at hcl
              rw [hnn] at q1 hcc h64
              obtain ⟨v, rfl⟩ : ∃ p : Nat, b2 = p := ⟨b2.toNat, by omega⟩
              have hv64 : v < 64 := by omega
              have hvv : (v : Int) < 64 := by omega
              have HVV := hid hb2
              have c6 := HM.out.c6
              have c7 := HM.out.c7
              have cx := HM.out.cx hv64
              have w1 : IntKind.i64.wrap (nn : Int) = (nn : Int) := by rw [IntKind.wrap_i64]; omega
              have n0 : (0 : Int) ≤ (nn : Int) := by omega
              obtain ⟨e2, he2⟩ : ∃ z, M2.x v = z := ⟨_, rfl⟩
              obtain ⟨t2, ht2⟩ : ∃ z, M2.t = z := ⟨_, rfl⟩
              rw [he2] at cx HA
              rw [ht2] at c7 HA
              have HT3 := hid (show M2.t ≤ 2000 from HT2.out)
              clear he2 ht2 hS hne hb2 hl el hnn hbd hcc hcm h64
              go_upto_region 13 with fail
              by_cases hex : e2 < (t2 : Int)
              · rw [if_pos hex] at HA
                go_quiet (fail)
                have ji : (j : Int) - 1 = (i : Int) := by have := HJ.out.1; omega
                rw [show j - 1 = i from by have := HJ.out.1; omega] at HA
                have HF2 := hid (rz_first (m := M2) (show Rz (wr.drewN nq) X h a p e C N L H (upd o' d ((u : Int) + 1)) M2 from ⟨_, _, _, HM.out.draws nq⟩) HW2.out.1 HW2.out.2 HN8.out.1 HT3.out HN8.out.2.1 (q := i) (by have := HJ.out.2; omega) HVV.out)
                go_wp2_with (go_at_call 47; go_must (refine HF2.out.mono ?_); rintro e2 w3 ⟨rfl, hz, hc⟩; have HZ4 := hid hz; have HC4 := hid ((Chg.draws HC.out nq).trans hc); clear hz hc)
                go_roundg (gk - 1)
                case measure => have := HJ.out.2; omega
                case rel => exact ⟨i + 1, j + 1, by have := HJ.out.1; omega, by have := HJ.out.2; omega, by have := HJ.out.2; omega, by go_num, by rw [HS2.out, HA.out]; exact HZ4.out, HC4.out⟩
              · rw [if_neg hex] at HA
                have hd2 : decide (e2 < (t2 : Int)) = false := by simpa using hex
                go_quiet (fail)
                go_wp2
                go_roundg (gk - 1)
                case measure => have := HJ.out.2; omega
                case rel => exact ⟨i + 1, j + 1, by have := HJ.out.1; omega, by have := HJ.out.2; omega, by have := HJ.out.2; omega, by go_num, by rw [HS2.out, HA.out]; exact ⟨_, _, _, HM.out.draws nq⟩, Chg.draws HC.out nq⟩
          · obtain rfl : i = N - 1 := by omega
            obtain rfl : j = N := by omega
            have hl1 : ¬ ((j : Int) < (j : Int)) := by omega
            clear hj hgk hi
            go_wp2
            exact bodyPost_end (results_none rfl _ _ _) rfl ⟨rfl, by rw [HUSM.out, HU.out]; exact ⟨_, _, _, HM.out⟩, HC.out⟩
end
end Go.Proofs.Ytlafhejnnilpmaa
