/-
  What is proved: the reference's used and Use, beside the lists. Condition: its MQ lies in memory as one.
-/
import Derived.Test.YtmfdlkkligjcbaaGreatJ30
import Derived.Test.YtmfdlkkligjcbaaGreatJ06
import Derived.Test.YtmfdlkkligjcbaaGreatJ01
import Derived.Test.YtmfdlkkligjcbaaGreatJ07
namespace Go.Proofs.YtmfdlkkligjcbaaGreat
open Go.RowKit

/-- the reference's MQ is at these lists, but for how often -/
def Rz (w : World) (X : Nat → Prop) (h a p e C N L H : Nat) (o' : Int → Int) (m : Ms) : Prop := Rq w X h a p e C N L H (m.S.take N) (m.S.getD 8 []) o' m.x m.t
theorem pl_take (m : Ms) (L q : Nat) (b : Int) {N : Nat} (hq : q < N) : (woS b (m.S.take N)).set q (b :: wo b ((m.S.take N).getD q [])) = (m.pl L q b).S.take N := by
  show _ = ((woS b m.S).set q (b :: (woS b m.S).getD q [])).take N
  rw [gd_take hq, gd_wo, List.take_set]
  unfold woS
  rw [List.map_take]
theorem pl_ghost (m : Ms) (L q : Nat) (b : Int) (hl : m.S.length = 9) (hq : q < 8) : wo b (m.S.getD 8 []) = (m.pl L q b).S.getD 8 [] := by
  show _ = ((woS b m.S).set q (b :: (woS b m.S).getD q [])).getD 8 []
  rw [gd_set _ (by rw [woS_len, hl]; omega), if_neg (by omega), gd_wo]
theorem wo_64 {S : List (List Int)} (hw : Wf S) {b : Int} (hb : 0 ≤ b ∧ b < 64) (q : Nat) : (wo b (S.getD q [])).length < 64 := by
  have := nodup_le 64 (b :: wo b (S.getD q [])) (List.nodup_cons.2 ⟨fun h => (mem_wo.1 h).2 rfl, wo_nodup (hw.ndg q)⟩) (fun x hx => by
    rcases List.mem_cons.1 hx with rfl | h
    · exact hb
    · exact hw.ltg (mem_wo.1 h).1)
  rw [List.length_cons] at this
  omega
section
variable {w w' : World} {X : Nat → Prop} {h a p e C N L H : Nat} {o' : Int → Int} {m : Ms}
theorem rz_first (hz : Rz w X h a p e C N L H o' m) (hw : Wf m.S) (hl : m.S.length = 9) (hN : N ≤ 8) (ht : m.t ≤ 16000000) (hL : L ≤ 100) {q : Nat} (hqN : q < N) {b : Int} (hb : 0 ≤ b ∧ b < 64) :
    Calls Tryz.prog 93 #[.pointer (some ⟨h, 0, none⟩), .int .i64 q, .int .i64 b] w fun en w' => en = .returned (.tuple #[]) ∧
      Rz w' X h a p e C N L H o' (m.pl L q b) ∧ Chg w w' (Fr h a p e) (Fr h a p e) := by
  obtain ⟨d, rfl⟩ : ∃ d : Nat, b = d := ⟨b.toNat, by omega⟩
  refine (rmq_first hz ht hL hqN (b := d) (by omega) (by rw [gd_take hqN]; exact wo_64 hw hb q)).mono ?_
  rintro en w2 ⟨e1, h2, h3⟩
  refine ⟨e1, ?_, h3⟩
  rw [pl_take m L q d hqN, pl_ghost m L q d hl (by omega)] at h2
  exact h2
theorem log2_half {n : Nat} (h : 2 ≤ n) : Nat.log2 n = Nat.log2 (n / 2) + 1 := by
  rw [Nat.log2_def n, if_pos h]
theorem log2_one {n : Nat} (h : ¬ 2 ≤ n) : Nat.log2 n = 0 := by
  rw [Nat.log2_def n, if_neg h]
set_option maxRecDepth 10000 in
set_option maxHeartbeats 4000000 in
theorem rz_used (hz : Rz w X h a p e C N L H o' { m with t := m.t + 1 }) (ok : Okm C N L H m) (ht : m.t ≤ 10000000) {b : Int} (hb : 0 ≤ b ∧ b < 64) (hob : o' b = m.o b) (hc : b ∈ m.al ∨ m.al.length < C) :
    Calls Tryz.prog 90 #[.pointer (some ⟨h, 0, none⟩), .int .i64 b] w fun en w' => en = .returned (.tuple #[]) ∧
      Rz w' X h a p e C N L H (upd o' b (m.o b + 1)) (m.us N L b) ∧ Chg w w' (Fr h a p e) (Fr h a p e) := by
  have HPL := hid (ok.placed hb hc)
  have HT := hid (show ((m.bump b).pl L (qn (m.o b + 1) N) b).t ≤ 16000000 from by show m.t + 1 ≤ 16000000; omega)
  have HWF := hid (And.intro ok.wf ok.len)
  have HN8 := hid (show N ≤ 8 ∧ L ≤ 100 ∧ m.t + 1 ≤ 16000000 from ⟨ok.n.2, ok.l.2, by omega⟩)
  have HUS := hid (show m.us N L b = Ms.ags L (N - 1) ((m.bump b).pl L (qn (m.o b + 1) N) b) from rfl)
  have HVB := hid hb
  have HOB := hid hob
  have hnn := ok.o_nn b
  have h8 := ok.n
  obtain ⟨u, hu⟩ : ∃ u : Nat, m.o b = (u : Int) := ⟨(m.o b).toNat, by omega⟩
  have hu200 : u ≤ 10000000 := by omega
  have HU := hid hu
  obtain ⟨d, rfl⟩ : ∃ d : Nat, b = d := ⟨b.toNat, by omega⟩
  have hd : d < 64 := by omega
  have hdd : (d : Int) < 64 := by omega
  obtain ⟨cv, us, ug, hm⟩ := hz
  have HM := hid hm
  have c5 := hm.c5
  have co := hm.co hd
  rw [hob, hu] at co
  have fo := hm.oft.free
  clear hm ok hb hob hnn hc hu ht
  go_enter Tryz.func90, Tryz.ntmps90
  go_upto_region 1 with fail
  have HM1 := hid (HM.out.setO (b := d) ((u : Int) + 1))
  have HC1 := hid (chg_in (Chg.refl w (Fr h a p e)) fr_p d (.int .i64 ((u : Int) + 1)))
  generalize w.setCell ⟨p, d, none⟩ (.int .i64 ((u : Int) + 1)) = w1 at *
  clear c5 co fo
  have c5 := HM1.out.c5
  have co := HM1.out.co hd
  rw [upd_same] at co
  go_wp2
  clear c5 co
  obtain ⟨K, hK⟩ : ∃ K, Nat.log2 (u + 1) = K := ⟨_, rfl⟩
  have hK8 : K < 24 := by rw [← hK]; exact (Nat.log2_lt (by omega)).2 (by omega)
  have HK := hid hK
  go_loopg [4, 5] K (fun gk s4 s5 wr => ∃ n i : Nat, 1 ≤ n ∧ n ≤ 16777215 ∧ Nat.log2 n = gk ∧ i + gk = K ∧ s4 = .int .i64 i ∧ s5 = .int .i64 n ∧ wr = w1)
  case atStart => exact ⟨u + 1, 0, by omega, by omega, HK.out, by omega, rfl, by go_num, rfl⟩
  case round =>
    obtain ⟨n, i, hn1, hn2, hlog, hi, rfl, rfl, rfl⟩ := hrel
    by_cases h2 : 2 ≤ n
    · have hgt : (1 : Int) < (n : Int) := by omega
      have HLH := hid (log2_half h2)
      have HLG := hid hlog
      clear hlog h2
      go_wp2
      go_roundg (gk - 1)
      case measure => have := HLH.out; have := HLG.out; omega
      case rel => exact ⟨n / 2, i + 1, by omega, by omega, by have := HLH.out; have := HLG.out; omega, by have := HLH.out; have := HLG.out; omega, by go_num, congrArg (Value.int IntKind.i64) (by omega), rfl⟩
    · have hgt : ¬ (1 : Int) < (n : Int) := by omega
      have h0 := log2_one h2
      obtain rfl : K = i := by omega
      have c3 := HM1.out.c3
      have hqn : qn ((u : Int) + 1) N = min K (N - 1) := by
        unfold qn
        rw [show ((u : Int) + 1).toNat = u + 1 from by omega, HK.out]
      rw [HU.out] at HPL HT HUS
      have HPL2 := hid (show Okm C N L H ((m.bump d).pl L (qn ((u : Int) + 1) N) d) ∧ ((m.bump d).pl L (qn ((u : Int) + 1) N) d).t ≤ 16000000 ∧ m.us N L d = Ms.ags L (N - 1) ((m.bump d).pl L (qn ((u : Int) + 1) N) d) from ⟨HPL.out, HT.out, HUS.out⟩)
      rw [hqn] at HPL2
      obtain ⟨Q, hQ⟩ : ∃ Q, min K (N - 1) = Q := ⟨_, rfl⟩
      rw [hQ] at HPL2
      have hQN : Q < N := by omega
      have HQN := hid hQN
      have HB1 : Hid (Rz wr X h a p e C N L H (upd o' d ((u : Int) + 1)) (m.bump d)) := hid ⟨_, _, _, HM1.out⟩
      have wn : IntKind.i64.wrap ((N : Int) - 1) = (N : Int) - 1 := by rw [IntKind.wrap_i64]; omega
      clear hn1 hn2 h0 h2 hlog hqn HPL HT HUS
      have hk2 : (Q = K ∧ ¬ ((N : Int) - 1 < (Q : Int))) ∨ ((N : Int) - 1 = (Q : Int) ∧ (N : Int) - 1 < (K : Int)) := by omega
      clear hQ
      have HF := hid (rz_first HB1.out HWF.out.1 HWF.out.2 HN8.out.1 HN8.out.2.2 HN8.out.2.1 HQN.out HVB.out)
      rcases hk2 with ⟨rfl, hk1⟩ | ⟨hNQ, hk1⟩
      all_goals
        go_upto_region 9 with (go_at_call 93; refine HF.out.mono ?_; rintro e2 w3 ⟨rfl, hz, hc⟩; have HZ3 := hid hz; have HC3 := hid (HC1.out.trans hc); clear hz hc)
        clear c3 hk1 wn
        try clear hNQ
        have HO := hid (And.intro HPL2.out.1 HPL2.out.2.1)
        have HUSM := hid HPL2.out.2.2
        generalize (m.bump d).pl L Q d = M at *
        go_wp2
        go_loopg [6] N (fun gk s6 wr => ∃ i j : Nat, j = i + 1 ∧ i + gk = N ∧ i + 1 ≤ N ∧ s6 = .int .i64 j ∧ Rz wr X h a p e C N L H (upd o' d ((u : Int) + 1)) (Ms.ags L i M) ∧ Chg w wr (Fr h a p e) (Fr h a p e))
        case atStart => exact ⟨0, 1, rfl, by omega, by omega, rfl, HZ3.out, HC3.out⟩
        case round =>
          obtain ⟨i, j, hj, hgk, hi, rfl, hz, hc⟩ := hrel
          obtain ⟨cv, us, ug, hm⟩ := hz
          have HM := hid hm
          have HC := hid hc
          have c3 := hm.c3
          clear hc HM1 HC1 HB1 HF HZ3 HC3
          by_cases hlt : j < N
          · have hl1 : (j : Int) < (N : Int) := by omega
            obtain ⟨A, c, hu, q1, f1, hr, hcc, hcm⟩ := hm.at_ hlt
            rw [gd_take hlt] at hu q1 hr hcc
            have HJ := hid (And.intro hj (show i + 1 < N from by omega))
            have HO2 := hid (HO.out.1.ags (i := i) (by omega))
            have HT2 := hid (show (Ms.ags L i M).t ≤ 16000000 from by rw [(ags_t L i M).1]; exact HO.out.2)
            have HS2 := hid (show Ms.ags L (i + 1) M = (Ms.ags L i M).ag1 L j from by rw [hj]; rfl)
            clear hj
            have h64 : ((Ms.ags L i M).S.getD j []).length ≤ 64 := HO2.out.wf.len (gd_some (by rw [HO2.out.len]; omega))
            have HRW := hid hr
            generalize Ms.ags L i M = M2 at *
            clear hm hr hu f1
            cases hl : (M2.S.getD j []).getLast? with
            | none =>
              have hn : M2.S.getD j [] = [] := List.getLast?_eq_none_iff.1 hl
              have HA := hid (ag1_none (L := L) hn)
              rw [hn] at q1
              rw [List.length_nil] at q1
              clear hl hn hcc hcm h64
              go_upto_region 13 with fail
              go_region
              go_wp2
              go_roundg (gk - 1)
              case measure => have := HJ.out.2; omega
              case rel => exact ⟨i + 1, j + 1, by have := HJ.out.1; omega, by have := HJ.out.2; omega, by have := HJ.out.2; omega, by go_num, by rw [HS2.out, HA.out]; exact ⟨_, _, _, HM.out.draws 1⟩, Chg.draws HC.out 1⟩
            | some b2 =>
              have hne : M2.S.getD j [] ≠ [] := fun e => by rw [e] at hl; cases hl
              have hb2 := HO2.out.wf.ltg (last_mem hl)
              have HA := hid (ag1_some (L := L) hl)
              rw [List.getLast?_eq_some_getLast hne, List.getLast_eq_getElem] at hl
              injection hl with hl
              have HW2 := hid (And.intro HO2.out.wf HO2.out.len)
              generalize hS : M2.S.getD j [] = lq at *
              obtain ⟨nn, hnn⟩ : ∃ n, lq.length = n + 1 := ⟨lq.length - 1, by have := List.length_pos_iff.2 hne; omega⟩
              obtain ⟨ad, rfl, hbd, hcl⟩ := rv_at HRW.out.rd (j := nn) (by omega)
              have el : lq[nn]'(by omega) = b2 := by rw [← hl]; congr 1; omega
              rw [el] at hcl
              rw [hnn] at q1 hcc h64
              obtain ⟨v, rfl⟩ : ∃ p : Nat, b2 = p := ⟨b2.toNat, by omega⟩
              have hv64 : v < 64 := by omega
              have hvv : (v : Int) < 64 := by omega
              have HVV := hid hb2
              have c6 := HM.out.c6
              have c7 := HM.out.c7
              have cx := HM.out.cx hv64
              have w1 : IntKind.i64.wrap (nn : Int) = (nn : Int) := by rw [IntKind.wrap_i64]; omega
              have n0 : (0 : Int) ≤ (nn : Int) := by omega
              obtain ⟨e2, he2⟩ : ∃ z, M2.x v = z := ⟨_, rfl⟩
              obtain ⟨t2, ht2⟩ : ∃ z, M2.t = z := ⟨_, rfl⟩
              rw [he2] at cx HA
              rw [ht2] at c7 HA
              have HT3 := hid (show M2.t ≤ 16000000 from HT2.out)
              clear he2 ht2 hS hne hb2 hl el hnn hbd hcc hcm h64
              go_upto_region 13 with fail
              by_cases hex : e2 < (t2 : Int)
              · rw [if_pos hex] at HA
                go_quiet (fail)
                have ji : (j : Int) - 1 = (i : Int) := by have := HJ.out.1; omega
                rw [show j - 1 = i from by have := HJ.out.1; omega] at HA
                have HF2 := hid (rz_first (m := M2) (show Rz (wr.drewN nq) X h a p e C N L H (upd o' d ((u : Int) + 1)) M2 from ⟨_, _, _, HM.out.draws nq⟩) HW2.out.1 HW2.out.2 HN8.out.1 HT3.out HN8.out.2.1 (q := i) (by have := HJ.out.2; omega) HVV.out)
                go_wp2_with (go_at_call 93; go_must (refine HF2.out.mono ?_); rintro e2 w3 ⟨rfl, hz, hc⟩; have HZ4 := hid hz; have HC4 := hid ((Chg.draws HC.out nq).trans hc); clear hz hc)
                go_roundg (gk - 1)
                case measure => have := HJ.out.2; omega
                case rel => exact ⟨i + 1, j + 1, by have := HJ.out.1; omega, by have := HJ.out.2; omega, by have := HJ.out.2; omega, by go_num, by rw [HS2.out, HA.out]; exact HZ4.out, HC4.out⟩
              · rw [if_neg hex] at HA
                have hd2 : decide (e2 < (t2 : Int)) = false := by simpa using hex
                go_quiet (fail)
                go_wp2
                go_roundg (gk - 1)
                case measure => have := HJ.out.2; omega
                case rel => exact ⟨i + 1, j + 1, by have := HJ.out.1; omega, by have := HJ.out.2; omega, by have := HJ.out.2; omega, by go_num, by rw [HS2.out, HA.out]; exact ⟨_, _, _, HM.out.draws nq⟩, Chg.draws HC.out nq⟩
          · obtain rfl : i = N - 1 := by omega
            obtain rfl : j = N := by omega
            have hl1 : ¬ ((j : Int) < (j : Int)) := by omega
            clear hj hgk hi
            go_wp2
            exact bodyPost_end (results_none rfl _ _ _) rfl ⟨rfl, by rw [HUSM.out, HU.out]; exact ⟨_, _, _, HM.out⟩, HC.out⟩
end
end Go.Proofs.YtmfdlkkligjcbaaGreat
namespace Go.Proofs.YtmfdlkkligjcbaaGreat
open Go.RowKit

theorem us_o (m : Ms) (N L : Nat) (b : Int) : (m.us N L b).o = upd m.o b (m.o b + 1) := (ags_t L (N - 1) _).2
section
variable {w w' : World} {X : Nat → Prop} {h a p e C N L H : Nat} {o' : Int → Int} {m : Ms}
theorem rs_us {b : Int} (hz : Rz w X h a p e C N L H (upd o' b (m.o b + 1)) (m.us N L b)) (ok : Okm C N L H m) (ok2 : Okm C N L H (m.us N L b)) (ho : ∀ c, inS m.S c → o' c = m.o c) : Rs w X h a p e C N L H (m.us N L b) := by
  refine ⟨_, hz, fun c hc => ?_⟩
  have h1 := (ok2.o1 c hc).1
  rw [us_o] at h1 ⊢
  by_cases e : c = b
  · subst e
    rw [upd_same, upd_same]
  · rw [upd_ne _ _ e] at h1 ⊢
    rw [upd_ne _ _ e]
    refine ho c (Classical.byContradiction fun hn => ?_)
    rw [ok.o0 c hn] at h1
    omega
set_option maxHeartbeats 1000000 in
theorem rs_use (r : Rs w X h a p e C N L H m) (ok : Okm C N L H m) (ht : m.t ≤ 10000000) (b : Int) :
    Calls Tryz.prog 75 #[.pointer (some ⟨h, 0, none⟩), .int .i64 b] w fun en w' => en = .returned (.bool (decide (b ∈ m.al))) ∧
      Rs w' X h a p e C N L H (m.useM N L b) ∧ Chg w w' (Fr h a p e) (Fr h a p e) := by
  have HR := hid r
  by_cases hb : b ∈ m.al
  · rw [decide_eq_true hb, show m.useM N L b = m.us N L b from if_pos hb]
    obtain ⟨i, hi, hm⟩ := ok.there hb
    have HO := hid (rs_of_yes r ok hi hm)
    obtain ⟨o', ⟨cv, us, ug, hr⟩, ho⟩ := r
    have hs := ok.in_al hb
    have HM := hid hr
    have HUSE := hid (fun (y : World) (hy : Rz y X h a p e C N L H o' { m with t := m.t + 1 }) => rz_used hy ok ht (ok.lt hs) (ho b hs) (.inl hb))
    have HRS := hid (fun (y : World) (hy : Rz y X h a p e C N L H (upd o' b (m.o b + 1)) (m.us N L b)) => rs_us hy ok (ok.us (ok.lt hs) (.inl hb)) ho)
    have c7 := hr.c7
    have fr := hr.fr
    have hi0 : ¬ ((i : Int) < 0) := by omega
    obtain ⟨t, htt⟩ : ∃ t, m.t = t := ⟨_, rfl⟩
    rw [htt] at c7 ht
    have HT := hid htt
    clear hr ok hb hm hs ho htt hi
    go_enter Tryz.func75, Tryz.ntmps75
    go_upto_region 4 with (go_at_call 89; refine HO.out.mono ?_; rintro e2 w1 ⟨rfl, rfl⟩)
    have HM1 := hid (HM.out.setT (t + 1))
    rw [show ((t + 1 : Nat) : Int) = (t : Int) + 1 from by omega] at HM1
    have HC1 := hid (chg_in (Chg.refl w (Fr h a p e)) fr_h 7 (.int .i64 ((t : Int) + 1)))
    generalize w.setCell ⟨h, 7, none⟩ (.int .i64 ((t : Int) + 1)) = w2 at *
    go_wp2_with (go_at_call 90; refine (HUSE.out w2 (by rw [HT.out]; exact ⟨_, _, _, HM1.out⟩)).mono ?_; rintro e2 w3 ⟨rfl, hz, hc⟩; have HZ3 := hid (HRS.out _ hz); have HC3 := hid (HC1.out.trans hc); clear hz hc)
    go_ret
    exact ⟨rfl, HZ3.out, HC3.out⟩
  · rw [decide_eq_false hb, show m.useM N L b = m from if_neg hb]
    have HO := hid (rs_of_no r hb ok)
    clear r ok hb ht
    go_enter Tryz.func75, Tryz.ntmps75
    go_wp2_with (go_at_call 89; refine HO.out.mono ?_; rintro e2 w1 ⟨rfl, rfl⟩)
    go_ret
    exact ⟨rfl, HR.out, Chg.refl _ _⟩
/-- one queue without a block that is in it: all lists without it -/
theorem fo_take (ok : Okm C N L H m) {b : Int} {i : Nat} (hi : i < N) (hb : b ∈ m.S.getD i []) : (m.S.take N).set i (wo b ((m.S.take N).getD i [])) = (m.fo b).S.take N ∧ m.S.getD 8 [] = (m.fo b).S.getD 8 [] := by
  have hil : i < m.S.length := by rw [ok.len]; have := ok.n; omega
  have e : woS b m.S = m.S.set i (wo b (m.S.getD i [])) := woS_set ok.wf (gd_some hil) hb
  constructor
  · show _ = (woS b m.S).take N
    rw [e, gd_take hi, List.take_set]
  · show _ = (woS b m.S).getD 8 []
    rw [e, gd_set _ hil, if_neg (by have := ok.n; omega)]
theorem rs_fo {b : Int} (hz : Rz w X h a p e C N L H o' (m.fo b)) (ok : Okm C N L H m) (ho : ∀ c, inS m.S c → o' c = m.o c) : Rs w X h a p e C N L H (m.fo b) := by
  refine ⟨_, hz, fun c hc => ?_⟩
  have h1 := ((ok.fo b).o1 c hc).1
  have e2 : (m.fo b).o c = upd m.o b 0 c := rfl
  rw [e2] at h1 ⊢
  by_cases e : c = b
  · subst e
    rw [upd_same] at h1
    omega
  · rw [upd_ne _ _ e] at h1 ⊢
    refine ho c (Classical.byContradiction fun hn => ?_)
    rw [ok.o0 c hn] at h1
    omega
set_option maxRecDepth 10000 in
set_option maxHeartbeats 1000000 in
theorem rs_remove (r : Rs w X h a p e C N L H m) (ok : Okm C N L H m) (b : Int) :
    Calls Tryz.prog 77 #[.pointer (some ⟨h, 0, none⟩), .int .i64 b] w fun en w' => en = .returned (.bool (decide (b ∈ m.al))) ∧
      Rs w' X h a p e C N L H (m.remM b) ∧ Chg w w' (Fr h a p e) (Fr h a p e) := by
  have HR := hid r
  by_cases hb : b ∈ m.al
  · rw [decide_eq_true hb, show m.remM b = m.fo b from if_pos hb]
    obtain ⟨i, hi, hm⟩ := ok.there hb
    have HO := hid (rs_of_yes r ok hi hm)
    obtain ⟨o', ⟨cv, us, ug, hr⟩, ho⟩ := r
    have HM := hid hr
    have HFT := hid (fo_take ok hi hm)
    have HRS := hid (fun (y : World) (hy : Rz y X h a p e C N L H o' (m.fo b)) => rs_fo hy ok ho)
    have c3 := hr.c3
    obtain ⟨A, c, hu, q1, f1, hrw, hcc, hcm⟩ := hr.at_ hi
    rw [gd_take hi] at hu q1 hrw hcc
    rw [gd_take hi] at HFT
    have h64 : (m.S.getD i []).length ≤ 64 := ok.wf.len (gd_some (by rw [ok.len]; have := ok.n; omega))
    have HU := hid hu
    have HJL := hid (show i < us.length from by rw [hr.lu]; exact hi)
    have HIN := hid hi
    have hi0 : ¬ ((i : Int) < 0) := by omega
    have h1 : (i : Int) < (N : Int) := by omega
    generalize m.S.getD i [] = l at *
    obtain ⟨n, hn⟩ : ∃ n, l.length = n := ⟨_, rfl⟩
    rw [hn] at hu q1 hcc h64 HU
    have HN := hid hn
    have HRD := hid (hr.draws 1)
    have HWD := hid (hrw.draws 1)
    have HCD := hid (Chg.draws (Chg.refl w (Fr h a p e)) 1)
    clear hr ok hb hm ho hu hrw hn
    go_enter Tryz.func77, Tryz.ntmps77
    go_upto_region 4 with (go_at_call 89; refine HO.out.mono ?_; rintro e2 w1 ⟨rfl, rfl⟩)
    -- drawn
    refine wp_region_noPanic ?_
    refine wp_region_held_drew (S := fun w' => w'.cell? ⟨h, 3, none⟩ = some (.slice (some ⟨a, 0, none⟩) N cv)) (by kernel_rfl) ?_ (fun hHeld => ?_)
    · exact c3
    refine tkv 0 (some 11) rfl ?_
    refine tkv 1 (some 12) rfl ?_
    refine tkv 2 (some 13) rfl ?_
    refine tkv 3 (some 14) rfl ?_
    refine tkv 4 (some 15) rfl ?_
    refine tkv 5 (some 16) rfl ?_
    refine tkv 6 (some 17) rfl ?_
    refine tkv 7 (some 18) rfl ?_
    refine tkv 8 (some 19) rfl ?_
    refine tkv 9 (some 20) rfl ?_
    refine tkv 10 (some 21) rfl ?_
    refine tkv 12 (some 23) rfl ?_
    refine tkc 11 (some 22) rfl fun K hK => ?_
    go_simp
    refine hK.out _ _ hHeld (fun hHeld => ?_)
    clear hK K
    (try simp only [Act.put, tkA, tk0, tk1])
    refine tkc 13 (some 24) rfl fun K hK => ?_
    go_simp
    refine (without_any _ A n c l b HN.out h64 HWD.out.rd).mono ?_
    rintro e2 w2 ⟨A2, c2, rfl, ho, hg⟩
    have HR2 := hid (HRD.out.below hg.nilBelow)
    have HU2 := hid (Rt.told HRD.out.xb ho hg)
    have HC2 := hid (HCD.out.trans (Chg.of hg.nilBelow _))
    have kp := HR2.out.c3
    have f2 := (HR2.out.row.cellAt HJL.out).2
    have xc := (HR2.out.row.cellAt HJL.out).1.trans HU.out
    have HR3 := hid (HR2.out.setR HIN.out HU2.out (Nat.le_trans (wo_le _ _) (by rw [HN.out]; exact h64)))
    have HC3 := hid (chg_in HC2.out (fr_a (h := h) (p := p) (e := e)) i (.slice A2 (wo b l).length c2))
    have kq := HR3.out.c3
    clear ho hg
    go_simp
    refine hK.out _ _ kp (fun hHeld => ?_)
    clear hK K
    (try simp only [Act.put, tkA, tk0, tk1])
    refine tkv 14 (some 25) rfl ?_
    refine tkc 15 (none) rfl fun K hK => ?_
    go_simp
    refine hK.out _ _ kq (fun hHeld => ?_)
    clear hK K
    (try simp only [Act.put, tkA, tk0, tk1])
    refine wpAnyH_done (by kernel_rfl) ?_ _
    refine NoPanic.normal ?_
    -- till here
    go_wp2
    go_ret
    refine ⟨rfl, HRS.out _ ?_, HC3.out⟩
    show Rq _ X h a p e C N L H ((m.fo b).S.take N) ((m.fo b).S.getD 8 []) o' m.x m.t
    rw [← HFT.out.1, ← HFT.out.2]
    exact ⟨_, _, _, HR3.out⟩
  · rw [decide_eq_false hb, show m.remM b = m from if_neg hb]
    have HO := hid (rs_of_no r hb ok)
    clear r ok hb
    go_enter Tryz.func77, Tryz.ntmps77
    go_wp2_with (go_at_call 89; refine HO.out.mono ?_; rintro e2 w1 ⟨rfl, rfl⟩)
    go_ret
    exact ⟨rfl, HR.out, Chg.refl _ _⟩
end
end Go.Proofs.YtmfdlkkligjcbaaGreat
namespace Go.Proofs.YtmfdlkkligjcbaaGreat
open Go.RowKit

section
variable {w w' : World} {X : Nat → Prop} {h a p e C N L H : Nat} {o' : Int → Int} {m : Ms}
/-- the lists behind, where a block has become a ghost -/
theorem ha_ref (ok : Okm C N L H m) (hH : H ≤ 16) {i : Nat} (hi : i < N) {v : Int} (hm : v ∈ m.S.getD i []) :
    (m.S.take N).set i (wo v (m.S.getD i [])) = (m.ha H v).S.take N ∧ (m.ha H v).S.getD 8 [] = (if H < (v :: m.S.getD 8 []).length then (v :: m.S.getD 8 []).take H else v :: m.S.getD 8 []) ∧ (m.ha H v).x = m.x ∧ (m.ha H v).t = m.t := by
  have hn := ok.n
  have hil : i < m.S.length := by rw [ok.len]; omega
  have hv : v ∈ m.al := mem_alls.2 ⟨i, by omega, hm⟩
  have hng : v ∉ m.S.getD 8 [] := fun hg => by have := ok.wf.same hm hg; omega
  have e : woS v m.S = m.S.set i (wo v (m.S.getD i [])) := woS_set ok.wf (gd_some hil) hm
  have hl : 8 < (woS v m.S).length := by rw [woS_len, ok.len]; omega
  have eg : m.gg v = v :: m.S.getD 8 [] := by unfold Ms.gg; rw [gd_wo, wo_out hng]
  have hgh := ok.gh
  have key : ∀ g : List Int, ((woS v m.S).set 8 g).take N = (m.S.take N).set i (wo v (m.S.getD i [])) := fun g => by
    rw [List.take_set, e, List.take_set, List.set_eq_of_length_le (by rw [List.length_set, List.length_take, ok.len]; omega)]
  unfold Ms.ha
  by_cases hg : (m.gg v).length ≤ H
  · rw [if_pos hg]
    rw [eg] at hg
    refine ⟨(key _).symm, ?_, rfl, rfl⟩
    show ((woS v m.S).set 8 (m.gg v)).getD 8 [] = _
    rw [gd_set _ hl, if_pos rfl, eg, if_neg (by omega)]
  · rw [if_neg hg]
    have ed := drop_ghost ok hH hv
    rw [eg] at hg
    have hlen : (v :: m.S.getD 8 []).length = H + 1 := by rw [List.length_cons] at hg ⊢; omega
    refine ⟨?_, ?_, rfl, rfl⟩
    · show _ = (woS ((m.gg v).getLast (by simp [Ms.gg])) ((woS v m.S).set 8 (m.gg v))).take N
      rw [ed, key]
    · show (woS ((m.gg v).getLast (by simp [Ms.gg])) ((woS v m.S).set 8 (m.gg v))).getD 8 [] = _
      rw [ed, gd_set _ hl, if_pos rfl, eg, if_pos (by omega), List.dropLast_eq_take, hlen]
      rfl
/-- how often, where they are there: behind a victim's going, too -/
theorem ha_oo (m : Ms) (H : Nat) (v c : Int) : (m.ha H v).o c = m.o c ∨ (m.ha H v).o c = 0 := by
  unfold Ms.ha
  split
  · exact .inl rfl
  · show upd m.o ((m.gg v).getLast (by simp [Ms.gg])) 0 c = _ ∨ upd m.o ((m.gg v).getLast (by simp [Ms.gg])) 0 c = 0
    unfold upd
    split
    · exact .inr rfl
    · exact .inl rfl
theorem ha_ag {v : Int} (ok : Okm C N L H m) (ok2 : Okm C N L H (m.ha H v)) (ho : ∀ c, inS m.S c → o' c = m.o c) : ∀ c, inS (m.ha H v).S c → o' c = (m.ha H v).o c := fun c hc => by
  have h1 := (ok2.o1 c hc).1
  rcases ha_oo m H v c with e | e
  · rw [e] at h1 ⊢
    refine ho c (Classical.byContradiction fun hn => ?_)
    rw [ok.o0 c hn] at h1
    omega
  · rw [e] at h1
    omega
theorem ha_notin {v b : Int} (ok : Okm C N L H m) (hH : H ≤ 16) (hv : v ∈ m.al) (hb : b ∉ m.al) : b ∉ (m.ha H v).al := fun hx => by
  obtain ⟨i, hi, hm⟩ := mem_alls.1 hx
  have hn := ok.n
  have hl : 8 < (woS v m.S).length := by rw [woS_len, ok.len]; omega
  have key : ∀ g : List Int, b ∈ ((woS v m.S).set 8 g).getD i [] → b ∈ m.al := fun g hg => by
    rw [gd_set _ hl, if_neg (by omega), gd_wo] at hg
    exact mem_alls.2 ⟨i, hi, (mem_wo.1 hg).1⟩
  unfold Ms.ha at hm
  split at hm
  · exact hb (key _ hm)
  · have hm2 : b ∈ (woS ((m.gg v).getLast (by simp [Ms.gg])) ((woS v m.S).set 8 (m.gg v))).getD i [] := hm
    rw [drop_ghost ok hH hv] at hm2
    exact hb (key _ hm2)
end
section
variable {w w' : World} {X X' : Nat → Prop} {h a p e C N L H cv : Nat} {us : List Value} {ug : Value} {R : List (List Int)} {G : List Int} {o x : Int → Int} {t : Nat} {u : Value} {l : List Int}
theorem Rt.alloc (r : Rt w X u l) (ob : Obj) : Rt (w.alloc ob) (fun j => X j ∨ j = w.heap.size) u l := by
  obtain ⟨A, c, e, hr, h1, h2, h3⟩ := r
  exact ⟨A, c, e, hr.below (below_alloc w ob), h1, h2, fun ad e2 hx => hx.elim (h3 ad e2) fun e3 => by have := hr.lt ad e2; omega⟩
theorem Rt.cut {A : Option Addr} {n c k : Nat} (r : Rt w X (.slice A n c) l) (hk : k ≤ l.length) : Rt w X (.slice A k c) (l.take k) := by
  obtain ⟨A', c', e, hr, h1, h2, h3⟩ := r
  simp only [Value.slice.injEq] at e
  obtain ⟨rfl, -, rfl⟩ := e
  have hl : (l.take k).length = k := by rw [List.length_take]; omega
  refine ⟨A, c, by rw [hl], ⟨fun j v hv => hr.rd j v ?_, hr.lt⟩, by rw [hl]; omega, h2, h3⟩
  rw [show ints (l.take k) = (ints l).take k from by simp [ints, List.map_take], List.getElem?_take] at hv
  split at hv
  · exact hv
  · cases hv
theorem Rm.alloc (m : Rm w X h a p e C N L H cv us ug R G o x t) (ob : Obj) : Rm (w.alloc ob) (fun j => X j ∨ j = w.heap.size) h a p e C N L H cv us ug R G o x t := by
  have k := m.below (below_alloc w ob)
  exact { k with
    way := fun q u hu => (m.way q u hu).alloc ob
    gh := m.gh.alloc ob
    xb := fun j hj => by
      have hs : (w.alloc ob).heap.size = w.heap.size + 1 := Array.size_push _
      rw [hs]
      rcases hj with hj | hj
      · have := m.xb j hj; omega
      · omega
    xh := .inl m.xh
    xa := .inl m.xa
    xp := .inl m.xp
    xe := .inl m.xe }
theorem Rm.less (m : Rm w X' h a p e C N L H cv us ug R G o x t) (hX : ∀ j, X j → X' j) (hF : ∀ j, Fr h a p e j → X j) : Rm w X h a p e C N L H cv us ug R G o x t :=
  { m with
    way := fun q u hu => (m.way q u hu).less hX
    gh := m.gh.less hX
    xb := fun j hj => m.xb j (hX j hj)
    xh := hF _ fr_h
    xa := hF _ fr_a
    xp := hF _ fr_p
    xe := hF _ fr_e }
theorem Rm.xf (m : Rm w X h a p e C N L H cv us ug R G o x t) : ∀ j, Fr h a p e j → X j := fun j hj => by
  rcases hj with rfl | rfl | rfl | rfl
  · exact m.xh
  · exact m.xa
  · exact m.xp
  · exact m.xe
theorem Rs.xf {m : Ms} (r : Rs w X h a p e C N L H m) : (∀ j, Fr h a p e j → X j) ∧ ∀ j, X j → j < w.heap.size := by
  obtain ⟨o', ⟨cv, us, ug, hm⟩, ho⟩ := r
  exact ⟨hm.xf, hm.xb⟩
theorem Rs.alloc {m : Ms} (r : Rs w X h a p e C N L H m) (ob : Obj) : Rs (w.alloc ob) (fun j => X j ∨ j = w.heap.size) h a p e C N L H m := by
  obtain ⟨o', ⟨cv, us, ug, hm⟩, ho⟩ := r
  exact ⟨o', ⟨cv, us, ug, hm.alloc ob⟩, ho⟩
theorem Rs.less {m : Ms} (r : Rs w X' h a p e C N L H m) (hX : ∀ j, X j → X' j) (hF : ∀ j, Fr h a p e j → X j) : Rs w X h a p e C N L H m := by
  obtain ⟨o', ⟨cv, us, ug, hm⟩, ho⟩ := r
  exact ⟨o', ⟨cv, us, ug, hm.less hX hF⟩, ho⟩
end
end Go.Proofs.YtmfdlkkligjcbaaGreat
