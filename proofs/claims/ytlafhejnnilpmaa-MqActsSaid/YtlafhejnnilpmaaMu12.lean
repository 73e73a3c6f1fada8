/-
  What is proved: mq's put, age, forget, haunt, evict, use: what becomes of the MQ. Condition: the MQ lies in memory as one.
-/
import Derived.Test.YtlafhejnnilpmaaMw12
import Derived.BigRegion
import Derived.BigFrame
namespace Go.Proofs.Ytlafhejnnilpmaa
open Go.RowKit

section
variable {w : World} {g k C N L H : Nat} {m : Ms}
/-- placed at a list, as the space has it -/
theorem front_pl {S : List (List Int)} (hl : S.length = 9) {q : Nat} (hq : q < 9) {b : Int} (hb : vb b) : putE S q b = 0 ∧ frontS S q b = (woS b S).set q (b :: (woS b S).getD q []) := by
  have ho : okp S q b := ⟨⟨by omega, by omega⟩, hb⟩
  refine ⟨if_pos ho, ?_⟩
  unfold frontS
  rw [if_pos ho, Int.toNat_natCast]
set_option maxHeartbeats 1000000 in
theorem mq_put (h : Mq w g k C N L H m) (hl : m.S.length = 9) (hL : L ≤ 100) (ht : m.t ≤ 2000) {q : Nat} (hq : q < 9) {b : Int} (hb : vb b) :
    Calls Try.prog 44 #[.pointer (some ⟨g, 0, none⟩), .int .i64 q, .int .i64 b] w fun e w' => e = .returned (.tuple #[]) ∧ Mq w' g k C N L H (m.pl L q b) ∧ Chg w w' (Mf g k) (Mf g k) := by
  have c0 := h.c0
  have HF := hid (front_any h.sq q b)
  rw [(front_pl hl hq hb).1, (front_pl hl hq hb).2] at HF
  obtain ⟨p, rfl⟩ : ∃ p : Nat, b = p := ⟨b.toNat, by have := hb.1; omega⟩
  have hp : p < 64 := by have := hb.2; omega
  have hpp : (p : Int) < 64 := by omega
  have HM := hid h
  have HP := hid hp
  clear h hl hq hb
  go_enter Try.func44, Try.ntmps44
  go_upto_region 1 with (go_at_call 54; refine HF.out.mono ?_; rintro e w1 ⟨rfl, hs, hc⟩; have HM1 := hid (HM.out.step hs hc); have HC1 := hid (mf_k (Chg.refl w (Mf g k)) hc); clear hs hc)
  clear c0
  have c3 := HM1.out.c3
  have c5 := HM1.out.c5
  have cx := HM1.out.cX HP.out
  have fr := HM1.out.free
  dsimp only at c5 cx
  obtain ⟨t, htt⟩ : ∃ t, m.t = t := ⟨_, rfl⟩
  rw [htt] at c5 ht
  have HT := hid htt
  clear htt
  go_region
  go_wp2
  exact bodyPost_end (results_none rfl _ _ _) rfl ⟨rfl, by have := (HM1.out.draws 1).setX (p := p) ((m.t : Int) + L); rw [HT.out] at this; unfold Ms.pl; rw [HT.out]; exact this, mf_set (Chg.draws HC1.out 1) _ _⟩
theorem last_mem_gd {l : List Int} (hn : l ≠ []) {b : Int} (hb : l.getLast? = some b) : lastV l = .tuple #[.int .i64 b, .bool true] := by
  unfold lastV
  rw [dif_neg hn]
  rw [List.getLast?_eq_some_getLast hn] at hb
  injection hb with hb
  rw [hb]
theorem ag1_none {m : Ms} {L i : Nat} (h : m.S.getD i [] = []) : m.ag1 L i = m := by
  unfold Ms.ag1
  rw [h]
  rfl
theorem ag1_some {m : Ms} {L i : Nat} {b : Int} (h : (m.S.getD i []).getLast? = some b) : m.ag1 L i = if m.x b < m.t then m.pl L (i - 1) b else m := by
  unfold Ms.ag1
  rw [h]
set_option maxHeartbeats 2000000 in
theorem mq_age (h : Mq w g k C N L H m) (ok : Okm C N L H m) (ht : m.t ≤ 2000) :
    Calls Try.prog 46 #[.pointer (some ⟨g, 0, none⟩)] w fun e w' => e = .returned (.tuple #[]) ∧ Mq w' g k C N L H (Ms.ags L (N - 1) m) ∧ Chg w w' (Mf g k) (Mf g k) := by
  have HM := hid h
  have HK := hid ok
  have h8 := ok.n
  clear h ok
  go_enter Try.func46, Try.ntmps46
  go_wp2
  go_loopg [2] N (fun gk t wr => ∃ i : Nat, i + gk = N ∧ i + 1 ≤ N ∧ t = .int .i64 ((i : Int) + 1) ∧ Mq wr g k C N L H (Ms.ags L i m) ∧ Chg w wr (Mf g k) (Mf g k))
  case atStart => exact ⟨0, by omega, by omega, rfl, HM.out, Chg.refl _ _⟩
  case round =>
    obtain ⟨i, hgk, hi, rfl, hq, hc⟩ := hrel
    have HQ := hid hq
    have HC := hid hc
    have c2 := hq.c2
    have c0 := hq.c0
    clear hq hc
    by_cases hlt : i + 1 < N
    · have hl1 : (i : Int) + 1 < (N : Int) := by omega
      have HO := hid (HK.out.ags (i := i) (by omega))
      have HLA := hid (last_in HQ.out.sq (gd_some (i := i + 1) (by rw [HO.out.len]; omega)))
      have e1 : ((i + 1 : Nat) : Int) = (i : Int) + 1 := by omega
      rw [e1] at HLA
      have HT := hid (show (Ms.ags L i m).t ≤ 2000 from by rw [(ags_t L i m).1]; exact ht)
      have HS := hid (show Ms.ags L (i + 1) m = (Ms.ags L i m).ag1 L (i + 1) from rfl)
      generalize Ms.ags L i m = M at *
      clear e1
      cases hl : (M.S.getD (i + 1) []).getLast? with
      | none =>
        have hn : M.S.getD (i + 1) [] = [] := List.getLast?_eq_none_iff.1 hl
        have HA := hid (ag1_none (L := L) hn)
        rw [hn] at HLA
        rw [show lastV [] = .tuple #[.int .i64 0, .bool false] from dif_pos rfl] at HLA
        clear hl hn
        go_upto_region 4 with (go_at_call 48; refine HLA.out.mono ?_; rintro e w2 ⟨rfl, d, rfl⟩; have HQ2 := hid (HQ.out.draws d); have HC2 := hid (Chg.draws HC.out d))
        go_region
        go_wp2
        go_roundg (gk - 1)
        case measure => omega
        case rel => exact ⟨i + 1, by omega, by omega, by go_num, by rw [HS.out, HA.out]; exact HQ2.out.draws 1, Chg.draws HC2.out 1⟩
      | some b =>
        have hne : M.S.getD (i + 1) [] ≠ [] := fun e => by rw [e] at hl; cases hl
        have hb := HO.out.wf.ltg (last_mem hl)
        have HA := hid (ag1_some (L := L) hl)
        rw [last_mem_gd hne hl] at HLA
        obtain ⟨p, rfl⟩ : ∃ p : Nat, b = p := ⟨b.toNat, by omega⟩
        have HP := hid (show p < 64 from by omega)
        have hpp : (p : Int) < 64 := by omega
        have HV := hid (show vb (p : Int) from hb)
        clear hl hne hb
        go_upto_region 4 with (go_at_call 48; refine HLA.out.mono ?_; rintro e w2 ⟨rfl, d, rfl⟩; have HQ2 := hid (HQ.out.draws d); have HC2 := hid (Chg.draws HC.out d))
        clear c2 c0
        have cx := HQ.out.cX HP.out
        have c5 := HQ.out.c5
        obtain ⟨u, hu⟩ : ∃ u, M.x p = u := ⟨_, rfl⟩
        obtain ⟨t, htt⟩ : ∃ u, M.t = u := ⟨_, rfl⟩
        rw [hu] at cx HA
        rw [htt] at c5 HA
        have HTT := hid htt
        clear hu htt
        by_cases hex : u < (t : Int)
        · rw [if_pos hex] at HA
          go_quiet (fail)
          clear cx c5
          have HPUT := hid (mq_put (HQ.out.draws (d + nq)) HO.out.len (by have := HK.out.l; omega) HT.out (q := i) (by omega) HV.out)
          go_wp2_with (go_at_call 44; go_must (refine HPUT.out.mono ?_); rintro e w3 ⟨rfl, hq, hc⟩; have HQ3 := hid hq; have HC3 := hid ((Chg.draws HC.out (d + nq)).trans hc); clear hq hc)
          go_roundg (gk - 1)
          case measure => omega
          case rel => exact ⟨i + 1, by omega, by omega, by go_num, by rw [HS.out, HA.out]; exact HQ3.out, HC3.out⟩
        · rw [if_neg hex] at HA
          have hd : decide (u < (t : Int)) = false := by simpa using hex
          go_quiet (fail)
          clear cx c5
          go_wp2
          go_roundg (gk - 1)
          case measure => omega
          case rel => exact ⟨i + 1, by omega, by omega, by go_num, by rw [HS.out, HA.out]; exact HQ.out.draws (d + nq), Chg.draws HC.out (d + nq)⟩
    · obtain rfl : i = N - 1 := by omega
      have hl1 : ¬ (((N - 1 : Nat) : Int) + 1 < (N : Int)) := by omega
      go_wp2
      exact bodyPost_end (results_none rfl _ _ _) rfl ⟨rfl, HQ.out, HC.out⟩
end
end Go.Proofs.Ytlafhejnnilpmaa
