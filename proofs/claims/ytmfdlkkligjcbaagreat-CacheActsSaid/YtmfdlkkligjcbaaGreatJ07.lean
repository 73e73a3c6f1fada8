/-
  What is proved: mq's forget, haunt, evict, use, Use, Add, Remove, New, of an MQ that is there and of none: what becomes of it, what is answered. Condition: the MQ lies in memory as one.
-/
import Derived.Test.YtmfdlkkligjcbaaGreatJ06
import Derived.Test.YtmfdlkkligjcbaaGreatJ04
import Derived.Test.YtmfdlkkligjcbaaGreatJ05
import Derived.Deep.RegionHeld3
import Derived.BigQuiet
import Derived.Test.YtmfdlkkligjcbaaGreatJ02
import Derived.Test.YtmfdlkkligjcbaaGreatRows
import Derived.BigRegion
import Derived.Deep.QuietTactic
import Derived.RegionTactic
namespace Go.Proofs.YtmfdlkkligjcbaaGreat
open Go.RowKit

section
variable {w : World} {g k C N L H : Nat} {m : Ms}
set_option maxHeartbeats 1000000 in
theorem mq_forget (h : Mq w g k C N L H m) {b : Int} (hb : vb b) :
    Calls Tryz.prog 160 #[.pointer (some ⟨g, 0, none⟩), .int .i64 b] w fun e w' => e = .returned (.tuple #[]) ∧ Mq w' g k C N L H (m.fo b) ∧ Chg w w' (Mf g k) (Mf g k) := by
  have c0 := h.c0
  have HR := hid (remove_any h.sq b)
  obtain ⟨p, rfl⟩ : ∃ p : Nat, b = p := ⟨b.toNat, by have := hb.1; omega⟩
  have hp : p < 64 := by have := hb.2; omega
  have hpp : (p : Int) < 64 := by omega
  have HM := hid h
  have HP := hid hp
  clear h hb
  go_enter Tryz.func160, Tryz.ntmps160
  go_upto_region 1 with (go_at_call 140; refine HR.out.mono ?_; rintro e w1 ⟨rfl, hs, hc⟩; have HM1 := hid (HM.out.step hs hc); have HC1 := hid (mf_k (Chg.refl w (Mf g k)) hc); clear hs hc)
  clear c0
  have co := HM1.out.cO HP.out
  have fr := HM1.out.free
  go_wp2
  exact bodyPost_end (results_none rfl _ _ _) rfl ⟨rfl, HM1.out.setO HP.out 0, mf_set HC1.out _ _⟩
set_option maxHeartbeats 1000000 in
theorem mq_haunt (h : Mq w g k C N L H m) (ok : Okm C N L H m) (hH : H ≤ 16) {v : Int} (hv : v ∈ m.al) :
    Calls Tryz.prog 161 #[.pointer (some ⟨g, 0, none⟩), .int .i64 v] w fun e w' => e = .returned (.tuple #[]) ∧ Mq w' g k C N L H (m.ha H v) ∧ Chg w w' (Mf g k) (Mf g k) := by
  have c0 := h.c0
  have HF := hid (front_any h.sq 8 v)
  have hb : vb v := ok.lt (ok.in_al hv)
  have e8 : putE m.S 8 v = 0 ∧ frontS m.S 8 v = (woS v m.S).set 8 (m.gg v) := front_pl ok.len (q := 8) (by omega) hb
  rw [e8.1, e8.2] at HF
  have HM := hid h
  have HK := hid ok
  have hl : 8 < (woS v m.S).length := by rw [woS_len, ok.len]; omega
  have HG := hid (show ((woS v m.S).set 8 (m.gg v))[8]? = some (m.gg v) from List.getElem?_set_self hl)
  obtain ⟨n, hn⟩ : ∃ n, (m.gg v).length = n := ⟨_, rfl⟩
  have HN := hid hn
  have HW := hid ((ok.ghost hv 17 (Nat.le_refl _) (by have := gg_len m v; have := ok.gh; omega)).1.wf.lt 8)
  have HHA := hid (show m.ha H v = if n ≤ H then ({ m with S := (woS v m.S).set 8 (m.gg v) } : Ms) else ({ m with S := (woS v m.S).set 8 (m.gg v) } : Ms).fo ((m.gg v).getLast (by simp [Ms.gg])) from by unfold Ms.ha; rw [hn])
  have hlv : lastV (m.gg v) = .tuple #[.int .i64 ((m.gg v).getLast (by simp [Ms.gg])), .bool true] := dif_neg (by simp [Ms.gg])
  have HLV := hid hlv
  have HME := hid (show (m.gg v).getLast (by simp [Ms.gg]) ∈ m.gg v from List.getLast_mem _)
  clear h ok hv hb e8 hl hn hlv
  generalize (m.gg v).getLast (by simp [Ms.gg]) = z at *
  go_enter Tryz.func161, Tryz.ntmps161
  go_upto_region 1 with (go_at_call 137; refine HF.out.mono ?_; rintro e w1 ⟨rfl, hs, hc⟩; have HM1 := hid (HM.out.step hs hc); have HC1 := hid (mf_k (Chg.refl w (Mf g k)) hc); clear hs hc)
  clear c0
  have c0 := HM1.out.c0
  have c4 := HM1.out.c4
  have HMD := hid (HM1.out.draws 1)
  go_region_held3 (fun w' => w'.cell? ⟨g, 0, none⟩ = some (.pointer (some ⟨k, 0, none⟩)) ∧ w'.cell? ⟨g, 4, none⟩ = some (.int .i64 H)) (first | exact kp | exact ⟨c0, c4⟩) (first | (go_at_call 135; refine (len_in HMD.out.sq HG.out).mono ?_; rintro e w2 ⟨rfl, hb⟩; rw [HN.out]; have HM2 := hid (HMD.out.below hb); have HC2 := hid ((Chg.draws HC1.out 1).trans (Chg.of hb _)); have kp := And.intro HM2.out.c0 HM2.out.c4; clear hb))
  clear kp c0 c4
  have c0 := HM2.out.c0
  by_cases hle : n ≤ H
  · have e := HHA.out
    rw [if_pos hle] at e
    have HE := hid e
    clear e
    go_wp2
    exact bodyPost_ret (results_none rfl _ _ _) rfl ⟨rfl, by rw [HE.out]; exact HM2.out, HC2.out⟩
  · have e := HHA.out
    rw [if_neg hle] at e
    have HE := hid e
    have HV := hid (show vb z from HW.out _ z HG.out HME.out)
    clear e
    go_wp2_with (first | (go_at_call 142; refine (last_in HM2.out.sq HG.out).mono ?_; rintro e w3 ⟨rfl, d, rfl⟩; rw [HLV.out]; have HM3 := hid (HM2.out.draws d); have HC3 := hid (Chg.draws HC2.out d)) | (go_at_call 160; refine (mq_forget HM3.out HV.out).mono ?_; rintro e w4 ⟨rfl, hq, hc⟩; have HM4 := hid hq; have HC4 := hid (HC3.out.trans hc); clear hq hc))
    exact bodyPost_end (results_none rfl _ _ _) rfl ⟨rfl, by rw [HE.out]; exact HM4.out, HC4.out⟩
set_option maxHeartbeats 1000000 in
theorem mq_evict (h : Mq w g k C N L H m) (ok : Okm C N L H m) (hH : H ≤ 16) (hp : 0 < m.al.length) :
    Calls Tryz.prog 157 #[.pointer (some ⟨g, 0, none⟩)] w fun e w' => e = .returned (.tuple #[.int .i64 m.vc, .bool true]) ∧ Mq w' g k C N L H (m.ha H m.vc) ∧ Chg w w' (Mf g k) (Mf g k) := by
  have c2 := h.c2
  have HM := hid h
  have HK := hid ok
  obtain ⟨v1, v2, v3, v4⟩ := ok.vic hp
  have h8 := ok.n
  have HV3 := hid v3
  have HV4 := hid v4
  have hne : m.S.getD m.vi [] ≠ [] := fun e => by rw [e] at v2; cases v2
  have HLV := hid (last_mem_gd hne v2)
  have HS := hid (fun i (hi : i < N) => gd_some (S := m.S) (i := i) (by rw [HK.out.len]; omega))
  clear h ok hp v2 v3 v4 hne
  generalize m.vc = v at *
  generalize m.vi = iv at *
  go_enter Tryz.func157, Tryz.ntmps157
  go_wp2
  clear c2
  go_loopg [2, 3, 10] N (fun gk s2 s3 s10 wr => ∃ i : Nat, i + gk = N ∧ i ≤ iv ∧ s2 = .int .i64 0 ∧ s3 = .bool false ∧ s10 = .int .i64 i ∧ Mq wr g k C N L H m ∧ Chg w wr (Mf g k) (Mf g k))
  case atStart => exact ⟨0, by omega, by omega, rfl, rfl, rfl, HM.out, Chg.refl _ _⟩
  case round =>
    obtain ⟨i, hgk, hi, rfl, rfl, rfl, hq, hc⟩ := hrel
    have HQ := hid hq
    have HC := hid hc
    have c0 := hq.c0
    clear hq hc
    have hlt : i < N := by omega
    have hl1 : (i : Int) < (N : Int) := by omega
    have HLA := hid (last_in HQ.out.sq (HS.out i hlt))
    by_cases he : i = iv
    · subst he
      rw [HLV.out] at HLA
      go_wp2_with (first | (go_at_call 142; refine HLA.out.mono ?_; rintro e w2 ⟨rfl, d, rfl⟩; have HQ2 := hid (HQ.out.draws d); have HC2 := hid (Chg.draws HC.out d)) | (go_at_call 161; refine (mq_haunt HQ2.out HK.out hH HV4.out).mono ?_; rintro e w3 ⟨rfl, hq, hc⟩; have HQ3 := hid hq; have HC3 := hid (HC2.out.trans hc); clear hq hc))
      go_ret2
      exact ⟨rfl, HQ3.out, HC3.out⟩
    · rw [HV3.out i (by omega), show lastV [] = .tuple #[.int .i64 0, .bool false] from dif_pos rfl] at HLA
      go_wp2_with (go_at_call 142; refine HLA.out.mono ?_; rintro e w2 ⟨rfl, d, rfl⟩; have HQ2 := hid (HQ.out.draws d); have HC2 := hid (Chg.draws HC.out d))
      go_roundg (gk - 1)
      case measure => omega
      case rel => exact ⟨i + 1, by omega, by omega, rfl, rfl, by go_num, HQ2.out, HC2.out⟩
set_option maxHeartbeats 1000000 in
theorem mq_use (h : Mq w g k C N L H m) (ok : Okm C N L H m) (ht : m.t ≤ 10000000) {b : Int} (hb : vb b) (hc : b ∈ m.al ∨ m.al.length < C) :
    Calls Tryz.prog 158 #[.pointer (some ⟨g, 0, none⟩), .int .i64 b] w fun e w' => e = .returned (.tuple #[]) ∧ Mq w' g k C N L H (m.us N L b) ∧ Chg w w' (Mf g k) (Mf g k) := by
  have HPL := hid (ok.placed hb hc)
  have HT := hid (show ((m.bump b).pl L (qn (m.o b + 1) N) b).t ≤ 16000000 from by show m.t + 1 ≤ 16000000; omega)
  have HBM := hid (show (m.bump b).S.length = 9 ∧ L ≤ 100 ∧ (m.bump b).t ≤ 16000000 ∧ qn (m.o b + 1) N < 9 ∧ 1 ≤ N ∧ N ≤ 8 from ⟨ok.len, ok.l.2, by show m.t + 1 ≤ 16000000; omega, by have := qn_lt (n := m.o b + 1) ok.n.1; have := ok.n; omega, ok.n⟩)
  have HVB := hid hb
  have HM := hid h
  obtain ⟨p, rfl⟩ : ∃ p : Nat, b = p := ⟨b.toNat, by have := hb.1; omega⟩
  have hp : p < 64 := by have := hb.2; omega
  have hpp : (p : Int) < 64 := by omega
  have HP := hid hp
  have c5 := h.c5
  have fr := h.free
  have hob := ok.o_nn p
  obtain ⟨ob, hobb⟩ : ∃ ob, m.o p = ob := ⟨_, rfl⟩
  rw [hobb] at hob
  have HOB := hid hobb
  have HO1 := hid (show 1 ≤ ob + 1 ∧ ob + 1 ≤ 16777215 from by omega)
  have hob1 : ob ≤ 10000000 := by omega
  have hob0 : 0 ≤ ob := hob.1
  have HUS := hid (show m.us N L p = Ms.ags L (N - 1) ((m.bump p).pl L (qn (m.o p + 1) N) p) from rfl)
  obtain ⟨t, htt⟩ : ∃ t, m.t = t := ⟨_, rfl⟩
  rw [htt] at c5
  have htb : t ≤ 10000000 := by omega
  have HTT := hid htt
  clear h ok hb hc hobb htt ht
  go_enter Tryz.func158, Tryz.ntmps158
  go_upto_region 1 with fail
  have HM1 := hid (HM.out.setT (t + 1))
  have HC1 := hid (mf_set (Chg.refl w (Mf g k)) 5 (.int .i64 ((t : Int) + 1)))
  rw [show ((t + 1 : Nat) : Int) = (t : Int) + 1 from by omega] at HM1
  generalize w.setCell ⟨g, 5, none⟩ (.int .i64 ((t : Int) + 1)) = w1 at *
  clear c5 fr
  have co := HM1.out.cO HP.out
  have fr := HM1.out.free
  dsimp only at co
  rw [HOB.out] at co
  go_region
  have HM2 := hid (show Mq (w1.setCell ⟨g, 6 + p, none⟩ (.int .i64 (ob + 1))) g k C N L H (m.bump p) from by
    have := HM1.out.setO HP.out (ob + 1)
    unfold Ms.bump
    rw [HOB.out, HTT.out]
    exact this)
  have HC2 := hid (show Chg w (w1.setCell ⟨g, 6 + p, none⟩ (.int .i64 (ob + 1))) (Mf g k) (Mf g k) from mf_set HC1.out (6 + p) (.int .i64 (ob + 1)))
  generalize w1.setCell ⟨g, 6 + p, none⟩ (.int .i64 (ob + 1)) = w2 at *
  have HM2D := hid (show Mq w2.drew g k C N L H (m.bump p) from HM2.out.draws 1)
  clear co fr hob
  have co := HM2.out.cO HP.out
  rw [show (m.bump p).o p = ob + 1 from by show upd m.o p (m.o p + 1) p = ob + 1; rw [upd_same, HOB.out]] at co
  rw [HOB.out] at HPL HT HBM HUS
  go_wp2_with (first
    | (go_at_call 163; refine (mq_queueof HM2D.out HBM.out.2.2.2.2 (ob + 1) HO1.out).mono ?_; rintro e w3 ⟨rfl, d, rfl⟩; have HM3 := hid (HM2.out.draws (1 + d)); have HC3 := hid (Chg.draws HC2.out (1 + d)))
    | (go_at_call 162; refine (mq_put HM3.out HBM.out.1 HBM.out.2.1 HBM.out.2.2.1 HBM.out.2.2.2.1 HVB.out).mono ?_; rintro e w4 ⟨rfl, hq, hc⟩; have HM4 := hid hq; have HC4 := hid (HC3.out.trans hc); clear hq hc)
    | (go_at_call 156; refine (mq_age HM4.out HPL.out HT.out).mono ?_; rintro e w5 ⟨rfl, hq, hc⟩; have HM5 := hid hq; have HC5 := hid (HC4.out.trans hc); clear hq hc))
  exact bodyPost_end (results_none rfl _ _ _) rfl ⟨rfl, by rw [HUS.out]; exact HM5.out, HC5.out⟩
/-- behind Use -/
def Ms.useM (m : Ms) (N L : Nat) (b : Int) : Ms := if b ∈ m.al then m.us N L b else m
theorem Okm.useM (ok : Okm C N L H m) (b : Int) : Okm C N L H (m.useM N L b) ∧ (m.useM N L b).t ≤ m.t + 1 := by
  unfold Ms.useM
  by_cases hb : b ∈ m.al
  · rw [if_pos hb]
    exact ⟨ok.us (ok.lt (ok.in_al hb)) (.inl hb), Nat.le_of_eq (us_t m N L b)⟩
  · rw [if_neg hb]
    exact ⟨ok, by omega⟩
set_option maxHeartbeats 1000000 in
theorem mq_Use (h : Mq w g k C N L H m) (ok : Okm C N L H m) (ht : m.t ≤ 10000000) (b : Int) :
    Calls Tryz.prog 155 #[.pointer (some ⟨g, 0, none⟩), .int .i64 b] w fun e w' => e = .returned (.bool (decide (b ∈ m.al))) ∧ Mq w' g k C N L H (m.useM N L b) ∧ Chg w w' (Mf g k) (Mf g k) := by
  have HH := hid (mq_has h ok b)
  have HM := hid h
  by_cases hb : b ∈ m.al
  · have e : m.useM N L b = m.us N L b := if_pos hb
    rw [decide_eq_true hb] at HH ⊢
    rw [e]
    have HU := hid (mq_use h ok ht (ok.lt (ok.in_al hb)) (.inl hb))
    clear h ok e hb
    go_enter Tryz.func155, Tryz.ntmps155
    go_wp2_with (first | (go_at_call 152; refine HH.out.mono ?_; rintro e w1 ⟨rfl, rfl⟩) | (go_at_call 158; refine HU.out.mono ?_; rintro e w2 ⟨rfl, hq, hc⟩; have HM2 := hid hq; have HC2 := hid hc; clear hq hc))
    go_ret
    exact ⟨rfl, HM2.out, HC2.out⟩
  · have e : m.useM N L b = m := if_neg hb
    rw [decide_eq_false hb] at HH ⊢
    rw [e]
    clear h ok e hb
    go_enter Tryz.func155, Tryz.ntmps155
    go_wp2_with (go_at_call 152; refine HH.out.mono ?_; rintro e w1 ⟨rfl, rfl⟩)
    go_ret
    exact ⟨rfl, HM.out, Chg.refl _ _⟩
/-- behind Remove -/
def Ms.remM (m : Ms) (b : Int) : Ms := if b ∈ m.al then m.fo b else m
theorem Okm.remM (ok : Okm C N L H m) (b : Int) : Okm C N L H (m.remM b) ∧ (m.remM b).t = m.t := by
  unfold Ms.remM
  by_cases hb : b ∈ m.al
  · rw [if_pos hb]
    exact ⟨ok.fo b, rfl⟩
  · rw [if_neg hb]
    exact ⟨ok, rfl⟩
set_option maxHeartbeats 1000000 in
theorem mq_remove (h : Mq w g k C N L H m) (ok : Okm C N L H m) (b : Int) :
    Calls Tryz.prog 154 #[.pointer (some ⟨g, 0, none⟩), .int .i64 b] w fun e w' => e = .returned (.bool (decide (b ∈ m.al))) ∧ Mq w' g k C N L H (m.remM b) ∧ Chg w w' (Mf g k) (Mf g k) := by
  have HH := hid (mq_has h ok b)
  have HM := hid h
  by_cases hb : b ∈ m.al
  · have e : m.remM b = m.fo b := if_pos hb
    rw [decide_eq_true hb] at HH ⊢
    rw [e]
    have HU := hid (mq_forget h (b := b) (ok.lt (ok.in_al hb)))
    clear h ok e hb
    go_enter Tryz.func154, Tryz.ntmps154
    go_wp2_with (first | (go_at_call 152; refine HH.out.mono ?_; rintro e w1 ⟨rfl, rfl⟩) | (go_at_call 160; refine HU.out.mono ?_; rintro e w2 ⟨rfl, hq, hc⟩; have HM2 := hid hq; have HC2 := hid hc; clear hq hc))
    go_ret
    exact ⟨rfl, HM2.out, HC2.out⟩
  · have e : m.remM b = m := if_neg hb
    rw [decide_eq_false hb] at HH ⊢
    rw [e]
    clear h ok e hb
    go_enter Tryz.func154, Tryz.ntmps154
    go_wp2_with (go_at_call 152; refine HH.out.mono ?_; rintro e w1 ⟨rfl, rfl⟩)
    go_ret
    exact ⟨rfl, HM.out, Chg.refl _ _⟩
/-- whether one goes for a block, which one, what is there behind -/
def Ms.goes (m : Ms) (C : Nat) (b : Int) : Prop := vb b ∧ b ∉ m.al ∧ m.al.length = C
instance decMqGoes (m : Ms) (C : Nat) (b : Int) : Decidable (m.goes C b) := inferInstanceAs (Decidable (_ ∧ _ ∧ _))
def Ms.adV (m : Ms) (C : Nat) (b : Int) : Int := if m.goes C b then m.vc else 0
def Ms.adE (b : Int) : Int := if vb b then 0 else 3
def Ms.adM (m : Ms) (C N L H : Nat) (b : Int) : Ms := if m.goes C b then (m.ha H m.vc).us N L b else if vb b then m.us N L b else m
theorem ha_t (m : Ms) (H : Nat) (v : Int) : (m.ha H v).t = m.t := by
  unfold Ms.ha
  split <;> rfl
theorem Okm.adM (ok : Okm C N L H m) (hH : H ≤ 16) (b : Int) : Okm C N L H (m.adM C N L H b) ∧ (m.adM C N L H b).t ≤ m.t + 1 := by
  unfold Ms.adM
  by_cases hg : m.goes C b
  · rw [if_pos hg]
    obtain ⟨hv, hn, hl⟩ := hg
    obtain ⟨-, -, -, v4⟩ := ok.vic (by have := ok.c; omega)
    obtain ⟨o1, o2⟩ := ok.ha hH v4
    exact ⟨o1.us hv (.inr (by omega)), by rw [us_t, ha_t]; exact Nat.le_refl _⟩
  · rw [if_neg hg]
    by_cases hv : vb b
    · rw [if_pos hv]
      refine ⟨ok.us hv ?_, Nat.le_of_eq (us_t m N L b)⟩
      by_cases hb : b ∈ m.al
      · exact .inl hb
      · exact .inr (by have := ok.cap; have : m.al.length ≠ C := fun e => hg ⟨hv, hb, e⟩; omega)
    · rw [if_neg hv]
      exact ⟨ok, by omega⟩
end
end Go.Proofs.YtmfdlkkligjcbaaGreat
namespace Go.Proofs.YtmfdlkkligjcbaaGreat
open Go.RowKit

/-- the space's only list -/
theorem okp_one {L : List Int} {x : Int} : okp [L] 0 x ↔ vb x := by
  unfold okp isl
  simp
theorem putE_one (L : List Int) (x : Int) : putE [L] 0 x = if vb x then 0 else 3 := by
  unfold putE
  by_cases h : vb x
  · rw [if_pos h, if_pos (okp_one.2 h)]
  · rw [if_neg h, if_neg (fun e => h (okp_one.1 e))]
theorem front_one {L : List Int} {x : Int} (h : vb x) : frontS [L] 0 x = [x :: wo x L] := by
  unfold frontS
  rw [if_pos (okp_one.2 h)]
  rfl
theorem inS_one {L : List Int} {x : Int} : inS [L] x ↔ x ∈ L := by
  unfold inS
  constructor
  · rintro ⟨i, l, hi, hm⟩
    cases i with
    | zero => simp at hi; rw [hi]; exact hm
    | succ i => simp at hi
  · exact fun h => ⟨0, L, rfl, h⟩
theorem remE_one (L : List Int) (x : Int) (h : x ∈ L) (hv : vb x) : remE [L] x = 0 := by
  unfold remE
  rw [if_pos hv, dec_true (inS_one.2 h)]
  rfl
theorem wo_last : ∀ {l : List Int} (hn : l ≠ []), l.Nodup → wo (l.getLast hn) l = l.dropLast := by
  intro l hn hd
  have e := List.dropLast_concat_getLast hn
  have h2 : (l.dropLast ++ l.getLast hn :: []).Nodup := by rw [e]; exact hd
  have h3 := wo_split h2
  rw [e] at h3
  rw [h3, List.append_nil]
/-- block g is an LRU of this capacity, its space lies at k; these are its blocks -/
structure Lq (w : World) (g k C : Nat) (L : List Int) : Prop where
  box : Bx w g 148 #[.pointer (some ⟨k, 0, none⟩), .int .i64 C]
  sq : Sq w k [L]
  ne : g ≠ k
  cap : 1 ≤ C ∧ C ≤ 16
section
variable {w w' : World} {g k C : Nat} {L L' : List Int}
theorem Lq.below (h : Lq w g k C L) (hb : Below w.heap.size w w') : Lq w' g k C L := ⟨h.box.next hb, h.sq.below hb, h.ne, h.cap⟩
theorem Lq.draws (h : Lq w g k C L) (n : Nat) : Lq (w.drewN n) g k C L := h.below (below_draws (Below.refl _ _) n)
theorem Lq.step (h : Lq w g k C L) (hs : Sq w' k [L']) (hc : Chg w w' (· = k) (· = k)) : Lq w' g k C L' := ⟨hc.bx h.box h.ne, hs, h.ne, h.cap⟩
theorem Lq.chg {F G : Nat → Prop} (h : Lq w g k C L) (hc : Chg w w' F G) (h1 : ¬ F g) (h2 : ¬ F k) : Lq w' g k C L := ⟨hc.bx h.box h1, h.sq.same (hc.block k h.sq.lt h2), h.ne, h.cap⟩
theorem Lq.nd (h : Lq w g k C L) : L.Nodup := h.sq.wf.1.nd 0 L rfl
theorem Lq.vb (h : Lq w g k C L) {x : Int} (hx : x ∈ L) : vb x := h.sq.wf.1.lt 0 L x rfl hx
theorem Lq.c0 (h : Lq w g k C L) : w.cell? ⟨g, 0, none⟩ = some (.pointer (some ⟨k, 0, none⟩)) := h.box.cell 0
theorem Lq.c1 (h : Lq w g k C L) : w.cell? ⟨g, 1, none⟩ = some (.int .i64 C) := h.box.cell 1
end
/-- a capacity, held within its bounds -/
def cp (m : Int) : Nat := (min (max m 1) 16).toNat
theorem cp_le (m : Int) : 1 ≤ cp m ∧ cp m ≤ 16 := by unfold cp; omega
set_option maxRecDepth 10000 in
set_option maxHeartbeats 1000000 in
theorem lru_new (m : Int) (w : World) : Calls Tryz.prog 60 #[.int .i64 m] w fun e w' => ∃ g k, e = .returned (.pointer (some ⟨g, 0, none⟩)) ∧ Lq w' g k (cp m) [] ∧ Below w.heap.size w w' ∧ w.heap.size ≤ g ∧ w.heap.size ≤ k := by
  have HE := hid (show (if 16 < (if m < 1 then (1 : Int) else m) then (16 : Int) else if m < 1 then 1 else m) = (cp m : Nat) from by
    unfold cp
    split <;> split <;> omega)
  have hle := cp_le m
  generalize cp m = C at *
  have h3 : (m < 1 ∧ C = 1) ∨ (¬ m < 1 ∧ 16 < m ∧ C = 16) ∨ (¬ m < 1 ∧ ¬ 16 < m ∧ m = C) := by
    have := HE.out
    split at this <;> split at this <;> omega
  clear HE
  rcases h3 with ⟨h1, rfl⟩ | ⟨h1, h2, rfl⟩ | ⟨h1, h2, rfl⟩
  all_goals
    go_enter Tryz.func60, Tryz.ntmps60
    go_wp2_with (go_at_call 70; refine (lnew_any 1 _).mono ?_; rintro e w1 ⟨k, rfl, hs, hb, hk⟩; rw [show empt (cl 1) = [[]] from by decide] at hs; have HS0 := hid hs; have HB0 := hid hb; have HK := hid hk; clear hs hb hk)
    go_ret
    exact ⟨w1.heap.size, k, rfl, ⟨Bx.new w1 _ _, HS0.out.below (below_alloc w1 _), fun e => by have := HS0.out.lt; omega, hle⟩, on HB0.out (below_alloc w1 _), HB0.out.size, HK.out⟩
section
variable {w : World} {g k C : Nat} {L : List Int}
set_option maxHeartbeats 400000 in
theorem lru_has (h : Lq w g k C L) (x : Int) : Calls Tryz.prog 169 #[.pointer (some ⟨g, 0, none⟩), .int .i64 x] w fun e w' => e = .returned (.bool (dec (x ∈ L))) ∧ w = w' := by
  have c0 := h.c0
  by_cases hx : x ∈ L
  · rw [dec_true hx]
    have HO := hid (of_yes h.sq (i := 0) (l := L) rfl hx)
    clear h hx
    go_enter Tryz.func169, Tryz.ntmps169
    go_wp2_with (go_at_call 139; refine HO.out.mono ?_; rintro e w' ⟨rfl, rfl⟩)
    go_ret
    exact ⟨rfl, rfl⟩
  · rw [dec_false hx]
    have HO := hid (of_no h.sq (x := x) (fun e => hx (inS_one.1 e)))
    clear h hx
    go_enter Tryz.func169, Tryz.ntmps169
    go_wp2_with (go_at_call 139; refine HO.out.mono ?_; rintro e w' ⟨rfl, rfl⟩)
    go_ret
    exact ⟨rfl, rfl⟩
set_option maxHeartbeats 400000 in
theorem lru_all (h : Lq w g k C L) : Calls Tryz.prog 168 #[.pointer (some ⟨g, 0, none⟩)] w (Told w L) := by
  have c0 := h.c0
  have HA := hid (all_in h.sq (i := 0) (l := L) rfl)
  clear h
  go_enter Tryz.func168, Tryz.ntmps168
  go_wp2_with (go_at_call 138; refine HA.out.mono ?_; rintro e w' ⟨A, c, rfl, ho, hg⟩; have HO := hid ho; have HG := hid hg; clear ho hg)
  go_ret
  exact ⟨A, c, rfl, HO.out, HG.out⟩
set_option maxHeartbeats 400000 in
theorem lru_len (h : Lq w g k C L) : Calls Tryz.prog 170 #[.pointer (some ⟨g, 0, none⟩)] w fun e w' => e = .returned (.int .i64 L.length) ∧ Below w.heap.size w w' := by
  have c0 := h.c0
  have HA := hid (len_in h.sq (i := 0) (l := L) rfl)
  clear h
  go_enter Tryz.func170, Tryz.ntmps170
  go_wp2_with (go_at_call 135; refine HA.out.mono ?_; rintro e w' ⟨rfl, hb⟩; have HB := hid hb; clear hb)
  go_ret
  exact ⟨rfl, HB.out⟩
/-- behind Use -/
noncomputable def useL (x : Int) (L : List Int) : List Int := if dec (x ∈ L) then x :: wo x L else L
set_option maxHeartbeats 400000 in
theorem lru_use (h : Lq w g k C L) (x : Int) : Calls Tryz.prog 172 #[.pointer (some ⟨g, 0, none⟩), .int .i64 x] w fun e w' => e = .returned (.bool (dec (x ∈ L))) ∧ Lq w' g k C (useL x L) ∧ Chg w w' (· = k) (· = k) := by
  have c0 := h.c0
  have HH := hid (lru_has h x)
  by_cases hx : x ∈ L
  · have hv := h.vb hx
    have e1 : useL x L = x :: wo x L := by unfold useL; rw [dec_true hx]; rfl
    rw [dec_true hx] at HH ⊢
    rw [e1]
    have HF := hid (front_any h.sq 0 x)
    rw [putE_one, if_pos hv, front_one hv] at HF
    have H := hid h
    clear h hx hv e1
    go_enter Tryz.func172, Tryz.ntmps172
    go_wp2_with (first | (go_at_call 169; refine HH.out.mono ?_; rintro e w' ⟨rfl, rfl⟩) | (go_at_call 137; refine HF.out.mono ?_; rintro e w' ⟨rfl, hs, hc⟩; have HS := hid hs; have HC := hid hc; clear hs hc))
    go_ret
    exact ⟨rfl, H.out.step HS.out HC.out, HC.out⟩
  · have e1 : useL x L = L := by unfold useL; rw [dec_false hx]; rfl
    rw [dec_false hx] at HH ⊢
    rw [e1]
    have H := hid h
    clear h hx e1
    go_enter Tryz.func172, Tryz.ntmps172
    go_wp2_with (go_at_call 169; refine HH.out.mono ?_; rintro e w' ⟨rfl, rfl⟩)
    go_ret
    exact ⟨rfl, H.out, Chg.refl _ _⟩
set_option maxHeartbeats 400000 in
theorem lru_remove (h : Lq w g k C L) (x : Int) : Calls Tryz.prog 171 #[.pointer (some ⟨g, 0, none⟩), .int .i64 x] w fun e w' => e = .returned (.bool (dec (x ∈ L))) ∧ Lq w' g k C (wo x L) ∧ Chg w w' (· = k) (· = k) := by
  have c0 := h.c0
  have HR := hid (remove_any h.sq x)
  rw [show woS x [L] = [wo x L] from rfl] at HR
  have e : (remE [L] x == 0) = dec (x ∈ L) := by
    by_cases hx : x ∈ L
    · rw [remE_one L x hx (h.vb hx), dec_true hx]; rfl
    · rw [dec_false hx]
      unfold remE
      rw [dec_false (fun e => hx (inS_one.1 e))]
      split <;> rfl
  have e2 : decide (remE [L] x = 0) = dec (x ∈ L) := by rw [← e]; rfl
  rw [← e2]
  generalize remE [L] x = z at *
  have H := hid h
  clear h e e2
  go_enter Tryz.func171, Tryz.ntmps171
  go_wp2_with (go_at_call 140; refine HR.out.mono ?_; rintro e w' ⟨rfl, hs, hc⟩; have HS := hid hs; have HC := hid hc; clear hs hc)
  go_ret
  exact ⟨rfl, H.out.step HS.out HC.out, HC.out⟩
/-- behind Add: whether one goes, which one, what is there -/
def goes (C : Nat) (x : Int) (L : List Int) : Prop := vb x ∧ C < (x :: wo x L).length
instance (C : Nat) (x : Int) (L : List Int) : Decidable (goes C x L) := inferInstanceAs (Decidable (_ ∧ _))
def vict (C : Nat) (x : Int) (L : List Int) : Int := if goes C x L then (x :: wo x L).getLast (by simp) else 0
def addE (x : Int) : Int := if vb x then 0 else 3
def addL (C : Nat) (x : Int) (L : List Int) : List Int := if goes C x L then (x :: wo x L).dropLast else if vb x then x :: wo x L else L
set_option maxHeartbeats 1000000 in
theorem lru_add (h : Lq w g k C L) (x : Int) : Calls Tryz.prog 167 #[.pointer (some ⟨g, 0, none⟩), .int .i64 x] w fun e w' =>
    e = .returned (.tuple #[.int .i64 (vict C x L), .bool (decide (goes C x L)), .int .i64 (addE x)]) ∧ Lq w' g k C (addL C x L) ∧ Chg w w' (· = k) (· = k) := by
  have c0 := h.c0
  have HF := hid (front_any h.sq 0 x)
  rw [putE_one] at HF
  by_cases hv : vb x
  · have e1 : addE x = 0 := if_pos hv
    rw [if_pos hv, front_one hv] at HF
    rw [e1]
    by_cases hg : goes C x L
    · have e2 : vict C x L = (x :: wo x L).getLast (by simp) := if_pos hg
      have e3 : addL C x L = (x :: wo x L).dropLast := if_pos hg
      rw [e2, e3, decide_eq_true hg]
      have hlt := hg.2
      have H := hid h
      obtain ⟨n, hn⟩ : ∃ n, (x :: wo x L).length = n := ⟨_, rfl⟩
      rw [hn] at hlt
      have HN := hid hn
      have hlv : lastV (x :: wo x L) = .tuple #[.int .i64 ((x :: wo x L).getLast (by simp)), .bool true] := dif_neg (by simp)
      have HLV := hid hlv
      have hmem : (x :: wo x L).getLast (by simp) ∈ x :: wo x L := List.getLast_mem _
      have HM := hid hmem
      have hwl : ∀ hd : (x :: wo x L).Nodup, wo ((x :: wo x L).getLast (by simp)) (x :: wo x L) = (x :: wo x L).dropLast := fun hd => wo_last (by simp) hd
      have HWL := hid hwl
      clear h e1 e2 e3 hv hg hn hlv hmem hwl
      generalize (x :: wo x L).getLast (by simp) = v at *
      go_enter Tryz.func167, Tryz.ntmps167
      go_upto_region 6 with (go_at_call 137; refine HF.out.mono ?_; rintro e w1 ⟨rfl, hs, hc⟩; have HQ := hid (H.out.step hs hc); have HC := hid hc; clear hs hc)
      clear c0
      have c1 := HQ.out.c1
      have HQD := hid (show Lq w1.drew g k C (x :: wo x L) from HQ.out.draws 1)
      go_region_held3 (fun w' => w'.cell? ⟨g, 1, none⟩ = some (.int .i64 C)) (first | exact kp | exact c1) (first | (go_at_call 170; refine (lru_len HQD.out).mono ?_; rintro e w2 ⟨rfl, hb⟩; rw [HN.out]; have HQ2 := hid (HQD.out.below hb); have HC2 := hid (HC.out.trans ((Chg.of (below_draws (Below.refl _ _) 1) _).trans (Chg.of hb _))); have kp := HQ2.out.c1; clear hb))
      have c0 := HQ2.out.c0
      go_wp2_with (first | (go_at_call 142; refine (last_in HQ2.out.sq (i := 0) (l := x :: wo x L) rfl).mono ?_; rintro e w3 ⟨rfl, d, rfl⟩; rw [HLV.out]; have HQ3 := hid (HQ2.out.draws d); have HC3 := hid (Chg.draws HC2.out d)) | (go_at_call 171; refine (lru_remove HQ3.out v).mono ?_; rintro e w4 ⟨rfl, hq, hc⟩; rw [dec_true HM.out]; have HQ4 := hid hq; have HC4 := hid (HC3.out.trans hc); clear hq hc))
      go_ret3
      have hq := HQ4.out
      rw [HWL.out HQ3.out.nd] at hq
      exact ⟨rfl, hq, HC4.out⟩
    · have e2 : vict C x L = 0 := if_neg hg
      have e3 : addL C x L = x :: wo x L := by unfold addL; rw [if_neg hg, if_pos hv]
      rw [e2, e3, decide_eq_false hg]
      have hlt : ¬ C < (x :: wo x L).length := fun e => hg ⟨hv, e⟩
      have H := hid h
      obtain ⟨n, hn⟩ : ∃ n, (x :: wo x L).length = n := ⟨_, rfl⟩
      rw [hn] at hlt
      have HN := hid hn
      clear h e1 e2 e3 hv hg hn
      go_enter Tryz.func167, Tryz.ntmps167
      go_upto_region 6 with (go_at_call 137; refine HF.out.mono ?_; rintro e w1 ⟨rfl, hs, hc⟩; have HQ := hid (H.out.step hs hc); have HC := hid hc; clear hs hc)
      clear c0
      have c1 := HQ.out.c1
      have HQD := hid (show Lq w1.drew g k C (x :: wo x L) from HQ.out.draws 1)
      go_region_held3 (fun w' => w'.cell? ⟨g, 1, none⟩ = some (.int .i64 C)) (first | exact kp | exact c1) (first | (go_at_call 170; refine (lru_len HQD.out).mono ?_; rintro e w2 ⟨rfl, hb⟩; rw [HN.out]; have HQ2 := hid (HQD.out.below hb); have HC2 := hid (HC.out.trans ((Chg.of (below_draws (Below.refl _ _) 1) _).trans (Chg.of hb _))); have kp := HQ2.out.c1; clear hb))
      go_wp2
      go_ret3
      exact ⟨rfl, HQ2.out, HC2.out⟩
  · have hg : ¬ goes C x L := fun e => hv e.1
    have e1 : addE x = 3 := if_neg hv
    have e2 : vict C x L = 0 := if_neg hg
    have e3 : addL C x L = L := by unfold addL; rw [if_neg hg, if_neg hv]
    rw [if_neg hv, show frontS [L] 0 x = [L] from by unfold frontS; rw [if_neg (fun e => hv (okp_one.1 e))]] at HF
    rw [e1, e2, e3, decide_eq_false hg]
    have H := hid h
    clear h e1 e2 e3 hv hg
    go_enter Tryz.func167, Tryz.ntmps167
    go_wp2_with (go_at_call 137; refine HF.out.mono ?_; rintro e w1 ⟨rfl, hs, hc⟩; have HQ := hid (H.out.step hs hc); have HC := hid hc; clear hs hc)
    go_ret3
    exact ⟨rfl, HQ.out, HC.out⟩
end
end Go.Proofs.YtmfdlkkligjcbaaGreat
namespace Go.Proofs.YtmfdlkkligjcbaaGreat

open Go.RowKit

/-- the world w came from w0 by turns of block k alone, whose cells 0 .. n-1 hold d's numbers -/
structure St (w0 : World) (k n : Nat) (d : Nat → Nat) (w : World) : Prop where
  grown : w0.grownBy w (some k)
  lt : k < w0.heap.size
  cell : ∀ i, i < n → w.cell? ⟨k, i, none⟩ = some (.int .i64 (d i : Nat))
  free : ∀ i, i < n → w.frozen? ⟨k, i, none⟩ = false

def swp (d : Nat → Nat) (i j : Nat) : Nat → Nat := fun t => if t = j then d i else if t = i then d j else d t

section
variable {w0 w w' : World} {k n : Nat} {d d' : Nat → Nat}
theorem St.here (h : St w0 k n d w) : k < w.heap.size := Nat.lt_of_lt_of_le h.lt h.grown.size
theorem St.below (h : St w0 k n d w) (hb : Below w.heap.size w w') : St w0 k n d w' where
  grown := h.grown.trans ⟨hb.os, hb.tape, hb.output, hb.size, fun j hj _ => hb.block j hj⟩
  lt := h.lt
  cell := fun i hi => (hb.cell (p := ⟨k, i, none⟩) h.here).trans (h.cell i hi)
  free := fun i hi => (hb.frozen (p := ⟨k, i, none⟩) h.here).trans (h.free i hi)
theorem St.drewN (h : St w0 k n d w) (m : Nat) : St w0 k n d (w.drewN m) := h.below (below_drewN' w m)
  where below_drewN' (w : World) (m : Nat) : Below w.heap.size w (w.drewN m) := ⟨rfl, rfl, rfl, Nat.le_refl _, fun _ _ => rfl⟩
theorem St.drew (h : St w0 k n d w) : St w0 k n d w.drew := h.below (Below.refl _ _).drew
theorem St.alike (h : St w0 k n d w) (hd : ∀ i, i < n → d' i = d i) : St w0 k n d' w := ⟨h.grown, h.lt, fun i hi => by rw [hd i hi]; exact h.cell i hi, h.free⟩
theorem St.set (h : St w0 k n d w) {i : Nat} (hi : i < n) (x : Nat) : St w0 k n (fun t => if t = i then x else d t) (w.setCell ⟨k, i, none⟩ (.int .i64 (x : Nat))) where
  grown := h.grown.trans (grown_set w ⟨k, i, none⟩ _)
  lt := h.lt
  cell := fun t ht => by
    by_cases e : t = i
    · subst e
      rw [World.cell?_setCell_same _ _ _ (h.cell t ht), if_pos rfl]
    · rw [World.cell?_setCell_other _ _ _ _ (by intro q; injection q with _ q; exact e q.symm), if_neg e]
      exact h.cell t ht
  free := fun t ht => by rw [World.frozen?_setCell]; exact h.free t ht
  where grown_set (w : World) (a : Addr) (u : Value) : w.grownBy (w.setCell a u) (some a.block) := by
          refine ⟨rfl, rfl, rfl, by unfold World.setCell; split <;> simp, fun j hj hne => ?_⟩
          exact Below.heap_setCell w a u j (by intro e; exact hne (by rw [e]))
theorem St.swp (h : St w0 k n d w) {i j : Nat} (hi : i < n) (hj : j < n) :
    St w0 k n (swp d i j) ((w.setCell ⟨k, i, none⟩ (.int .i64 (d j : Nat))).setCell ⟨k, j, none⟩ (.int .i64 (d i : Nat))) :=
  ((h.set hi (d j)).set hj (d i)).alike fun _ _ => rfl
end

set_option maxRecDepth 1000000 in
set_option maxHeartbeats 1000000 in
theorem swapRange_ok (w0 : World) (k n c a b m : Nat) (fv : Value) (hn : n ≤ 1000) (ha : a + m ≤ b) (hb : b + m ≤ n) (d : Nat → Nat) (w : World) (h : St w0 k n d w) :
    Calls Tryz.prog 110 #[.slice (some ⟨k, 0, none⟩) n c, .int .i64 a, .int .i64 b, .int .i64 m, fv] w fun e w' =>
      e = .returned (.tuple #[]) ∧ ∃ d', St w0 k n d' w' ∧ (∀ t, t < m → d' (a + t) = d (b + t) ∧ d' (b + t) = d (a + t)) ∧ ∀ t, (∀ s, s < m → t ≠ a + s ∧ t ≠ b + s) → d' t = d t := by
  go_enter Tryz.func110, Tryz.ntmps110
  go_wp2
  go_loopw [10] (fun i wr => ∃ (q : Nat) (d' : Nat → Nat), i = .int .i64 q ∧ q ≤ m ∧ St w0 k n d' wr ∧ (∀ t, t < q → d' (a + t) = d (b + t) ∧ d' (b + t) = d (a + t)) ∧ ∀ t, (∀ s, s < q → t ≠ a + s ∧ t ≠ b + s) → d' t = d t) (fun i _ => m - (intOf i).toNat)
  case atStart => exact ⟨0, d, rfl, Nat.zero_le _, h, fun t ht => absurd ht (Nat.not_lt_zero t), fun _ _ => rfl⟩
  case round =>
    obtain ⟨q, d', rfl, hq, hs, h1, h2⟩ := hrel
    have H1 := hid h1
    have H2 := hid h2
    have HS := hid hs
    clear h1 h2 h
    by_cases hlt : q < m
    · have hlt' : (q : Int) < (m : Int) := by omega
      obtain ⟨x, hx⟩ : ∃ x, d' (a + q) = x := ⟨_, rfl⟩
      obtain ⟨y, hy⟩ : ∃ y, d' (b + q) = y := ⟨_, rfl⟩
      have ca := hs.cell (a + q) (by omega)
      have cb := hs.cell (b + q) (by omega)
      rw [hx] at ca
      rw [hy] at cb
      have fa := hs.free (a + q) (by omega)
      have fb := hs.free (b + q) (by omega)
      have g1 : 0 ≤ (a : Int) + (q : Int) := by omega
      have g2 : (a : Int) + (q : Int) < (n : Int) := by omega
      have g3 : ((a : Int) + (q : Int)).toNat = a + q := by omega
      have g4 : 0 ≤ (b : Int) + (q : Int) := by omega
      have g5 : (b : Int) + (q : Int) < (n : Int) := by omega
      have g6 : ((b : Int) + (q : Int)).toNat = b + q := by omega
      clear hs
      go_wp2
      go_region
      go_wp2
      go_roundw
      case rel =>
        refine ⟨q + 1, swp d' (a + q) (b + q), by congr 1, by omega, ?_, ?_, ?_⟩
        · have := HS.out.swp (i := a + q) (j := b + q) (by omega) (by omega)
          rw [hx, hy] at this
          exact this.drew
        · intro t ht
          unfold swp
          by_cases e : t = q
          · subst e
            have h2 := H2.out
            have p1 : d' (a + t) = d (a + t) := h2 _ fun s hs => by omega
            have p2 : d' (b + t) = d (b + t) := h2 _ fun s hs => by omega
            rw [if_neg (by omega), if_pos rfl, if_pos rfl, p1, p2]
            exact ⟨rfl, rfl⟩
          · rw [if_neg (by omega), if_neg (by omega), if_neg (by omega), if_neg (by omega)]
            exact H1.out t (by omega)
        · intro t ht
          have := ht q (by omega)
          unfold swp
          rw [if_neg (by omega), if_neg (by omega)]
          exact H2.out t fun s hs => ht s (by omega)
      case measure => simp [intOf]; omega
    · have hge : ¬ (q : Int) < (m : Int) := by omega
      have : q = m := by omega
      subst this
      go_wp2
      go_end0
      exact ⟨rfl, d', HS.out, H1.out, fun t ht => H2.out t fun s hs => ht s hs⟩
end Go.Proofs.YtmfdlkkligjcbaaGreat
