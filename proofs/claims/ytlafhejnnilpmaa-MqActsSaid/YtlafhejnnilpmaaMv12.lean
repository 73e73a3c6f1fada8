/-
  What is proved: mq's forget, haunt, evict, use, Use, Add, Remove, New, of an MQ that is there and of none: what becomes of it, what is answered. Condition: the MQ lies in memory as one.
-/
import Derived.Test.YtlafhejnnilpmaaMu12
namespace Go.Proofs.Ytlafhejnnilpmaa
open Go.RowKit

section
variable {w : World} {g k C N L H : Nat} {m : Ms}
set_option maxHeartbeats 1000000 in
theorem mq_forget (h : Mq w g k C N L H m) {b : Int} (hb : vb b) :
    Calls Try.prog 38 #[.pointer (some ⟨g, 0, none⟩), .int .i64 b] w fun e w' => e = .returned (.tuple #[]) ∧ Mq w' g k C N L H (m.fo b) ∧ Chg w w' (Mf g k) (Mf g k) := by
  have c0 := h.c0
  have HR := hid (remove_any h.sq b)
  obtain ⟨p, rfl⟩ : ∃ p : Nat, b = p := ⟨b.toNat, by have := hb.1; omega⟩
  have hp : p < 64 := by have := hb.2; omega
  have hpp : (p : Int) < 64 := by omega
  have HM := hid h
  have HP := hid hp
  clear h hb
  go_enter Try.func38, Try.ntmps38
  go_upto_region 1 with (go_at_call 50; refine HR.out.mono ?_; rintro e w1 ⟨rfl, hs, hc⟩; have HM1 := hid (HM.out.step hs hc); have HC1 := hid (mf_k (Chg.refl w (Mf g k)) hc); clear hs hc)
  clear c0
  have co := HM1.out.cO HP.out
  have fr := HM1.out.free
  go_wp2
  exact bodyPost_end (results_none rfl _ _ _) rfl ⟨rfl, HM1.out.setO HP.out 0, mf_set HC1.out _ _⟩
set_option maxHeartbeats 1000000 in
theorem mq_haunt (h : Mq w g k C N L H m) (ok : Okm C N L H m) (hH : H ≤ 16) {v : Int} (hv : v ∈ m.al) :
    Calls Try.prog 49 #[.pointer (some ⟨g, 0, none⟩), .int .i64 v] w fun e w' => e = .returned (.tuple #[]) ∧ Mq w' g k C N L H (m.ha H v) ∧ Chg w w' (Mf g k) (Mf g k) := by
  have c0 := h.c0
  have HF := hid (front_any h.sq 8 v)
  have hb : vb v := ok.lt (ok.in_al hv)
  have e8 : putE m.S 8 v = 0 ∧ frontS m.S 8 v = (woS v m.S).set 8 (m.gg v) := front_pl ok.len (q := 8) (by omega) hb
  rw [e8.1, e8.2] at HF
  have HM := hid h
  have HK := hid ok
  have hl : 8 < (woS v m.S).length := by rw [woS_len, ok.len]; omega
  have HG := hid (show ((woS v m.S).set 8 (m.gg v))[8]? = some (m.gg v) from List.getElem?_set_self hl)
  obtain ⟨n, hn⟩ : ∃ n, (m.gg v).length = n := ⟨_, rfl⟩
  have HN := hid hn
  have HW := hid ((ok.ghost hv 17 (Nat.le_refl _) (by have := gg_len m v; have := ok.gh; omega)).1.wf.lt 8)
  have HHA := hid (show m.ha H v = if n ≤ H then ({ m with S := (woS v m.S).set 8 (m.gg v) } : Ms) else ({ m with S := (woS v m.S).set 8 (m.gg v) } : Ms).fo ((m.gg v).getLast (by simp [Ms.gg])) from by unfold Ms.ha; rw [hn])
  have hlv : lastV (m.gg v) = .tuple #[.int .i64 ((m.gg v).getLast (by simp [Ms.gg])), .bool true] := dif_neg (by simp [Ms.gg])
  have HLV := hid hlv
  have HME := hid (show (m.gg v).getLast (by simp [Ms.gg]) ∈ m.gg v from List.getLast_mem _)
  clear h ok hv hb e8 hl hn hlv
  generalize (m.gg v).getLast (by simp [Ms.gg]) = z at *
  go_enter Try.func49, Try.ntmps49
  go_upto_region 1 with (go_at_call 54; refine HF.out.mono ?_; rintro e w1 ⟨rfl, hs, hc⟩; have HM1 := hid (HM.out.step hs hc); have HC1 := hid (mf_k (Chg.refl w (Mf g k)) hc); clear hs hc)
  clear c0
  have c0 := HM1.out.c0
  have c4 := HM1.out.c4
  have HMD := hid (HM1.out.draws 1)
  go_region_held3 (fun w' => w'.cell? ⟨g, 0, none⟩ = some (.pointer (some ⟨k, 0, none⟩)) ∧ w'.cell? ⟨g, 4, none⟩ = some (.int .i64 H)) (first | exact kp | exact ⟨c0, c4⟩) (first | (go_at_call 57; refine (len_in HMD.out.sq HG.out).mono ?_; rintro e w2 ⟨rfl, hb⟩; rw [HN.out]; have HM2 := hid (HMD.out.below hb); have HC2 := hid ((Chg.draws HC1.out 1).trans (Chg.of hb _)); have kp := And.intro HM2.out.c0 HM2.out.c4; clear hb))
  clear kp c0 c4
  have c0 := HM2.out.c0
  by_cases hle : n ≤ H
  · have e := HHA.out
    rw [if_pos hle] at e
    have HE := hid e
    clear e
    go_wp2
    exact bodyPost_ret (results_none rfl _ _ _) rfl ⟨rfl, by rw [HE.out]; exact HM2.out, HC2.out⟩
  · have e := HHA.out
    rw [if_neg hle] at e
    have HE := hid e
    have HV := hid (show vb z from HW.out _ z HG.out HME.out)
    clear e
    go_wp2_with (first | (go_at_call 48; refine (last_in HM2.out.sq HG.out).mono ?_; rintro e w3 ⟨rfl, d, rfl⟩; rw [HLV.out]; have HM3 := hid (HM2.out.draws d); have HC3 := hid (Chg.draws HC2.out d)) | (go_at_call 38; refine (mq_forget HM3.out HV.out).mono ?_; rintro e w4 ⟨rfl, hq, hc⟩; have HM4 := hid hq; have HC4 := hid (HC3.out.trans hc); clear hq hc))
    exact bodyPost_end (results_none rfl _ _ _) rfl ⟨rfl, by rw [HE.out]; exact HM4.out, HC4.out⟩
set_option maxHeartbeats 1000000 in
theorem mq_evict (h : Mq w g k C N L H m) (ok : Okm C N L H m) (hH : H ≤ 16) (hp : 0 < m.al.length) :
    Calls Try.prog 37 #[.pointer (some ⟨g, 0, none⟩)] w fun e w' => e = .returned (.tuple #[.int .i64 m.vc, .bool true]) ∧ Mq w' g k C N L H (m.ha H m.vc) ∧ Chg w w' (Mf g k) (Mf g k) := by
  have c2 := h.c2
  have HM := hid h
  have HK := hid ok
  obtain ⟨v1, v2, v3, v4⟩ := ok.vic hp
  have h8 := ok.n
  have HV3 := hid v3
  have HV4 := hid v4
  have hne : m.S.getD m.vi [] ≠ [] := fun e => by rw [e] at v2; cases v2
  have HLV := hid (last_mem_gd hne v2)
  have HS := hid (fun i (hi : i < N) => gd_some (S := m.S) (i := i) (by rw [HK.out.len]; omega))
  clear h ok hp v2 v3 v4 hne
  generalize m.vc = v at *
  generalize m.vi = iv at *
  go_enter Try.func37, Try.ntmps37
  go_wp2
  clear c2
  go_loopg [2, 3, 10] N (fun gk s2 s3 s10 wr => ∃ i : Nat, i + gk = N ∧ i ≤ iv ∧ s2 = .int .i64 0 ∧ s3 = .bool false ∧ s10 = .int .i64 i ∧ Mq wr g k C N L H m ∧ Chg w wr (Mf g k) (Mf g k))
  case atStart => exact ⟨0, by omega, by omega, rfl, rfl, rfl, HM.out, Chg.refl _ _⟩
  case round =>
    obtain ⟨i, hgk, hi, rfl, rfl, rfl, hq, hc⟩ := hrel
    have HQ := hid hq
    have HC := hid hc
    have c0 := hq.c0
    clear hq hc
    have hlt : i < N := by omega
    have hl1 : (i : Int) < (N : Int) := by omega
    have HLA := hid (last_in HQ.out.sq (HS.out i hlt))
    by_cases he : i = iv
    · subst he
      rw [HLV.out] at HLA
      go_wp2_with (first | (go_at_call 48; refine HLA.out.mono ?_; rintro e w2 ⟨rfl, d, rfl⟩; have HQ2 := hid (HQ.out.draws d); have HC2 := hid (Chg.draws HC.out d)) | (go_at_call 49; refine (mq_haunt HQ2.out HK.out hH HV4.out).mono ?_; rintro e w3 ⟨rfl, hq, hc⟩; have HQ3 := hid hq; have HC3 := hid (HC2.out.trans hc); clear hq hc))
      go_ret2
      exact ⟨rfl, HQ3.out, HC3.out⟩
    · rw [HV3.out i (by omega), show lastV [] = .tuple #[.int .i64 0, .bool false] from dif_pos rfl] at HLA
      go_wp2_with (go_at_call 48; refine HLA.out.mono ?_; rintro e w2 ⟨rfl, d, rfl⟩; have HQ2 := hid (HQ.out.draws d); have HC2 := hid (Chg.draws HC.out d))
      go_roundg (gk - 1)
      case measure => omega
      case rel => exact ⟨i + 1, by omega, by omega, rfl, rfl, by go_num, HQ2.out, HC2.out⟩
set_option maxHeartbeats 1000000 in
theorem mq_use (h : Mq w g k C N L H m) (ok : Okm C N L H m) (ht : m.t ≤ 200) {b : Int} (hb : vb b) (hc : b ∈ m.al ∨ m.al.length < C) :
    Calls Try.prog 32 #[.pointer (some ⟨g, 0, none⟩), .int .i64 b] w fun e w' => e = .returned (.tuple #[]) ∧ Mq w' g k C N L H (m.us N L b) ∧ Chg w w' (Mf g k) (Mf g k) := by
  have HPL := hid (ok.placed hb hc)
  have HT := hid (show ((m.bump b).pl L (qn (m.o b + 1) N) b).t ≤ 2000 from by show m.t + 1 ≤ 2000; omega)
  have HBM := hid (show (m.bump b).S.length = 9 ∧ L ≤ 100 ∧ (m.bump b).t ≤ 2000 ∧ qn (m.o b + 1) N < 9 ∧ 1 ≤ N ∧ N ≤ 8 from ⟨ok.len, ok.l.2, by show m.t + 1 ≤ 2000; omega, by have := qn_lt (n := m.o b + 1) ok.n.1; have := ok.n; omega, ok.n⟩)
  have HVB := hid hb
  have HM := hid h
  obtain ⟨p, rfl⟩ : ∃ p : Nat, b = p := ⟨b.toNat, by have := hb.1; omega⟩
  have hp : p < 64 := by have := hb.2; omega
  have hpp : (p : Int) < 64 := by omega
  have HP := hid hp
  have c5 := h.c5
  have fr := h.free
  have hob := ok.o_nn p
  obtain ⟨ob, hobb⟩ : ∃ ob, m.o p = ob := ⟨_, rfl⟩
  rw [hobb] at hob
  have HOB := hid hobb
  have HO1 := hid (show 1 ≤ ob + 1 ∧ ob + 1 ≤ 255 from by omega)
  have hob1 : ob ≤ 200 := by omega
  have hob0 : 0 ≤ ob := hob.1
  have HUS := hid (show m.us N L p = Ms.ags L (N - 1) ((m.bump p).pl L (qn (m.o p + 1) N) p) from rfl)
  obtain ⟨t, htt⟩ : ∃ t, m.t = t := ⟨_, rfl⟩
  rw [htt] at c5
  have htb : t ≤ 200 := by omega
  have HTT := hid htt
  clear h ok hb hc hobb htt ht
  go_enter Try.func32, Try.ntmps32
  go_upto_region 1 with fail
  have HM1 := hid (HM.out.setT (t + 1))
  have HC1 := hid (mf_set (Chg.refl w (Mf g k)) 5 (.int .i64 ((t : Int) + 1)))
  rw [show ((t + 1 : Nat) : Int) = (t : Int) + 1 from by omega] at HM1
  generalize w.setCell ⟨g, 5, none⟩ (.int .i64 ((t : Int) + 1)) = w1 at *
  clear c5 fr
  have co := HM1.out.cO HP.out
  have fr := HM1.out.free
  dsimp only at co
  rw [HOB.out] at co
  go_region
  have HM2 := hid (show Mq (w1.setCell ⟨g, 6 + p, none⟩ (.int .i64 (ob + 1))) g k C N L H (m.bump p) from by
    have := HM1.out.setO HP.out (ob + 1)
    unfold Ms.bump
    rw [HOB.out, HTT.out]
    exact this)
  have HC2 := hid (show Chg w (w1.setCell ⟨g, 6 + p, none⟩ (.int .i64 (ob + 1))) (Mf g k) (Mf g k) from mf_set HC1.out (6 + p) (.int .i64 (ob + 1)))
  generalize w1.setCell ⟨g, 6 + p, none⟩ (.int .i64 (ob + 1)) = w2 at *
  have HM2D := hid (show Mq w2.drew g k C N L H (m.bump p) from HM2.out.draws 1)
  clear co fr hob
  have co := HM2.out.cO HP.out
  rw [show (m.bump p).o p = ob + 1 from by show upd m.o p (m.o p + 1) p = ob + 1; rw [upd_same, HOB.out]] at co
  rw [HOB.out] at HPL HT HBM HUS
  go_wp2_with (first
    | (go_at_call 45; refine (mq_queueof HM2D.out HBM.out.2.2.2.2 (ob + 1) HO1.out).mono ?_; rintro e w3 ⟨rfl, d, rfl⟩; have HM3 := hid (HM2.out.draws (1 + d)); have HC3 := hid (Chg.draws HC2.out (1 + d)))
    | (go_at_call 44; refine (mq_put HM3.out HBM.out.1 HBM.out.2.1 HBM.out.2.2.1 HBM.out.2.2.2.1 HVB.out).mono ?_; rintro e w4 ⟨rfl, hq, hc⟩; have HM4 := hid hq; have HC4 := hid (HC3.out.trans hc); clear hq hc)
    | (go_at_call 46; refine (mq_age HM4.out HPL.out HT.out).mono ?_; rintro e w5 ⟨rfl, hq, hc⟩; have HM5 := hid hq; have HC5 := hid (HC4.out.trans hc); clear hq hc))
  exact bodyPost_end (results_none rfl _ _ _) rfl ⟨rfl, by rw [HUS.out]; exact HM5.out, HC5.out⟩
/-- behind Use -/
def Ms.useM (m : Ms) (N L : Nat) (b : Int) : Ms := if b ∈ m.al then m.us N L b else m
theorem Okm.useM (ok : Okm C N L H m) (b : Int) : Okm C N L H (m.useM N L b) ∧ (m.useM N L b).t ≤ m.t + 1 := by
  unfold Ms.useM
  by_cases hb : b ∈ m.al
  · rw [if_pos hb]
    exact ⟨ok.us (ok.lt (ok.in_al hb)) (.inl hb), Nat.le_of_eq (us_t m N L b)⟩
  · rw [if_neg hb]
    exact ⟨ok, by omega⟩
set_option maxHeartbeats 1000000 in
theorem mq_Use (h : Mq w g k C N L H m) (ok : Okm C N L H m) (ht : m.t ≤ 200) (b : Int) :
    Calls Try.prog 12 #[.pointer (some ⟨g, 0, none⟩), .int .i64 b] w fun e w' => e = .returned (.bool (decide (b ∈ m.al))) ∧ Mq w' g k C N L H (m.useM N L b) ∧ Chg w w' (Mf g k) (Mf g k) := by
  have HH := hid (mq_has h ok b)
  have HM := hid h
  by_cases hb : b ∈ m.al
  · have e : m.useM N L b = m.us N L b := if_pos hb
    rw [decide_eq_true hb] at HH ⊢
    rw [e]
    have HU := hid (mq_use h ok ht (ok.lt (ok.in_al hb)) (.inl hb))
    clear h ok e hb
    go_enter Try.func12, Try.ntmps12
    go_wp2_with (first | (go_at_call 19; refine HH.out.mono ?_; rintro e w1 ⟨rfl, rfl⟩) | (go_at_call 32; refine HU.out.mono ?_; rintro e w2 ⟨rfl, hq, hc⟩; have HM2 := hid hq; have HC2 := hid hc; clear hq hc))
    go_ret
    exact ⟨rfl, HM2.out, HC2.out⟩
  · have e : m.useM N L b = m := if_neg hb
    rw [decide_eq_false hb] at HH ⊢
    rw [e]
    clear h ok e hb
    go_enter Try.func12, Try.ntmps12
    go_wp2_with (go_at_call 19; refine HH.out.mono ?_; rintro e w1 ⟨rfl, rfl⟩)
    go_ret
    exact ⟨rfl, HM.out, Chg.refl _ _⟩
set_option maxHeartbeats 400000 in
theorem mq_Use_nil (w : World) (b : Int) : Calls Try.prog 12 #[.pointer none, .int .i64 b] w fun e w' => e = .returned (.bool false) ∧ w = w' := by
  go_enter Try.func12, Try.ntmps12
  go_wp2_with (go_at_call 19; refine (mq_has_nil _ _).mono ?_; rintro e w' ⟨rfl, rfl⟩)
  go_ret
  exact ⟨rfl, rfl⟩
/-- behind Remove -/
def Ms.remM (m : Ms) (b : Int) : Ms := if b ∈ m.al then m.fo b else m
theorem Okm.remM (ok : Okm C N L H m) (b : Int) : Okm C N L H (m.remM b) ∧ (m.remM b).t = m.t := by
  unfold Ms.remM
  by_cases hb : b ∈ m.al
  · rw [if_pos hb]
    exact ⟨ok.fo b, rfl⟩
  · rw [if_neg hb]
    exact ⟨ok, rfl⟩
set_option maxHeartbeats 1000000 in
theorem mq_remove (h : Mq w g k C N L H m) (ok : Okm C N L H m) (b : Int) :
    Calls Try.prog 16 #[.pointer (some ⟨g, 0, none⟩), .int .i64 b] w fun e w' => e = .returned (.bool (decide (b ∈ m.al))) ∧ Mq w' g k C N L H (m.remM b) ∧ Chg w w' (Mf g k) (Mf g k) := by
  have HH := hid (mq_has h ok b)
  have HM := hid h
  by_cases hb : b ∈ m.al
  · have e : m.remM b = m.fo b := if_pos hb
    rw [decide_eq_true hb] at HH ⊢
    rw [e]
    have HU := hid (mq_forget h (b := b) (ok.lt (ok.in_al hb)))
    clear h ok e hb
    go_enter Try.func16, Try.ntmps16
    go_wp2_with (first | (go_at_call 19; refine HH.out.mono ?_; rintro e w1 ⟨rfl, rfl⟩) | (go_at_call 38; refine HU.out.mono ?_; rintro e w2 ⟨rfl, hq, hc⟩; have HM2 := hid hq; have HC2 := hid hc; clear hq hc))
    go_ret
    exact ⟨rfl, HM2.out, HC2.out⟩
  · have e : m.remM b = m := if_neg hb
    rw [decide_eq_false hb] at HH ⊢
    rw [e]
    clear h ok e hb
    go_enter Try.func16, Try.ntmps16
    go_wp2_with (go_at_call 19; refine HH.out.mono ?_; rintro e w1 ⟨rfl, rfl⟩)
    go_ret
    exact ⟨rfl, HM.out, Chg.refl _ _⟩
set_option maxHeartbeats 400000 in
theorem mq_remove_nil (w : World) (b : Int) : Calls Try.prog 16 #[.pointer none, .int .i64 b] w fun e w' => e = .returned (.bool false) ∧ w = w' := by
  go_enter Try.func16, Try.ntmps16
  go_wp2_with (go_at_call 19; refine (mq_has_nil _ _).mono ?_; rintro e w' ⟨rfl, rfl⟩)
  go_ret
  exact ⟨rfl, rfl⟩
/-- whether one goes for a block, which one, what is there behind -/
def Ms.goes (m : Ms) (C : Nat) (b : Int) : Prop := vb b ∧ b ∉ m.al ∧ m.al.length = C
instance decMqGoes (m : Ms) (C : Nat) (b : Int) : Decidable (m.goes C b) := inferInstanceAs (Decidable (_ ∧ _ ∧ _))
def Ms.adV (m : Ms) (C : Nat) (b : Int) : Int := if m.goes C b then m.vc else 0
def Ms.adE (b : Int) : Int := if vb b then 0 else 3
def Ms.adM (m : Ms) (C N L H : Nat) (b : Int) : Ms := if m.goes C b then (m.ha H m.vc).us N L b else if vb b then m.us N L b else m
theorem ha_t (m : Ms) (H : Nat) (v : Int) : (m.ha H v).t = m.t := by
  unfold Ms.ha
  split <;> rfl
theorem Okm.adM (ok : Okm C N L H m) (hH : H ≤ 16) (b : Int) : Okm C N L H (m.adM C N L H b) ∧ (m.adM C N L H b).t ≤ m.t + 1 := by
  unfold Ms.adM
  by_cases hg : m.goes C b
  · rw [if_pos hg]
    obtain ⟨hv, hn, hl⟩ := hg
    obtain ⟨-, -, -, v4⟩ := ok.vic (by have := ok.c; omega)
    obtain ⟨o1, o2⟩ := ok.ha hH v4
    exact ⟨o1.us hv (.inr (by omega)), by rw [us_t, ha_t]; exact Nat.le_refl _⟩
  · rw [if_neg hg]
    by_cases hv : vb b
    · rw [if_pos hv]
      refine ⟨ok.us hv ?_, Nat.le_of_eq (us_t m N L b)⟩
      by_cases hb : b ∈ m.al
      · exact .inl hb
      · exact .inr (by have := ok.cap; have : m.al.length ≠ C := fun e => hg ⟨hv, hb, e⟩; omega)
    · rw [if_neg hv]
      exact ⟨ok, by omega⟩
set_option maxHeartbeats 400000 in
theorem mq_add_nil (w : World) (b : Int) : Calls Try.prog 15 #[.pointer none, .int .i64 b] w fun e w' => e = .returned (.tuple #[.int .i64 0, .bool false, .int .i64 7]) ∧ w = w' := by
  go_enter Try.func15, Try.ntmps15
  go_wp2
  go_ret3
  exact ⟨rfl, rfl⟩
end
end Go.Proofs.Ytlafhejnnilpmaa
