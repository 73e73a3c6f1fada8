/-
  What is proved: the reference's Add; both MQs side by side, at one book each; the law's same. Condition: both lie in memory as one.
-/
import Derived.Test.YtlafhejnnilpmaaRx12
import Derived.Test.YtlafhejnnilpmaaWk12
namespace Go.Proofs.Ytlafhejnnilpmaa
open Go.RowKit

section
variable {w : World} {X : Nat → Prop} {h a p e C N L H : Nat} {m : Ms}
theorem rs_add (r : Rs w X h a p e C N L H m) (ok : Okm C N L H m) (hH : H ≤ 16) (ht : m.t ≤ 200) (b : Int) :
    Calls Try.prog 14 #[.pointer (some ⟨h, 0, none⟩), .int .i64 b] w fun en w' =>
      en = .returned (.agg #[.int .i64 (m.adV C b), .bool (decide (m.goes C b)), .int .i64 (Ms.adE b)]) ∧ Rs w' X h a p e C N L H (m.adM C N L H b) ∧ Chg w w' (Fr h a p e) (Fr h a p e) := by
  by_cases hg : m.goes C b
  · have e1 : m.adV C b = m.vc := if_pos hg
    have e2 : Ms.adE b = 0 := if_pos hg.1
    have e3 : m.adM C N L H b = (m.ha H m.vc).us N L b := if_pos hg
    rw [e1, e2, e3, decide_eq_true hg]
    exact rs_add_full r ok hH ht hg.1 hg.2.1 hg.2.2
  · have e1 : m.adV C b = 0 := if_neg hg
    rw [e1, decide_eq_false hg]
    by_cases hv : vb b
    · have e2 : Ms.adE b = 0 := if_pos hv
      have e3 : m.adM C N L H b = m.us N L b := by unfold Ms.adM; rw [if_neg hg, if_pos hv]
      rw [e2, e3]
      by_cases hb : b ∈ m.al
      · exact rs_add_was r ok ht hb
      · exact rs_add_room r ok ht hv hb (by have := ok.cap; have : m.al.length ≠ C := fun e => hg ⟨hv, hb, e⟩; omega)
    · have e2 : Ms.adE b = 3 := if_neg hv
      have e3 : m.adM C N L H b = m := by unfold Ms.adM; rw [if_neg hg, if_neg hv]
      rw [e2, e3]
      exact rs_add_bad r hv
end
theorem rs_new {w : World} {X : Nat → Prop} {h a p e C N L H : Nat} (hN : N ≤ 8) (hq : Rq w X h a p e C N L H (List.replicate N []) [] (fun _ => 0) (fun _ => 0) 0) : Rs w X h a p e C N L H m00 := by
  refine ⟨fun _ => 0, ?_, fun _ _ => rfl⟩
  rw [show m00.S.take N = List.replicate N [] from by show (List.replicate 9 ([] : List Int)).take N = _; rw [List.take_replicate, Nat.min_eq_left (by omega)]]
  exact hq
/-- both side by side -/
structure Tw (w0 w : World) (X : Nat → Prop) (g k h a p e C N L H T : Nat) (m1 m2 : Ms) : Prop where
  l : Lm w0 w g k C N L H T m1
  r : Rs w X h a p e C N L H m2
  xm : ∀ j, Mf g k j → X j
  dj : ∀ j, Mf g k j → ¬ Fr h a p e j
  lf : ∀ j, Fr h a p e j → w0.heap.size ≤ j
section
variable {w0 w w' : World} {X : Nat → Prop} {g k h a p e C N L H T T' : Nat} {m1 m2 m1' m2' : Ms}
theorem Tw.below (t : Tw w0 w X g k h a p e C N L H T m1 m2) (hb : Below w.heap.size w w') : Tw w0 w' X g k h a p e C N L H T m1 m2 := ⟨t.l.below hb, t.r.below hb, t.xm, t.dj, t.lf⟩
theorem Tw.draws (t : Tw w0 w X g k h a p e C N L H T m1 m2) (n : Nat) : Tw w0 (w.drewN n) X g k h a p e C N L H T m1 m2 := t.below (below_draws (Below.refl _ _) n)
theorem Tw.mq (t : Tw w0 w X g k h a p e C N L H T m1 m2) (hq : Mq w' g k C N L H m1') (hc : Chg w w' (Mf g k) (Mf g k)) (ok : Okm C N L H m1') (ht : m1'.t ≤ T') : Tw w0 w' X g k h a p e C N L H T' m1' m2 :=
  ⟨t.l.step hq hc ok ht, t.r.chg hc t.xm t.dj, t.xm, t.dj, t.lf⟩
theorem Tw.ref (t : Tw w0 w X g k h a p e C N L H T m1 m2) (hr : Rs w' X h a p e C N L H m2') (hc : Chg w w' (Fr h a p e) (Fr h a p e)) : Tw w0 w' X g k h a p e C N L H T m1 m2' :=
  ⟨t.l.chg hc t.lf (fun hf => t.dj g (.inl rfl) hf) (fun hf => t.dj k (.inr rfl) hf), hr, t.xm, t.dj, t.lf⟩
set_option maxRecDepth 100000 in
set_option maxHeartbeats 4000000 in
theorem same_walk {m : Ms} (t : Tw w0 w X g k h a p e C N L H T m m) :
    Calls Try.prog 18 #[.pointer (some ⟨g, 0, none⟩), .pointer (some ⟨h, 0, none⟩)] w fun en w' => en = .returned (.bool true) ∧ Below w.heap.size w w' := by
  have HT := hid t
  obtain ⟨o', ⟨cv, us, ug, hm⟩, ho⟩ := t.r
  have HM := hid hm
  have HOK := hid t.l.ok
  have hN := t.l.ok.n
  have c3 := hm.c3
  have hg16 : (m.S.getD 8 []).length ≤ 17 := by have := t.l.ok.gh; have := t.l.ok.h; omega
  have ha16 : m.al.length ≤ 16 := by have := t.l.ok.cap; have := t.l.ok.c; omega
  have HQ64 := hid (fun i (hi : i < N) => show (m.S.getD i []).length ≤ 64 from t.l.ok.wf.len (gd_some (by rw [HOK.out.len]; omega)))
  clear t hm ho
  go_enter Try.func18, Try.ntmps18
  go_wp2
  clear c3
  go_loopg [11] N (fun gk s wr => ∃ i : Nat, i + gk = N ∧ s = .int .i64 i ∧ Below w.heap.size w wr)
  case atStart => exact ⟨0, by omega, rfl, Below.refl _ _⟩
  case round =>
    obtain ⟨i, hi, rfl, hb⟩ := hrel
    have HB := hid hb
    have HTR := hid (HT.out.below hb)
    have HMR := hid (HM.out.below hb)
    clear hb
    by_cases hlt : i < N
    · have h1 : (i : Int) < (N : Int) := by omega
      have c3 := HMR.out.c3
      obtain ⟨A, c, -, q1, -, hr, hcc, hcm⟩ := HMR.out.at_ hlt
      rw [gd_take hlt] at q1 hr hcc
      have h64 := HQ64.out i hlt
      have HJL := hid (show i < us.length from by rw [HM.out.lu]; exact hlt)
      have HU := hid (show us[i]? = some (.slice A (m.S.getD i []).length c) from (HMR.out.row.cellAt HJL.out).1.symm.trans q1)
      have HQU := hid (mq_queue (HTR.out.draws 1).l.q HOK.out hlt)
      have HRW := hid hr
      generalize m.S.getD i [] = lq at *
      obtain ⟨n, hn⟩ : ∃ n, lq.length = n := ⟨_, rfl⟩
      rw [hn] at q1 hcc h64 HU
      have HN := hid hn
      clear hr hn
      have HQD : Hid (Calls Try.prog 29 #[.pointer (some ⟨g, 0, none⟩), .int .i64 i] wr.drew (Told wr.drew lq)) := hid HQU.out
      go_upto_region 4 with fail
      go_region_held3 (fun w' => w'.cell? ⟨h, 3, none⟩ = some (.slice (some ⟨a, 0, none⟩) N cv) ∧ w'.cell? ⟨a, i, none⟩ = some (.slice A n c)) (first | exact kp | exact ⟨c3, q1⟩) (first
        | (go_at_call 29; refine HQD.out.mono ?_; rintro e2 w2 ⟨B, cB, rfl, ho, hg⟩; rw [HN.out]; have HR2 := hid (rw_told ho hg).1; have HB2 := hid (on (below_draws HB.out 1) hg.nilBelow); have HL2 := hid ((HRW.out.draws 1).below hg.nilBelow); have hm2 := (HMR.out.draws 1).below hg.nilBelow; have kp := And.intro hm2.c3 ((hm2.row.cellAt HJL.out).1.trans HU.out); clear ho hg hm2)
        | (go_at_call 24; refine (sameints_yes B A n n _ _ lq _ _ _ HN.out HN.out (by unfold maxLen; omega) HR2.out.rd HL2.out.rd).mono ?_; rintro e2 w3 ⟨rfl, d, rfl⟩; have HB3 := hid (below_draws HB2.out d)))
      all_goals
        go_wp2
        go_roundg (gk - 1)
        case measure => omega
        case rel => exact ⟨i + 1, by omega, by go_num, HB3.out⟩
    · obtain rfl : N = i := by omega
      have h1 : ¬ (N : Int) < (N : Int) := by omega
      obtain ⟨gA, gc, hug, hgr, hgc, hgm, -⟩ := HMR.out.gh
      have c3 := HMR.out.c3
      have c4 := HMR.out.c4
      rw [hug] at c4
      obtain ⟨ng, hng⟩ : ∃ n, (m.S.getD 8 []).length = n := ⟨_, rfl⟩
      obtain ⟨na, hna⟩ : ∃ n, m.al.length = n := ⟨_, rfl⟩
      rw [hng] at c4 hg16
      rw [hna] at ha16
      have HNG := hid hng
      have HNA := hid hna
      have HU := hid hug
      have HTD := hid (show Tw w0 wr.drew X g k h a p e C N L H T m m from HTR.out.draws 1)
      have HGD := hid (show Rw wr.drew gA (m.S.getD 8 []) from hgr.draws 1)
      have HMD := hid (show Rm wr.drew X h a p e C N L H cv us ug (m.S.take N) (m.S.getD 8 []) o' m.x m.t from HMR.out.draws 1)
      have HBD := hid (show Below w.heap.size w wr.drew from below_draws HB.out 1)
      have HKP := hid (fun (y : World) (hy : Rm y X h a p e C N L H cv us ug (m.S.take N) (m.S.getD 8 []) o' m.x m.t) => And.intro hy.c3 (show y.cell? ⟨h, 4, none⟩ = some (.slice gA ng gc) from by rw [hy.c4, HU.out, HNG.out]))
      have nn : ((na : Int) == (na : Int)) = true := by simp
      clear hug hgr hgc hgm hng hna hi
      go_upto_region 7 with fail
      go_region_held3 (fun w' => w'.cell? ⟨h, 3, none⟩ = some (.slice (some ⟨a, 0, none⟩) N cv) ∧ w'.cell? ⟨h, 4, none⟩ = some (.slice gA ng gc)) (first | exact kp | exact ⟨c3, c4⟩) (first
        | (go_at_call 26; (with_reducible refine (mq_ghosts HTD.out.l.q HOK.out).mono ?_); rintro e2 w2 ⟨Bg, cg, rfl, ho, hg⟩; rw [HNG.out]; have HRg := hid (rw_told ho hg).1; have HT2 := hid (HTD.out.below hg.nilBelow); have HG2 := hid (HGD.out.below hg.nilBelow); have HM2 := hid (HMD.out.below hg.nilBelow); have HB2 := hid (on HBD.out hg.nilBelow); have kp := HKP.out _ HM2.out; clear ho hg)
        | (go_at_call 24; (with_reducible refine (sameints_yes Bg gA ng ng _ _ (m.S.getD 8 []) _ _ _ HNG.out HNG.out (by unfold maxLen; omega) HRg.out.rd HG2.out.rd).mono ?_); rintro e2 w3 ⟨rfl, d, rfl⟩; have HT3 := hid (HT2.out.draws d); have HM3 := hid (HM2.out.draws d); have HB3 := hid (below_draws HB2.out d); have kp := HKP.out _ HM3.out)
        | (go_at_call 25; (with_reducible refine (mq_all HT3.out.l.q HOK.out).mono ?_); rintro e2 w4 ⟨Ba, ca, rfl, ho, hg⟩; rw [HNA.out]; have HRa := hid (rw_told ho hg).1; have HT4 := hid (HT3.out.below hg.nilBelow); have HM4 := hid (HM3.out.below hg.nilBelow); have HB4 := hid (on HB3.out hg.nilBelow); have kp := HKP.out _ HM4.out; clear ho hg)
        | (go_at_call 39; (with_reducible refine (rs_all HT4.out.r HOK.out).mono ?_); rintro e2 w5 ⟨Bb, cb, rfl, ho, hg⟩; rw [HNA.out]; have HRb := hid (rw_told ho hg).1; have HRa5 := hid (HRa.out.below hg.nilBelow); have HT5 := hid (HT4.out.below hg.nilBelow); have HM5 := hid (HM4.out.below hg.nilBelow); have HB5 := hid (on HB4.out hg.nilBelow); have kp := HKP.out _ HM5.out; clear ho hg)
        | (go_at_call 24; (with_reducible refine (sameints_yes Ba Bb na na _ _ m.al _ _ _ HNA.out HNA.out (by unfold maxLen; omega) HRa5.out.rd HRb.out.rd).mono ?_); rintro e2 w6 ⟨rfl, d, rfl⟩; have HT6 := hid (HT5.out.draws d); have HM6 := hid (HM5.out.draws d); have HB6 := hid (below_draws HB5.out d); have kp := HKP.out _ HM6.out)
        | (go_at_call 28; (with_reducible refine (mq_len HT6.out.l.q HOK.out).mono ?_); rintro e2 w7 ⟨rfl, hb⟩; rw [HNA.out]; have HT7 := hid (HT6.out.below hb); have HM7 := hid (HM6.out.below hb); have HB7 := hid (on HB6.out hb); have kp := HKP.out _ HM7.out; clear hb)
        | (go_at_call 34; (with_reducible refine (rs_len HT7.out.r HOK.out).mono ?_); rintro e2 w8 ⟨rfl, rfl⟩; rw [HNA.out])
        | (go_at_call 29; (with_reducible refine (mq_queue_over HT7.out.l.q (i := (N : Int)) (Int.le_refl _)).mono ?_); rintro e2 w9 ⟨Bq, cq, rfl, ho, hg⟩; have HT9 := hid (HT7.out.below hg.nilBelow); have HM9 := hid (HM7.out.below hg.nilBelow); have HB9 := hid (on HB7.out hg.nilBelow); have kp := HKP.out _ HM9.out; clear ho hg)
        | (go_at_call 29; (with_reducible refine (mq_queue_under HT9.out.l.q (i := -1) (by omega)).mono ?_); rintro e2 w10 ⟨Bz, cz, rfl, ho, hg⟩; have HM10 := hid (HM9.out.below hg.nilBelow); have HB10 := hid (on HB9.out hg.nilBelow); have kp := HKP.out _ HM10.out; clear ho hg))
      all_goals
        go_wp2
        go_ret
        exact ⟨rfl, HB10.out⟩
end
end Go.Proofs.Ytlafhejnnilpmaa
