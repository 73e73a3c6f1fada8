/-
  What is proved: the reference's Use and Remove, beside the lists. Condition: its MQ lies in memory as one.
-/
import Derived.Test.YtlafhejnnilpmaaRu12
import Derived.Test.YtlafhejnnilpmaaMv12
namespace Go.Proofs.Ytlafhejnnilpmaa
open Go.RowKit

theorem us_o (m : Ms) (N L : Nat) (b : Int) : (m.us N L b).o = upd m.o b (m.o b + 1) := (ags_t L (N - 1) _).2
section
variable {w w' : World} {X : Nat → Prop} {h a p e C N L H : Nat} {o' : Int → Int} {m : Ms}
theorem rs_us {b : Int} (hz : Rz w X h a p e C N L H (upd o' b (m.o b + 1)) (m.us N L b)) (ok : Okm C N L H m) (ok2 : Okm C N L H (m.us N L b)) (ho : ∀ c, inS m.S c → o' c = m.o c) : Rs w X h a p e C N L H (m.us N L b) := by
  refine ⟨_, hz, fun c hc => ?_⟩
  have h1 := (ok2.o1 c hc).1
  rw [us_o] at h1 ⊢
  by_cases e : c = b
  · subst e
    rw [upd_same, upd_same]
  · rw [upd_ne _ _ e] at h1 ⊢
    rw [upd_ne _ _ e]
    refine ho c (Classical.byContradiction fun hn => ?_)
    rw [ok.o0 c hn] at h1
    omega
set_option maxHeartbeats 1000000 in
theorem rs_use (r : Rs w X h a p e C N L H m) (ok : Okm C N L H m) (ht : m.t ≤ 200) (b : Int) :
    Calls Try.prog 13 #[.pointer (some ⟨h, 0, none⟩), .int .i64 b] w fun en w' => en = .returned (.bool (decide (b ∈ m.al))) ∧
      Rs w' X h a p e C N L H (m.useM N L b) ∧ Chg w w' (Fr h a p e) (Fr h a p e) := by
  have HR := hid r
  by_cases hb : b ∈ m.al
  · rw [decide_eq_true hb, show m.useM N L b = m.us N L b from if_pos hb]
    obtain ⟨i, hi, hm⟩ := ok.there hb
    have HO := hid (rs_of_yes r ok hi hm)
    obtain ⟨o', ⟨cv, us, ug, hr⟩, ho⟩ := r
    have hs := ok.in_al hb
    have HM := hid hr
    have HUSE := hid (fun (y : World) (hy : Rz y X h a p e C N L H o' { m with t := m.t + 1 }) => rz_used hy ok ht (ok.lt hs) (ho b hs) (.inl hb))
    have HRS := hid (fun (y : World) (hy : Rz y X h a p e C N L H (upd o' b (m.o b + 1)) (m.us N L b)) => rs_us hy ok (ok.us (ok.lt hs) (.inl hb)) ho)
    have c7 := hr.c7
    have fr := hr.fr
    have hi0 : ¬ ((i : Int) < 0) := by omega
    obtain ⟨t, htt⟩ : ∃ t, m.t = t := ⟨_, rfl⟩
    rw [htt] at c7 ht
    have HT := hid htt
    clear hr ok hb hm hs ho htt hi
    go_enter Try.func13, Try.ntmps13
    go_upto_region 4 with (go_at_call 20; refine HO.out.mono ?_; rintro e2 w1 ⟨rfl, rfl⟩)
    have HM1 := hid (HM.out.setT (t + 1))
    rw [show ((t + 1 : Nat) : Int) = (t : Int) + 1 from by omega] at HM1
    have HC1 := hid (chg_in (Chg.refl w (Fr h a p e)) fr_h 7 (.int .i64 ((t : Int) + 1)))
    generalize w.setCell ⟨h, 7, none⟩ (.int .i64 ((t : Int) + 1)) = w2 at *
    go_wp2_with (go_at_call 33; refine (HUSE.out w2 (by rw [HT.out]; exact ⟨_, _, _, HM1.out⟩)).mono ?_; rintro e2 w3 ⟨rfl, hz, hc⟩; have HZ3 := hid (HRS.out _ hz); have HC3 := hid (HC1.out.trans hc); clear hz hc)
    go_ret
    exact ⟨rfl, HZ3.out, HC3.out⟩
  · rw [decide_eq_false hb, show m.useM N L b = m from if_neg hb]
    have HO := hid (rs_of_no r hb ok)
    clear r ok hb ht
    go_enter Try.func13, Try.ntmps13
    go_wp2_with (go_at_call 20; refine HO.out.mono ?_; rintro e2 w1 ⟨rfl, rfl⟩)
    go_ret
    exact ⟨rfl, HR.out, Chg.refl _ _⟩
/-- one queue without a block that is in it: all lists without it -/
theorem fo_take (ok : Okm C N L H m) {b : Int} {i : Nat} (hi : i < N) (hb : b ∈ m.S.getD i []) : (m.S.take N).set i (wo b ((m.S.take N).getD i [])) = (m.fo b).S.take N ∧ m.S.getD 8 [] = (m.fo b).S.getD 8 [] := by
  have hil : i < m.S.length := by rw [ok.len]; have := ok.n; omega
  have e : woS b m.S = m.S.set i (wo b (m.S.getD i [])) := woS_set ok.wf (gd_some hil) hb
  constructor
  · show _ = (woS b m.S).take N
    rw [e, gd_take hi, List.take_set]
  · show _ = (woS b m.S).getD 8 []
    rw [e, gd_set _ hil, if_neg (by have := ok.n; omega)]
theorem rs_fo {b : Int} (hz : Rz w X h a p e C N L H o' (m.fo b)) (ok : Okm C N L H m) (ho : ∀ c, inS m.S c → o' c = m.o c) : Rs w X h a p e C N L H (m.fo b) := by
  refine ⟨_, hz, fun c hc => ?_⟩
  have h1 := ((ok.fo b).o1 c hc).1
  have e2 : (m.fo b).o c = upd m.o b 0 c := rfl
  rw [e2] at h1 ⊢
  by_cases e : c = b
  · subst e
    rw [upd_same] at h1
    omega
  · rw [upd_ne _ _ e] at h1 ⊢
    refine ho c (Classical.byContradiction fun hn => ?_)
    rw [ok.o0 c hn] at h1
    omega
set_option maxRecDepth 10000 in
set_option maxHeartbeats 1000000 in
theorem rs_remove (r : Rs w X h a p e C N L H m) (ok : Okm C N L H m) (b : Int) :
    Calls Try.prog 17 #[.pointer (some ⟨h, 0, none⟩), .int .i64 b] w fun en w' => en = .returned (.bool (decide (b ∈ m.al))) ∧
      Rs w' X h a p e C N L H (m.remM b) ∧ Chg w w' (Fr h a p e) (Fr h a p e) := by
  have HR := hid r
  by_cases hb : b ∈ m.al
  · rw [decide_eq_true hb, show m.remM b = m.fo b from if_pos hb]
    obtain ⟨i, hi, hm⟩ := ok.there hb
    have HO := hid (rs_of_yes r ok hi hm)
    obtain ⟨o', ⟨cv, us, ug, hr⟩, ho⟩ := r
    have HM := hid hr
    have HFT := hid (fo_take ok hi hm)
    have HRS := hid (fun (y : World) (hy : Rz y X h a p e C N L H o' (m.fo b)) => rs_fo hy ok ho)
    have c3 := hr.c3
    obtain ⟨A, c, hu, q1, f1, hrw, hcc, hcm⟩ := hr.at_ hi
    rw [gd_take hi] at hu q1 hrw hcc
    rw [gd_take hi] at HFT
    have h64 : (m.S.getD i []).length ≤ 64 := ok.wf.len (gd_some (by rw [ok.len]; have := ok.n; omega))
    have HU := hid hu
    have HJL := hid (show i < us.length from by rw [hr.lu]; exact hi)
    have HIN := hid hi
    have hi0 : ¬ ((i : Int) < 0) := by omega
    have h1 : (i : Int) < (N : Int) := by omega
    generalize m.S.getD i [] = l at *
    obtain ⟨n, hn⟩ : ∃ n, l.length = n := ⟨_, rfl⟩
    rw [hn] at hu q1 hcc h64 HU
    have HN := hid hn
    have HRD := hid (hr.draws 1)
    have HWD := hid (hrw.draws 1)
    have HCD := hid (Chg.draws (Chg.refl w (Fr h a p e)) 1)
    clear hr ok hb hm ho hu hrw hn
    go_enter Try.func17, Try.ntmps17
    go_upto_region 4 with (go_at_call 20; refine HO.out.mono ?_; rintro e2 w1 ⟨rfl, rfl⟩)
    -- drawn
    refine wp_region_noPanic ?_
    refine wp_region_held_drew (S := fun w' => w'.cell? ⟨h, 3, none⟩ = some (.slice (some ⟨a, 0, none⟩) N cv)) (by kernel_rfl) ?_ (fun hHeld => ?_)
    · exact c3
    refine wpAnyH_take (i := 0) (oi := ⟨some 11, _, _, _, _, _⟩) (v := ?_) rfl (by kernel_rfl) (by kernel_rfl) (by kernel_rfl) (fun _ _ _ h => h) (Or.inl ⟨by rfl, ?_⟩) (by assumption) ?_
    rotate_left 1
    · intro w0 hSw
      try dsimp only at hSw
      go_simp
      try with_reducible rfl
    (try simp only [Act.put, List.setIfInBounds_toArray, List.set_cons_zero, List.set_cons_succ])
    refine wpAnyH_take (i := 1) (oi := ⟨some 12, _, _, _, _, _⟩) (v := ?_) rfl (by kernel_rfl) (by kernel_rfl) (by kernel_rfl) (fun _ _ _ h => h) (Or.inl ⟨by rfl, ?_⟩) (by assumption) ?_
    rotate_left 1
    · intro w0 hSw
      try dsimp only at hSw
      go_simp
      try with_reducible rfl
    (try simp only [Act.put, List.setIfInBounds_toArray, List.set_cons_zero, List.set_cons_succ])
    refine wpAnyH_take (i := 2) (oi := ⟨some 13, _, _, _, _, _⟩) (v := ?_) rfl (by kernel_rfl) (by kernel_rfl) (by kernel_rfl) (fun _ _ _ h => h) (Or.inl ⟨by rfl, ?_⟩) (by assumption) ?_
    rotate_left 1
    · intro w0 hSw
      try dsimp only at hSw
      go_simp
      try with_reducible rfl
    (try simp only [Act.put, List.setIfInBounds_toArray, List.set_cons_zero, List.set_cons_succ])
    refine wpAnyH_take (i := 3) (oi := ⟨some 14, _, _, _, _, _⟩) (v := ?_) rfl (by kernel_rfl) (by kernel_rfl) (by kernel_rfl) (fun _ _ _ h => h) (Or.inl ⟨by rfl, ?_⟩) (by assumption) ?_
    rotate_left 1
    · intro w0 hSw
      try dsimp only at hSw
      go_simp
      try with_reducible rfl
    (try simp only [Act.put, List.setIfInBounds_toArray, List.set_cons_zero, List.set_cons_succ])
    refine wpAnyH_take (i := 4) (oi := ⟨some 15, _, _, _, _, _⟩) (v := ?_) rfl (by kernel_rfl) (by kernel_rfl) (by kernel_rfl) (fun _ _ _ h => h) (Or.inl ⟨by rfl, ?_⟩) (by assumption) ?_
    rotate_left 1
    · intro w0 hSw
      try dsimp only at hSw
      go_simp
      try with_reducible rfl
    (try simp only [Act.put, List.setIfInBounds_toArray, List.set_cons_zero, List.set_cons_succ])
    refine wpAnyH_take (i := 5) (oi := ⟨some 16, _, _, _, _, _⟩) (v := ?_) rfl (by kernel_rfl) (by kernel_rfl) (by kernel_rfl) (fun _ _ _ h => h) (Or.inl ⟨by rfl, ?_⟩) (by assumption) ?_
    rotate_left 1
    · intro w0 hSw
      try dsimp only at hSw
      go_simp
      try with_reducible rfl
    (try simp only [Act.put, List.setIfInBounds_toArray, List.set_cons_zero, List.set_cons_succ])
    refine wpAnyH_take (i := 6) (oi := ⟨some 17, _, _, _, _, _⟩) (v := ?_) rfl (by kernel_rfl) (by kernel_rfl) (by kernel_rfl) (fun _ _ _ h => h) (Or.inl ⟨by rfl, ?_⟩) (by assumption) ?_
    rotate_left 1
    · intro w0 hSw
      try dsimp only at hSw
      go_simp
      try with_reducible rfl
    (try simp only [Act.put, List.setIfInBounds_toArray, List.set_cons_zero, List.set_cons_succ])
    refine wpAnyH_take (i := 7) (oi := ⟨some 18, _, _, _, _, _⟩) (v := ?_) rfl (by kernel_rfl) (by kernel_rfl) (by kernel_rfl) (fun _ _ _ h => h) (Or.inl ⟨by rfl, ?_⟩) (by assumption) ?_
    rotate_left 1
    · intro w0 hSw
      try dsimp only at hSw
      go_simp
      try with_reducible rfl
    (try simp only [Act.put, List.setIfInBounds_toArray, List.set_cons_zero, List.set_cons_succ])
    refine wpAnyH_take (i := 8) (oi := ⟨some 19, _, _, _, _, _⟩) (v := ?_) rfl (by kernel_rfl) (by kernel_rfl) (by kernel_rfl) (fun _ _ _ h => h) (Or.inl ⟨by rfl, ?_⟩) (by assumption) ?_
    rotate_left 1
    · intro w0 hSw
      try dsimp only at hSw
      go_simp
      try with_reducible rfl
    (try simp only [Act.put, List.setIfInBounds_toArray, List.set_cons_zero, List.set_cons_succ])
    refine wpAnyH_take (i := 9) (oi := ⟨some 20, _, _, _, _, _⟩) (v := ?_) rfl (by kernel_rfl) (by kernel_rfl) (by kernel_rfl) (fun _ _ _ h => h) (Or.inl ⟨by rfl, ?_⟩) (by assumption) ?_
    rotate_left 1
    · intro w0 hSw
      try dsimp only at hSw
      go_simp
      try with_reducible rfl
    (try simp only [Act.put, List.setIfInBounds_toArray, List.set_cons_zero, List.set_cons_succ])
    refine wpAnyH_take (i := 10) (oi := ⟨some 21, _, _, _, _, _⟩) (v := ?_) rfl (by kernel_rfl) (by kernel_rfl) (by kernel_rfl) (fun _ _ _ h => h) (Or.inl ⟨by rfl, ?_⟩) (by assumption) ?_
    rotate_left 1
    · intro w0 hSw
      try dsimp only at hSw
      go_simp
      try with_reducible rfl
    (try simp only [Act.put, List.setIfInBounds_toArray, List.set_cons_zero, List.set_cons_succ])
    refine wpAnyH_take (i := 12) (oi := ⟨some 23, _, _, _, _, _⟩) (v := ?_) rfl (by kernel_rfl) (by kernel_rfl) (by kernel_rfl) (fun _ _ _ h => h) (Or.inl ⟨by rfl, ?_⟩) (by assumption) ?_
    rotate_left 1
    · intro w0 hSw
      try dsimp only at hSw
      go_simp
      try with_reducible rfl
    (try simp only [Act.put, List.setIfInBounds_toArray, List.set_cons_zero, List.set_cons_succ])
    refine wpAnyH_ready (rs := [11]) (by kernel_rfl) (by simp) ?_
    refine AllReadyH.cons (o := ⟨some 22, _, _, _, _, _⟩) rfl (fun K hK => ?_) AllReadyH.nil
    rw [if_pos (by rfl)]
    go_simp
    refine hK.out _ _ hHeld (fun hHeld => ?_)
    clear hK K
    (try simp only [Act.put, List.setIfInBounds_toArray, List.set_cons_zero, List.set_cons_succ])
    refine wpAnyH_ready (rs := [13]) (by kernel_rfl) (by simp) ?_
    refine AllReadyH.cons (o := ⟨some 24, _, _, _, _, _⟩) rfl (fun K hK => ?_) AllReadyH.nil
    rw [if_pos (by rfl)]
    go_simp
    refine (without_any _ A n c l b HN.out h64 HWD.out.rd).mono ?_
    rintro e2 w2 ⟨A2, c2, rfl, ho, hg⟩
    have HR2 := hid (HRD.out.below hg.nilBelow)
    have HU2 := hid (Rt.told HRD.out.xb ho hg)
    have HC2 := hid (HCD.out.trans (Chg.of hg.nilBelow _))
    have kp := HR2.out.c3
    have f2 := (HR2.out.row.cellAt HJL.out).2
    have xc := (HR2.out.row.cellAt HJL.out).1.trans HU.out
    have HR3 := hid (HR2.out.setR HIN.out HU2.out (Nat.le_trans (wo_le _ _) (by rw [HN.out]; exact h64)))
    have HC3 := hid (chg_in HC2.out (fr_a (h := h) (p := p) (e := e)) i (.slice A2 (wo b l).length c2))
    have kq := HR3.out.c3
    clear ho hg
    go_simp
    refine hK.out _ _ kp (fun hHeld => ?_)
    clear hK K
    (try simp only [Act.put, List.setIfInBounds_toArray, List.set_cons_zero, List.set_cons_succ])
    refine wpAnyH_take (i := 14) (oi := ⟨some 25, _, _, _, _, _⟩) (v := ?_) rfl (by kernel_rfl) (by kernel_rfl) (by kernel_rfl) (fun _ _ _ h => h) (Or.inl ⟨by rfl, ?_⟩) (by assumption) ?_
    rotate_left 1
    · intro w0 hSw
      try dsimp only at hSw
      go_simp
      try with_reducible rfl
    (try simp only [Act.put, List.setIfInBounds_toArray, List.set_cons_zero, List.set_cons_succ])
    refine wpAnyH_ready (rs := [15]) (by kernel_rfl) (by simp) ?_
    refine AllReadyH.cons (o := ⟨none, _, _, _, _, _⟩) rfl (fun K hK => ?_) AllReadyH.nil
    rw [if_pos (by rfl)]
    go_simp
    refine hK.out _ _ kq (fun hHeld => ?_)
    clear hK K
    (try simp only [Act.put, List.setIfInBounds_toArray, List.set_cons_zero, List.set_cons_succ])
    refine wpAnyH_done (by kernel_rfl) ?_ _
    refine NoPanic.normal ?_
    -- till here
    go_wp2
    go_ret
    refine ⟨rfl, HRS.out _ ?_, HC3.out⟩
    show Rq _ X h a p e C N L H ((m.fo b).S.take N) ((m.fo b).S.getD 8 []) o' m.x m.t
    rw [← HFT.out.1, ← HFT.out.2]
    exact ⟨_, _, _, HR3.out⟩
  · rw [decide_eq_false hb, show m.remM b = m from if_neg hb]
    have HO := hid (rs_of_no r hb ok)
    clear r ok hb
    go_enter Try.func17, Try.ntmps17
    go_wp2_with (go_at_call 20; refine HO.out.mono ?_; rintro e2 w1 ⟨rfl, rfl⟩)
    go_ret
    exact ⟨rfl, HR.out, Chg.refl _ _⟩
end
end Go.Proofs.Ytlafhejnnilpmaa
