/-
  What is proved: mq's Add and New. Condition: the MQ lies in memory as one.
-/
import Derived.Test.YtlafhejnnilpmaaMv12
import Derived.Laws.Tables
namespace Go.Proofs.Ytlafhejnnilpmaa
open Go.RowKit

section
variable {w : World} {g k C N L H : Nat} {m : Ms}
set_option maxHeartbeats 2000000 in
theorem mq_add (h : Mq w g k C N L H m) (ok : Okm C N L H m) (hH : H ≤ 16) (ht : m.t ≤ 200) (b : Int) :
    Calls Try.prog 15 #[.pointer (some ⟨g, 0, none⟩), .int .i64 b] w fun e w' =>
      e = .returned (.tuple #[.int .i64 (m.adV C b), .bool (decide (m.goes C b)), .int .i64 (Ms.adE b)]) ∧ Mq w' g k C N L H (m.adM C N L H b) ∧ Chg w w' (Mf g k) (Mf g k) := by
  by_cases hv : vb b
  · have hv2 : 0 ≤ b ∧ b < 64 := hv
    have v0 : ¬ b < 0 := by omega
    have v1 : ¬ (64 : Int) ≤ b := by omega
    have e3 : Ms.adE b = 0 := if_pos hv
    rw [e3]
    have HU := hid (mq_Use h ok ht b)
    by_cases hb : b ∈ m.al
    · have hg : ¬ m.goes C b := fun e => e.2.1 hb
      have e1 : m.adV C b = 0 := if_neg hg
      have e2 : m.adM C N L H b = m.us N L b := by unfold Ms.adM; rw [if_neg hg, if_pos hv]
      have e4 : m.useM N L b = m.us N L b := if_pos hb
      rw [e1, e2, decide_eq_false hg]
      rw [decide_eq_true hb, e4] at HU
      clear h ok hg e1 e2 e3 e4 hb hv hv2
      go_enter Try.func15, Try.ntmps15
      go_wp2_with (go_at_call 12; refine HU.out.mono ?_; rintro e w1 ⟨rfl, hq, hc⟩; have HM1 := hid hq; have HC1 := hid hc; clear hq hc)
      go_ret3
      exact ⟨rfl, HM1.out, HC1.out⟩
    · have e4 : m.useM N L b = m := if_neg hb
      rw [decide_eq_false hb, e4] at HU
      obtain ⟨n, hn⟩ : ∃ n, m.al.length = n := ⟨_, rfl⟩
      have HN := hid hn
      have HK := hid ok
      have HV := hid hv
      have HB := hid hb
      have HT := hid ht
      clear e3 e4 h hv2
      by_cases hC : n = C
      · have hg : m.goes C b := ⟨hv, hb, hn.trans hC⟩
        have e1 : m.adV C b = m.vc := if_pos hg
        have e2 : m.adM C N L H b = (m.ha H m.vc).us N L b := if_pos hg
        rw [e1, e2, decide_eq_true hg]
        have hp : 0 < m.al.length := by have := ok.c; omega
        obtain ⟨o1, o2⟩ := ok.ha hH (ok.vic hp).2.2.2
        have HO1 := hid o1
        have HO2 := hid (show b ∈ (m.ha H m.vc).al ∨ (m.ha H m.vc).al.length < C from .inr (by omega))
        have HP := hid hp
        have HT2 := hid (show (m.ha H m.vc).t ≤ 200 from by rw [ha_t]; exact ht)
        subst hC
        clear ok hg e1 e2 hb hv hn hp o1 o2 ht
        go_enter Try.func15, Try.ntmps15
        go_upto_region 7 with (go_at_call 12; refine HU.out.mono ?_; rintro e w1 ⟨rfl, hq, hc⟩; have HM1 := hid hq; have HC1 := hid hc; clear hq hc)
        have c1 := HM1.out.c1
        have HMD := hid (show Mq w1.drew g k n N L H m from HM1.out.draws 1)
        have HCD := hid (show Chg w w1.drew (Mf g k) (Mf g k) from Chg.draws HC1.out 1)
        go_region_held3 (fun w' => w'.cell? ⟨g, 1, none⟩ = some (.int .i64 n)) (first | exact kp | exact c1) (first | (go_at_call 28; refine (mq_len HMD.out HK.out).mono ?_; rintro e w2 ⟨rfl, hb⟩; rw [HN.out]; have HM2 := hid (HMD.out.below hb); have HC2 := hid (HCD.out.trans (Chg.of hb _)); have kp := HM2.out.c1; clear hb))
        clear kp c1
        go_wp2_with (first
          | (go_at_call 37; refine (mq_evict HM2.out HK.out hH HP.out).mono ?_; rintro e w3 ⟨rfl, hq, hc⟩; have HM3 := hid hq; have HC3 := hid (HC2.out.trans hc); clear hq hc)
          | (go_at_call 32; refine (mq_use HM3.out HO1.out HT2.out HV.out HO2.out).mono ?_; rintro e w4 ⟨rfl, hq, hc⟩; have HM4 := hid hq; have HC4 := hid (HC3.out.trans hc); clear hq hc))
        go_ret3
        exact ⟨rfl, HM4.out, HC4.out⟩
      · have hg : ¬ m.goes C b := fun e => hC (hn.symm.trans e.2.2)
        have e1 : m.adV C b = 0 := if_neg hg
        have e2 : m.adM C N L H b = m.us N L b := by unfold Ms.adM; rw [if_neg hg, if_pos hv]
        rw [e1, e2, decide_eq_false hg]
        have HO2 := hid (show b ∈ m.al ∨ m.al.length < C from .inr (by have := ok.cap; omega))
        have hCz : ((n : Int) == (C : Int)) = false := by simp; omega
        have hCd : decide ((n : Int) = (C : Int)) = false := by simp; omega
        clear ok hg e1 e2 hb hv hn ht
        go_enter Try.func15, Try.ntmps15
        go_upto_region 7 with (go_at_call 12; refine HU.out.mono ?_; rintro e w1 ⟨rfl, hq, hc⟩; have HM1 := hid hq; have HC1 := hid hc; clear hq hc)
        have c1 := HM1.out.c1
        have HMD := hid (show Mq w1.drew g k C N L H m from HM1.out.draws 1)
        have HCD := hid (show Chg w w1.drew (Mf g k) (Mf g k) from Chg.draws HC1.out 1)
        go_region_held3 (fun w' => w'.cell? ⟨g, 1, none⟩ = some (.int .i64 C)) (first | exact kp | exact c1) (first | (go_at_call 28; refine (mq_len HMD.out HK.out).mono ?_; rintro e w2 ⟨rfl, hb⟩; rw [HN.out]; have HM2 := hid (HMD.out.below hb); have HC2 := hid (HCD.out.trans (Chg.of hb _)); have kp := HM2.out.c1; clear hb))
        clear kp c1
        go_wp2_with (go_at_call 32; refine (mq_use HM2.out HK.out HT.out HV.out HO2.out).mono ?_; rintro e w4 ⟨rfl, hq, hc⟩; have HM4 := hid hq; have HC4 := hid (HC2.out.trans hc); clear hq hc)
        go_ret3
        exact ⟨rfl, HM4.out, HC4.out⟩
  · have hv2 : b < 0 ∨ (¬ b < 0 ∧ 64 ≤ b) := by unfold vb at hv; omega
    have hg : ¬ m.goes C b := fun e => hv e.1
    have e1 : m.adV C b = 0 := if_neg hg
    have e2 : m.adM C N L H b = m := by unfold Ms.adM; rw [if_neg hg, if_neg hv]
    have e3 : Ms.adE b = 3 := if_neg hv
    rw [e1, e2, e3, decide_eq_false hg]
    have HM := hid h
    clear h ok hg e1 e2 e3 hv
    rcases hv2 with h1 | ⟨h1, h2⟩
    all_goals
      go_enter Try.func15, Try.ntmps15
      go_wp2
      go_ret3
      exact ⟨rfl, HM.out, Chg.refl _ _⟩
end
/-- what a struct that is built of its first two fields becomes -/
theorem wp_build2 {P : Program} {o : Oper} {a : Act} {w : World} {K : Act → World → Prop} {Q : Exit → Act → World → Prop} (t : TypeId) (x y : Operand) (ho : o.op = .build t #[(0, x), (1, y)]) (u v : Value) (hx : a.eval x = u) (hy : a.eval y = v) (cs : Array Value)
    (hf : P.built t [(0, u), (1, v)] = some cs) (h : K (a.put o.dst (.agg cs)) w) : o.wp P a w K Q := by
  have hf2 : P.built t ((#[(0, x), (1, y)] : Array (Nat × Operand)).map fun (i, x) => (i, a.eval x)).toList = some cs := by
    subst hx
    subst hy
    simpa using hf
  exact wp_build t _ ho (by rw [hf2]; rfl) (by rw [hf2]; exact h)
set_option maxRecDepth 100000 in
theorem built_mq (k : Nat) (c n l h : Int) : Try.prog.built 57 [(0, .pointer (some ⟨k, 0, none⟩)), (1, .agg #[.int .i64 c, .int .i64 n, .int .i64 l, .int .i64 h])] = some (#[.pointer (some ⟨k, 0, none⟩), .int .i64 c, .int .i64 n, .int .i64 l, .int .i64 h] ++ Array.replicate 129 (Value.int .i64 0)) := by kernel_rfl
theorem mq_cells (k C N L H : Nat) : #[.pointer (some ⟨k, 0, none⟩), .int .i64 C, .int .i64 N, .int .i64 L, .int .i64 H] ++ Array.replicate 129 (Value.int .i64 0) = mc k C N L H 0 (fun _ => 0) (fun _ => 0) := by
  refine Array.ext (by simp [mc]) fun j h1 h2 => ?_
  have hj : j < 134 := by rw [mc_size] at h2; exact h2
  simp only [mc, Array.getElem_ofFn, mcf]
  by_cases h5 : j < 5
  · have h4 : j = 0 ∨ j = 1 ∨ j = 2 ∨ j = 3 ∨ j = 4 := by omega
    rw [Array.getElem_append_left (by simp; omega)]
    rcases h4 with rfl | rfl | rfl | rfl | rfl <;> rfl
  · rw [Array.getElem_append_right (by simp; omega)]
    rw [Array.getElem_replicate, if_neg (show ¬ j = 0 from by omega), if_neg (show ¬ j = 1 from by omega), if_neg (show ¬ j = 2 from by omega), if_neg (show ¬ j = 3 from by omega), if_neg (show ¬ j = 4 from by omega)]
    split
    · rfl
    · split <;> rfl
/-- an MQ that New has made -/
def NewQ (w : World) (C N L H : Nat) (e : Ending) (w' : World) : Prop :=
  ∃ g k, e = .returned (.tuple #[.pointer (some ⟨g, 0, none⟩), .int .i64 0]) ∧ Mq w' g k C N L H ⟨List.replicate 9 [], fun _ => 0, fun _ => 0, 0⟩ ∧ Below w.heap.size w w' ∧ w.heap.size ≤ g ∧ w.heap.size ≤ k
set_option maxHeartbeats 1000000 in
theorem mq_new_no (c n l h : Int) (hs : ¬ shp c n l h) (w : World) : Calls Try.prog 9 #[.agg #[.int .i64 c, .int .i64 n, .int .i64 l, .int .i64 h]] w fun e w' => e = .returned (.tuple #[.pointer none, .int .i64 6]) ∧ Below w.heap.size w w' := by
  have HB := hid (below_alloc w (.cells #[.int .i64 c, .int .i64 n, .int .i64 l, .int .i64 h] 23))
  have HR := hid (fun w => right_any c n l h w)
  rw [decide_eq_false hs] at HR
  clear hs
  go_enter Try.func9, Try.ntmps9
  go_wp2_with (go_at_call 30; refine (HR.out _).mono ?_; rintro e w1 ⟨rfl, hb⟩; have HB1 := hid (on HB.out hb); clear hb)
  go_ret2
  exact ⟨rfl, HB1.out⟩
set_option maxHeartbeats 1000000 in
theorem mq_new_yes (C N L H : Nat) (hs : shp C N L H) (w : World) : Calls Try.prog 9 #[.agg #[.int .i64 C, .int .i64 N, .int .i64 L, .int .i64 H]] w (NewQ w C N L H) := by
  have HX := hid (Bx.new w 23 #[.int .i64 C, .int .i64 N, .int .i64 L, .int .i64 H])
  have HB := hid (below_alloc w (.cells #[.int .i64 C, .int .i64 N, .int .i64 L, .int .i64 H] 23))
  have HR := hid (fun w => right_any C N L H w)
  rw [decide_eq_true hs] at HR
  obtain ⟨q, hq⟩ : ∃ q, w.heap.size = q := ⟨_, rfl⟩
  rw [hq] at HX
  have HQ := hid hq
  clear hs hq
  go_enter Try.func9, Try.ntmps9
  go_upto_region 3 with (go_at_call 30; refine (HR.out _).mono ?_; rintro e w1 ⟨rfl, hb⟩; have HX1 := hid (HX.out.next hb); have HB1 := hid (on HB.out hb); clear hb)
  rw [HQ.out]
  obtain ⟨c0, c1, c2, c3⟩ := HX1.out.all4
  have HXD := hid (show Bx w1.drew q 23 #[.int .i64 C, .int .i64 N, .int .i64 L, .int .i64 H] from HX1.out)
  -- drawn
  refine wp_region_noPanic ?_
  refine wp_region_held_drew (S := fun w' => w'.cell? ⟨q, 0, none⟩ = some (.int .i64 C) ∧ w'.cell? ⟨q, 1, none⟩ = some (.int .i64 N) ∧ w'.cell? ⟨q, 2, none⟩ = some (.int .i64 L) ∧ w'.cell? ⟨q, 3, none⟩ = some (.int .i64 H)) (by kernel_rfl) ?_ (fun hHeld => ?_)
  · exact ⟨c0, c1, c2, c3⟩
  refine wpAnyH_take (i := 1) (oi := ⟨some 8, _, _, _, _, _⟩) (v := ?_) rfl (by kernel_rfl) (by kernel_rfl) (by kernel_rfl) (fun _ _ _ h => h) (Or.inl ⟨by rfl, ?_⟩) (by assumption) ?_
  rotate_left 1
  · intro w0 hSw
    obtain ⟨s0, s1, s2, s3⟩ := hSw
    go_simp
    try with_reducible rfl
  (try simp only [Act.put, List.setIfInBounds_toArray, List.set_cons_zero, List.set_cons_succ])
  refine wpAnyH_ready (rs := [0]) (by kernel_rfl) (by simp) ?_
  refine AllReadyH.cons (o := ⟨some 7, _, _, _, _, _⟩) rfl (fun K hK => ?_) AllReadyH.nil
  rw [if_pos (by rfl)]
  go_simp
  refine (lnew_any 9 _).mono ?_
  rintro e w2 ⟨k, rfl, hsq, hb, hk⟩
  have HX2 := hid (HXD.out.next hb)
  have kp := HX2.out.all4
  have HSQ := hid hsq
  have HB2 := hid hb
  have HK := hid hk
  have HBU := hid ((built_mq k C N L H).trans (congrArg some (mq_cells k C N L H)))
  clear hsq hb hk
  go_simp
  refine hK.out _ _ kp (fun hHeld => ?_)
  clear hK K
  (try simp only [Act.put, List.setIfInBounds_toArray, List.set_cons_zero, List.set_cons_succ])
  refine wpAnyH_ready (rs := [2]) (by kernel_rfl) (by simp) ?_
  refine AllReadyH.cons (o := ⟨some 9, _, _, _, _, _⟩) rfl (fun K hK => ?_) AllReadyH.nil
  rw [if_pos (by rfl)]
  refine wp_build2 57 (.tmp 7) (.tmp 8) rfl (.pointer (some ⟨k, 0, none⟩)) (.agg #[.int .i64 C, .int .i64 N, .int .i64 L, .int .i64 H]) rfl rfl (mc k C N L H 0 (fun _ => 0) (fun _ => 0)) HBU.out ?_
  refine hK.out _ _ kp (fun hHeld => ?_)
  clear hK K
  (try simp only [Act.put, List.setIfInBounds_toArray, List.set_cons_zero, List.set_cons_succ])
  refine wpAnyH_ready (rs := [3]) (by kernel_rfl) (by simp) ?_
  refine AllReadyH.cons (o := ⟨some 10, _, _, _, _, _⟩) rfl (fun K hK => ?_) AllReadyH.nil
  rw [if_pos (by rfl)]
  have HX3 := hid (HX2.out.alloc (.cells (mc k C N L H 0 (fun _ => 0) (fun _ => 0)) 57))
  have kq := HX3.out.all4
  go_simp
  refine hK.out _ _ kq (fun hHeld => ?_)
  clear hK K
  (try simp only [Act.put, List.setIfInBounds_toArray, List.set_cons_zero, List.set_cons_succ])
  refine wpAnyH_take (i := 4) (oi := ⟨some 2, _, _, _, _, _⟩) (v := ?_) rfl (by kernel_rfl) (by kernel_rfl) (by kernel_rfl) (fun _ _ _ h => h) (Or.inl ⟨by rfl, ?_⟩) (by assumption) ?_
  rotate_left 1
  · intro w0 hSw
    obtain ⟨s0, s1, s2, s3⟩ := hSw
    go_simp
    try with_reducible rfl
  (try simp only [Act.put, List.setIfInBounds_toArray, List.set_cons_zero, List.set_cons_succ])
  refine wpAnyH_take (i := 5) (oi := ⟨some 3, _, _, _, _, _⟩) (v := ?_) rfl (by kernel_rfl) (by kernel_rfl) (by kernel_rfl) (fun _ _ _ h => h) (Or.inl ⟨by rfl, ?_⟩) (by assumption) ?_
  rotate_left 1
  · intro w0 hSw
    obtain ⟨s0, s1, s2, s3⟩ := hSw
    go_simp
    try with_reducible rfl
  (try simp only [Act.put, List.setIfInBounds_toArray, List.set_cons_zero, List.set_cons_succ])
  refine wpAnyH_done (by kernel_rfl) ?_ _
  refine NoPanic.normal ?_
  -- till here
  go_wp2
  go_ret2
  have hs9 := HSQ.out
  rw [show empt (cl 9) = List.replicate 9 [] from by decide] at hs9
  have hb2 : Below w.heap.size w w2 := on (below_draws HB1.out 1) HB2.out
  have hk2 : w1.heap.size ≤ k := HK.out
  refine ⟨w2.heap.size, k, rfl, ⟨Bx.new w2 _ _, hs9.below (below_alloc w2 _), fun e => ?_⟩, on hb2 (below_alloc w2 _), hb2.size, Nat.le_trans HB1.out.size hk2⟩
  have := hs9.lt
  omega
end Go.Proofs.Ytlafhejnnilpmaa
