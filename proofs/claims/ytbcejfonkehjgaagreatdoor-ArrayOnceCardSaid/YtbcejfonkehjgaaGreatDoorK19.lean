/-
  What is proved: mq's Add and New. Condition: the MQ lies in memory as one.
-/
import Derived.Test.YtbcejfonkehjgaaGreatDoorK01
import Derived.Test.YtbcejfonkehjgaaGreatDoorK05
import Derived.Laws.Tables
import Derived.Test.YtbcejfonkehjgaaGreatDoorK18
import Derived.Test.YtbcejfonkehjgaaGreatDoorRows
import Derived.Test.YtbcejfonkehjgaaGreatDoorK10
import Derived.Deep.QuietTactic
import Derived.BigQuiet
namespace Go.Proofs.YtbcejfonkehjgaaGreatDoor
open Go.RowKit

section
variable {w : World} {g k C N L H : Nat} {m : Ms}
set_option maxHeartbeats 2000000 in
theorem mq_add (h : Mq w g k C N L H m) (ok : Okm C N L H m) (hH : H ≤ 16) (ht : m.t ≤ 10000000) (b : Int) :
    Calls Tryz.prog 220 #[.pointer (some ⟨g, 0, none⟩), .int .i64 b] w fun e w' =>
      e = .returned (.tuple #[.int .i64 (m.adV C b), .bool (decide (m.goes C b)), .int .i64 (Ms.adE b)]) ∧ Mq w' g k C N L H (m.adM C N L H b) ∧ Chg w w' (Mf g k) (Mf g k) := by
  by_cases hv : vb b
  · have hv2 : 0 ≤ b ∧ b < 64 := hv
    have v0 : ¬ b < 0 := by omega
    have v1 : ¬ (64 : Int) ≤ b := by omega
    have e3 : Ms.adE b = 0 := if_pos hv
    rw [e3]
    have HU := hid (mq_Use h ok ht b)
    by_cases hb : b ∈ m.al
    · have hg : ¬ m.goes C b := fun e => e.2.1 hb
      have e1 : m.adV C b = 0 := if_neg hg
      have e2 : m.adM C N L H b = m.us N L b := by unfold Ms.adM; rw [if_neg hg, if_pos hv]
      have e4 : m.useM N L b = m.us N L b := if_pos hb
      rw [e1, e2, decide_eq_false hg]
      rw [decide_eq_true hb, e4] at HU
      clear h ok hg e1 e2 e3 e4 hb hv hv2
      go_enter Tryz.func220, Tryz.ntmps220
      go_wp2_with (go_at_call 225; refine HU.out.mono ?_; rintro e w1 ⟨rfl, hq, hc⟩; have HM1 := hid hq; have HC1 := hid hc; clear hq hc)
      go_ret3
      exact ⟨rfl, HM1.out, HC1.out⟩
    · have e4 : m.useM N L b = m := if_neg hb
      rw [decide_eq_false hb, e4] at HU
      obtain ⟨n, hn⟩ : ∃ n, m.al.length = n := ⟨_, rfl⟩
      have HN := hid hn
      have HK := hid ok
      have HV := hid hv
      have HB := hid hb
      have HT := hid ht
      clear e3 e4 h hv2
      by_cases hC : n = C
      · have hg : m.goes C b := ⟨hv, hb, hn.trans hC⟩
        have e1 : m.adV C b = m.vc := if_pos hg
        have e2 : m.adM C N L H b = (m.ha H m.vc).us N L b := if_pos hg
        rw [e1, e2, decide_eq_true hg]
        have hp : 0 < m.al.length := by have := ok.c; omega
        obtain ⟨o1, o2⟩ := ok.ha hH (ok.vic hp).2.2.2
        have HO1 := hid o1
        have HO2 := hid (show b ∈ (m.ha H m.vc).al ∨ (m.ha H m.vc).al.length < C from .inr (by omega))
        have HP := hid hp
        have HT2 := hid (show (m.ha H m.vc).t ≤ 10000000 from by rw [ha_t]; exact ht)
        subst hC
        clear ok hg e1 e2 hb hv hn hp o1 o2 ht
        go_enter Tryz.func220, Tryz.ntmps220
        go_upto_region 7 with (go_at_call 225; refine HU.out.mono ?_; rintro e w1 ⟨rfl, hq, hc⟩; have HM1 := hid hq; have HC1 := hid hc; clear hq hc)
        have c1 := HM1.out.c1
        have HMD := hid (show Mq w1.drew g k n N L H m from HM1.out.draws 1)
        have HCD := hid (show Chg w w1.drew (Mf g k) (Mf g k) from Chg.draws HC1.out 1)
        go_region_held3 (fun w' => w'.cell? ⟨g, 1, none⟩ = some (.int .i64 n)) (first | exact kp | exact c1) (first | (go_at_call 223; refine (mq_len HMD.out HK.out).mono ?_; rintro e w2 ⟨rfl, hb⟩; rw [HN.out]; have HM2 := hid (HMD.out.below hb); have HC2 := hid (HCD.out.trans (Chg.of hb _)); have kp := HM2.out.c1; clear hb))
        clear kp c1
        go_wp2_with (first
          | (go_at_call 227; refine (mq_evict HM2.out HK.out hH HP.out).mono ?_; rintro e w3 ⟨rfl, hq, hc⟩; have HM3 := hid hq; have HC3 := hid (HC2.out.trans hc); clear hq hc)
          | (go_at_call 228; refine (mq_use HM3.out HO1.out HT2.out HV.out HO2.out).mono ?_; rintro e w4 ⟨rfl, hq, hc⟩; have HM4 := hid hq; have HC4 := hid (HC3.out.trans hc); clear hq hc))
        go_ret3
        exact ⟨rfl, HM4.out, HC4.out⟩
      · have hg : ¬ m.goes C b := fun e => hC (hn.symm.trans e.2.2)
        have e1 : m.adV C b = 0 := if_neg hg
        have e2 : m.adM C N L H b = m.us N L b := by unfold Ms.adM; rw [if_neg hg, if_pos hv]
        rw [e1, e2, decide_eq_false hg]
        have HO2 := hid (show b ∈ m.al ∨ m.al.length < C from .inr (by have := ok.cap; omega))
        have hCz : ((n : Int) == (C : Int)) = false := by simp; omega
        have hCd : decide ((n : Int) = (C : Int)) = false := by simp; omega
        clear ok hg e1 e2 hb hv hn ht
        go_enter Tryz.func220, Tryz.ntmps220
        go_upto_region 7 with (go_at_call 225; refine HU.out.mono ?_; rintro e w1 ⟨rfl, hq, hc⟩; have HM1 := hid hq; have HC1 := hid hc; clear hq hc)
        have c1 := HM1.out.c1
        have HMD := hid (show Mq w1.drew g k C N L H m from HM1.out.draws 1)
        have HCD := hid (show Chg w w1.drew (Mf g k) (Mf g k) from Chg.draws HC1.out 1)
        go_region_held3 (fun w' => w'.cell? ⟨g, 1, none⟩ = some (.int .i64 C)) (first | exact kp | exact c1) (first | (go_at_call 223; refine (mq_len HMD.out HK.out).mono ?_; rintro e w2 ⟨rfl, hb⟩; rw [HN.out]; have HM2 := hid (HMD.out.below hb); have HC2 := hid (HCD.out.trans (Chg.of hb _)); have kp := HM2.out.c1; clear hb))
        clear kp c1
        go_wp2_with (go_at_call 228; refine (mq_use HM2.out HK.out HT.out HV.out HO2.out).mono ?_; rintro e w4 ⟨rfl, hq, hc⟩; have HM4 := hid hq; have HC4 := hid (HC2.out.trans hc); clear hq hc)
        go_ret3
        exact ⟨rfl, HM4.out, HC4.out⟩
  · have hv2 : b < 0 ∨ (¬ b < 0 ∧ 64 ≤ b) := by unfold vb at hv; omega
    have hg : ¬ m.goes C b := fun e => hv e.1
    have e1 : m.adV C b = 0 := if_neg hg
    have e2 : m.adM C N L H b = m := by unfold Ms.adM; rw [if_neg hg, if_neg hv]
    have e3 : Ms.adE b = 3 := if_neg hv
    rw [e1, e2, e3, decide_eq_false hg]
    have HM := hid h
    clear h ok hg e1 e2 e3 hv
    rcases hv2 with h1 | ⟨h1, h2⟩
    all_goals
      go_enter Tryz.func220, Tryz.ntmps220
      go_wp2
      go_ret3
      exact ⟨rfl, HM.out, Chg.refl _ _⟩
end
theorem wp_build2 {P : Program} {o : Oper} {a : Act} {w : World} {K : Act → World → Prop} {Q : Exit → Act → World → Prop} (t : TypeId) (x y : Operand) (ho : o.op = .build t #[(0, x), (1, y)]) (u v : Value) (hx : a.eval x = u) (hy : a.eval y = v) (cs : Array Value)
    (hf : P.built t [(0, u), (1, v)] = some cs) (h : K (a.put o.dst (.agg cs)) w) : o.wp P a w K Q := by
  have hf2 : P.built t ((#[(0, x), (1, y)] : Array (Nat × Operand)).map fun (i, x) => (i, a.eval x)).toList = some cs := by
    subst hx
    subst hy
    simpa using hf
  exact wp_build t _ ho (by rw [hf2]; rfl) (by rw [hf2]; exact h)
set_option maxRecDepth 100000 in
theorem built_mq (k : Nat) (c n l h : Int) : Tryz.prog.built 202 [(0, .pointer (some ⟨k, 0, none⟩)), (1, .agg #[.int .i64 c, .int .i64 n, .int .i64 l, .int .i64 h])] = some (#[.pointer (some ⟨k, 0, none⟩), .int .i64 c, .int .i64 n, .int .i64 l, .int .i64 h] ++ Array.replicate 129 (Value.int .i64 0)) := by kernel_rfl
theorem mq_cells (k C N L H : Nat) : #[.pointer (some ⟨k, 0, none⟩), .int .i64 C, .int .i64 N, .int .i64 L, .int .i64 H] ++ Array.replicate 129 (Value.int .i64 0) = mc k C N L H 0 (fun _ => 0) (fun _ => 0) := by
  refine Array.ext (by simp [mc]) fun j h1 h2 => ?_
  have hj : j < 134 := by rw [mc_size] at h2; exact h2
  simp only [mc, Array.getElem_ofFn, mcf]
  by_cases h5 : j < 5
  · have h4 : j = 0 ∨ j = 1 ∨ j = 2 ∨ j = 3 ∨ j = 4 := by omega
    rw [Array.getElem_append_left (by simp; omega)]
    rcases h4 with rfl | rfl | rfl | rfl | rfl <;> rfl
  · rw [Array.getElem_append_right (by simp; omega)]
    rw [Array.getElem_replicate, if_neg (show ¬ j = 0 from by omega), if_neg (show ¬ j = 1 from by omega), if_neg (show ¬ j = 2 from by omega), if_neg (show ¬ j = 3 from by omega), if_neg (show ¬ j = 4 from by omega)]
    split
    · rfl
    · split <;> rfl
def NewQ (w : World) (C N L H : Nat) (e : Ending) (w' : World) : Prop :=
  ∃ g k, e = .returned (.tuple #[.pointer (some ⟨g, 0, none⟩), .int .i64 0]) ∧ Mq w' g k C N L H ⟨List.replicate 9 [], fun _ => 0, fun _ => 0, 0⟩ ∧ Below w.heap.size w w' ∧ w.heap.size ≤ g ∧ w.heap.size ≤ k
set_option maxRecDepth 20000 in
set_option maxHeartbeats 1000000 in
theorem mq_new_yes (C N L H : Nat) (hs : shp C N L H) (w : World) : Calls Tryz.prog 80 #[.agg #[.int .i64 C, .int .i64 N, .int .i64 L, .int .i64 H]] w (NewQ w C N L H) := by
  have HX := hid (Bx.new w 162 #[.int .i64 C, .int .i64 N, .int .i64 L, .int .i64 H])
  have HB := hid (below_alloc w (.cells #[.int .i64 C, .int .i64 N, .int .i64 L, .int .i64 H] 162))
  have HR := hid (fun w => mqright_any C N L H w)
  rw [decide_eq_true hs] at HR
  obtain ⟨q, hq⟩ : ∃ q, w.heap.size = q := ⟨_, rfl⟩
  rw [hq] at HX
  have HQ := hid hq
  clear hs hq
  go_enter Tryz.func80, Tryz.ntmps80
  go_upto_region 3 with (go_at_call 114; refine (HR.out _).mono ?_; rintro e w1 ⟨rfl, hb⟩; have HX1 := hid (HX.out.next hb); have HB1 := hid (on HB.out hb); clear hb)
  rw [HQ.out]
  obtain ⟨c0, c1, c2, c3⟩ := HX1.out.all4
  have HXD := hid (show Bx w1.drew q 162 #[.int .i64 C, .int .i64 N, .int .i64 L, .int .i64 H] from HX1.out)
  -- drawn
  refine wp_region_noPanic ?_
  refine wp_region_held_drew (S := fun w' => w'.cell? ⟨q, 0, none⟩ = some (.int .i64 C) ∧ w'.cell? ⟨q, 1, none⟩ = some (.int .i64 N) ∧ w'.cell? ⟨q, 2, none⟩ = some (.int .i64 L) ∧ w'.cell? ⟨q, 3, none⟩ = some (.int .i64 H)) (by kernel_rfl) ?_ (fun hHeld => ?_)
  · exact ⟨c0, c1, c2, c3⟩
  refine tkv 1 (some 8) rfl ?_
  refine tkc 0 (some 7) rfl fun K hK => ?_
  go_simp
  refine (lnew_any 9 _).mono ?_
  rintro e w2 ⟨k, rfl, hsq, hb, hk⟩
  have HX2 := hid (HXD.out.next hb)
  have kp := HX2.out.all4
  have HSQ := hid hsq
  have HB2 := hid hb
  have HK := hid hk
  have HBU := hid ((built_mq k C N L H).trans (congrArg some (mq_cells k C N L H)))
  clear hsq hb hk
  go_simp
  refine hK.out _ _ kp (fun hHeld => ?_)
  clear hK K
  (try simp only [Act.put, tkA, tk0, tk1])
  refine tkc 2 (some 9) rfl fun K hK => ?_
  refine wp_build2 202 (.tmp 7) (.tmp 8) rfl (.pointer (some ⟨k, 0, none⟩)) (.agg #[.int .i64 C, .int .i64 N, .int .i64 L, .int .i64 H]) rfl rfl (mc k C N L H 0 (fun _ => 0) (fun _ => 0)) HBU.out ?_
  refine hK.out _ _ kp (fun hHeld => ?_)
  clear hK K
  (try simp only [Act.put, tkA, tk0, tk1])
  refine tkc 3 (some 10) rfl fun K hK => ?_
  have HX3 := hid (HX2.out.alloc (.cells (mc k C N L H 0 (fun _ => 0) (fun _ => 0)) 202))
  have kq := HX3.out.all4
  go_simp
  refine hK.out _ _ kq (fun hHeld => ?_)
  clear hK K
  (try simp only [Act.put, tkA, tk0, tk1])
  refine tkv 4 (some 2) rfl ?_
  refine tkv 5 (some 3) rfl ?_
  refine wpAnyH_done (by kernel_rfl) ?_ _
  refine NoPanic.normal ?_
  -- till here
  go_wp2
  go_ret2
  have hs9 := HSQ.out
  rw [show empt (cl 9) = List.replicate 9 [] from by decide] at hs9
  have hb2 : Below w.heap.size w w2 := on (below_draws HB1.out 1) HB2.out
  have hk2 : w1.heap.size ≤ k := HK.out
  refine ⟨w2.heap.size, k, rfl, ⟨Bx.new w2 _ _, hs9.below (below_alloc w2 _), fun e => ?_⟩, on hb2 (below_alloc w2 _), hb2.size, Nat.le_trans HB1.out.size hk2⟩
  have := hs9.lt
  omega
end Go.Proofs.YtbcejfonkehjgaaGreatDoor
namespace Go.Proofs.YtbcejfonkehjgaaGreatDoor
open Go.RowKit

section
variable {w0 w w' : World} {g k q T n : Nat} {rg : Int → Option Nat} {pt : Nat → Nat} {lp : Nat → Bool} {S : List (List Int)}
theorem allp_succ (S : List (List Int)) (j : Nat) : ints (allp S (j + 1)) = ints (allp S j) ++ ints (S.getD j []) := by
  unfold ints
  rw [← List.map_append]
  rfl
theorem Okp.len64 (h : Okp rg pt n S) (m : Nat) : (allp S m).length ≤ 64 := nodup_le 64 _ (allp_nd h.wf m) fun x hx => by
  obtain ⟨i, _, hx⟩ := mem_allp.1 hx
  exact h.wf.ltg hx
set_option maxRecDepth 10000 in
set_option maxHeartbeats 1000000 in
theorem pt_all (h : Pt w0 w g k q T rg pt lp n S) : Calls Tryz.prog 200 #[.pointer (some ⟨g, 0, none⟩)] w (Told w (allp S n)) := by
  have c1 := h.c1
  have HPA := hid (pn_parts h.plan)
  have hn8 := h.pn.n8
  have H := hid h
  clear h
  go_enter Tryz.func200, Tryz.ntmps200
  go_wp2_with (go_at_call 113; refine HPA.out.mono ?_; rintro e w1 ⟨A, c, rfl, hb⟩; have HG0 := hid (GrW.of hb nl); clear hb)
  clear c1
  go_loopg [3, 13] n (fun gk s t wr => ∃ (j : Nat) (v : Value), j + gk = n ∧ v = s ∧ t = .int .i64 j ∧ OwnW wr 3 v (ints (allp S j)) ∧ GrW w wr nl v)
  case atStart => exact ⟨0, _, by omega, rfl, rfl, ownW_nil _ _, HG0.out⟩
  case round =>
    obtain ⟨j, v, hj, rfl, rfl, ho, hg⟩ := hrel
    by_cases hlt : j < n
    · have hlt' : (j : Int) < (n : Int) := by omega
      have HP := hid (H.out.below hg.nilBelow)
      have c0 := HP.out.c0
      have hjS : j < S.length := Nat.lt_of_lt_of_le hlt H.out.ok.len
      have HAL := hid (all_in HP.out.sq (gd_some hjS))
      have HT := hid (allp_succ S j)
      obtain ⟨m, hm⟩ : ∃ m, (ints (allp S j)).length = m := ⟨_, rfl⟩
      have hm64 : m ≤ 64 := by rw [← hm, ints_length]; exact H.out.ok.len64 j
      obtain ⟨m2, hm2⟩ : ∃ m, (S.getD j []).length = m := ⟨_, rfl⟩
      have hm264 : m2 ≤ 64 := by rw [← hm2]; exact H.out.ok.wf.len (gd_some hjS)
      have HM := hid hm
      have HM2 := hid hm2
      have HML := hid (show (ints (S.getD j [])).length = m2 from by rw [ints_length]; exact hm2)
      have HO := hid ho
      have HG := hid hg
      obtain ⟨B, cb, e0, -⟩ := ho.read
      rw [hm] at e0
      subst e0
      clear ho hg hm hm2 hjS
      generalize S.getD j [] = l at *
      go_wp2_with (first
        | (go_at_call 208; refine HAL.out.mono ?_; rintro e w2 ⟨A2, c2, rfl, ho2, hg2⟩; have HO2 := hid (HO.out.grown hg2 (fun x _ => by simp [Value.ownBlock])); have HG2 := hid (HG.out.trans (GrW.of hg2.nilBelow _)); rw [HM2.out]; rw [HM2.out] at ho2; have HR2 := hid (by obtain ⟨A3, c3, e3, hr3, h3, h4⟩ := ho2.read; rw [HML.out] at e3; simp only [Value.slice.injEq] at e3; obtain ⟨rfl, -, rfl⟩ := e3; rw [HML.out] at h3; exact And.intro hr3 (And.intro h3 h4)); clear ho2 hg2)
        | (at_builtin; (refine wpList_appW elt_int rfl _ _ rfl _ _ HO2.out rfl _ _ m2 c2 (ints l) rfl HML.out HR2.out.1 (ints_one _) (by rw [HM.out]; unfold maxLen; omega) (by rw [HM.out]; omega) ?_); (intro v2 w3 hown3 hg3; have HG3 := hid (HG2.out.trans hg3); have HO3 := hid hown3; clear hown3 hg3)))
      go_roundg (gk - 1)
      case measure => omega
      case rel => exact ⟨j + 1, v2, by omega, rfl, by go_num, by rw [HT.out]; exact HO3.out, HG3.out⟩
    · have hlt' : ¬ (j : Int) < (n : Int) := by omega
      obtain rfl : j = n := by omega
      have HO := hid ho
      have HG := hid hg
      obtain ⟨B, cb, e0, -⟩ := ho.read
      rw [ints_length] at e0
      subst e0
      clear ho hg
      go_wp2
      go_ret
      exact ⟨_, _, rfl, HO.out, HG.out⟩








set_option maxHeartbeats 400000 in
theorem pt_new (h : Pn w q T rg pt lp n) : Calls Tryz.prog 79 #[.pointer (some ⟨q, 0, none⟩), .int .i64 T] w fun e w' => ∃ g k, e = .returned (.tuple #[.pointer (some ⟨g, 0, none⟩), .int .i64 0]) ∧ Pt w w' g k q T rg pt lp n (empt (cl n)) := by
  have HPA := hid (pn_parts h)
  have h1 : ¬ (T : Int) < 1 := by have := h.t1; omega
  have h3 : ¬ 3 < (T : Int) := by have := h.t3; omega
  have hn := h.n8
  have HOK := hid (show Okp rg pt n (empt (cl n)) from Okp.new (by unfold cl; omega))
  have H := hid h
  clear h
  go_enter Tryz.func79, Tryz.ntmps79
  go_wp2_with (first
    | (go_at_call 113; refine HPA.out.mono ?_; rintro e w1 ⟨A, c, rfl, hb⟩; have HB := hid hb; clear hb)
    | (go_at_call 112; refine (lnew_any n _).mono ?_; rintro e w2 ⟨k, rfl, hs, hb, hk⟩; have HS := hid hs; have HB2 := hid (on HB.out hb); have HK := hid (Nat.le_trans HB.out.size hk); clear hs hb hk))
  go_ret2
  have hb := below_alloc w2 (.cells #[.pointer (some ⟨k, 0, none⟩), .pointer (some ⟨q, 0, none⟩), .int .i64 T] 199)
  exact ⟨w2.heap.size, k, rfl, H.out, on HB2.out hb, Bx.new w2 _ _, HS.out.below hb, HOK.out, fun e => by have := HS.out.lt; omega, HB2.out.size, HK.out⟩
end
end Go.Proofs.YtbcejfonkehjgaaGreatDoor
namespace Go.Proofs.YtbcejfonkehjgaaGreatDoor
open Go.RowKit

theorem dec_eq (p : Prop) [Decidable p] : decide p = dec p := by
  by_cases h : p
  · rw [dec_true h, decide_eq_true h]
  · rw [dec_false h, decide_eq_false h]
namespace Ob
def tm : Ob → Nat
  | mq _ _ _ _ m => m.t
  | _ => 0
end Ob
def Om (w : World) (F : Nat → Prop) (v : Value) : Ob → Prop
  | .lru C L => ∃ g k, v = .iface 163 (.pointer (some ⟨g, 0, none⟩)) ∧ Lq w g k C L ∧ F g ∧ F k
  | .mq C N L H m => ∃ g k, v = .iface 158 (.pointer (some ⟨g, 0, none⟩)) ∧ Mq w g k C N L H m ∧ F g ∧ F k
  | .prt rg pt lp n S => ∃ w0 g k q T, v = .iface 155 (.pointer (some ⟨g, 0, none⟩)) ∧ Pt w0 w g k q T rg pt lp n S ∧ F g ∧ F k ∧ ∀ j, q ≤ j → j < w0.heap.size → F j
variable {w w' : World} {F G : Nat → Prop} {v : Value} {o : Ob} {K : Nat}
theorem Om.below (h : Om w F v o) (hb : Below w.heap.size w w') : Om w' F v o := by
  cases o with
  | lru C L => obtain ⟨g, k, e, h1, h2⟩ := h; exact ⟨g, k, e, h1.below hb, h2⟩
  | mq C N L H m => obtain ⟨g, k, e, h1, h2⟩ := h; exact ⟨g, k, e, h1.below hb, h2⟩
  | prt rg pt lp n S => obtain ⟨w0, g, k, q, T, e, h1, h2⟩ := h; exact ⟨w0, g, k, q, T, e, h1.below hb, h2⟩
theorem Pn.off {w w' : World} {q T n : Nat} {rg : Int → Option Nat} {pt : Nat → Nat} {lp : Nat → Bool} (h : Pn w q T rg pt lp n) (hs : w.heap.size ≤ w'.heap.size) (hb : ∀ j, q ≤ j → j < w.heap.size → w'.heap[j]? = w.heap[j]?) : Pn w' q T rg pt lp n := by
  obtain ⟨⟨b, x, hh, A, c, B, d, h1, h2⟩, h3, h4⟩ := h
  have rv : ∀ {A : Option Addr} {us : List Value}, Rv w w.heap.size A us → (∀ ad, A = some ad → q ≤ ad.block) → Rv w' w'.heap.size A us := fun hr hf j u hu => by
    obtain ⟨ad, e, hb1, hc⟩ := hr j u hu
    have hq := hf ad e
    refine ⟨ad, e, Nat.lt_of_lt_of_le hb1 hs, ?_⟩
    rw [World.cell?_of_block (a := ad.add j) (hb _ (by rw [addBlock]; exact hq) (by rw [addBlock]; exact hb1))]
    exact hc
  exact ⟨⟨b, x, hh, A, c, B, d, ⟨(hb q (Nat.le_refl q) h1.bx.lt).trans h1.bx, rv h1.hr h1.fa, rv h1.pr h1.fb, h1.ok, h1.od, h1.nb, h1.fa, h1.fb⟩, h2⟩, h3, h4⟩
theorem Pt.off {w0 w w' : World} {g k q T n : Nat} {rg : Int → Option Nat} {pt : Nat → Nat} {lp : Nat → Bool} {S : List (List Int)} (h : Pt w0 w g k q T rg pt lp n S) (hs : w.heap.size ≤ w'.heap.size) (hb : ∀ j, q ≤ j → j < w0.heap.size → w'.heap[j]? = w.heap[j]?) (hg : w'.heap[g]? = w.heap[g]?) (hk : w'.heap[k]? = w.heap[k]?) :
    ∃ w1, w1.heap.size = w0.heap.size ∧ Pt w1 w' g k q T rg pt lp n S := by
  have h0 := h.bel.size
  have e1 : (w'.heap.extract 0 w0.heap.size).size = w0.heap.size := by rw [Array.size_extract]; omega
  have e2 : ∀ j, j < w0.heap.size → (w'.heap.extract 0 w0.heap.size)[j]? = w'.heap[j]? := fun j hj => by
    rw [Array.getElem?_extract]
    simp
    omega
  refine ⟨{ w' with heap := w'.heap.extract 0 w0.heap.size }, e1, h.pn.off (by show w0.heap.size ≤ (w'.heap.extract 0 w0.heap.size).size; omega) fun j h1 h2 => ?_, ⟨rfl, rfl, rfl, ?_, ?_⟩, hg.trans h.box, ?_, h.ok, h.ne, ?_, ?_⟩
  · show (w'.heap.extract 0 w0.heap.size)[j]? = _
    rw [e2 j h2, hb j h1 h2]
    exact h.bel.block j h2
  · show (w'.heap.extract 0 w0.heap.size).size ≤ _
    omega
  · intro j hj
    have hj' : j < (w'.heap.extract 0 w0.heap.size).size := hj
    exact (e2 j (by omega)).symm
  · obtain ⟨a, b, c, h1, h2⟩ := h.sq
    exact ⟨a, b, c, hk.trans h1, h2⟩
  · have := h.hg
    show (w'.heap.extract 0 w0.heap.size).size ≤ g
    omega
  · have := h.hk
    show (w'.heap.extract 0 w0.heap.size).size ≤ k
    omega
theorem Om.chg {X Y : Nat → Prop} (h : Om w F v o) (hc : Chg w w' X Y) (hF : ∀ j, F j → ¬ X j) : Om w' F v o := by
  cases o with
  | lru C L =>
    obtain ⟨g, k, e, h1, h2, h3⟩ := h
    exact ⟨g, k, e, ⟨hc.bx h1.box (hF g h2), h1.sq.same (hc.block k h1.sq.lt (hF k h3)), h1.ne, h1.cap⟩, h2, h3⟩
  | mq C N L H m =>
    obtain ⟨g, k, e, h1, h2, h3⟩ := h
    exact ⟨g, k, e, h1.chg hc (hF g h2) (hF k h3), h2, h3⟩
  | prt rg pt lp n S =>
    obtain ⟨w0, g, k, q, T, e, h1, h2, h3, h4⟩ := h
    have hs := h1.bel.size
    obtain ⟨w1, e1, h5⟩ := h1.off hc.size (fun j h6 h7 => hc.block j (by omega) (hF j (h4 j h6 h7))) (hc.block g h1.box.lt (hF g h2)) (hc.block k h1.sq.lt (hF k h3))
    exact ⟨w1, g, k, q, T, e, h5, h2, h3, fun j h6 h7 => h4 j h6 (by omega)⟩
theorem Chg.wide {X Y X' : Nat → Prop} (h : Chg w w' X Y) (hX : ∀ j, X j → X' j) : Chg w w' X' X' := ⟨h.os, h.tape, h.output, h.size, fun j h1 h2 => h.block j h1 fun h3 => h2 (hX j h3), fun _ h => .inl h⟩
def OmQ (w : World) (F : Nat → Prop) (v : Value) (o' : Ob) (r : Value) (e : Ending) (w' : World) : Prop := e = .returned r ∧ Om w' F v o' ∧ Chg w w' F F
theorem prt_in {w0 : World} {g k q T n : Nat} {rg : Int → Option Nat} {pt : Nat → Nat} {lp : Nat → Bool} {S : List (List Int)} (h : Pt w0 w g k q T rg pt lp n S) (b : Int) : dec (inS S b) = dec (b ∈ allp S n) := by
  congr 1
  exact propext (allp_in h.ok (fun z i hz => h.pn.rl hz) b).symm
section
variable {C N L H n : Nat} {Ls : List Int} {m : Ms} {rg : Int → Option Nat} {pt : Nat → Nat} {lp : Nat → Bool} {S : List (List Int)}
theorem oml_use (h : Om w F v (.lru C Ls)) (b : Int) : ∃ g, v = .iface 163 (.pointer (some ⟨g, 0, none⟩)) ∧ Calls Tryz.prog 242 #[.pointer (some ⟨g, 0, none⟩), .int .i64 b] w (OmQ w F v ((Ob.lru C Ls).use b) (.bool (dec (b ∈ (Ob.lru C Ls).all)))) := by
  obtain ⟨g, k, rfl, h1, h2, h3⟩ := h
  exact ⟨_, rfl, (lru_use h1 b).mono fun e w' ⟨he, h4, h5⟩ => ⟨he, ⟨g, k, rfl, h4, h2, h3⟩, h5.wide fun j e => e ▸ h3⟩⟩
theorem oml_rem (h : Om w F v (.lru C Ls)) (b : Int) : ∃ g, v = .iface 163 (.pointer (some ⟨g, 0, none⟩)) ∧ Calls Tryz.prog 241 #[.pointer (some ⟨g, 0, none⟩), .int .i64 b] w (OmQ w F v ((Ob.lru C Ls).rem b) (.bool (dec (b ∈ (Ob.lru C Ls).all)))) := by
  obtain ⟨g, k, rfl, h1, h2, h3⟩ := h
  exact ⟨_, rfl, (lru_remove h1 b).mono fun e w' ⟨he, h4, h5⟩ => ⟨he, ⟨g, k, rfl, h4, h2, h3⟩, h5.wide fun j e => e ▸ h3⟩⟩
theorem oml_add (h : Om w F v (.lru C Ls)) {b : Int} (ht : (Ob.lru C Ls).tk b) : ∃ g, v = .iface 163 (.pointer (some ⟨g, 0, none⟩)) ∧ Calls Tryz.prog 237 #[.pointer (some ⟨g, 0, none⟩), .int .i64 b] w (OmQ w F v ((Ob.lru C Ls).add b) (.tuple #[.int .i64 ((Ob.lru C Ls).vi b), .bool ((Ob.lru C Ls).gn b), .int .i64 0])) := by
  obtain ⟨g, k, rfl, h1, h2, h3⟩ := h
  have ht' : vb b := ht
  have e0 : addE b = 0 := if_pos ht'
  exact ⟨_, rfl, (lru_add h1 b).mono fun e w' ⟨he, h4, h5⟩ => ⟨by rw [he, e0]; rfl, ⟨g, k, rfl, h4, h2, h3⟩, h5.wide fun j e => e ▸ h3⟩⟩
theorem oml_has (h : Om w F v (.lru C Ls)) (b : Int) : ∃ g, v = .iface 163 (.pointer (some ⟨g, 0, none⟩)) ∧ Calls Tryz.prog 239 #[.pointer (some ⟨g, 0, none⟩), .int .i64 b] w fun e w' => e = .returned (.bool (dec (b ∈ (Ob.lru C Ls).all))) ∧ w = w' := by
  obtain ⟨g, k, rfl, h1, h2, h3⟩ := h
  exact ⟨_, rfl, lru_has h1 b⟩
theorem oml_all (h : Om w F v (.lru C Ls)) : ∃ g, v = .iface 163 (.pointer (some ⟨g, 0, none⟩)) ∧ Calls Tryz.prog 238 #[.pointer (some ⟨g, 0, none⟩)] w (Told w (Ob.lru C Ls).all) := by
  obtain ⟨g, k, rfl, h1, h2, h3⟩ := h
  exact ⟨_, rfl, lru_all h1⟩
theorem omm_use (h : Om w F v (.mq C N L H m)) (ok : (Ob.mq C N L H m).Ok K) (ht : (Ob.mq C N L H m).tm ≤ 10000000) (b : Int) : ∃ g, v = .iface 158 (.pointer (some ⟨g, 0, none⟩)) ∧ Calls Tryz.prog 225 #[.pointer (some ⟨g, 0, none⟩), .int .i64 b] w (OmQ w F v ((Ob.mq C N L H m).use b) (.bool (dec (b ∈ (Ob.mq C N L H m).all)))) := by
  obtain ⟨g, k, rfl, h1, h2, h3⟩ := h
  exact ⟨_, rfl, (mq_Use h1 ok.2.1 ht b).mono fun e w' ⟨he, h4, h5⟩ => ⟨by rw [he, dec_eq]; rfl, ⟨g, k, rfl, h4, h2, h3⟩, h5.wide fun j e => e.elim (fun e => e ▸ h2) (fun e => e ▸ h3)⟩⟩
theorem omm_rem (h : Om w F v (.mq C N L H m)) (ok : (Ob.mq C N L H m).Ok K) (b : Int) : ∃ g, v = .iface 158 (.pointer (some ⟨g, 0, none⟩)) ∧ Calls Tryz.prog 224 #[.pointer (some ⟨g, 0, none⟩), .int .i64 b] w (OmQ w F v ((Ob.mq C N L H m).rem b) (.bool (dec (b ∈ (Ob.mq C N L H m).all)))) := by
  obtain ⟨g, k, rfl, h1, h2, h3⟩ := h
  exact ⟨_, rfl, (mq_remove h1 ok.2.1 b).mono fun e w' ⟨he, h4, h5⟩ => ⟨by rw [he, dec_eq]; rfl, ⟨g, k, rfl, h4, h2, h3⟩, h5.wide fun j e => e.elim (fun e => e ▸ h2) (fun e => e ▸ h3)⟩⟩
theorem omm_add (h : Om w F v (.mq C N L H m)) (ok : (Ob.mq C N L H m).Ok K) (ht : (Ob.mq C N L H m).tm ≤ 10000000) {b : Int} (hb : (Ob.mq C N L H m).tk b) : ∃ g, v = .iface 158 (.pointer (some ⟨g, 0, none⟩)) ∧ Calls Tryz.prog 220 #[.pointer (some ⟨g, 0, none⟩), .int .i64 b] w (OmQ w F v ((Ob.mq C N L H m).add b) (.tuple #[.int .i64 ((Ob.mq C N L H m).vi b), .bool ((Ob.mq C N L H m).gn b), .int .i64 0])) := by
  obtain ⟨g, k, rfl, h1, h2, h3⟩ := h
  have hb' : vb b := hb
  have e0 : Ms.adE b = 0 := if_pos hb'
  exact ⟨_, rfl, (mq_add h1 ok.2.1 ok.2.2 ht b).mono fun e w' ⟨he, h4, h5⟩ => ⟨by rw [he, e0]; rfl, ⟨g, k, rfl, h4, h2, h3⟩, h5.wide fun j e => e.elim (fun e => e ▸ h2) (fun e => e ▸ h3)⟩⟩
theorem omm_has (h : Om w F v (.mq C N L H m)) (ok : (Ob.mq C N L H m).Ok K) (b : Int) : ∃ g, v = .iface 158 (.pointer (some ⟨g, 0, none⟩)) ∧ Calls Tryz.prog 222 #[.pointer (some ⟨g, 0, none⟩), .int .i64 b] w fun e w' => e = .returned (.bool (dec (b ∈ (Ob.mq C N L H m).all))) ∧ w = w' := by
  obtain ⟨g, k, rfl, h1, h2, h3⟩ := h
  exact ⟨_, rfl, (mq_has h1 ok.2.1 b).mono fun e w' ⟨he, h4⟩ => ⟨by rw [he, dec_eq]; rfl, h4⟩⟩
theorem omm_all (h : Om w F v (.mq C N L H m)) (ok : (Ob.mq C N L H m).Ok K) : ∃ g, v = .iface 158 (.pointer (some ⟨g, 0, none⟩)) ∧ Calls Tryz.prog 221 #[.pointer (some ⟨g, 0, none⟩)] w (Told w (Ob.mq C N L H m).all) := by
  obtain ⟨g, k, rfl, h1, h2, h3⟩ := h
  exact ⟨_, rfl, mq_all h1 ok.2.1⟩
theorem omp_use (h : Om w F v (.prt rg pt lp n S)) (b : Int) : ∃ g, v = .iface 155 (.pointer (some ⟨g, 0, none⟩)) ∧ Calls Tryz.prog 204 #[.pointer (some ⟨g, 0, none⟩), .int .i64 b] w (OmQ w F v ((Ob.prt rg pt lp n S).use b) (.bool (dec (b ∈ (Ob.prt rg pt lp n S).all)))) := by
  obtain ⟨w0, g, k, q, T, rfl, h1, h2, h3⟩ := h
  exact ⟨_, rfl, (pt_use h1 b).mono fun e w' ⟨he, h4, h5⟩ => ⟨by rw [he, prt_in h1]; rfl, ⟨w0, g, k, q, T, rfl, h4, h2, h3⟩, h5.wide fun j e => e ▸ h3.1⟩⟩
theorem omp_rem (h : Om w F v (.prt rg pt lp n S)) (b : Int) : ∃ g, v = .iface 155 (.pointer (some ⟨g, 0, none⟩)) ∧ Calls Tryz.prog 203 #[.pointer (some ⟨g, 0, none⟩), .int .i64 b] w (OmQ w F v ((Ob.prt rg pt lp n S).rem b) (.bool (dec (b ∈ (Ob.prt rg pt lp n S).all)))) := by
  obtain ⟨w0, g, k, q, T, rfl, h1, h2, h3⟩ := h
  exact ⟨_, rfl, (pt_remove h1 b).mono fun e w' ⟨he, h4, h5⟩ => ⟨by rw [he, prt_in h1]; rfl, ⟨w0, g, k, q, T, rfl, h4, h2, h3⟩, h5.wide fun j e => e ▸ h3.1⟩⟩
theorem omp_add (h : Om w F v (.prt rg pt lp n S)) {b : Int} (hb : (Ob.prt rg pt lp n S).tk b) : ∃ g, v = .iface 155 (.pointer (some ⟨g, 0, none⟩)) ∧ Calls Tryz.prog 199 #[.pointer (some ⟨g, 0, none⟩), .int .i64 b] w (OmQ w F v ((Ob.prt rg pt lp n S).add b) (.tuple #[.int .i64 ((Ob.prt rg pt lp n S).vi b), .bool ((Ob.prt rg pt lp n S).gn b), .int .i64 0])) := by
  obtain ⟨w0, g, k, q, T, rfl, h1, h2, h3⟩ := h
  have hb' : 0 < ptO pt (rg b) := hb
  have e0 : adE pt (rg b) = 0 := if_neg (by omega)
  exact ⟨_, rfl, (pt_add h1 b).mono fun e w' ⟨he, h4, h5⟩ => ⟨by rw [he, e0]; rfl, ⟨w0, g, k, q, T, rfl, h4, h2, h3⟩, h5.wide fun j e => e ▸ h3.1⟩⟩



theorem omp_takes (h : Om w F v (.prt rg pt lp n S)) (b : Int) : ∃ g, v = .iface 155 (.pointer (some ⟨g, 0, none⟩)) ∧ Calls Tryz.prog 156 #[.pointer (some ⟨g, 0, none⟩), .int .i64 b] w fun e w' => e = .returned (.bool (decide (0 < ptO pt (rg b)))) ∧ Below w.heap.size w w' := by
  obtain ⟨w0, g, k, q, T, rfl, h1, h2, h3⟩ := h
  exact ⟨_, rfl, pt_takes h1 b⟩
theorem omp_all (h : Om w F v (.prt rg pt lp n S)) : ∃ g, v = .iface 155 (.pointer (some ⟨g, 0, none⟩)) ∧ Calls Tryz.prog 200 #[.pointer (some ⟨g, 0, none⟩)] w (Told w (Ob.prt rg pt lp n S).all) := by
  obtain ⟨w0, g, k, q, T, rfl, h1, h2, h3⟩ := h
  exact ⟨_, rfl, pt_all h1⟩



end
namespace Ob
theorem tm_use : ∀ {o : Ob}, o.Ok K → ∀ b, (o.use b).tm ≤ o.tm + 1
  | lru _ _, _, _ => Nat.zero_le _
  | mq _ _ _ _ _, h, b => (h.2.1.useM b).2
  | prt _ _ _ _ _, _, _ => Nat.zero_le _
theorem tm_add : ∀ {o : Ob}, o.Ok K → ∀ b, (o.add b).tm ≤ o.tm + 1
  | lru _ _, _, _ => Nat.zero_le _
  | mq _ _ _ _ _, h, b => (h.2.1.adM h.2.2 b).2
  | prt _ _ _ _ _, _, _ => Nat.zero_le _
theorem tm_rem : ∀ {o : Ob}, o.Ok K → ∀ b, (o.rem b).tm ≤ o.tm + 1
  | lru _ _, _, _ => Nat.zero_le _
  | mq C N L H m, h, b => by
    show (m.remM b).t ≤ m.t + 1
    unfold Ms.remM
    split
    · exact Nat.le_succ _
    · exact Nat.le_succ _
  | prt _ _ _ _ _, _, _ => Nat.zero_le _
end Ob
end Go.Proofs.YtbcejfonkehjgaaGreatDoor
namespace Go.Proofs.YtbcejfonkehjgaaGreatDoor
open Go.RowKit

set_option maxHeartbeats 400000 in
theorem same_yes (A B : Option Addr) (n m ca cb : Nat) (l : List Int) (w : World) (C D : Nat) (hn : l.length = n) (hm : l.length = m) (hlen : n ≤ maxLen) (ra : Rd w C A l) (rb : Rd w D B l) :
    Calls Tryz.prog 17 #[.slice A n ca, .slice B m cb] w fun e w' => e = .returned (.bool true) ∧ ∃ k, w' = w.drewN k := by
  subst hn
  subst hm
  unfold maxLen at hlen
  go_enter Tryz.func17, Tryz.ntmps17
  go_wp2
  go_loopw [5] (fun i wr => ∃ k d : Nat, k ≤ l.length ∧ i = .int .i64 k ∧ wr = w.drewN d) (fun i _ => l.length - (intOf i).toNat)
  case atStart => exact ⟨0, 0, Nat.zero_le _, rfl, rfl⟩
  case round =>
    obtain ⟨k, d, hk, rfl, rfl⟩ := hrel
    by_cases hlt : k < l.length
    · obtain ⟨a, rfl, _, hca⟩ := ra.get hlt
      obtain ⟨b, rfl, _, hcb⟩ := rb.get hlt
      go_wp2
      go_quiet (fail)
      go_wp2
      go_roundw
      case rel => exact ⟨k + 1, _, by omega, by go_num, rfl⟩
      case measure => simp [intOf]; omega
    · go_wp2
      go_ret
      exact ⟨rfl, _, rfl⟩
end Go.Proofs.YtbcejfonkehjgaaGreatDoor
