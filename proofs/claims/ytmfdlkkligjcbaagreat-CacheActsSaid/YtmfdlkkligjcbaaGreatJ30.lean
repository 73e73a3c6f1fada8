/-
  What is proved: the reference's Of, Len, All, Times. Condition: its MQ lies in memory as one.
-/
import Derived.Test.YtmfdlkkligjcbaaGreatJ01
import Derived.Test.YtmfdlkkligjcbaaGreatJ29
import Derived.BigRegion
import Derived.Deep.RegionHeld3
namespace Go.Proofs.YtmfdlkkligjcbaaGreat
open Go.RowKit

section
variable {w : World} {X : Nat → Prop} {h a p e C N L H : Nat} {R : List (List Int)} {G : List Int} {o x : Int → Int} {t : Nat}
set_option maxHeartbeats 1000000 in
theorem rmq_of (hq : Rq w X h a p e C N L H R G o x t) (b : Int) (T : Nat) (hT : T ≤ N) (hno : ∀ j, j < T → b ∉ R.getD j []) (hyes : T < N → b ∈ R.getD T []) :
    Calls Tryz.prog 89 #[.pointer (some ⟨h, 0, none⟩), .int .i64 b] w fun en w' => en = .returned (.int .i64 (if T < N then (T : Int) else -1)) ∧ w = w' := by
  obtain ⟨cv, us, ug, m⟩ := hq
  have HM := hid m
  have HNO := hid hno
  have HY := hid hyes
  have h8 := m.n8
  clear m hno hyes
  go_enter Tryz.func89, Tryz.ntmps89
  go_wp2
  go_loopg [5] N (fun gk s wr => ∃ i : Nat, i + gk = N ∧ i ≤ T ∧ s = .int .i64 i ∧ wr = w)
  case atStart => exact ⟨0, by omega, Nat.zero_le _, rfl, rfl⟩
  case round =>
    obtain ⟨i, hi, hiT, rfl, rfl⟩ := hrel
    have c3 := HM.out.c3
    by_cases hlt : i < N
    · have h1 : (i : Int) < (N : Int) := by omega
      obtain ⟨A, c, -, q1, -, hr, hc, hm⟩ := HM.out.at_ hlt
      have HR := hid hr
      have h64 := HM.out.r64 i
      by_cases hTi : i = T
      · subst hTi
        have HH := hid (rhas_any A _ c (R.getD i []) b wr _ rfl (by unfold maxLen; omega) HR.out.rd)
        rw [dec_true (HY.out hlt)] at HH
        generalize (R.getD i []).length = n at *
        clear hr hc hm
        go_wp2_with (go_at_call 46; refine HH.out.mono ?_; rintro e w6 ⟨rfl, rfl⟩)
        go_ret
        exact ⟨rfl, rfl⟩
      · have HH := hid (rhas_any A _ c (R.getD i []) b wr _ rfl (by unfold maxLen; omega) HR.out.rd)
        rw [dec_false (HNO.out i (by omega))] at HH
        generalize (R.getD i []).length = n at *
        clear hr hc hm
        go_wp2_with (go_at_call 46; refine HH.out.mono ?_; rintro e w6 ⟨rfl, rfl⟩)
        go_roundg (gk - 1)
        case measure => omega
        case rel => exact ⟨i + 1, by omega, by omega, by go_num, rfl⟩
    · obtain rfl : i = N := by omega
      obtain rfl : T = i := by omega
      have h1 : ¬ (T : Int) < (T : Int) := by omega
      go_wp2
      go_ret
      exact ⟨rfl, rfl⟩
set_option maxHeartbeats 1000000 in
theorem rmq_len (hq : Rq w X h a p e C N L H R G o x t) : Calls Tryz.prog 91 #[.pointer (some ⟨h, 0, none⟩)] w fun en w' => en = .returned (.int .i64 (alls R N).length) ∧ w = w' := by
  obtain ⟨cv, us, ug, m⟩ := hq
  have HM := hid m
  have h8 := m.n8
  clear m
  go_enter Tryz.func91, Tryz.ntmps91
  go_wp2
  go_loopg [3, 4] N (fun gk s3 s4 wr => ∃ i : Nat, i + gk = N ∧ s3 = .int .i64 (alls R i).length ∧ (alls R i).length ≤ 64 * i ∧ s4 = .int .i64 i ∧ wr = w)
  case atStart => exact ⟨0, by omega, rfl, Nat.zero_le _, rfl, rfl⟩
  case round =>
    obtain ⟨i, hi, rfl, hle, rfl, rfl⟩ := hrel
    have c3 := HM.out.c3
    by_cases hlt : i < N
    · have h1 : (i : Int) < (N : Int) := by omega
      obtain ⟨A, c, -, q1, -, hr, hc, hm⟩ := HM.out.at_ hlt
      have h64 := HM.out.r64 i
      have HL := hid (show (alls R (i + 1)).length = (R.getD i []).length + (alls R i).length from by show (R.getD i [] ++ alls R i).length = _; rw [List.length_append])
      generalize (R.getD i []).length = n at *
      generalize (alls R i).length = k at *
      clear hr hc hm
      go_wp2
      go_roundg (gk - 1)
      case measure => omega
      case rel => exact ⟨i + 1, by omega, by rw [HL.out]; go_num, by rw [HL.out]; omega, by go_num, rfl⟩
    · obtain rfl : i = N := by omega
      have h1 : ¬ (i : Int) < (i : Int) := by omega
      go_wp2
      go_ret
      exact ⟨rfl, rfl⟩
set_option maxRecDepth 10000 in
set_option maxHeartbeats 1000000 in
theorem rmq_all (hq : Rq w X h a p e C N L H R G o x t) (h64 : (alls R N).length ≤ 64) : Calls Tryz.prog 45 #[.pointer (some ⟨h, 0, none⟩)] w (Told w (alls R N)) := by
  obtain ⟨cv, us, ug, m⟩ := hq
  have HM := hid m
  have h8 := m.n8
  have HG0 := hid (GrW.refl w nl)
  clear m
  go_enter Tryz.func45, Tryz.ntmps45
  go_wp2
  go_loopg [3, 4] N (fun gk s3 s4 wr => ∃ (i : Nat) (out : List Int) (v : Value), i + gk = N ∧ v = s3 ∧ s4 = .int .i64 i ∧ out ++ alls R gk = alls R N ∧ OwnW wr 3 v (ints out) ∧ GrW w wr nl v)
  case atStart => exact ⟨0, [], _, by omega, rfl, rfl, rfl, ownW_nil _ _, HG0.out⟩
  case round =>
    obtain ⟨i, out, v, hi, rfl, rfl, hal, ho, hg⟩ := hrel
    have HO := hid ho
    have HG := hid hg
    have HAL := hid hal
    obtain ⟨A, c0, e0, -⟩ := ho.read
    rw [ints_length] at e0
    subst e0
    have hlen : (out ++ alls R gk).length ≤ 64 := by rw [hal]; exact h64
    rw [List.length_append] at hlen
    have HMR := hid (HM.out.below HG.out.nilBelow)
    have c3 := HMR.out.c3
    clear ho hg hal
    cases gk with
    | zero =>
      obtain rfl : out = alls R N := by have := HAL.out; rw [show alls R 0 = [] from rfl, List.append_nil] at this; exact this
      obtain rfl : i = N := by omega
      have h1 : ¬ (i : Int) < (i : Int) := by omega
      go_wp2
      go_ret
      exact ⟨_, _, rfl, HO.out, HG.out⟩
    | succ j =>
      have hj : j < N := by omega
      have hl2 : (R.getD j []).length + (alls R j).length = (alls R (j + 1)).length := by show _ = (R.getD j [] ++ alls R j).length; rw [List.length_append]
      have HLE := hid (show out.length + (R.getD j []).length ≤ 64 from by omega)
      have HN2 := hid (show (out ++ R.getD j []) ++ alls R j = alls R N from by rw [List.append_assoc]; exact HAL.out)
      obtain ⟨B, cB, hu, q1, -, hr, hc, hm⟩ := HMR.out.at_ hj
      have HR := hid hr
      have HJL := hid (show j < us.length from by rw [HM.out.lu]; exact hj)
      obtain ⟨n0, hn0⟩ : ∃ n, out.length = n := ⟨_, rfl⟩
      rw [hn0] at HLE HG HO ⊢
      have HN0 := hid hn0
      have wn : IntKind.i64.wrap ((N : Int) - 1) = (N : Int) - 1 := by rw [IntKind.wrap_i64]; omega
      have wj : IntKind.i64.wrap ((N : Int) - 1 - (i : Int)) = (j : Int) := by rw [IntKind.wrap_i64]; omega
      have j0 : (0 : Int) ≤ (j : Int) := by omega
      have h1 : (i : Int) < (N : Int) := by omega
      have hjN : (j : Int) < (N : Int) := by omega
      generalize R.getD j [] = lq at *
      obtain ⟨n2, hnl2⟩ : ∃ n, lq.length = n := ⟨_, rfl⟩
      rw [hnl2] at q1 HLE hc hu
      have HU := hid hu
      have HNL := hid hnl2
      clear hlen hl2 HAL hn0 hnl2 hr
      go_upto_region 5 with fail
      have HOD := hid (show OwnW wr.drew 3 (.slice A n0 c0) (ints out) from HO.out)
      have HRD := hid (show Rw wr.drew B lq from HR.out.draws 1)
      have HGD := hid (show GrW w wr.drew nl (.slice A n0 c0) from HG.out.trans (GrW.of (below_draws (Below.refl _ _) 1) _))
      clear hu
      -- drawn
      refine wp_region_noPanic ?_
      refine wp_region_held_drew (S := fun w' => w'.cell? ⟨h, 3, none⟩ = some (.slice (some ⟨a, 0, none⟩) N cv) ∧ w'.cell? ⟨a, j, none⟩ = some (.slice B n2 cB)) (by kernel_rfl) ?_ (fun hHeld => ?_)
      · exact ⟨c3, q1⟩
      refine tkv 0 (some 14) rfl ?_
      refine tkv 1 (some 15) rfl ?_
      refine tkv 2 (some 16) rfl ?_
      refine tkv 3 (some 17) rfl ?_
      refine tkv 4 (some 18) rfl ?_
      refine tkv 5 (some 19) rfl ?_
      refine tkv 6 (some 20) rfl ?_
      refine tkv 7 (some 21) rfl ?_
      refine tkv 8 (some 22) rfl ?_
      refine tkv 9 (some 23) rfl ?_
      refine tkv 10 (some 24) rfl ?_
      refine tkv 11 (some 25) rfl ?_
      refine tkv 12 (some 26) rfl ?_
      refine tkv 13 (some 27) rfl ?_
      refine tkv 14 (some 28) rfl ?_
      refine tkc 15 (some 29) rfl fun K hK => ?_
      refine wp_appW elt_int (.tmp 14) (.tmp 28) rfl _ _ HOD.out rfl _ _ n2 _ (ints lq) rfl (by rw [ints_length]; exact HNL.out) HRD.out.rd (ints_one _) (by rw [ints_length, HN0.out]; unfold maxLen; have := HLE.out; omega) (by rw [ints_length, HN0.out]; have := HLE.out; omega) ?_
      intro v3 w3 ho3 hg3
      have HO3 := hid ho3
      have HG3 := hid (HGD.out.trans hg3)
      have kp := And.intro (HM.out.below HG3.out.nilBelow).c3 (((HM.out.below HG3.out.nilBelow).row.cellAt HJL.out).1.trans HU.out)
      clear ho3 hg3
      refine hK.out _ _ kp (fun hHeld => ?_)
      clear hK K
      (try simp only [Act.put, tkA, tk0, tk1])
      refine tkv 16 (some 3) rfl ?_
      refine wpAnyH_done (by kernel_rfl) ?_ _
      refine NoPanic.normal ?_
      -- till here
      go_wp2
      go_roundg j
      case measure => omega
      case rel => exact ⟨i + 1, out ++ lq, v3, by omega, rfl, by go_num, HN2.out, by rw [ints_app]; exact HO3.out, HG3.out⟩
end
end Go.Proofs.YtmfdlkkligjcbaaGreat
namespace Go.Proofs.YtmfdlkkligjcbaaGreat
open Go.RowKit

theorem gd_take {S : List (List Int)} {N i : Nat} (h : i < N) : (S.take N).getD i [] = S.getD i [] := by
  rw [List.getD_eq_getElem?_getD, List.getD_eq_getElem?_getD, List.getElem?_take, if_pos h]
theorem alls_take {S : List (List Int)} {N : Nat} : ∀ {n : Nat}, n ≤ N → alls (S.take N) n = alls S n
  | 0, _ => rfl
  | n + 1, h => by
    show (S.take N).getD n [] ++ alls (S.take N) n = S.getD n [] ++ alls S n
    rw [gd_take (by omega), alls_take (by omega)]
/-- the reference's MQ is at these lists -/
def Rs (w : World) (X : Nat → Prop) (h a p e C N L H : Nat) (m : Ms) : Prop :=
  ∃ o' : Int → Int, Rq w X h a p e C N L H (m.S.take N) (m.S.getD 8 []) o' m.x m.t ∧ ∀ b, inS m.S b → o' b = m.o b
section
variable {w w' : World} {X : Nat → Prop} {h a p e C N L H : Nat} {m : Ms}
theorem Rs.below (r : Rs w X h a p e C N L H m) (hb : Below w.heap.size w w') : Rs w' X h a p e C N L H m := by
  obtain ⟨o', hq, ho⟩ := r
  exact ⟨o', hq.below hb, ho⟩
theorem Rs.draws (r : Rs w X h a p e C N L H m) (n : Nat) : Rs (w.drewN n) X h a p e C N L H m := r.below (below_draws (Below.refl _ _) n)
theorem Rs.chg {F F' : Nat → Prop} (r : Rs w X h a p e C N L H m) (hc : Chg w w' F F') (hF : ∀ j, F j → X j) (hn : ∀ j, F j → ¬ Fr h a p e j) : Rs w' X h a p e C N L H m := by
  obtain ⟨o', ⟨cv, us, ug, hm⟩, ho⟩ := r
  exact ⟨o', ⟨cv, us, ug, hm.chg hc hF hn⟩, ho⟩
theorem rs_of_yes (r : Rs w X h a p e C N L H m) (ok : Okm C N L H m) {b : Int} {i : Nat} (hi : i < N) (hb : b ∈ m.S.getD i []) :
    Calls Tryz.prog 89 #[.pointer (some ⟨h, 0, none⟩), .int .i64 b] w fun en w' => en = .returned (.int .i64 i) ∧ w = w' := by
  obtain ⟨o', hq, -⟩ := r
  have := rmq_of hq b i (by omega) (fun j hj hm => by rw [gd_take (by omega)] at hm; have := ok.wf.same hb hm; omega) (fun _ => by rw [gd_take hi]; exact hb)
  rw [if_pos hi] at this
  exact this
theorem rs_of_no (r : Rs w X h a p e C N L H m) {b : Int} (hb : b ∉ m.al) (ok : Okm C N L H m) :
    Calls Tryz.prog 89 #[.pointer (some ⟨h, 0, none⟩), .int .i64 b] w fun en w' => en = .returned (.int .i64 (-1)) ∧ w = w' := by
  obtain ⟨o', hq, -⟩ := r
  have := rmq_of hq b N (Nat.le_refl _) (fun j hj hm => by rw [gd_take hj] at hm; exact hb (mem_alls.2 ⟨j, by have := ok.n; omega, hm⟩)) (fun e => absurd e (Nat.lt_irrefl _))
  rw [if_neg (Nat.lt_irrefl _)] at this
  exact this
theorem rs_all (r : Rs w X h a p e C N L H m) (ok : Okm C N L H m) :
    Calls Tryz.prog 45 #[.pointer (some ⟨h, 0, none⟩)] w (Told w m.al) := by
  obtain ⟨o', hq, -⟩ := r
  have := rmq_all hq (by rw [alls_take (Nat.le_refl _), ok.allsN]; have := ok.cap; have := ok.c; omega)
  rw [alls_take (Nat.le_refl _), ok.allsN] at this
  exact this




















































end
end Go.Proofs.YtmfdlkkligjcbaaGreat
namespace Go.Proofs.YtmfdlkkligjcbaaGreat
open Go.RowKit

/-- the first i lists without a block -/
def mixw (b : Int) (i : Nat) (R : List (List Int)) : List (List Int) := R.mapIdx fun j l => if j < i then wo b l else l
theorem mixw_len (b : Int) (i : Nat) (R : List (List Int)) : (mixw b i R).length = R.length := by simp [mixw]
theorem mixw_at (b : Int) (i : Nat) (R : List (List Int)) (j : Nat) : (mixw b i R)[j]? = R[j]?.map fun l => if j < i then wo b l else l := by
  unfold mixw
  rw [List.getElem?_mapIdx]
theorem mixw_gd (b : Int) (i : Nat) (R : List (List Int)) : (mixw b i R).getD i [] = R.getD i [] := by
  rw [List.getD_eq_getElem?_getD, mixw_at, List.getD_eq_getElem?_getD]
  cases R[i]? with
  | none => rfl
  | some l => simp
theorem mixw_zero (b : Int) (R : List (List Int)) : mixw b 0 R = R := by
  refine List.ext_getElem? fun j => ?_
  rw [mixw_at]
  cases R[j]? with
  | none => rfl
  | some l => simp
theorem mixw_all (b : Int) (R : List (List Int)) : mixw b R.length R = woS b R := by
  refine List.ext_getElem? fun j => ?_
  rw [mixw_at]
  unfold woS
  rw [List.getElem?_map]
  by_cases hj : j < R.length
  · rw [List.getElem?_eq_getElem hj]
    simp [hj]
  · rw [List.getElem?_eq_none (by omega)]
    rfl
theorem mixw_set (b : Int) {i : Nat} {R : List (List Int)} (hi : i < R.length) : (mixw b i R).set i (wo b (R.getD i [])) = mixw b (i + 1) R := by
  refine List.ext_getElem? fun j => ?_
  rw [mixw_at]
  by_cases e : i = j
  · subst e
    rw [List.getElem?_set_self (by rw [mixw_len]; exact hi), gd_some hi]
    simp
  · rw [List.getElem?_set_ne e, mixw_at]
    cases R[j]? with
    | none => rfl
    | some l =>
      simp only [Option.map_some, Option.some.injEq]
      by_cases h1 : j < i
      · rw [if_pos h1, if_pos (by omega)]
      · rw [if_neg h1, if_neg (by omega)]
section
variable {w : World} {X : Nat → Prop} {h a p e C N L H : Nat} {R : List (List Int)} {G : List Int} {o x : Int → Int} {t : Nat}
set_option maxRecDepth 10000 in
set_option maxHeartbeats 2000000 in
theorem rmq_first (hq : Rq w X h a p e C N L H R G o x t) (ht : t ≤ 16000000) (hL : L ≤ 100) {q b : Nat} (hqN : q < N) (hb : b < 64) (h64 : (wo b (R.getD q [])).length < 64) :
    Calls Tryz.prog 93 #[.pointer (some ⟨h, 0, none⟩), .int .i64 q, .int .i64 b] w fun en w' => en = .returned (.tuple #[]) ∧
      Rq w' X h a p e C N L H ((woS b R).set q (b :: wo b (R.getD q []))) (wo b G) o (upd x b (t + L)) t ∧ Chg w w' (Fr h a p e) (Fr h a p e) := by
  obtain ⟨cv, us, ug, m⟩ := hq
  have HM := hid m
  have h8 := m.n8
  have HLEN := hid m.rl
  have HQ64 := hid h64
  have hbb : (b : Int) < 64 := by omega
  clear m h64
  go_enter Tryz.func93, Tryz.ntmps93
  go_wp2
  go_loopg [6] N (fun gk s wr => ∃ i : Nat, i + gk = N ∧ s = .int .i64 i ∧ Chg w wr (Fr h a p e) (Fr h a p e) ∧ ∃ us, Rm wr X h a p e C N L H cv us ug (mixw b i R) G o x t)
  case atStart => exact ⟨0, by omega, rfl, Chg.refl _ _, us, by rw [mixw_zero]; exact HM.out⟩
  case round =>
    obtain ⟨i, hi, rfl, hc, us2, hm⟩ := hrel
    have HC := hid hc
    have HR := hid hm
    have c3 := hm.c3
    clear hc
    by_cases hlt : i < N
    · have h1 : (i : Int) < (N : Int) := by omega
      obtain ⟨A, c, hu, q1, f1, hr, hcc, hcm⟩ := hm.at_ hlt
      have h64 := hm.r64 i
      have HMS := hid (mixw_set (b : Int) (show i < R.length from by rw [HLEN.out]; exact hlt))
      rw [mixw_gd] at hu q1 hr hcc h64
      have HRW := hid hr
      have HLT := hid hlt
      have HU := hid hu
      have HJL := hid (show i < us2.length from by rw [hm.lu]; exact hlt)
      generalize R.getD i [] = l at *
      obtain ⟨n, hn⟩ : ∃ n, l.length = n := ⟨_, rfl⟩
      rw [hn] at hu q1 hcc h64 HU
      have HN := hid hn
      clear hm hu hr hn
      have HRD := hid (show Rm wr.drew X h a p e C N L H cv us2 ug (mixw b i R) G o x t from HR.out.draws 1)
      have HWD := hid (show Rw wr.drew A l from HRW.out.draws 1)
      have HCD := hid (show Chg w wr.drew (Fr h a p e) (Fr h a p e) from Chg.draws HC.out 1)
      go_upto_region 3 with fail
      -- drawn one
      refine wp_region_noPanic ?_
      refine wp_region_held_drew (S := fun w' => w'.cell? ⟨h, 3, none⟩ = some (.slice (some ⟨a, 0, none⟩) N cv)) (by kernel_rfl) ?_ (fun hHeld => ?_)
      · exact c3
      refine tkv 0 (some 16) rfl ?_
      refine tkv 1 (some 17) rfl ?_
      refine tkv 2 (some 18) rfl ?_
      refine tkv 3 (some 19) rfl ?_
      refine tkv 4 (some 20) rfl ?_
      refine tkv 5 (some 21) rfl ?_
      refine tkv 6 (some 22) rfl ?_
      refine tkv 7 (some 23) rfl ?_
      refine tkv 8 (some 24) rfl ?_
      refine tkv 9 (some 25) rfl ?_
      refine tkv 10 (some 26) rfl ?_
      refine tkv 12 (some 28) rfl ?_
      refine tkc 11 (some 27) rfl fun K hK => ?_
      go_simp
      refine hK.out _ _ hHeld (fun hHeld => ?_)
      clear hK K
      (try simp only [Act.put, tkA, tk0, tk1])
      refine tkc 13 (some 29) rfl fun K hK => ?_
      go_simp
      refine (without_any _ A n c l b HN.out h64 HWD.out.rd).mono ?_
      rintro e2 w2 ⟨A2, c2, rfl, ho, hg⟩
      have HR2 := hid (HRD.out.below hg.nilBelow)
      have HU2 := hid (Rt.told HRD.out.xb ho hg)
      have HC2 := hid (HCD.out.trans (Chg.of hg.nilBelow _))
      have kp := HR2.out.c3
      have f2 := (HR2.out.row.cellAt HJL.out).2
      have xc := (HR2.out.row.cellAt HJL.out).1.trans HU.out
      have HR3 := hid (HR2.out.setR HLT.out HU2.out (Nat.le_trans (wo_le _ _) (by rw [HN.out]; exact h64)))
      have HC3 := hid (chg_in HC2.out (fr_a (h := h) (p := p) (e := e)) i (.slice A2 (wo (↑b) l).length c2))
      have kq := HR3.out.c3
      clear ho hg
      go_simp
      refine hK.out _ _ kp (fun hHeld => ?_)
      clear hK K
      (try simp only [Act.put, tkA, tk0, tk1])
      refine tkv 14 (some 30) rfl ?_
      refine tkc 15 (none) rfl fun K hK => ?_
      go_simp
      refine hK.out _ _ kq (fun hHeld => ?_)
      clear hK K
      (try simp only [Act.put, tkA, tk0, tk1])
      refine wpAnyH_done (by kernel_rfl) ?_ _
      refine NoPanic.normal ?_
      -- till one
      rw [HMS.out] at HR3
      go_wp2
      go_roundg (gk - 1)
      case measure => omega
      case rel => exact ⟨i + 1, by omega, by go_num, HC3.out, _, HR3.out⟩
    · obtain rfl : N = i := by omega
      have h1 : ¬ (N : Int) < (N : Int) := by omega
      go_upto_region 4 with fail
      have hr := HR.out
      rw [show mixw (↑b) N R = woS b R from by rw [← HLEN.out]; exact mixw_all _ _] at hr
      obtain ⟨gA, gc, rfl, hgr, hgc, hgm, -⟩ := hr.gh
      have HRN := hid hr
      have HGR := hid hgr
      have hg64 := hr.g64
      have c4 := hr.c4
      have HQN := hid hqN
      obtain ⟨ng, hng⟩ : ∃ n, G.length = n := ⟨_, rfl⟩
      rw [hng] at c4 hgc hg64
      have HNG := hid hng
      have HOFF := hid hr.gh
      clear HR hr hgr hng hlt hi c3
      go_upto_region 5 with (go_at_call 87; refine (without_any _ gA ng gc G b HNG.out hg64 HGR.out.rd).mono ?_; rintro e2 w2 ⟨A2, c2, rfl, ho, hg⟩; have HR2 := hid (HRN.out.below hg.nilBelow); have HU2 := hid (Rt.told HRN.out.xb ho hg); have HC2 := hid (HC.out.trans (Chg.of hg.nilBelow _)); have d4 := HR2.out.c4; rw [HNG.out] at d4; have f4 := HR2.out.fr; clear ho hg)
      have HR3 := hid (HR2.out.setG HU2.out (Nat.le_trans (wo_le _ _) (by rw [HNG.out]; exact hg64)))
      have HC3 := hid (chg_in HC2.out (fr_h (a := a) (p := p) (e := e)) 4 (.slice A2 (wo (↑b) G).length c2))
      generalize w2.setCell ⟨h, 4, none⟩ (.slice A2 (wo (↑b) G).length c2) = w3 at *
      clear d4 f4 c4
      have c3 := HR3.out.c3
      obtain ⟨A, c, hu, q1, f1, hrw, hcc, hcm⟩ := HR3.out.at_ HQN.out
      rw [gd_wo] at hu q1 hrw hcc
      have HRW := hid hrw
      have HU := hid hu
      have HJL : Hid (q < us2.length) := hid (by rw [HR3.out.lu]; exact HQN.out)
      have HWS := hid (show (woS (↑b) R).getD q [] = wo (↑b) (R.getD q []) from gd_wo _ _ _)
      generalize hlq : wo (↑b) (R.getD q []) = l at *
      have HLQ := hid hlq
      obtain ⟨n, hn⟩ : ∃ n, l.length = n := ⟨_, rfl⟩
      rw [hn] at hu q1 hcc HU HQ64
      have HN := hid hn
      have h64 : n ≤ 64 := by have := HQ64.out; omega
      have hn64 : n + 1 ≤ 64 := HQ64.out
      clear hu hrw hn hlq
      have HRD := hid (show Rm w3.drew X h a p e C N L H cv us2 (.slice A2 (wo (↑b) G).length c2) (woS b R) (wo b G) o x t from HR3.out.draws 1)
      have HWD := hid (show Rw w3.drew A l from HRW.out.draws 1)
      have HCD := hid (show Chg w w3.drew (Fr h a p e) (Fr h a p e) from Chg.draws HC3.out 1)
      -- drawn two
      refine wp_region_noPanic ?_
      refine wp_region_held_drew (S := fun w' => w'.cell? ⟨h, 3, none⟩ = some (.slice (some ⟨a, 0, none⟩) N cv)) (by kernel_rfl) ?_ (fun hHeld => ?_)
      · exact c3
      refine tkv 0 (some 40) rfl ?_
      refine tkv 1 (some 41) rfl ?_
      refine tkv 2 (some 42) rfl ?_
      refine tkv 3 (some 43) rfl ?_
      refine tkv 4 (some 44) rfl ?_
      refine tkv 5 (some 45) rfl ?_
      refine tkv 6 (some 46) rfl ?_
      refine tkv 7 (some 47) rfl ?_
      refine tkv 8 (some 48) rfl ?_
      refine tkv 9 (some 49) rfl ?_
      refine tkv 10 (some 50) rfl ?_
      refine tkv 12 (some 52) rfl ?_
      refine tkc 11 (some 51) rfl fun K hK => ?_
      go_simp
      refine hK.out _ _ hHeld (fun hHeld => ?_)
      clear hK K
      (try simp only [Act.put, tkA, tk0, tk1])
      refine tkc 13 (some 53) rfl fun K hK => ?_
      go_simp
      refine (ahead_any _ A n c l b HN.out h64 HWD.out.rd).mono ?_
      rintro e2 w2 ⟨A2, c2, rfl, ho, hg⟩
      have HR2 := hid (HRD.out.below hg.nilBelow)
      have HU2 := hid (Rt.told HRD.out.xb ho hg)
      have HC2 := hid (HCD.out.trans (Chg.of hg.nilBelow _))
      have kp := HR2.out.c3
      have f2 := (HR2.out.row.cellAt HJL.out).2
      have xc := (HR2.out.row.cellAt HJL.out).1.trans HU.out
      have HR3 := hid (HR2.out.setR HQN.out HU2.out (by rw [List.length_cons, HN.out]; exact hn64))
      have HC3 := hid (chg_in HC2.out (fr_a (h := h) (p := p) (e := e)) q (.slice A2 ((b : Int) :: l).length c2))
      have kq := HR3.out.c3
      clear ho hg
      go_simp
      refine hK.out _ _ kp (fun hHeld => ?_)
      clear hK K
      (try simp only [Act.put, tkA, tk0, tk1])
      refine tkv 14 (some 54) rfl ?_
      refine tkc 15 (none) rfl fun K hK => ?_
      go_simp
      refine hK.out _ _ kq (fun hHeld => ?_)
      clear hK K
      (try simp only [Act.put, tkA, tk0, tk1])
      refine wpAnyH_done (by kernel_rfl) ?_ _
      refine NoPanic.normal ?_
      -- till two
      have HR5 := HR3
      have HC5 := HC3
      generalize w2.setCell ⟨a, q, none⟩ (.slice A2 ((b : Int) :: l).length c2) = w5 at *
      clear c3 q1 f1 kp kq f2 xc
      have c1 := HR5.out.c1
      have c6 := HR5.out.c6
      have c7 := HR5.out.c7
      have cx := HR5.out.cx hb
      have fx := HR5.out.exp.free
      go_upto_region 6 with fail
      go_region
      go_wp2
      exact bodyPost_end (results_none rfl _ _ _) rfl ⟨rfl, ⟨_, _, _, by rw [HLQ.out]; exact (HR5.out.setX (b := b) ((t : Int) + L)).draws 1⟩, Chg.draws (chg_in HC5.out fr_e _ _) 1⟩
end
end Go.Proofs.YtmfdlkkligjcbaaGreat
