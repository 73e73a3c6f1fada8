/-
  What is proved: the reference's Of, Len, All, Times. Condition: its MQ lies in memory as one.
-/
import Derived.Test.YtlafhejnnilpmaaRg12
namespace Go.Proofs.Ytlafhejnnilpmaa
open Go.RowKit

section
variable {w : World} {X : Nat → Prop} {h a p e C N L H : Nat} {R : List (List Int)} {G : List Int} {o x : Int → Int} {t : Nat}
set_option maxHeartbeats 1000000 in
theorem rmq_of (hq : Rq w X h a p e C N L H R G o x t) (b : Int) (T : Nat) (hT : T ≤ N) (hno : ∀ j, j < T → b ∉ R.getD j []) (hyes : T < N → b ∈ R.getD T []) :
    Calls Try.prog 20 #[.pointer (some ⟨h, 0, none⟩), .int .i64 b] w fun en w' => en = .returned (.int .i64 (if T < N then (T : Int) else -1)) ∧ w = w' := by
  obtain ⟨cv, us, ug, m⟩ := hq
  have HM := hid m
  have HNO := hid hno
  have HY := hid hyes
  have h8 := m.n8
  clear m hno hyes
  go_enter Try.func20, Try.ntmps20
  go_wp2
  go_loopg [5] N (fun gk s wr => ∃ i : Nat, i + gk = N ∧ i ≤ T ∧ s = .int .i64 i ∧ wr = w)
  case atStart => exact ⟨0, by omega, Nat.zero_le _, rfl, rfl⟩
  case round =>
    obtain ⟨i, hi, hiT, rfl, rfl⟩ := hrel
    have c3 := HM.out.c3
    by_cases hlt : i < N
    · have h1 : (i : Int) < (N : Int) := by omega
      obtain ⟨A, c, -, q1, -, hr, hc, hm⟩ := HM.out.at_ hlt
      have HR := hid hr
      have h64 := HM.out.r64 i
      by_cases hTi : i = T
      · subst hTi
        have HH := hid (rhas_any A _ c (R.getD i []) b wr _ rfl (by unfold maxLen; omega) HR.out.rd)
        rw [dec_true (HY.out hlt)] at HH
        generalize (R.getD i []).length = n at *
        clear hr hc hm
        go_wp2_with (go_at_call 27; refine HH.out.mono ?_; rintro e w6 ⟨rfl, rfl⟩)
        go_ret
        exact ⟨rfl, rfl⟩
      · have HH := hid (rhas_any A _ c (R.getD i []) b wr _ rfl (by unfold maxLen; omega) HR.out.rd)
        rw [dec_false (HNO.out i (by omega))] at HH
        generalize (R.getD i []).length = n at *
        clear hr hc hm
        go_wp2_with (go_at_call 27; refine HH.out.mono ?_; rintro e w6 ⟨rfl, rfl⟩)
        go_roundg (gk - 1)
        case measure => omega
        case rel => exact ⟨i + 1, by omega, by omega, by go_num, rfl⟩
    · obtain rfl : i = N := by omega
      obtain rfl : T = i := by omega
      have h1 : ¬ (T : Int) < (T : Int) := by omega
      go_wp2
      go_ret
      exact ⟨rfl, rfl⟩
set_option maxHeartbeats 1000000 in
theorem rmq_len (hq : Rq w X h a p e C N L H R G o x t) : Calls Try.prog 34 #[.pointer (some ⟨h, 0, none⟩)] w fun en w' => en = .returned (.int .i64 (alls R N).length) ∧ w = w' := by
  obtain ⟨cv, us, ug, m⟩ := hq
  have HM := hid m
  have h8 := m.n8
  clear m
  go_enter Try.func34, Try.ntmps34
  go_wp2
  go_loopg [3, 4] N (fun gk s3 s4 wr => ∃ i : Nat, i + gk = N ∧ s3 = .int .i64 (alls R i).length ∧ (alls R i).length ≤ 64 * i ∧ s4 = .int .i64 i ∧ wr = w)
  case atStart => exact ⟨0, by omega, rfl, Nat.zero_le _, rfl, rfl⟩
  case round =>
    obtain ⟨i, hi, rfl, hle, rfl, rfl⟩ := hrel
    have c3 := HM.out.c3
    by_cases hlt : i < N
    · have h1 : (i : Int) < (N : Int) := by omega
      obtain ⟨A, c, -, q1, -, hr, hc, hm⟩ := HM.out.at_ hlt
      have h64 := HM.out.r64 i
      have HL := hid (show (alls R (i + 1)).length = (R.getD i []).length + (alls R i).length from by show (R.getD i [] ++ alls R i).length = _; rw [List.length_append])
      generalize (R.getD i []).length = n at *
      generalize (alls R i).length = k at *
      clear hr hc hm
      go_wp2
      go_roundg (gk - 1)
      case measure => omega
      case rel => exact ⟨i + 1, by omega, by rw [HL.out]; go_num, by rw [HL.out]; omega, by go_num, rfl⟩
    · obtain rfl : i = N := by omega
      have h1 : ¬ (i : Int) < (i : Int) := by omega
      go_wp2
      go_ret
      exact ⟨rfl, rfl⟩
set_option maxRecDepth 10000 in
set_option maxHeartbeats 1000000 in
theorem rmq_all (hq : Rq w X h a p e C N L H R G o x t) (h64 : (alls R N).length ≤ 64) : Calls Try.prog 39 #[.pointer (some ⟨h, 0, none⟩)] w (Told w (alls R N)) := by
  obtain ⟨cv, us, ug, m⟩ := hq
  have HM := hid m
  have h8 := m.n8
  have HG0 := hid (GrW.refl w nl)
  clear m
  go_enter Try.func39, Try.ntmps39
  go_wp2
  go_loopg [3, 4] N (fun gk s3 s4 wr => ∃ (i : Nat) (out : List Int) (v : Value), i + gk = N ∧ v = s3 ∧ s4 = .int .i64 i ∧ out ++ alls R gk = alls R N ∧ OwnW wr 3 v (ints out) ∧ GrW w wr nl v)
  case atStart => exact ⟨0, [], _, by omega, rfl, rfl, rfl, ownW_nil _ _, HG0.out⟩
  case round =>
    obtain ⟨i, out, v, hi, rfl, rfl, hal, ho, hg⟩ := hrel
    have HO := hid ho
    have HG := hid hg
    have HAL := hid hal
    obtain ⟨A, c0, e0, -⟩ := ho.read
    rw [ints_length] at e0
    subst e0
    have hlen : (out ++ alls R gk).length ≤ 64 := by rw [hal]; exact h64
    rw [List.length_append] at hlen
    have HMR := hid (HM.out.below HG.out.nilBelow)
    have c3 := HMR.out.c3
    clear ho hg hal
    cases gk with
    | zero =>
      obtain rfl : out = alls R N := by have := HAL.out; rw [show alls R 0 = [] from rfl, List.append_nil] at this; exact this
      obtain rfl : i = N := by omega
      have h1 : ¬ (i : Int) < (i : Int) := by omega
      go_wp2
      go_ret
      exact ⟨_, _, rfl, HO.out, HG.out⟩
    | succ j =>
      have hj : j < N := by omega
      have hl2 : (R.getD j []).length + (alls R j).length = (alls R (j + 1)).length := by show _ = (R.getD j [] ++ alls R j).length; rw [List.length_append]
      have HLE := hid (show out.length + (R.getD j []).length ≤ 64 from by omega)
      have HN2 := hid (show (out ++ R.getD j []) ++ alls R j = alls R N from by rw [List.append_assoc]; exact HAL.out)
      obtain ⟨B, cB, hu, q1, -, hr, hc, hm⟩ := HMR.out.at_ hj
      have HR := hid hr
      have HJL := hid (show j < us.length from by rw [HM.out.lu]; exact hj)
      obtain ⟨n0, hn0⟩ : ∃ n, out.length = n := ⟨_, rfl⟩
      rw [hn0] at HLE HG HO ⊢
      have HN0 := hid hn0
      have wn : IntKind.i64.wrap ((N : Int) - 1) = (N : Int) - 1 := by rw [IntKind.wrap_i64]; omega
      have wj : IntKind.i64.wrap ((N : Int) - 1 - (i : Int)) = (j : Int) := by rw [IntKind.wrap_i64]; omega
      have j0 : (0 : Int) ≤ (j : Int) := by omega
      have h1 : (i : Int) < (N : Int) := by omega
      have hjN : (j : Int) < (N : Int) := by omega
      generalize R.getD j [] = lq at *
      obtain ⟨n2, hnl2⟩ : ∃ n, lq.length = n := ⟨_, rfl⟩
      rw [hnl2] at q1 HLE hc hu
      have HU := hid hu
      have HNL := hid hnl2
      clear hlen hl2 HAL hn0 hnl2 hr
      go_upto_region 5 with fail
      have HOD := hid (show OwnW wr.drew 3 (.slice A n0 c0) (ints out) from HO.out)
      have HRD := hid (show Rw wr.drew B lq from HR.out.draws 1)
      have HGD := hid (show GrW w wr.drew nl (.slice A n0 c0) from HG.out.trans (GrW.of (below_draws (Below.refl _ _) 1) _))
      clear hu
      -- drawn
      refine wp_region_noPanic ?_
      refine wp_region_held_drew (S := fun w' => w'.cell? ⟨h, 3, none⟩ = some (.slice (some ⟨a, 0, none⟩) N cv) ∧ w'.cell? ⟨a, j, none⟩ = some (.slice B n2 cB)) (by kernel_rfl) ?_ (fun hHeld => ?_)
      · exact ⟨c3, q1⟩
      refine wpAnyH_take (i := 0) (oi := ⟨some 14, _, _, _, _, _⟩) (v := ?_) rfl (by kernel_rfl) (by kernel_rfl) (by kernel_rfl) (fun _ _ _ h => h) (Or.inl ⟨by rfl, ?_⟩) (by assumption) ?_
      rotate_left 1
      · intro w0 hSw
        obtain ⟨s0, s1⟩ := hSw
        go_simp
        try with_reducible rfl
      (try simp only [Act.put, List.setIfInBounds_toArray, List.set_cons_zero, List.set_cons_succ])
      refine wpAnyH_take (i := 1) (oi := ⟨some 15, _, _, _, _, _⟩) (v := ?_) rfl (by kernel_rfl) (by kernel_rfl) (by kernel_rfl) (fun _ _ _ h => h) (Or.inl ⟨by rfl, ?_⟩) (by assumption) ?_
      rotate_left 1
      · intro w0 hSw
        obtain ⟨s0, s1⟩ := hSw
        go_simp
        try with_reducible rfl
      (try simp only [Act.put, List.setIfInBounds_toArray, List.set_cons_zero, List.set_cons_succ])
      refine wpAnyH_take (i := 2) (oi := ⟨some 16, _, _, _, _, _⟩) (v := ?_) rfl (by kernel_rfl) (by kernel_rfl) (by kernel_rfl) (fun _ _ _ h => h) (Or.inl ⟨by rfl, ?_⟩) (by assumption) ?_
      rotate_left 1
      · intro w0 hSw
        obtain ⟨s0, s1⟩ := hSw
        go_simp
        try with_reducible rfl
      (try simp only [Act.put, List.setIfInBounds_toArray, List.set_cons_zero, List.set_cons_succ])
      refine wpAnyH_take (i := 3) (oi := ⟨some 17, _, _, _, _, _⟩) (v := ?_) rfl (by kernel_rfl) (by kernel_rfl) (by kernel_rfl) (fun _ _ _ h => h) (Or.inl ⟨by rfl, ?_⟩) (by assumption) ?_
      rotate_left 1
      · intro w0 hSw
        obtain ⟨s0, s1⟩ := hSw
        go_simp
        try with_reducible rfl
      (try simp only [Act.put, List.setIfInBounds_toArray, List.set_cons_zero, List.set_cons_succ])
      refine wpAnyH_take (i := 4) (oi := ⟨some 18, _, _, _, _, _⟩) (v := ?_) rfl (by kernel_rfl) (by kernel_rfl) (by kernel_rfl) (fun _ _ _ h => h) (Or.inl ⟨by rfl, ?_⟩) (by assumption) ?_
      rotate_left 1
      · intro w0 hSw
        obtain ⟨s0, s1⟩ := hSw
        go_simp
        try with_reducible rfl
      (try simp only [Act.put, List.setIfInBounds_toArray, List.set_cons_zero, List.set_cons_succ])
      refine wpAnyH_take (i := 5) (oi := ⟨some 19, _, _, _, _, _⟩) (v := ?_) rfl (by kernel_rfl) (by kernel_rfl) (by kernel_rfl) (fun _ _ _ h => h) (Or.inl ⟨by rfl, ?_⟩) (by assumption) ?_
      rotate_left 1
      · intro w0 hSw
        obtain ⟨s0, s1⟩ := hSw
        go_simp
        try with_reducible rfl
      (try simp only [Act.put, List.setIfInBounds_toArray, List.set_cons_zero, List.set_cons_succ])
      refine wpAnyH_take (i := 6) (oi := ⟨some 20, _, _, _, _, _⟩) (v := ?_) rfl (by kernel_rfl) (by kernel_rfl) (by kernel_rfl) (fun _ _ _ h => h) (Or.inl ⟨by rfl, ?_⟩) (by assumption) ?_
      rotate_left 1
      · intro w0 hSw
        obtain ⟨s0, s1⟩ := hSw
        go_simp
        try with_reducible rfl
      (try simp only [Act.put, List.setIfInBounds_toArray, List.set_cons_zero, List.set_cons_succ])
      refine wpAnyH_take (i := 7) (oi := ⟨some 21, _, _, _, _, _⟩) (v := ?_) rfl (by kernel_rfl) (by kernel_rfl) (by kernel_rfl) (fun _ _ _ h => h) (Or.inl ⟨by rfl, ?_⟩) (by assumption) ?_
      rotate_left 1
      · intro w0 hSw
        obtain ⟨s0, s1⟩ := hSw
        go_simp
        try with_reducible rfl
      (try simp only [Act.put, List.setIfInBounds_toArray, List.set_cons_zero, List.set_cons_succ])
      refine wpAnyH_take (i := 8) (oi := ⟨some 22, _, _, _, _, _⟩) (v := ?_) rfl (by kernel_rfl) (by kernel_rfl) (by kernel_rfl) (fun _ _ _ h => h) (Or.inl ⟨by rfl, ?_⟩) (by assumption) ?_
      rotate_left 1
      · intro w0 hSw
        obtain ⟨s0, s1⟩ := hSw
        go_simp
        try with_reducible rfl
      (try simp only [Act.put, List.setIfInBounds_toArray, List.set_cons_zero, List.set_cons_succ])
      refine wpAnyH_take (i := 9) (oi := ⟨some 23, _, _, _, _, _⟩) (v := ?_) rfl (by kernel_rfl) (by kernel_rfl) (by kernel_rfl) (fun _ _ _ h => h) (Or.inl ⟨by rfl, ?_⟩) (by assumption) ?_
      rotate_left 1
      · intro w0 hSw
        obtain ⟨s0, s1⟩ := hSw
        go_simp
        try with_reducible rfl
      (try simp only [Act.put, List.setIfInBounds_toArray, List.set_cons_zero, List.set_cons_succ])
      refine wpAnyH_take (i := 10) (oi := ⟨some 24, _, _, _, _, _⟩) (v := ?_) rfl (by kernel_rfl) (by kernel_rfl) (by kernel_rfl) (fun _ _ _ h => h) (Or.inl ⟨by rfl, ?_⟩) (by assumption) ?_
      rotate_left 1
      · intro w0 hSw
        obtain ⟨s0, s1⟩ := hSw
        go_simp
        try with_reducible rfl
      (try simp only [Act.put, List.setIfInBounds_toArray, List.set_cons_zero, List.set_cons_succ])
      refine wpAnyH_take (i := 11) (oi := ⟨some 25, _, _, _, _, _⟩) (v := ?_) rfl (by kernel_rfl) (by kernel_rfl) (by kernel_rfl) (fun _ _ _ h => h) (Or.inl ⟨by rfl, ?_⟩) (by assumption) ?_
      rotate_left 1
      · intro w0 hSw
        obtain ⟨s0, s1⟩ := hSw
        go_simp
        try with_reducible rfl
      (try simp only [Act.put, List.setIfInBounds_toArray, List.set_cons_zero, List.set_cons_succ])
      refine wpAnyH_take (i := 12) (oi := ⟨some 26, _, _, _, _, _⟩) (v := ?_) rfl (by kernel_rfl) (by kernel_rfl) (by kernel_rfl) (fun _ _ _ h => h) (Or.inl ⟨by rfl, ?_⟩) (by assumption) ?_
      rotate_left 1
      · intro w0 hSw
        obtain ⟨s0, s1⟩ := hSw
        go_simp
        try with_reducible rfl
      (try simp only [Act.put, List.setIfInBounds_toArray, List.set_cons_zero, List.set_cons_succ])
      refine wpAnyH_take (i := 13) (oi := ⟨some 27, _, _, _, _, _⟩) (v := ?_) rfl (by kernel_rfl) (by kernel_rfl) (by kernel_rfl) (fun _ _ _ h => h) (Or.inl ⟨by rfl, ?_⟩) (by assumption) ?_
      rotate_left 1
      · intro w0 hSw
        obtain ⟨s0, s1⟩ := hSw
        go_simp
        try with_reducible rfl
      (try simp only [Act.put, List.setIfInBounds_toArray, List.set_cons_zero, List.set_cons_succ])
      refine wpAnyH_take (i := 14) (oi := ⟨some 28, _, _, _, _, _⟩) (v := ?_) rfl (by kernel_rfl) (by kernel_rfl) (by kernel_rfl) (fun _ _ _ h => h) (Or.inl ⟨by rfl, ?_⟩) (by assumption) ?_
      rotate_left 1
      · intro w0 hSw
        obtain ⟨s0, s1⟩ := hSw
        go_simp
        try with_reducible rfl
      (try simp only [Act.put, List.setIfInBounds_toArray, List.set_cons_zero, List.set_cons_succ])
      refine wpAnyH_ready (rs := [15]) (by kernel_rfl) (by simp) ?_
      refine AllReadyH.cons (o := ⟨some 29, _, _, _, _, _⟩) rfl (fun K hK => ?_) AllReadyH.nil
      rw [if_pos (by rfl)]
      refine wp_appW elt_int (.tmp 14) (.tmp 28) rfl _ _ HOD.out rfl _ _ n2 _ (ints lq) rfl (by rw [ints_length]; exact HNL.out) HRD.out.rd (ints_one _) (by rw [ints_length, HN0.out]; unfold maxLen; have := HLE.out; omega) (by rw [ints_length, HN0.out]; have := HLE.out; omega) ?_
      intro v3 w3 ho3 hg3
      have HO3 := hid ho3
      have HG3 := hid (HGD.out.trans hg3)
      have kp := And.intro (HM.out.below HG3.out.nilBelow).c3 (((HM.out.below HG3.out.nilBelow).row.cellAt HJL.out).1.trans HU.out)
      clear ho3 hg3
      refine hK.out _ _ kp (fun hHeld => ?_)
      clear hK K
      (try simp only [Act.put, List.setIfInBounds_toArray, List.set_cons_zero, List.set_cons_succ])
      refine wpAnyH_take (i := 16) (oi := ⟨some 3, _, _, _, _, _⟩) (v := ?_) rfl (by kernel_rfl) (by kernel_rfl) (by kernel_rfl) (fun _ _ _ h => h) (Or.inl ⟨by rfl, ?_⟩) (by assumption) ?_
      rotate_left 1
      · intro w0 hSw
        obtain ⟨s0, s1⟩ := hSw
        go_simp
        try with_reducible rfl
      (try simp only [Act.put, List.setIfInBounds_toArray, List.set_cons_zero, List.set_cons_succ])
      refine wpAnyH_done (by kernel_rfl) ?_ _
      refine NoPanic.normal ?_
      -- till here
      go_wp2
      go_roundg j
      case measure => omega
      case rel => exact ⟨i + 1, out ++ lq, v3, by omega, rfl, by go_num, HN2.out, by rw [ints_app]; exact HO3.out, HG3.out⟩
end
end Go.Proofs.Ytlafhejnnilpmaa
