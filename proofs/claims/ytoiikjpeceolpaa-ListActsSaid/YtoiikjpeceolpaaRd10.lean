/-
  What is proved: the reference's Do: Front, Back, Remove. Condition: the space lies in memory as one, its lists share no block.
-/
import Derived.Test.YtoiikjpeceolpaaRf10
import Derived.Test.YtoiikjpeceolpaaLk10
import Derived.Deep.RegionHeld3
import Derived.Deep.RegionLaw
import Derived.Deep.CutBlock
import Derived.Deep.DeepCutAuto
namespace Go.Proofs.Ytoiikjpeceolpaa
open Go.RowKit

noncomputable def doE (κ x y : Int) (S : List (List Int)) : Int := if κ = 2 then remE S y else putE S x y
def doS (κ x y : Int) (S : List (List Int)) : List (List Int) := if κ = 0 then frontS S x y else if κ = 1 then backS S x y else woS y S
/-- behind an act -/
def RoP (k : Nat) (v : Value) (us : List Value) (S : List (List Int)) (κ x y : Int) (w : World) (e : Ending) (w' : World) : Prop :=
  e = .returned (.int .i64 (doE κ x y S)) ∧ ∃ us', Lr w' k v us' (doS κ x y S) ∧ Chg w w' (Ft k v us) (Ft k v us')
theorem wf_front {S : List (List Int)} (h : Wf S) (x y : Int) : Wf (frontS S x y) := by
  unfold frontS
  split
  · rename_i ho
    obtain ⟨i, p, l, rfl, rfl, hp, hl, hd⟩ := ok_at ho
    rw [Int.toNat_natCast, hd]
    have hn : (p : Int) ∉ l := fun hm => woS_not _ _ ⟨i, l, hl, hm⟩
    exact (h.wo _).put ho.2 (woS_not _ _) hl (fun z => by simp) (List.nodup_cons.2 ⟨hn, (h.wo _).nd i l hl⟩)
  · exact h
theorem wf_back {S : List (List Int)} (h : Wf S) (x y : Int) : Wf (backS S x y) := by
  unfold backS
  split
  · rename_i ho
    obtain ⟨i, p, l, rfl, rfl, hp, hl, hd⟩ := ok_at ho
    rw [Int.toNat_natCast, hd]
    have hn : (p : Int) ∉ l := fun hm => woS_not _ _ ⟨i, l, hl, hm⟩
    refine (h.wo _).put ho.2 (woS_not _ _) hl (fun z => by simp [or_comm]) ?_
    rw [List.nodup_append]
    exact ⟨(h.wo _).nd i l hl, by simp, fun z hz z' hz' => by rw [List.mem_singleton.1 hz']; exact fun e => hn (e ▸ hz)⟩
  · exact h
theorem wf_do {S : List (List Int)} (h : Wf S) (κ x y : Int) : Wf (doS κ x y S) := by
  unfold doS
  split
  · exact wf_front h x y
  · split
    · exact wf_back h x y
    · exact h.wo y
/-- behind the block's leaving its list -/
def CutP (w : World) (k : Nat) (v : Value) (us : List Value) (S1 : List (List Int)) (wx : World) : Prop := ∃ us1 y, y = wx ∧ Lr y k v us1 S1 ∧ Chg w y (Ft k v us) (Ft k v us1)
section
variable {w : World} {k : Nat} {v : Value} {us : List Value} {S : List (List Int)}
set_option maxHeartbeats 1000000 in
theorem rdo_bad (κ x y : Int) (hy : ¬ vb y) : Calls Try.prog 12 #[.pointer (some ⟨k, 0, none⟩), .int .i64 κ, .int .i64 x, .int .i64 y] w (fun e w' => e = .returned (.int .i64 3) ∧ w = w') := by
  unfold vb at hy
  by_cases h0 : y < 0
  · have d1 : decide (y < 0) = true := by simpa using h0
    clear hy
    go_enter Try.func12, Try.ntmps12
    go_wp2
    go_ret
    exact ⟨rfl, rfl⟩
  · have d1 : decide (y < 0) = false := by simpa using h0
    have d2 : decide (63 < y) = true := by simp; omega
    clear hy h0
    go_enter Try.func12, Try.ntmps12
    go_wp2
    go_ret
    exact ⟨rfl, rfl⟩
set_option maxHeartbeats 1000000 in
theorem rdo_out (h : Lr w k v us S) (κ x y : Int) (hκ : κ < 2) (hy : vb y) (hx : ¬ isl S x) : Calls Try.prog 12 #[.pointer (some ⟨k, 0, none⟩), .int .i64 κ, .int .i64 x, .int .i64 y] w (fun e w' => e = .returned (.int .i64 3) ∧ w = w') := by
  obtain ⟨y0, y1⟩ := hy
  obtain ⟨A, c, -, c0, -⟩ := Lr.cells h
  unfold isl at hx
  have d1 : decide (y < 0) = false := by simpa using y0
  have d2 : decide (63 < y) = false := by simp; omega
  have d3 : decide (κ < 2) = true := by simpa using hκ
  clear h
  generalize S.length = n at *
  by_cases h0 : x < 0
  · have d4 : decide (x < 0) = true := by simpa using h0
    clear hx hκ y0 y1
    go_enter Try.func12, Try.ntmps12
    go_wp2
    go_ret
    exact ⟨rfl, rfl⟩
  · have d4 : decide (x < 0) = false := by simpa using h0
    have d5 : decide ((n : Int) ≤ x) = true := by simp; omega
    clear hx hκ y0 y1 h0
    go_enter Try.func12, Try.ntmps12
    go_wp2
    go_ret
    exact ⟨rfl, rfl⟩
set_option maxHeartbeats 1000000 in
theorem rdo_none (h : Lr w k v us S) (x y : Int) (hy : vb y) (hn : ¬ inS S y) : Calls Try.prog 12 #[.pointer (some ⟨k, 0, none⟩), .int .i64 2, .int .i64 x, .int .i64 y] w (fun e w' => e = .returned (.int .i64 5) ∧ w = w') := by
  obtain ⟨y0, y1⟩ := hy
  have HO := hid (rof_no h hn)
  have d1 : decide (y < 0) = false := by simpa using y0
  have d2 : decide (63 < y) = false := by simp; omega
  clear h hn y0 y1
  go_enter Try.func12, Try.ntmps12
  go_wp2_with (go_at_call 18; refine HO.out.mono ?_; rintro e w' ⟨rfl, rfl⟩)
  go_ret
  exact ⟨rfl, rfl⟩
set_option maxRecDepth 10000 in
set_option maxHeartbeats 2000000 in
theorem rdo_rem (h : Lr w k v us S) (hw : Wf S) (x y : Int) (hy : vb y) {i : Nat} {l : List Int} (hi : S[i]? = some l) (hm : y ∈ l) : Calls Try.prog 12 #[.pointer (some ⟨k, 0, none⟩), .int .i64 2, .int .i64 x, .int .i64 y] w (fun e w' => e = .returned (.int .i64 0) ∧ ∃ us', Lr w' k v us' (woS y S) ∧ Chg w w' (Ft k v us) (Ft k v us')) := by
  obtain ⟨y0, y1⟩ := hy
  have HO := hid (rof_yes h hw hi hm)
  have d1 : decide (y < 0) = false := by simpa using y0
  have d2 : decide (63 < y) = false := by simp; omega
  have i0 : decide ((i : Int) < 0) = false := by simp
  have i1 : (0 : Int) ≤ (i : Int) := by omega
  obtain ⟨g, c, A, d, rfl, hu, q1, q2, ho, h64, hld, hdm⟩ := Lr.at_ h hi
  obtain ⟨B', c', e', hr, -⟩ := ho.read
  simp only [Value.slice.injEq] at e'
  obtain ⟨rfl, -, -⟩ := e'
  have c0 : w.cell? ⟨k, 0, none⟩ = some (.slice (some ⟨g, 0, none⟩) S.length c) := h.box.cell 0
  have hil : (i : Int) < (S.length : Int) := by have := (List.getElem?_eq_some_iff.1 hi).1; omega
  have HSET := hid (woS_set hw hi hm)
  have H := hid (show Lr w.drew k (.slice (some ⟨g, 0, none⟩) S.length c) us S from Lr.draws h 1)
  have hgk : (⟨g, i, none⟩ : Addr) ≠ ⟨k, 0, none⟩ := by
    intro e
    injection e with e
    exact h.vk (congrArg some e)
  have HU := hid hu
  have HR := hid hr
  have HWL := hid (wo_le y l)
  obtain ⟨n, hn⟩ : ∃ x, S.length = x := ⟨_, rfl⟩
  obtain ⟨ln, hln⟩ : ∃ x, l.length = x := ⟨_, rfl⟩
  rw [hn] at c0 hil H
  rw [hln] at q1 h64 HU HWL
  have HW := hid (without_any w.drew A ln d l y hln h64 (by exact hr))
  rw [hn]
  clear h hw hi hm hu ho hr hn hln hld hdm y0 y1
  go_enter Try.func12, Try.ntmps12
  go_upto_region 7 with (go_at_call 18; refine HO.out.mono ?_; rintro e w' ⟨rfl, rfl⟩)
  refine wp_region_noPanic ?_
  refine wp_region_held_drew (S := fun w' => w'.cell? ⟨k, 0, none⟩ = some (.slice (some ⟨g, 0, none⟩) n c)) (by kernel_rfl) ?_ (fun hHeld => ?_)
  · go_simp
  refine wpAnyH_take (i := 0) (oi := ⟨some 44, _, _, _, _, _⟩) (v := ?_) rfl (by kernel_rfl) (by kernel_rfl) (by kernel_rfl) (fun _ _ _ h => h) (Or.inl ⟨by rfl, ?_⟩) (by assumption) ?_
  rotate_left 1
  · intro w0 hSw
    try dsimp only at hSw
    go_simp
    try with_reducible rfl
  (try simp only [Act.put, List.setIfInBounds_toArray, List.set_cons_zero, List.set_cons_succ])
  refine wpAnyH_take (i := 1) (oi := ⟨some 45, _, _, _, _, _⟩) (v := ?_) rfl (by kernel_rfl) (by kernel_rfl) (by kernel_rfl) (fun _ _ _ h => h) (Or.inl ⟨by rfl, ?_⟩) (by assumption) ?_
  rotate_left 1
  · intro w0 hSw
    try dsimp only at hSw
    go_simp
    try with_reducible rfl
  (try simp only [Act.put, List.setIfInBounds_toArray, List.set_cons_zero, List.set_cons_succ])
  refine wpAnyH_take (i := 2) (oi := ⟨some 46, _, _, _, _, _⟩) (v := ?_) rfl (by kernel_rfl) (by kernel_rfl) (by kernel_rfl) (fun _ _ _ h => h) (Or.inl ⟨by rfl, ?_⟩) (by assumption) ?_
  rotate_left 1
  · intro w0 hSw
    try dsimp only at hSw
    go_simp
    try with_reducible rfl
  (try simp only [Act.put, List.setIfInBounds_toArray, List.set_cons_zero, List.set_cons_succ])
  refine wpAnyH_take (i := 3) (oi := ⟨some 47, _, _, _, _, _⟩) (v := ?_) rfl (by kernel_rfl) (by kernel_rfl) (by kernel_rfl) (fun _ _ _ h => h) (Or.inl ⟨by rfl, ?_⟩) (by assumption) ?_
  rotate_left 1
  · intro w0 hSw
    try dsimp only at hSw
    go_simp
    try with_reducible rfl
  (try simp only [Act.put, List.setIfInBounds_toArray, List.set_cons_zero, List.set_cons_succ])
  refine wpAnyH_take (i := 4) (oi := ⟨some 48, _, _, _, _, _⟩) (v := ?_) rfl (by kernel_rfl) (by kernel_rfl) (by kernel_rfl) (fun _ _ _ h => h) (Or.inl ⟨by rfl, ?_⟩) (by assumption) ?_
  rotate_left 1
  · intro w0 hSw
    try dsimp only at hSw
    go_simp
    try with_reducible rfl
  (try simp only [Act.put, List.setIfInBounds_toArray, List.set_cons_zero, List.set_cons_succ])
  refine wpAnyH_take (i := 5) (oi := ⟨some 49, _, _, _, _, _⟩) (v := ?_) rfl (by kernel_rfl) (by kernel_rfl) (by kernel_rfl) (fun _ _ _ h => h) (Or.inl ⟨by rfl, ?_⟩) (by assumption) ?_
  rotate_left 1
  · intro w0 hSw
    try dsimp only at hSw
    go_simp
    try with_reducible rfl
  (try simp only [Act.put, List.setIfInBounds_toArray, List.set_cons_zero, List.set_cons_succ])
  refine wpAnyH_take (i := 6) (oi := ⟨some 50, _, _, _, _, _⟩) (v := ?_) rfl (by kernel_rfl) (by kernel_rfl) (by kernel_rfl) (fun _ _ _ h => h) (Or.inl ⟨by rfl, ?_⟩) (by assumption) ?_
  rotate_left 1
  · intro w0 hSw
    try dsimp only at hSw
    go_simp
    try with_reducible rfl
  (try simp only [Act.put, List.setIfInBounds_toArray, List.set_cons_zero, List.set_cons_succ])
  refine wpAnyH_take (i := 7) (oi := ⟨some 51, _, _, _, _, _⟩) (v := ?_) rfl (by kernel_rfl) (by kernel_rfl) (by kernel_rfl) (fun _ _ _ h => h) (Or.inl ⟨by rfl, ?_⟩) (by assumption) ?_
  rotate_left 1
  · intro w0 hSw
    try dsimp only at hSw
    go_simp
    try with_reducible rfl
  (try simp only [Act.put, List.setIfInBounds_toArray, List.set_cons_zero, List.set_cons_succ])
  refine wpAnyH_take (i := 8) (oi := ⟨some 52, _, _, _, _, _⟩) (v := ?_) rfl (by kernel_rfl) (by kernel_rfl) (by kernel_rfl) (fun _ _ _ h => h) (Or.inl ⟨by rfl, ?_⟩) (by assumption) ?_
  rotate_left 1
  · intro w0 hSw
    try dsimp only at hSw
    go_simp
    try with_reducible rfl
  (try simp only [Act.put, List.setIfInBounds_toArray, List.set_cons_zero, List.set_cons_succ])
  refine wpAnyH_take (i := 9) (oi := ⟨some 53, _, _, _, _, _⟩) (v := ?_) rfl (by kernel_rfl) (by kernel_rfl) (by kernel_rfl) (fun _ _ _ h => h) (Or.inl ⟨by rfl, ?_⟩) (by assumption) ?_
  rotate_left 1
  · intro w0 hSw
    try dsimp only at hSw
    go_simp
    try with_reducible rfl
  (try simp only [Act.put, List.setIfInBounds_toArray, List.set_cons_zero, List.set_cons_succ])
  refine wpAnyH_take (i := 10) (oi := ⟨some 54, _, _, _, _, _⟩) (v := ?_) rfl (by kernel_rfl) (by kernel_rfl) (by kernel_rfl) (fun _ _ _ h => h) (Or.inl ⟨by rfl, ?_⟩) (by assumption) ?_
  rotate_left 1
  · intro w0 hSw
    try dsimp only at hSw
    go_simp
    try with_reducible rfl
  (try simp only [Act.put, List.setIfInBounds_toArray, List.set_cons_zero, List.set_cons_succ])
  refine wpAnyH_take (i := 12) (oi := ⟨some 56, _, _, _, _, _⟩) (v := ?_) rfl (by kernel_rfl) (by kernel_rfl) (by kernel_rfl) (fun _ _ _ h => h) (Or.inl ⟨by rfl, ?_⟩) (by assumption) ?_
  rotate_left 1
  · intro w0 hSw
    try dsimp only at hSw
    go_simp
    try with_reducible rfl
  (try simp only [Act.put, List.setIfInBounds_toArray, List.set_cons_zero, List.set_cons_succ])
  refine wpAnyH_ready (rs := [11]) (by kernel_rfl) (by simp) ?_
  refine AllReadyH.cons (o := ⟨some 55, _, _, _, _, _⟩) rfl (fun K hK => ?_) AllReadyH.nil
  rw [if_pos (by rfl)]
  go_simp
  refine hK.out _ _ hHeld (fun hHeld => ?_)
  clear hK K
  (try simp only [Act.put, List.setIfInBounds_toArray, List.set_cons_zero, List.set_cons_succ])
  refine wpAnyH_ready (rs := [13]) (by kernel_rfl) (by simp) ?_
  refine AllReadyH.cons (o := ⟨some 57, _, _, _, _, _⟩) rfl (fun K hK => ?_) AllReadyH.nil
  rw [if_pos (by rfl)]
  go_simp
  refine HW.out.mono ?_
  rintro e w2 ⟨A2, c2, rfl, ho2, hg2⟩
  obtain ⟨kp, xc, xf, X1, X2⟩ := H.out.put rfl HU.out (hg2.fresh _) ho2 (by have := HWL.out; omega)
  have HX := hid (And.intro X1 X2)
  have kq : (w2.setCell ⟨g, i, none⟩ (.slice A2 (wo y l).length c2)).cell? ⟨k, 0, none⟩ = some (.slice (some ⟨g, 0, none⟩) n c) := by rw [World.cell?_setCell_other _ _ _ _ hgk]; exact kp
  clear X1 X2 ho2 hg2
  go_simp
  refine hK.out _ _ kp (fun hHeld => ?_)
  clear hK K
  (try simp only [Act.put, List.setIfInBounds_toArray, List.set_cons_zero, List.set_cons_succ])
  refine wpAnyH_take (i := 14) (oi := ⟨some 58, _, _, _, _, _⟩) (v := ?_) rfl (by kernel_rfl) (by kernel_rfl) (by kernel_rfl) (fun _ _ _ h => h) (Or.inl ⟨by rfl, ?_⟩) (by assumption) ?_
  rotate_left 1
  · intro w0 hSw
    try dsimp only at hSw
    go_simp
    try with_reducible rfl
  (try simp only [Act.put, List.setIfInBounds_toArray, List.set_cons_zero, List.set_cons_succ])
  refine wpAnyH_ready (rs := [15]) (by kernel_rfl) (by simp) ?_
  refine AllReadyH.cons (o := ⟨none, _, _, _, _, _⟩) rfl (fun K hK => ?_) AllReadyH.nil
  rw [if_pos (by rfl)]
  go_simp
  refine hK.out _ _ kq (fun hHeld => ?_)
  clear hK K
  (try simp only [Act.put, List.setIfInBounds_toArray, List.set_cons_zero, List.set_cons_succ])
  refine wpAnyH_done (by kernel_rfl) ?_ _
  refine NoPanic.normal ?_
  go_wp2
  go_ret
  refine ⟨rfl, _, ?_, HX.out.2.ofDrew⟩
  rw [HSET.out]
  exact HX.out.1
set_option maxRecDepth 10000 in
set_option maxHeartbeats 4000000 in
theorem rdo_front (h : Lr w k v us S) (hw : Wf S) (x y : Int) (hok : okp S x y) : Calls Try.prog 12 #[.pointer (some ⟨k, 0, none⟩), .int .i64 0, .int .i64 x, .int .i64 y] w (fun e w' => e = .returned (.int .i64 0) ∧ ∃ us', Lr w' k v us' (frontS S x y) ∧ Chg w w' (Ft k v us) (Ft k v us')) := by
  obtain ⟨t, hO, hT⟩ : ∃ t : Int, (Calls Try.prog 18 #[.pointer (some ⟨k, 0, none⟩), .int .i64 y] w fun e w' => e = .returned (.int .i64 t) ∧ w = w') ∧ ((t = -1 ∧ woS y S = S) ∨ ∃ (j : Nat) (l : List Int), t = (j : Nat) ∧ S[j]? = some l ∧ y ∈ l ∧ woS y S = S.set j (wo y l)) := by
    by_cases hin : inS S y
    · obtain ⟨j, l, hj, hm⟩ := hin
      exact ⟨_, rof_yes h hw hj hm, .inr ⟨j, l, rfl, hj, hm, woS_set hw hj hm⟩⟩
    · exact ⟨_, rof_no h hin, .inl ⟨rfl, woS_out hin⟩⟩
  have HO := hid hO
  have HT := hid hT
  have hfs : frontS S x y = (woS y S).set x.toNat (y :: (woS y S).getD x.toNat []) := if_pos hok
  have hwf := wf_front hw x y
  obtain ⟨⟨x0, x1⟩, y0, y1⟩ := hok
  obtain ⟨i, rfl⟩ : ∃ i : Nat, x = i := ⟨x.toNat, by omega⟩
  obtain ⟨l1, hl1⟩ : ∃ l, (woS y S)[i]? = some l := ⟨_, List.getElem?_eq_getElem (by rw [woS_len]; omega)⟩
  have hg1 : (woS y S).getD i [] = l1 := by rw [List.getD, hl1]; rfl
  rw [Int.toNat_natCast, hg1] at hfs
  have HNEW := hid (hwf.len (i := i) (l := y :: l1) (by rw [hfs, List.getElem?_set_self (List.getElem?_eq_some_iff.1 hl1).1]))
  rw [hfs]
  obtain ⟨A0, c, rfl, c0, -⟩ := Lr.cells h
  obtain ⟨g, hg⟩ : ∃ g, A0 = some ⟨g, 0, none⟩ := by
    obtain ⟨g, c', _, _, hv, _⟩ := h.at_ (List.getElem?_eq_getElem (show i < S.length by omega))
    injection hv with hv
    exact ⟨g, hv⟩
  subst hg
  have d1 : decide (y < 0) = false := by simpa using y0
  have d2 : decide (63 < y) = false := by simp; omega
  obtain ⟨n, hn⟩ : ∃ x, S.length = x := ⟨_, rfl⟩
  rw [hn] at c0 h x1 ⊢
  have HN := hid hn
  have H0 := hid h
  have HL1 := hid hl1
  clear h hw hn hfs hwf hl1 hg1 hO hT y0 y1
  go_enter Try.func12, Try.ntmps12
  go_upto_region 6 with (go_at_call 18; refine HO.out.mono ?_; rintro e w' ⟨rfl, rfl⟩)
  go_upto_if 43 with fail
  go_cut [] (fun wx => CutP w k (.slice (some ⟨g, 0, none⟩) n c) us (woS y S) wx)
  case first =>
    rcases HT.out with ⟨rfl, e1⟩ | ⟨j, l, rfl, hi, hm, e1⟩
    · have HE := hid e1
      clear e1
      go_wp2
      go_meet
      exact ⟨_, _, rfl, by rw [HE.out]; exact H0.out, Chg.refl _ _⟩
    · have HSET := hid e1
      obtain ⟨g', c', A, d, hv, hu, q1, q2, ho, h64, hld, hdm⟩ := Lr.at_ H0.out hi
      rw [HN.out] at hv
      simp only [Value.slice.injEq, Option.some.injEq, Addr.mk.injEq, and_true, true_and] at hv
      obtain ⟨rfl, rfl⟩ := hv
      obtain ⟨B', c', e', hr, -⟩ := ho.read
      simp only [Value.slice.injEq] at e'
      obtain ⟨rfl, -, -⟩ := e'
      have hil : (j : Int) < (n : Int) := by have := (List.getElem?_eq_some_iff.1 hi).1; rw [HN.out] at this; omega
      have j1 : (0 : Int) ≤ (j : Int) := by omega
      have H := hid (show Lr w.drew k (.slice (some ⟨g, 0, none⟩) n c) us S from Lr.draws H0.out 1)
      have hgk : (⟨g, j, none⟩ : Addr) ≠ ⟨k, 0, none⟩ := by
        intro e
        injection e with e
        exact H0.out.vk (congrArg some e)
      have HWL := hid (wo_le y l)
      obtain ⟨ln, hln⟩ : ∃ x, l.length = x := ⟨_, rfl⟩
      rw [hln] at q1 h64 hu HWL
      have HU := hid hu
      have HW := hid (without_any w.drew A ln d l y hln h64 (by exact hr))
      have c0 : w.cell? ⟨k, 0, none⟩ = some (.slice (some ⟨g, 0, none⟩) n c) := H0.out.box.cell 0
      clear e1 hi hm hu ho hr hln hld hdm
      go_upto_region 7 with fail
      refine wp_region_noPanic ?_
      refine wp_region_held_drew (S := fun w' => w'.cell? ⟨k, 0, none⟩ = some (.slice (some ⟨g, 0, none⟩) n c)) (by kernel_rfl) ?_ (fun hHeld => ?_)
      · go_simp
      refine wpAnyH_take (i := 0) (oi := ⟨some 44, _, _, _, _, _⟩) (v := ?_) rfl (by kernel_rfl) (by kernel_rfl) (by kernel_rfl) (fun _ _ _ h => h) (Or.inl ⟨by rfl, ?_⟩) (by assumption) ?_
      rotate_left 1
      · intro w0 hSw
        try dsimp only at hSw
        go_simp
        try with_reducible rfl
      (try simp only [Act.put, List.setIfInBounds_toArray, List.set_cons_zero, List.set_cons_succ])
      refine wpAnyH_take (i := 1) (oi := ⟨some 45, _, _, _, _, _⟩) (v := ?_) rfl (by kernel_rfl) (by kernel_rfl) (by kernel_rfl) (fun _ _ _ h => h) (Or.inl ⟨by rfl, ?_⟩) (by assumption) ?_
      rotate_left 1
      · intro w0 hSw
        try dsimp only at hSw
        go_simp
        try with_reducible rfl
      (try simp only [Act.put, List.setIfInBounds_toArray, List.set_cons_zero, List.set_cons_succ])
      refine wpAnyH_take (i := 2) (oi := ⟨some 46, _, _, _, _, _⟩) (v := ?_) rfl (by kernel_rfl) (by kernel_rfl) (by kernel_rfl) (fun _ _ _ h => h) (Or.inl ⟨by rfl, ?_⟩) (by assumption) ?_
      rotate_left 1
      · intro w0 hSw
        try dsimp only at hSw
        go_simp
        try with_reducible rfl
      (try simp only [Act.put, List.setIfInBounds_toArray, List.set_cons_zero, List.set_cons_succ])
      refine wpAnyH_take (i := 3) (oi := ⟨some 47, _, _, _, _, _⟩) (v := ?_) rfl (by kernel_rfl) (by kernel_rfl) (by kernel_rfl) (fun _ _ _ h => h) (Or.inl ⟨by rfl, ?_⟩) (by assumption) ?_
      rotate_left 1
      · intro w0 hSw
        try dsimp only at hSw
        go_simp
        try with_reducible rfl
      (try simp only [Act.put, List.setIfInBounds_toArray, List.set_cons_zero, List.set_cons_succ])
      refine wpAnyH_take (i := 4) (oi := ⟨some 48, _, _, _, _, _⟩) (v := ?_) rfl (by kernel_rfl) (by kernel_rfl) (by kernel_rfl) (fun _ _ _ h => h) (Or.inl ⟨by rfl, ?_⟩) (by assumption) ?_
      rotate_left 1
      · intro w0 hSw
        try dsimp only at hSw
        go_simp
        try with_reducible rfl
      (try simp only [Act.put, List.setIfInBounds_toArray, List.set_cons_zero, List.set_cons_succ])
      refine wpAnyH_take (i := 5) (oi := ⟨some 49, _, _, _, _, _⟩) (v := ?_) rfl (by kernel_rfl) (by kernel_rfl) (by kernel_rfl) (fun _ _ _ h => h) (Or.inl ⟨by rfl, ?_⟩) (by assumption) ?_
      rotate_left 1
      · intro w0 hSw
        try dsimp only at hSw
        go_simp
        try with_reducible rfl
      (try simp only [Act.put, List.setIfInBounds_toArray, List.set_cons_zero, List.set_cons_succ])
      refine wpAnyH_take (i := 6) (oi := ⟨some 50, _, _, _, _, _⟩) (v := ?_) rfl (by kernel_rfl) (by kernel_rfl) (by kernel_rfl) (fun _ _ _ h => h) (Or.inl ⟨by rfl, ?_⟩) (by assumption) ?_
      rotate_left 1
      · intro w0 hSw
        try dsimp only at hSw
        go_simp
        try with_reducible rfl
      (try simp only [Act.put, List.setIfInBounds_toArray, List.set_cons_zero, List.set_cons_succ])
      refine wpAnyH_take (i := 7) (oi := ⟨some 51, _, _, _, _, _⟩) (v := ?_) rfl (by kernel_rfl) (by kernel_rfl) (by kernel_rfl) (fun _ _ _ h => h) (Or.inl ⟨by rfl, ?_⟩) (by assumption) ?_
      rotate_left 1
      · intro w0 hSw
        try dsimp only at hSw
        go_simp
        try with_reducible rfl
      (try simp only [Act.put, List.setIfInBounds_toArray, List.set_cons_zero, List.set_cons_succ])
      refine wpAnyH_take (i := 8) (oi := ⟨some 52, _, _, _, _, _⟩) (v := ?_) rfl (by kernel_rfl) (by kernel_rfl) (by kernel_rfl) (fun _ _ _ h => h) (Or.inl ⟨by rfl, ?_⟩) (by assumption) ?_
      rotate_left 1
      · intro w0 hSw
        try dsimp only at hSw
        go_simp
        try with_reducible rfl
      (try simp only [Act.put, List.setIfInBounds_toArray, List.set_cons_zero, List.set_cons_succ])
      refine wpAnyH_take (i := 9) (oi := ⟨some 53, _, _, _, _, _⟩) (v := ?_) rfl (by kernel_rfl) (by kernel_rfl) (by kernel_rfl) (fun _ _ _ h => h) (Or.inl ⟨by rfl, ?_⟩) (by assumption) ?_
      rotate_left 1
      · intro w0 hSw
        try dsimp only at hSw
        go_simp
        try with_reducible rfl
      (try simp only [Act.put, List.setIfInBounds_toArray, List.set_cons_zero, List.set_cons_succ])
      refine wpAnyH_take (i := 10) (oi := ⟨some 54, _, _, _, _, _⟩) (v := ?_) rfl (by kernel_rfl) (by kernel_rfl) (by kernel_rfl) (fun _ _ _ h => h) (Or.inl ⟨by rfl, ?_⟩) (by assumption) ?_
      rotate_left 1
      · intro w0 hSw
        try dsimp only at hSw
        go_simp
        try with_reducible rfl
      (try simp only [Act.put, List.setIfInBounds_toArray, List.set_cons_zero, List.set_cons_succ])
      refine wpAnyH_take (i := 12) (oi := ⟨some 56, _, _, _, _, _⟩) (v := ?_) rfl (by kernel_rfl) (by kernel_rfl) (by kernel_rfl) (fun _ _ _ h => h) (Or.inl ⟨by rfl, ?_⟩) (by assumption) ?_
      rotate_left 1
      · intro w0 hSw
        try dsimp only at hSw
        go_simp
        try with_reducible rfl
      (try simp only [Act.put, List.setIfInBounds_toArray, List.set_cons_zero, List.set_cons_succ])
      refine wpAnyH_ready (rs := [11]) (by kernel_rfl) (by simp) ?_
      refine AllReadyH.cons (o := ⟨some 55, _, _, _, _, _⟩) rfl (fun K hK => ?_) AllReadyH.nil
      rw [if_pos (by rfl)]
      go_simp
      refine hK.out _ _ hHeld (fun hHeld => ?_)
      clear hK K
      (try simp only [Act.put, List.setIfInBounds_toArray, List.set_cons_zero, List.set_cons_succ])
      refine wpAnyH_ready (rs := [13]) (by kernel_rfl) (by simp) ?_
      refine AllReadyH.cons (o := ⟨some 57, _, _, _, _, _⟩) rfl (fun K hK => ?_) AllReadyH.nil
      rw [if_pos (by rfl)]
      go_simp
      refine HW.out.mono ?_
      rintro e w2 ⟨A2, c2, rfl, ho2, hg2⟩
      obtain ⟨kp, xc, xf, X1, X2⟩ := H.out.put rfl HU.out (hg2.fresh _) ho2 (by have := HWL.out; omega)
      have HX := hid (And.intro X1 X2)
      have kq : (w2.setCell ⟨g, j, none⟩ (.slice A2 (wo y l).length c2)).cell? ⟨k, 0, none⟩ = some (.slice (some ⟨g, 0, none⟩) n c) := by rw [World.cell?_setCell_other _ _ _ _ hgk]; exact kp
      clear X1 X2 ho2 hg2
      go_simp
      refine hK.out _ _ kp (fun hHeld => ?_)
      clear hK K
      (try simp only [Act.put, List.setIfInBounds_toArray, List.set_cons_zero, List.set_cons_succ])
      refine wpAnyH_take (i := 14) (oi := ⟨some 58, _, _, _, _, _⟩) (v := ?_) rfl (by kernel_rfl) (by kernel_rfl) (by kernel_rfl) (fun _ _ _ h => h) (Or.inl ⟨by rfl, ?_⟩) (by assumption) ?_
      rotate_left 1
      · intro w0 hSw
        try dsimp only at hSw
        go_simp
        try with_reducible rfl
      (try simp only [Act.put, List.setIfInBounds_toArray, List.set_cons_zero, List.set_cons_succ])
      refine wpAnyH_ready (rs := [15]) (by kernel_rfl) (by simp) ?_
      refine AllReadyH.cons (o := ⟨none, _, _, _, _, _⟩) rfl (fun K hK => ?_) AllReadyH.nil
      rw [if_pos (by rfl)]
      go_simp
      refine hK.out _ _ kq (fun hHeld => ?_)
      clear hK K
      (try simp only [Act.put, List.setIfInBounds_toArray, List.set_cons_zero, List.set_cons_succ])
      refine wpAnyH_done (by kernel_rfl) ?_ _
      refine NoPanic.normal ?_
      go_wp2
      go_meet
      exact ⟨_, _, rfl, by rw [HSET.out]; exact HX.out.1, HX.out.2.ofDrew⟩
  case rest =>
    obtain ⟨us1, wx, hwx, H1, C1⟩ := hcut
    subst hwx
    have hl1 := HL1.out
    obtain ⟨g', c', A, d, hv, hu, q1, q2, ho, h64, hld, hdm⟩ := Lr.at_ H1 hl1
    rw [woS_len, HN.out] at hv
    simp only [Value.slice.injEq, Option.some.injEq, Addr.mk.injEq, and_true, true_and] at hv
    obtain ⟨rfl, rfl⟩ := hv
    obtain ⟨B', c', e', hr, -⟩ := ho.read
    simp only [Value.slice.injEq] at e'
    obtain ⟨rfl, -, -⟩ := e'
    have hgk : (⟨g, i, none⟩ : Addr) ≠ ⟨k, 0, none⟩ := by
      intro e
      injection e with e
      exact H1.vk (congrArg some e)
    have c0 : wx.cell? ⟨k, 0, none⟩ = some (.slice (some ⟨g, 0, none⟩) n c) := H1.box.cell 0
    obtain ⟨ln, hln⟩ : ∃ x, l1.length = x := ⟨_, rfl⟩
    rw [hln] at q1 h64 hu
    have HU := hid hu
    have HC1 := hid C1
    have HWL := HNEW
    have H := hid (show Lr wx.drew k (.slice (some ⟨g, 0, none⟩) n c) us1 (woS y S) from Lr.draws H1 1)
    have HW := hid (ahead_any wx.drew A ln d l1 y hln h64 (by exact hr))
    clear hl1 hu ho hr hln hld hdm C1 H1
    go_upto_region 9 with fail
    refine wp_region_noPanic ?_
    refine wp_region_held_drew (S := fun w' => w'.cell? ⟨k, 0, none⟩ = some (.slice (some ⟨g, 0, none⟩) n c)) (by kernel_rfl) ?_ (fun hHeld => ?_)
    · go_simp
    refine wpAnyH_take (i := 0) (oi := ⟨some 61, _, _, _, _, _⟩) (v := ?_) rfl (by kernel_rfl) (by kernel_rfl) (by kernel_rfl) (fun _ _ _ h => h) (Or.inl ⟨by rfl, ?_⟩) (by assumption) ?_
    rotate_left 1
    · intro w0 hSw
      try dsimp only at hSw
      go_simp
      try with_reducible rfl
    (try simp only [Act.put, List.setIfInBounds_toArray, List.set_cons_zero, List.set_cons_succ])
    refine wpAnyH_take (i := 1) (oi := ⟨some 62, _, _, _, _, _⟩) (v := ?_) rfl (by kernel_rfl) (by kernel_rfl) (by kernel_rfl) (fun _ _ _ h => h) (Or.inl ⟨by rfl, ?_⟩) (by assumption) ?_
    rotate_left 1
    · intro w0 hSw
      try dsimp only at hSw
      go_simp
      try with_reducible rfl
    (try simp only [Act.put, List.setIfInBounds_toArray, List.set_cons_zero, List.set_cons_succ])
    refine wpAnyH_take (i := 2) (oi := ⟨some 63, _, _, _, _, _⟩) (v := ?_) rfl (by kernel_rfl) (by kernel_rfl) (by kernel_rfl) (fun _ _ _ h => h) (Or.inl ⟨by rfl, ?_⟩) (by assumption) ?_
    rotate_left 1
    · intro w0 hSw
      try dsimp only at hSw
      go_simp
      try with_reducible rfl
    (try simp only [Act.put, List.setIfInBounds_toArray, List.set_cons_zero, List.set_cons_succ])
    refine wpAnyH_take (i := 3) (oi := ⟨some 64, _, _, _, _, _⟩) (v := ?_) rfl (by kernel_rfl) (by kernel_rfl) (by kernel_rfl) (fun _ _ _ h => h) (Or.inl ⟨by rfl, ?_⟩) (by assumption) ?_
    rotate_left 1
    · intro w0 hSw
      try dsimp only at hSw
      go_simp
      try with_reducible rfl
    (try simp only [Act.put, List.setIfInBounds_toArray, List.set_cons_zero, List.set_cons_succ])
    refine wpAnyH_take (i := 4) (oi := ⟨some 65, _, _, _, _, _⟩) (v := ?_) rfl (by kernel_rfl) (by kernel_rfl) (by kernel_rfl) (fun _ _ _ h => h) (Or.inl ⟨by rfl, ?_⟩) (by assumption) ?_
    rotate_left 1
    · intro w0 hSw
      try dsimp only at hSw
      go_simp
      try with_reducible rfl
    (try simp only [Act.put, List.setIfInBounds_toArray, List.set_cons_zero, List.set_cons_succ])
    refine wpAnyH_take (i := 5) (oi := ⟨some 66, _, _, _, _, _⟩) (v := ?_) rfl (by kernel_rfl) (by kernel_rfl) (by kernel_rfl) (fun _ _ _ h => h) (Or.inl ⟨by rfl, ?_⟩) (by assumption) ?_
    rotate_left 1
    · intro w0 hSw
      try dsimp only at hSw
      go_simp
      try with_reducible rfl
    (try simp only [Act.put, List.setIfInBounds_toArray, List.set_cons_zero, List.set_cons_succ])
    refine wpAnyH_take (i := 6) (oi := ⟨some 67, _, _, _, _, _⟩) (v := ?_) rfl (by kernel_rfl) (by kernel_rfl) (by kernel_rfl) (fun _ _ _ h => h) (Or.inl ⟨by rfl, ?_⟩) (by assumption) ?_
    rotate_left 1
    · intro w0 hSw
      try dsimp only at hSw
      go_simp
      try with_reducible rfl
    (try simp only [Act.put, List.setIfInBounds_toArray, List.set_cons_zero, List.set_cons_succ])
    refine wpAnyH_take (i := 7) (oi := ⟨some 68, _, _, _, _, _⟩) (v := ?_) rfl (by kernel_rfl) (by kernel_rfl) (by kernel_rfl) (fun _ _ _ h => h) (Or.inl ⟨by rfl, ?_⟩) (by assumption) ?_
    rotate_left 1
    · intro w0 hSw
      try dsimp only at hSw
      go_simp
      try with_reducible rfl
    (try simp only [Act.put, List.setIfInBounds_toArray, List.set_cons_zero, List.set_cons_succ])
    refine wpAnyH_take (i := 8) (oi := ⟨some 69, _, _, _, _, _⟩) (v := ?_) rfl (by kernel_rfl) (by kernel_rfl) (by kernel_rfl) (fun _ _ _ h => h) (Or.inl ⟨by rfl, ?_⟩) (by assumption) ?_
    rotate_left 1
    · intro w0 hSw
      try dsimp only at hSw
      go_simp
      try with_reducible rfl
    (try simp only [Act.put, List.setIfInBounds_toArray, List.set_cons_zero, List.set_cons_succ])
    refine wpAnyH_take (i := 9) (oi := ⟨some 70, _, _, _, _, _⟩) (v := ?_) rfl (by kernel_rfl) (by kernel_rfl) (by kernel_rfl) (fun _ _ _ h => h) (Or.inl ⟨by rfl, ?_⟩) (by assumption) ?_
    rotate_left 1
    · intro w0 hSw
      try dsimp only at hSw
      go_simp
      try with_reducible rfl
    (try simp only [Act.put, List.setIfInBounds_toArray, List.set_cons_zero, List.set_cons_succ])
    refine wpAnyH_take (i := 10) (oi := ⟨some 71, _, _, _, _, _⟩) (v := ?_) rfl (by kernel_rfl) (by kernel_rfl) (by kernel_rfl) (fun _ _ _ h => h) (Or.inl ⟨by rfl, ?_⟩) (by assumption) ?_
    rotate_left 1
    · intro w0 hSw
      try dsimp only at hSw
      go_simp
      try with_reducible rfl
    (try simp only [Act.put, List.setIfInBounds_toArray, List.set_cons_zero, List.set_cons_succ])
    refine wpAnyH_take (i := 12) (oi := ⟨some 73, _, _, _, _, _⟩) (v := ?_) rfl (by kernel_rfl) (by kernel_rfl) (by kernel_rfl) (fun _ _ _ h => h) (Or.inl ⟨by rfl, ?_⟩) (by assumption) ?_
    rotate_left 1
    · intro w0 hSw
      try dsimp only at hSw
      go_simp
      try with_reducible rfl
    (try simp only [Act.put, List.setIfInBounds_toArray, List.set_cons_zero, List.set_cons_succ])
    refine wpAnyH_ready (rs := [11]) (by kernel_rfl) (by simp) ?_
    refine AllReadyH.cons (o := ⟨some 72, _, _, _, _, _⟩) rfl (fun K hK => ?_) AllReadyH.nil
    rw [if_pos (by rfl)]
    go_simp
    refine hK.out _ _ hHeld (fun hHeld => ?_)
    clear hK K
    (try simp only [Act.put, List.setIfInBounds_toArray, List.set_cons_zero, List.set_cons_succ])
    refine wpAnyH_ready (rs := [13]) (by kernel_rfl) (by simp) ?_
    refine AllReadyH.cons (o := ⟨some 74, _, _, _, _, _⟩) rfl (fun K hK => ?_) AllReadyH.nil
    rw [if_pos (by rfl)]
    go_simp
    refine HW.out.mono ?_
    rintro e w2 ⟨A2, c2, rfl, ho2, hg2⟩
    obtain ⟨kp, xc, xf, X1, X2⟩ := H.out.put rfl HU.out (hg2.fresh _) ho2 (by have := HWL.out; omega)
    have HX := hid (And.intro X1 X2)
    have kq : (w2.setCell ⟨g, i, none⟩ (.slice A2 (y :: l1).length c2)).cell? ⟨k, 0, none⟩ = some (.slice (some ⟨g, 0, none⟩) n c) := by rw [World.cell?_setCell_other _ _ _ _ hgk]; exact kp
    clear X1 X2 ho2 hg2
    go_simp
    refine hK.out _ _ kp (fun hHeld => ?_)
    clear hK K
    (try simp only [Act.put, List.setIfInBounds_toArray, List.set_cons_zero, List.set_cons_succ])
    refine wpAnyH_take (i := 14) (oi := ⟨some 75, _, _, _, _, _⟩) (v := ?_) rfl (by kernel_rfl) (by kernel_rfl) (by kernel_rfl) (fun _ _ _ h => h) (Or.inl ⟨by rfl, ?_⟩) (by assumption) ?_
    rotate_left 1
    · intro w0 hSw
      try dsimp only at hSw
      go_simp
      try with_reducible rfl
    (try simp only [Act.put, List.setIfInBounds_toArray, List.set_cons_zero, List.set_cons_succ])
    refine wpAnyH_ready (rs := [15]) (by kernel_rfl) (by simp) ?_
    refine AllReadyH.cons (o := ⟨none, _, _, _, _, _⟩) rfl (fun K hK => ?_) AllReadyH.nil
    rw [if_pos (by rfl)]
    go_simp
    refine hK.out _ _ kq (fun hHeld => ?_)
    clear hK K
    (try simp only [Act.put, List.setIfInBounds_toArray, List.set_cons_zero, List.set_cons_succ])
    refine wpAnyH_done (by kernel_rfl) ?_ _
    refine NoPanic.normal ?_
    go_wp2
    go_ret
    exact ⟨rfl, _, HX.out.1, HC1.out.trans HX.out.2.ofDrew⟩
set_option maxRecDepth 10000 in
set_option maxHeartbeats 4000000 in
theorem rdo_back (h : Lr w k v us S) (hw : Wf S) (x y : Int) (hok : okp S x y) : Calls Try.prog 12 #[.pointer (some ⟨k, 0, none⟩), .int .i64 1, .int .i64 x, .int .i64 y] w (fun e w' => e = .returned (.int .i64 0) ∧ ∃ us', Lr w' k v us' (backS S x y) ∧ Chg w w' (Ft k v us) (Ft k v us')) := by
  obtain ⟨t, hO, hT⟩ : ∃ t : Int, (Calls Try.prog 18 #[.pointer (some ⟨k, 0, none⟩), .int .i64 y] w fun e w' => e = .returned (.int .i64 t) ∧ w = w') ∧ ((t = -1 ∧ woS y S = S) ∨ ∃ (j : Nat) (l : List Int), t = (j : Nat) ∧ S[j]? = some l ∧ y ∈ l ∧ woS y S = S.set j (wo y l)) := by
    by_cases hin : inS S y
    · obtain ⟨j, l, hj, hm⟩ := hin
      exact ⟨_, rof_yes h hw hj hm, .inr ⟨j, l, rfl, hj, hm, woS_set hw hj hm⟩⟩
    · exact ⟨_, rof_no h hin, .inl ⟨rfl, woS_out hin⟩⟩
  have HO := hid hO
  have HT := hid hT
  have hfs : backS S x y = (woS y S).set x.toNat ((woS y S).getD x.toNat [] ++ [y]) := if_pos hok
  have hwf := wf_back hw x y
  obtain ⟨⟨x0, x1⟩, y0, y1⟩ := hok
  obtain ⟨i, rfl⟩ : ∃ i : Nat, x = i := ⟨x.toNat, by omega⟩
  obtain ⟨l1, hl1⟩ : ∃ l, (woS y S)[i]? = some l := ⟨_, List.getElem?_eq_getElem (by rw [woS_len]; omega)⟩
  have hg1 : (woS y S).getD i [] = l1 := by rw [List.getD, hl1]; rfl
  rw [Int.toNat_natCast, hg1] at hfs
  have HNEW := hid (hwf.len (i := i) (l := l1 ++ [y]) (by rw [hfs, List.getElem?_set_self (List.getElem?_eq_some_iff.1 hl1).1]))
  rw [hfs]
  obtain ⟨A0, c, rfl, c0, -⟩ := Lr.cells h
  obtain ⟨g, hg⟩ : ∃ g, A0 = some ⟨g, 0, none⟩ := by
    obtain ⟨g, c', _, _, hv, _⟩ := h.at_ (List.getElem?_eq_getElem (show i < S.length by omega))
    injection hv with hv
    exact ⟨g, hv⟩
  subst hg
  have d1 : decide (y < 0) = false := by simpa using y0
  have d2 : decide (63 < y) = false := by simp; omega
  obtain ⟨n, hn⟩ : ∃ x, S.length = x := ⟨_, rfl⟩
  rw [hn] at c0 h x1 ⊢
  have HN := hid hn
  have H0 := hid h
  have HL1 := hid hl1
  clear h hw hn hfs hwf hl1 hg1 hO hT y0 y1
  go_enter Try.func12, Try.ntmps12
  go_upto_region 6 with (go_at_call 18; refine HO.out.mono ?_; rintro e w' ⟨rfl, rfl⟩)
  go_upto_if 43 with fail
  go_cut [] (fun wx => CutP w k (.slice (some ⟨g, 0, none⟩) n c) us (woS y S) wx)
  case first =>
    rcases HT.out with ⟨rfl, e1⟩ | ⟨j, l, rfl, hi, hm, e1⟩
    · have HE := hid e1
      clear e1
      go_wp2
      go_meet
      exact ⟨_, _, rfl, by rw [HE.out]; exact H0.out, Chg.refl _ _⟩
    · have HSET := hid e1
      obtain ⟨g', c', A, d, hv, hu, q1, q2, ho, h64, hld, hdm⟩ := Lr.at_ H0.out hi
      rw [HN.out] at hv
      simp only [Value.slice.injEq, Option.some.injEq, Addr.mk.injEq, and_true, true_and] at hv
      obtain ⟨rfl, rfl⟩ := hv
      obtain ⟨B', c', e', hr, -⟩ := ho.read
      simp only [Value.slice.injEq] at e'
      obtain ⟨rfl, -, -⟩ := e'
      have hil : (j : Int) < (n : Int) := by have := (List.getElem?_eq_some_iff.1 hi).1; rw [HN.out] at this; omega
      have j1 : (0 : Int) ≤ (j : Int) := by omega
      have H := hid (show Lr w.drew k (.slice (some ⟨g, 0, none⟩) n c) us S from Lr.draws H0.out 1)
      have hgk : (⟨g, j, none⟩ : Addr) ≠ ⟨k, 0, none⟩ := by
        intro e
        injection e with e
        exact H0.out.vk (congrArg some e)
      have HWL := hid (wo_le y l)
      obtain ⟨ln, hln⟩ : ∃ x, l.length = x := ⟨_, rfl⟩
      rw [hln] at q1 h64 hu HWL
      have HU := hid hu
      have HW := hid (without_any w.drew A ln d l y hln h64 (by exact hr))
      have c0 : w.cell? ⟨k, 0, none⟩ = some (.slice (some ⟨g, 0, none⟩) n c) := H0.out.box.cell 0
      clear e1 hi hm hu ho hr hln hld hdm
      go_upto_region 7 with fail
      refine wp_region_noPanic ?_
      refine wp_region_held_drew (S := fun w' => w'.cell? ⟨k, 0, none⟩ = some (.slice (some ⟨g, 0, none⟩) n c)) (by kernel_rfl) ?_ (fun hHeld => ?_)
      · go_simp
      refine wpAnyH_take (i := 0) (oi := ⟨some 44, _, _, _, _, _⟩) (v := ?_) rfl (by kernel_rfl) (by kernel_rfl) (by kernel_rfl) (fun _ _ _ h => h) (Or.inl ⟨by rfl, ?_⟩) (by assumption) ?_
      rotate_left 1
      · intro w0 hSw
        try dsimp only at hSw
        go_simp
        try with_reducible rfl
      (try simp only [Act.put, List.setIfInBounds_toArray, List.set_cons_zero, List.set_cons_succ])
      refine wpAnyH_take (i := 1) (oi := ⟨some 45, _, _, _, _, _⟩) (v := ?_) rfl (by kernel_rfl) (by kernel_rfl) (by kernel_rfl) (fun _ _ _ h => h) (Or.inl ⟨by rfl, ?_⟩) (by assumption) ?_
      rotate_left 1
      · intro w0 hSw
        try dsimp only at hSw
        go_simp
        try with_reducible rfl
      (try simp only [Act.put, List.setIfInBounds_toArray, List.set_cons_zero, List.set_cons_succ])
      refine wpAnyH_take (i := 2) (oi := ⟨some 46, _, _, _, _, _⟩) (v := ?_) rfl (by kernel_rfl) (by kernel_rfl) (by kernel_rfl) (fun _ _ _ h => h) (Or.inl ⟨by rfl, ?_⟩) (by assumption) ?_
      rotate_left 1
      · intro w0 hSw
        try dsimp only at hSw
        go_simp
        try with_reducible rfl
      (try simp only [Act.put, List.setIfInBounds_toArray, List.set_cons_zero, List.set_cons_succ])
      refine wpAnyH_take (i := 3) (oi := ⟨some 47, _, _, _, _, _⟩) (v := ?_) rfl (by kernel_rfl) (by kernel_rfl) (by kernel_rfl) (fun _ _ _ h => h) (Or.inl ⟨by rfl, ?_⟩) (by assumption) ?_
      rotate_left 1
      · intro w0 hSw
        try dsimp only at hSw
        go_simp
        try with_reducible rfl
      (try simp only [Act.put, List.setIfInBounds_toArray, List.set_cons_zero, List.set_cons_succ])
      refine wpAnyH_take (i := 4) (oi := ⟨some 48, _, _, _, _, _⟩) (v := ?_) rfl (by kernel_rfl) (by kernel_rfl) (by kernel_rfl) (fun _ _ _ h => h) (Or.inl ⟨by rfl, ?_⟩) (by assumption) ?_
      rotate_left 1
      · intro w0 hSw
        try dsimp only at hSw
        go_simp
        try with_reducible rfl
      (try simp only [Act.put, List.setIfInBounds_toArray, List.set_cons_zero, List.set_cons_succ])
      refine wpAnyH_take (i := 5) (oi := ⟨some 49, _, _, _, _, _⟩) (v := ?_) rfl (by kernel_rfl) (by kernel_rfl) (by kernel_rfl) (fun _ _ _ h => h) (Or.inl ⟨by rfl, ?_⟩) (by assumption) ?_
      rotate_left 1
      · intro w0 hSw
        try dsimp only at hSw
        go_simp
        try with_reducible rfl
      (try simp only [Act.put, List.setIfInBounds_toArray, List.set_cons_zero, List.set_cons_succ])
      refine wpAnyH_take (i := 6) (oi := ⟨some 50, _, _, _, _, _⟩) (v := ?_) rfl (by kernel_rfl) (by kernel_rfl) (by kernel_rfl) (fun _ _ _ h => h) (Or.inl ⟨by rfl, ?_⟩) (by assumption) ?_
      rotate_left 1
      · intro w0 hSw
        try dsimp only at hSw
        go_simp
        try with_reducible rfl
      (try simp only [Act.put, List.setIfInBounds_toArray, List.set_cons_zero, List.set_cons_succ])
      refine wpAnyH_take (i := 7) (oi := ⟨some 51, _, _, _, _, _⟩) (v := ?_) rfl (by kernel_rfl) (by kernel_rfl) (by kernel_rfl) (fun _ _ _ h => h) (Or.inl ⟨by rfl, ?_⟩) (by assumption) ?_
      rotate_left 1
      · intro w0 hSw
        try dsimp only at hSw
        go_simp
        try with_reducible rfl
      (try simp only [Act.put, List.setIfInBounds_toArray, List.set_cons_zero, List.set_cons_succ])
      refine wpAnyH_take (i := 8) (oi := ⟨some 52, _, _, _, _, _⟩) (v := ?_) rfl (by kernel_rfl) (by kernel_rfl) (by kernel_rfl) (fun _ _ _ h => h) (Or.inl ⟨by rfl, ?_⟩) (by assumption) ?_
      rotate_left 1
      · intro w0 hSw
        try dsimp only at hSw
        go_simp
        try with_reducible rfl
      (try simp only [Act.put, List.setIfInBounds_toArray, List.set_cons_zero, List.set_cons_succ])
      refine wpAnyH_take (i := 9) (oi := ⟨some 53, _, _, _, _, _⟩) (v := ?_) rfl (by kernel_rfl) (by kernel_rfl) (by kernel_rfl) (fun _ _ _ h => h) (Or.inl ⟨by rfl, ?_⟩) (by assumption) ?_
      rotate_left 1
      · intro w0 hSw
        try dsimp only at hSw
        go_simp
        try with_reducible rfl
      (try simp only [Act.put, List.setIfInBounds_toArray, List.set_cons_zero, List.set_cons_succ])
      refine wpAnyH_take (i := 10) (oi := ⟨some 54, _, _, _, _, _⟩) (v := ?_) rfl (by kernel_rfl) (by kernel_rfl) (by kernel_rfl) (fun _ _ _ h => h) (Or.inl ⟨by rfl, ?_⟩) (by assumption) ?_
      rotate_left 1
      · intro w0 hSw
        try dsimp only at hSw
        go_simp
        try with_reducible rfl
      (try simp only [Act.put, List.setIfInBounds_toArray, List.set_cons_zero, List.set_cons_succ])
      refine wpAnyH_take (i := 12) (oi := ⟨some 56, _, _, _, _, _⟩) (v := ?_) rfl (by kernel_rfl) (by kernel_rfl) (by kernel_rfl) (fun _ _ _ h => h) (Or.inl ⟨by rfl, ?_⟩) (by assumption) ?_
      rotate_left 1
      · intro w0 hSw
        try dsimp only at hSw
        go_simp
        try with_reducible rfl
      (try simp only [Act.put, List.setIfInBounds_toArray, List.set_cons_zero, List.set_cons_succ])
      refine wpAnyH_ready (rs := [11]) (by kernel_rfl) (by simp) ?_
      refine AllReadyH.cons (o := ⟨some 55, _, _, _, _, _⟩) rfl (fun K hK => ?_) AllReadyH.nil
      rw [if_pos (by rfl)]
      go_simp
      refine hK.out _ _ hHeld (fun hHeld => ?_)
      clear hK K
      (try simp only [Act.put, List.setIfInBounds_toArray, List.set_cons_zero, List.set_cons_succ])
      refine wpAnyH_ready (rs := [13]) (by kernel_rfl) (by simp) ?_
      refine AllReadyH.cons (o := ⟨some 57, _, _, _, _, _⟩) rfl (fun K hK => ?_) AllReadyH.nil
      rw [if_pos (by rfl)]
      go_simp
      refine HW.out.mono ?_
      rintro e w2 ⟨A2, c2, rfl, ho2, hg2⟩
      obtain ⟨kp, xc, xf, X1, X2⟩ := H.out.put rfl HU.out (hg2.fresh _) ho2 (by have := HWL.out; omega)
      have HX := hid (And.intro X1 X2)
      have kq : (w2.setCell ⟨g, j, none⟩ (.slice A2 (wo y l).length c2)).cell? ⟨k, 0, none⟩ = some (.slice (some ⟨g, 0, none⟩) n c) := by rw [World.cell?_setCell_other _ _ _ _ hgk]; exact kp
      clear X1 X2 ho2 hg2
      go_simp
      refine hK.out _ _ kp (fun hHeld => ?_)
      clear hK K
      (try simp only [Act.put, List.setIfInBounds_toArray, List.set_cons_zero, List.set_cons_succ])
      refine wpAnyH_take (i := 14) (oi := ⟨some 58, _, _, _, _, _⟩) (v := ?_) rfl (by kernel_rfl) (by kernel_rfl) (by kernel_rfl) (fun _ _ _ h => h) (Or.inl ⟨by rfl, ?_⟩) (by assumption) ?_
      rotate_left 1
      · intro w0 hSw
        try dsimp only at hSw
        go_simp
        try with_reducible rfl
      (try simp only [Act.put, List.setIfInBounds_toArray, List.set_cons_zero, List.set_cons_succ])
      refine wpAnyH_ready (rs := [15]) (by kernel_rfl) (by simp) ?_
      refine AllReadyH.cons (o := ⟨none, _, _, _, _, _⟩) rfl (fun K hK => ?_) AllReadyH.nil
      rw [if_pos (by rfl)]
      go_simp
      refine hK.out _ _ kq (fun hHeld => ?_)
      clear hK K
      (try simp only [Act.put, List.setIfInBounds_toArray, List.set_cons_zero, List.set_cons_succ])
      refine wpAnyH_done (by kernel_rfl) ?_ _
      refine NoPanic.normal ?_
      go_wp2
      go_meet
      exact ⟨_, _, rfl, by rw [HSET.out]; exact HX.out.1, HX.out.2.ofDrew⟩
  case rest =>
    obtain ⟨us1, wx, hwx, H1, C1⟩ := hcut
    subst hwx
    have hl1 := HL1.out
    obtain ⟨g', c', A, d, hv, hu, q1, q2, ho, h64, hld, hdm⟩ := Lr.at_ H1 hl1
    rw [woS_len, HN.out] at hv
    simp only [Value.slice.injEq, Option.some.injEq, Addr.mk.injEq, and_true, true_and] at hv
    obtain ⟨rfl, rfl⟩ := hv
    obtain ⟨B', c', e', hr, -⟩ := ho.read
    simp only [Value.slice.injEq] at e'
    obtain ⟨rfl, -, -⟩ := e'
    have hgk : (⟨g, i, none⟩ : Addr) ≠ ⟨k, 0, none⟩ := by
      intro e
      injection e with e
      exact H1.vk (congrArg some e)
    have c0 : wx.cell? ⟨k, 0, none⟩ = some (.slice (some ⟨g, 0, none⟩) n c) := H1.box.cell 0
    obtain ⟨ln, hln⟩ : ∃ x, l1.length = x := ⟨_, rfl⟩
    rw [hln] at q1 h64 hu
    have HU := hid hu
    have HC1 := hid C1
    have HWL := HNEW
    have B2 : Below wx.heap.size wx (wx.alloc (.cells #[.int .i64 y] 3)).drew := below_draws (below_alloc wx _) 1
    have H2 := hid (H1.below B2)
    have HO2 := hid (ho.below B2)
    have HR2 := hid (show Rv (wx.alloc (.cells #[.int .i64 y] 3)).drew (wx.heap.size + 1) (some ⟨wx.heap.size, 0, none⟩) [.int .i64 y] from rv_new wx 3 #[.int .i64 y])
    rw [hln] at HO2
    have HLN2 := hid (show (ints l1).length = ln from by rw [ints_length]; exact hln)
    have HAP := hid (show ints l1 ++ [Value.int .i64 y] = ints (l1 ++ [y]) from by simp [ints])
    have H1' := hid H1
    have HB2 := hid B2
    have k2 : (wx.alloc (.cells #[.int .i64 y] 3)).cell? ⟨k, 0, none⟩ = some (.slice (some ⟨g, 0, none⟩) n c) := (H1.below (below_alloc wx _)).box.cell 0
    have q3 : (wx.alloc (.cells #[.int .i64 y] 3)).cell? ⟨g, i, none⟩ = some (.slice A ln d) := ((below_alloc wx _).cell (World.block_lt_of_cell? wx _ q1)).trans q1
    clear hl1 hu ho hr hln hld hdm C1 H1 B2
    go_upto_region 11 with fail
    refine wp_region_noPanic ?_
    refine wp_region_held_drew (S := fun w' => w'.cell? ⟨k, 0, none⟩ = some (.slice (some ⟨g, 0, none⟩) n c)) (by kernel_rfl) ?_ (fun hHeld => ?_)
    · go_simp
    refine wpAnyH_take (i := 0) (oi := ⟨some 78, _, _, _, _, _⟩) (v := ?_) rfl (by kernel_rfl) (by kernel_rfl) (by kernel_rfl) (fun _ _ _ h => h) (Or.inl ⟨by rfl, ?_⟩) (by assumption) ?_
    rotate_left 1
    · intro w0 hSw
      try dsimp only at hSw
      go_simp
      try with_reducible rfl
    (try simp only [Act.put, List.setIfInBounds_toArray, List.set_cons_zero, List.set_cons_succ])
    refine wpAnyH_take (i := 1) (oi := ⟨some 79, _, _, _, _, _⟩) (v := ?_) rfl (by kernel_rfl) (by kernel_rfl) (by kernel_rfl) (fun _ _ _ h => h) (Or.inl ⟨by rfl, ?_⟩) (by assumption) ?_
    rotate_left 1
    · intro w0 hSw
      try dsimp only at hSw
      go_simp
      try with_reducible rfl
    (try simp only [Act.put, List.setIfInBounds_toArray, List.set_cons_zero, List.set_cons_succ])
    refine wpAnyH_take (i := 2) (oi := ⟨some 80, _, _, _, _, _⟩) (v := ?_) rfl (by kernel_rfl) (by kernel_rfl) (by kernel_rfl) (fun _ _ _ h => h) (Or.inl ⟨by rfl, ?_⟩) (by assumption) ?_
    rotate_left 1
    · intro w0 hSw
      try dsimp only at hSw
      go_simp
      try with_reducible rfl
    (try simp only [Act.put, List.setIfInBounds_toArray, List.set_cons_zero, List.set_cons_succ])
    refine wpAnyH_take (i := 3) (oi := ⟨some 81, _, _, _, _, _⟩) (v := ?_) rfl (by kernel_rfl) (by kernel_rfl) (by kernel_rfl) (fun _ _ _ h => h) (Or.inl ⟨by rfl, ?_⟩) (by assumption) ?_
    rotate_left 1
    · intro w0 hSw
      try dsimp only at hSw
      go_simp
      try with_reducible rfl
    (try simp only [Act.put, List.setIfInBounds_toArray, List.set_cons_zero, List.set_cons_succ])
    refine wpAnyH_take (i := 4) (oi := ⟨some 82, _, _, _, _, _⟩) (v := ?_) rfl (by kernel_rfl) (by kernel_rfl) (by kernel_rfl) (fun _ _ _ h => h) (Or.inl ⟨by rfl, ?_⟩) (by assumption) ?_
    rotate_left 1
    · intro w0 hSw
      try dsimp only at hSw
      go_simp
      try with_reducible rfl
    (try simp only [Act.put, List.setIfInBounds_toArray, List.set_cons_zero, List.set_cons_succ])
    refine wpAnyH_take (i := 5) (oi := ⟨some 83, _, _, _, _, _⟩) (v := ?_) rfl (by kernel_rfl) (by kernel_rfl) (by kernel_rfl) (fun _ _ _ h => h) (Or.inl ⟨by rfl, ?_⟩) (by assumption) ?_
    rotate_left 1
    · intro w0 hSw
      try dsimp only at hSw
      go_simp
      try with_reducible rfl
    (try simp only [Act.put, List.setIfInBounds_toArray, List.set_cons_zero, List.set_cons_succ])
    refine wpAnyH_take (i := 6) (oi := ⟨some 84, _, _, _, _, _⟩) (v := ?_) rfl (by kernel_rfl) (by kernel_rfl) (by kernel_rfl) (fun _ _ _ h => h) (Or.inl ⟨by rfl, ?_⟩) (by assumption) ?_
    rotate_left 1
    · intro w0 hSw
      try dsimp only at hSw
      go_simp
      try with_reducible rfl
    (try simp only [Act.put, List.setIfInBounds_toArray, List.set_cons_zero, List.set_cons_succ])
    refine wpAnyH_take (i := 7) (oi := ⟨some 85, _, _, _, _, _⟩) (v := ?_) rfl (by kernel_rfl) (by kernel_rfl) (by kernel_rfl) (fun _ _ _ h => h) (Or.inl ⟨by rfl, ?_⟩) (by assumption) ?_
    rotate_left 1
    · intro w0 hSw
      try dsimp only at hSw
      go_simp
      try with_reducible rfl
    (try simp only [Act.put, List.setIfInBounds_toArray, List.set_cons_zero, List.set_cons_succ])
    refine wpAnyH_take (i := 8) (oi := ⟨some 86, _, _, _, _, _⟩) (v := ?_) rfl (by kernel_rfl) (by kernel_rfl) (by kernel_rfl) (fun _ _ _ h => h) (Or.inl ⟨by rfl, ?_⟩) (by assumption) ?_
    rotate_left 1
    · intro w0 hSw
      try dsimp only at hSw
      go_simp
      try with_reducible rfl
    (try simp only [Act.put, List.setIfInBounds_toArray, List.set_cons_zero, List.set_cons_succ])
    refine wpAnyH_take (i := 9) (oi := ⟨some 87, _, _, _, _, _⟩) (v := ?_) rfl (by kernel_rfl) (by kernel_rfl) (by kernel_rfl) (fun _ _ _ h => h) (Or.inl ⟨by rfl, ?_⟩) (by assumption) ?_
    rotate_left 1
    · intro w0 hSw
      try dsimp only at hSw
      go_simp
      try with_reducible rfl
    (try simp only [Act.put, List.setIfInBounds_toArray, List.set_cons_zero, List.set_cons_succ])
    refine wpAnyH_take (i := 10) (oi := ⟨some 88, _, _, _, _, _⟩) (v := ?_) rfl (by kernel_rfl) (by kernel_rfl) (by kernel_rfl) (fun _ _ _ h => h) (Or.inl ⟨by rfl, ?_⟩) (by assumption) ?_
    rotate_left 1
    · intro w0 hSw
      try dsimp only at hSw
      go_simp
      try with_reducible rfl
    (try simp only [Act.put, List.setIfInBounds_toArray, List.set_cons_zero, List.set_cons_succ])
    refine wpAnyH_take (i := 12) (oi := ⟨some 90, _, _, _, _, _⟩) (v := ?_) rfl (by kernel_rfl) (by kernel_rfl) (by kernel_rfl) (fun _ _ _ h => h) (Or.inl ⟨by rfl, ?_⟩) (by assumption) ?_
    rotate_left 1
    · intro w0 hSw
      try dsimp only at hSw
      go_simp
      try with_reducible rfl
    (try simp only [Act.put, List.setIfInBounds_toArray, List.set_cons_zero, List.set_cons_succ])
    refine wpAnyH_ready (rs := [11, 13]) (by kernel_rfl) (by simp) ?_
    refine (AllReadyH.cons (o := ⟨some 89, _, _, _, _, _⟩) rfl (fun K hK => ?_) (AllReadyH.cons (o := ⟨some 91, _, _, _, _, _⟩) rfl (fun K hK => ?_) AllReadyH.nil))
    · rw [if_pos (by rfl)]
      go_simp
      refine hK.out _ _ hHeld (fun hHeld => ?_)
      clear hK K
      (try simp only [Act.put, List.setIfInBounds_toArray, List.set_cons_zero, List.set_cons_succ])
      refine wpAnyH_ready (rs := [13]) (by kernel_rfl) (by simp) ?_
      refine AllReadyH.cons (o := ⟨some 91, _, _, _, _, _⟩) rfl (fun K hK => ?_) AllReadyH.nil
      rw [if_pos (by rfl)]
      go_simp
      refine hK.out _ _ k2 (fun hHeld => ?_)
      clear hK K
      (try simp only [Act.put, List.setIfInBounds_toArray, List.set_cons_zero, List.set_cons_succ])
      refine wpAnyH_ready (rs := [14]) (by kernel_rfl) (by simp) ?_
      refine AllReadyH.cons (o := ⟨some 92, _, _, _, _, _⟩) rfl (fun K hK => ?_) AllReadyH.nil
      rw [if_pos (by rfl)]
      refine wp_appW elt_int (.tmp 89) (.tmp 91) rfl _ _ HO2.out rfl _ _ 1 1 [.int .i64 y] rfl rfl HR2.out (fun u hu => by simp at hu; subst hu; rfl) (by rw [HLN2.out]; unfold maxLen; omega) (by rw [HLN2.out]; omega) ?_
      intro v9 w9 ho2 hg2
      rw [HAP.out] at ho2
      obtain ⟨A2, n2, c2, rfl⟩ : ∃ A n c, v9 = .slice A n c := by obtain ⟨A, c, e, -⟩ := ho2.read; exact ⟨A, _, c, e⟩
      obtain ⟨kp, xc, xf, X1, X2⟩ := H2.out.put rfl HU.out hg2 ho2 (by have := HWL.out; omega)
      have HX := hid (And.intro X1 X2)
      have kq : (w9.setCell ⟨g, i, none⟩ (.slice A2 n2 c2)).cell? ⟨k, 0, none⟩ = some (.slice (some ⟨g, 0, none⟩) n c) := by rw [World.cell?_setCell_other _ _ _ _ hgk]; exact kp
      clear X1 X2 ho2 hg2
      refine hK.out _ _ kp (fun hHeld => ?_)
      clear hK K
      (try simp only [Act.put, List.setIfInBounds_toArray, List.set_cons_zero, List.set_cons_succ])
      refine wpAnyH_take (i := 15) (oi := ⟨some 93, _, _, _, _, _⟩) (v := ?_) rfl (by kernel_rfl) (by kernel_rfl) (by kernel_rfl) (fun _ _ _ h => h) (Or.inl ⟨by rfl, ?_⟩) (by assumption) ?_
      rotate_left 1
      · intro w0 hSw
        try dsimp only at hSw
        go_simp
        try with_reducible rfl
      (try simp only [Act.put, List.setIfInBounds_toArray, List.set_cons_zero, List.set_cons_succ])
      refine wpAnyH_ready (rs := [16]) (by kernel_rfl) (by simp) ?_
      refine AllReadyH.cons (o := ⟨none, _, _, _, _, _⟩) rfl (fun K hK => ?_) AllReadyH.nil
      rw [if_pos (by rfl)]
      go_simp
      refine hK.out _ _ kq (fun hHeld => ?_)
      clear hK K
      (try simp only [Act.put, List.setIfInBounds_toArray, List.set_cons_zero, List.set_cons_succ])
      refine wpAnyH_done (by kernel_rfl) ?_ _
      refine NoPanic.normal ?_
      go_wp2
      go_ret
      exact ⟨rfl, _, HX.out.1, HC1.out.trans ((Chg.of HB2.out _).trans HX.out.2)⟩
    · rw [if_pos (by rfl)]
      go_simp
      refine hK.out _ _ k2 (fun hHeld => ?_)
      clear hK K
      (try simp only [Act.put, List.setIfInBounds_toArray, List.set_cons_zero, List.set_cons_succ])
      refine wpAnyH_ready (rs := [11]) (by kernel_rfl) (by simp) ?_
      refine AllReadyH.cons (o := ⟨some 89, _, _, _, _, _⟩) rfl (fun K hK => ?_) AllReadyH.nil
      rw [if_pos (by rfl)]
      go_simp
      refine hK.out _ _ hHeld (fun hHeld => ?_)
      clear hK K
      (try simp only [Act.put, List.setIfInBounds_toArray, List.set_cons_zero, List.set_cons_succ])
      refine wpAnyH_ready (rs := [14]) (by kernel_rfl) (by simp) ?_
      refine AllReadyH.cons (o := ⟨some 92, _, _, _, _, _⟩) rfl (fun K hK => ?_) AllReadyH.nil
      rw [if_pos (by rfl)]
      refine wp_appW elt_int (.tmp 89) (.tmp 91) rfl _ _ HO2.out rfl _ _ 1 1 [.int .i64 y] rfl rfl HR2.out (fun u hu => by simp at hu; subst hu; rfl) (by rw [HLN2.out]; unfold maxLen; omega) (by rw [HLN2.out]; omega) ?_
      intro v9 w9 ho2 hg2
      rw [HAP.out] at ho2
      obtain ⟨A2, n2, c2, rfl⟩ : ∃ A n c, v9 = .slice A n c := by obtain ⟨A, c, e, -⟩ := ho2.read; exact ⟨A, _, c, e⟩
      obtain ⟨kp, xc, xf, X1, X2⟩ := H2.out.put rfl HU.out hg2 ho2 (by have := HWL.out; omega)
      have HX := hid (And.intro X1 X2)
      have kq : (w9.setCell ⟨g, i, none⟩ (.slice A2 n2 c2)).cell? ⟨k, 0, none⟩ = some (.slice (some ⟨g, 0, none⟩) n c) := by rw [World.cell?_setCell_other _ _ _ _ hgk]; exact kp
      clear X1 X2 ho2 hg2
      refine hK.out _ _ kp (fun hHeld => ?_)
      clear hK K
      (try simp only [Act.put, List.setIfInBounds_toArray, List.set_cons_zero, List.set_cons_succ])
      refine wpAnyH_take (i := 15) (oi := ⟨some 93, _, _, _, _, _⟩) (v := ?_) rfl (by kernel_rfl) (by kernel_rfl) (by kernel_rfl) (fun _ _ _ h => h) (Or.inl ⟨by rfl, ?_⟩) (by assumption) ?_
      rotate_left 1
      · intro w0 hSw
        try dsimp only at hSw
        go_simp
        try with_reducible rfl
      (try simp only [Act.put, List.setIfInBounds_toArray, List.set_cons_zero, List.set_cons_succ])
      refine wpAnyH_ready (rs := [16]) (by kernel_rfl) (by simp) ?_
      refine AllReadyH.cons (o := ⟨none, _, _, _, _, _⟩) rfl (fun K hK => ?_) AllReadyH.nil
      rw [if_pos (by rfl)]
      go_simp
      refine hK.out _ _ kq (fun hHeld => ?_)
      clear hK K
      (try simp only [Act.put, List.setIfInBounds_toArray, List.set_cons_zero, List.set_cons_succ])
      refine wpAnyH_done (by kernel_rfl) ?_ _
      refine NoPanic.normal ?_
      go_wp2
      go_ret
      exact ⟨rfl, _, HX.out.1, HC1.out.trans ((Chg.of HB2.out _).trans HX.out.2)⟩
end
end Go.Proofs.Ytoiikjpeceolpaa
