/-
  What is proved: store's Write. Conditions: the store lies in memory as one, or there is none.
-/
import Derived.Test.YtbcejfonkehjgaaGreatDoorK37
import Derived.Test.YtbcejfonkehjgaaGreatDoorK38
import Derived.Test.YtbcejfonkehjgaaGreatDoorK19
namespace Go.Proofs.YtbcejfonkehjgaaGreatDoor
open Go.RowKit

section
variable {w : World} {bb kd ks : Nat} {vv : Value} {st : St} {sh : Sh}
set_option maxRecDepth 100000 in
set_option maxHeartbeats 1600000 in
theorem write_old (h : Sx w bb kd ks vv st sh) (c s b o k L cap : Nat) (A : Option Addr) (l : List Int) (hL : l.length = L) (hZ : L = sh.Z) (hb : 1 ≤ b ∧ b ≤ great) (ho : 1 ≤ o ∧ o ≤ great) (r : Rn w A l) (hy : Byt l) (hk1 : k < sh.B) (hc1 : c < sh.C) (hs1 : s < sh.S) (lb ls : List Int) (hlb : st.L[1 + k]? = some lb) (hls : st.L[sh.at_ c s]? = some ls) (hag : orI (cmpI6 (b : Nat) ((slt ls).1 : Nat)) (cmpI6 (o : Nat) ((slt ls).2.1 : Nat)) < 0) :
    Calls Tryz.prog 90 #[.pointer (some ⟨ks, 0, none⟩), .agg #[.int .i64 (c : Nat), .int .i64 (s : Nat), .int .i64 (b : Nat), .int .i64 (o : Nat), .int .i64 (k : Nat), .slice A L cap]] w fun e w' =>
      e = .returned (.tuple #[.int .i64 0, .int .i64 12]) ∧ Below w.heap.size w w' := by
  obtain ⟨W, hW, B1, HBb, sb⟩ := below_new w 133 #[.int .i64 (c : Nat), .int .i64 (s : Nat), .int .i64 (b : Nat), .int .i64 (o : Nat), .int .i64 (k : Nat), .slice A L cap]
  have HW := hid hW
  have HX := hid (h.below HBb)
  have HE := hid B1
  have HB := hid HBb
  have HR := hid (r.now HBb)
  have hwr : (Wr.mk c s b o k A cap l).wrong sh = 0 := by
    unfold great at hb ho
    unfold Wr.wrong Wr.slot
    rw [if_neg (by simp; omega), if_neg (by simp; omega), if_neg (by simp; omega)]
  have HRF := hid (fun w1 => srefuses_any sh h.ok w1 (Wr.mk c s b o k A cap l))
  have HLA := hid (fun w1 (h1 : Sx w1 bb kd ks vv st sh) => last_any h1 c s hc1 hs1 ls hls)
  have HLB := hid (slt_bnd ls)
  have HAD := hid (fun w1 (h1 : Sx w1 bb kd ks vv st sh) r1 => add_any h1 c s b o k L cap A l hL (by have := h.ok.z; omega) hb.2 ho.2 r1 hy hk1 hc1 hs1 lb hlb)
  simp only [Wr.v, hwr, hL] at HRF
  generalize slt ls = sl at *
  obtain ⟨b0, o0, a0⟩ := sl
  obtain ⟨B, Z, C, S⟩ := sh
  simp only [Sh.v] at HRF HLB HLA
  clear h hW B1 HBb sb hL hZ r hk1 hc1 hs1 hb ho hy hlb hls hwr
  generalize hp : cmpI6 (b : Nat) (b0 : Nat) = p at *
  generalize hq : cmpI6 (o : Nat) (o0 : Nat) = q at *
  have HP := hid hp
  have HQ := hid hq
  clear hp hq
  go_enter Tryz.func90, Tryz.ntmps90
  go_upto_region 1 with fail
  rw [HW.out]
  go_upto_region 3 with fail
  have HS := hid (fun y (hy : Below W.heap.size W y) => (HX.out.bx.next hy).all5)
  have HEE := hid (fun y (hy : Below W.heap.size W y) => HE.out.next hy)
  refine wp_region_noPanic ?_
  refine wp_region_held_drew (S := fun y => Below W.heap.size W y) (by kernel_rfl) ?_ (fun hHeld => ?_)
  · exact (Below.refl _ _).drew
  refine wpAnyH_take (i := 0) (oi := ⟨some 13, _, _, _, _, _⟩) (v := ?_) rfl (by kernel_rfl) (by kernel_rfl) (by kernel_rfl) (fun _ _ _ h => h) (Or.inl ⟨by rfl, ?_⟩) (by assumption) ?_
  rotate_left 1
  · intro w0 hSw
    clear hSw
    go_simp
    try with_reducible rfl
  (try simp only [Act.put, List.setIfInBounds_toArray, List.set_cons_zero, List.set_cons_succ])
  refine wpAnyH_take (i := 1) (oi := ⟨some 14, _, _, _, _, _⟩) (v := ?_) rfl (by kernel_rfl) (by kernel_rfl) (by kernel_rfl) (fun _ _ _ h => h) (Or.inl ⟨by rfl, ?_⟩) (by assumption) ?_
  rotate_left 1
  · intro w0 hSw
    clear hSw
    go_simp
    try with_reducible rfl
  (try simp only [Act.put, List.setIfInBounds_toArray, List.set_cons_zero, List.set_cons_succ])
  refine wpAnyH_take (i := 2) (oi := ⟨some 15, _, _, _, _, _⟩) (v := ?_) rfl (by kernel_rfl) (by kernel_rfl) (by kernel_rfl) (fun _ _ _ h => h) (Or.inl ⟨by rfl, ?_⟩) (by assumption) ?_
  rotate_left 1
  · intro w0 hSw
    clear hSw
    go_simp
    try with_reducible rfl
  (try simp only [Act.put, List.setIfInBounds_toArray, List.set_cons_zero, List.set_cons_succ])
  refine wpAnyH_take (i := 3) (oi := ⟨some 16, _, _, _, _, _⟩) (v := ?_) rfl (by kernel_rfl) (by kernel_rfl) (by kernel_rfl) (fun _ _ _ h => h) (Or.inl ⟨by rfl, ?_⟩) (by assumption) ?_
  rotate_left 1
  · intro w0 hSw
    obtain ⟨k0, k1, k2, k3, k4⟩ := HS.out _ hSw; clear hSw
    go_simp
    try with_reducible rfl
  (try simp only [Act.put, List.setIfInBounds_toArray, List.set_cons_zero, List.set_cons_succ])
  refine wpAnyH_take (i := 4) (oi := ⟨some 17, _, _, _, _, _⟩) (v := _) rfl (by kernel_rfl) (by kernel_rfl) (by kernel_rfl) (fun _ _ _ h => h) (yieldsIf_bx (by rfl) 133 (.tmp 3) rfl _ _ _ _ rfl HEE.out Tryz.underlying133 rfl (by kernel_rfl)) (by assumption) ?_
  (try simp only [Act.put, List.setIfInBounds_toArray, List.set_cons_zero, List.set_cons_succ])
  refine wpAnyH_ready (rs := [5]) (by kernel_rfl) (by simp) ?_
  refine AllReadyH.cons (o := ⟨some 18, _, _, _, _, _⟩) rfl (fun K hK => ?_) AllReadyH.nil
  rw [if_pos (by rfl)]
  go_simp
  go_at_call 123
  refine (HRF.out _).mono ?_
  rintro e w1 ⟨rfl, hb1⟩
  have hWb := hid (show Below W.heap.size W w1 from ⟨hb1.os, hb1.tape, hb1.output, hb1.size, hb1.block⟩)
  clear hb1
  refine hK.out _ _ hWb.out (fun hHeld => ?_)
  clear hK K
  (try simp only [Act.put, List.setIfInBounds_toArray, List.set_cons_zero, List.set_cons_succ])
  refine wpAnyH_take (i := 6) (oi := ⟨some 6, _, _, _, _, _⟩) (v := ?_) rfl (by kernel_rfl) (by kernel_rfl) (by kernel_rfl) (fun _ _ _ h => h) (Or.inl ⟨by rfl, ?_⟩) (by assumption) ?_
  rotate_left 1
  · intro w0 hSw
    clear hSw
    go_simp
    try with_reducible rfl
  (try simp only [Act.put, List.setIfInBounds_toArray, List.set_cons_zero, List.set_cons_succ])
  refine wpAnyH_done (by kernel_rfl) ?_ _
  refine NoPanic.normal ?_
  have HB1 := hid (on HB.out hWb.out)
  have HX1 := hid (HX.out.below hWb.out)
  have HE1 := hid (HE.out.next hWb.out)
  have HR1 := hid (HR.out.now hWb.out)
  clear hWb HX HE HR HB HW HRF HS HEE hHeld
  obtain ⟨d0, d1, d2, d3, d4, d5⟩ := HE1.out.all6
  go_wp2_with fail
  refine (HLA.out w1 HX1.out).mono ?_
  rintro e w2 ⟨rfl, hb2⟩
  have HB2 := hid (on HB1.out hb2)
  have HX2 := hid (HX1.out.below hb2)
  have HE2 := hid (HE1.out.next hb2)
  have HR2 := hid (HR1.out.now hb2)
  clear d0 d1 d2 d3 d4 d5 hb2 HX1 HE1 HR1 HB1 HLA
  go_upto_region 7 with fail
  have HEE := hid (fun y (hy : Below w2.heap.size w2 y) => (HE2.out.next hy).all6)
  refine wp_region_noPanic ?_
  refine wp_region_held_drew (S := fun y => Below w2.heap.size w2 y) (by kernel_rfl) ?_ (fun hHeld => ?_)
  · exact (Below.refl _ _).drew
  refine wpAnyH_take (i := 0) (oi := ⟨some 32, _, _, _, _, _⟩) (v := ?_) rfl (by kernel_rfl) (by kernel_rfl) (by kernel_rfl) (fun _ _ _ h => h) (Or.inl ⟨by rfl, ?_⟩) (by assumption) ?_
  rotate_left 1
  · intro w0 hSw
    clear hSw
    go_simp
    try with_reducible rfl
  (try simp only [Act.put, List.setIfInBounds_toArray, List.set_cons_zero, List.set_cons_succ])
  refine wpAnyH_take (i := 1) (oi := ⟨some 33, _, _, _, _, _⟩) (v := ?_) rfl (by kernel_rfl) (by kernel_rfl) (by kernel_rfl) (fun _ _ _ h => h) (Or.inl ⟨by rfl, ?_⟩) (by assumption) ?_
  rotate_left 1
  · intro w0 hSw
    obtain ⟨k0, k1, k2, k3, k4, k5⟩ := HEE.out _ hSw; clear hSw k0 k1 k4 k5
    go_simp
    try with_reducible rfl
  (try simp only [Act.put, List.setIfInBounds_toArray, List.set_cons_zero, List.set_cons_succ])
  refine wpAnyH_take (i := 2) (oi := ⟨some 34, _, _, _, _, _⟩) (v := ?_) rfl (by kernel_rfl) (by kernel_rfl) (by kernel_rfl) (fun _ _ _ h => h) (Or.inl ⟨by rfl, ?_⟩) (by assumption) ?_
  rotate_left 1
  · intro w0 hSw
    clear hSw
    go_simp
    try with_reducible rfl
  (try simp only [Act.put, List.setIfInBounds_toArray, List.set_cons_zero, List.set_cons_succ])
  refine wpAnyH_take (i := 4) (oi := ⟨some 36, _, _, _, _, _⟩) (v := ?_) rfl (by kernel_rfl) (by kernel_rfl) (by kernel_rfl) (fun _ _ _ h => h) (Or.inl ⟨by rfl, ?_⟩) (by assumption) ?_
  rotate_left 1
  · intro w0 hSw
    clear hSw
    go_simp
    try with_reducible rfl
  (try simp only [Act.put, List.setIfInBounds_toArray, List.set_cons_zero, List.set_cons_succ])
  refine wpAnyH_take (i := 5) (oi := ⟨some 37, _, _, _, _, _⟩) (v := ?_) rfl (by kernel_rfl) (by kernel_rfl) (by kernel_rfl) (fun _ _ _ h => h) (Or.inl ⟨by rfl, ?_⟩) (by assumption) ?_
  rotate_left 1
  · intro w0 hSw
    obtain ⟨k0, k1, k2, k3, k4, k5⟩ := HEE.out _ hSw; clear hSw k0 k1 k4 k5
    go_simp
    try with_reducible rfl
  (try simp only [Act.put, List.setIfInBounds_toArray, List.set_cons_zero, List.set_cons_succ])
  refine wpAnyH_take (i := 6) (oi := ⟨some 38, _, _, _, _, _⟩) (v := ?_) rfl (by kernel_rfl) (by kernel_rfl) (by kernel_rfl) (fun _ _ _ h => h) (Or.inl ⟨by rfl, ?_⟩) (by assumption) ?_
  rotate_left 1
  · intro w0 hSw
    clear hSw
    go_simp
    try with_reducible rfl
  (try simp only [Act.put, List.setIfInBounds_toArray, List.set_cons_zero, List.set_cons_succ])
  obtain ⟨y2, hy2⟩ : ∃ y, w2.drew = y := ⟨_, rfl⟩
  rw [hy2] at hHeld ⊢
  have HBY := hid hHeld
  clear hy2
  refine wpAnyH_ready (rs := [3]) (by kernel_rfl) (by simp) ?_
  refine AllReadyH.cons (o := ⟨some 35, _, _, _, _, _⟩) rfl (fun K hK => ?_) AllReadyH.nil
  rw [if_pos (by rfl)]
  go_simp
  go_at_call 126
  refine (compare6_any (b : Nat) (b0 : Nat) _).mono ?_
  rintro e w3 ⟨rfl, hw3⟩
  rw [hw3, HP.out]
  clear hw3
  refine hK.out _ _ HBY.out (fun hHeld => ?_)
  clear hK K
  (try simp only [Act.put, List.setIfInBounds_toArray, List.set_cons_zero, List.set_cons_succ])
  refine wpAnyH_ready (rs := [7]) (by kernel_rfl) (by simp) ?_
  refine AllReadyH.cons (o := ⟨some 39, _, _, _, _, _⟩) rfl (fun K hK => ?_) AllReadyH.nil
  rw [if_pos (by rfl)]
  go_simp
  go_at_call 126
  refine (compare6_any (o : Nat) (o0 : Nat) _).mono ?_
  rintro e w3 ⟨rfl, hw3⟩
  rw [hw3, HQ.out]
  clear hw3
  refine hK.out _ _ HBY.out (fun hHeld => ?_)
  clear hK K
  (try simp only [Act.put, List.setIfInBounds_toArray, List.set_cons_zero, List.set_cons_succ])
  refine wpAnyH_ready (rs := [8]) (by kernel_rfl) (by simp) ?_
  refine AllReadyH.cons (o := ⟨some 40, _, _, _, _, _⟩) rfl (fun K hK => ?_) AllReadyH.nil
  rw [if_pos (by rfl)]
  go_simp
  have hbw := hid (HBY.out.trans ((below_alloc y2 (.cells #[.int .i64 p, .int .i64 q] 3)).mono HBY.out.size))
  refine hK.out _ _ hbw.out (fun hHeld => ?_)
  clear hK K
  (try simp only [Act.put, List.setIfInBounds_toArray, List.set_cons_zero, List.set_cons_succ])
  refine wpAnyH_ready (rs := [9]) (by kernel_rfl) (by simp) ?_
  refine AllReadyH.cons (o := ⟨some 41, _, _, _, _, _⟩) rfl (fun K hK => ?_) AllReadyH.nil
  rw [if_pos (by rfl)]
  go_simp
  go_at_call 125
  refine (or_any p q _ _ _ ((Bx.new _ _ _).cell 0) ((Bx.new _ _ _).cell 1)).mono ?_
  rintro e w3 ⟨rfl, hw3⟩
  rw [hw3]
  clear hw3
  refine hK.out _ _ hbw.out (fun hHeld => ?_)
  clear hK K
  (try simp only [Act.put, List.setIfInBounds_toArray, List.set_cons_zero, List.set_cons_succ])
  refine wpAnyH_take (i := 10) (oi := ⟨some 10, _, _, _, _, _⟩) (v := ?_) rfl (by kernel_rfl) (by kernel_rfl) (by kernel_rfl) (fun _ _ _ h => h) (Or.inl ⟨by rfl, ?_⟩) (by assumption) ?_
  rotate_left 1
  · intro w0 hSw
    clear hSw
    go_simp
    try with_reducible rfl
  (try simp only [Act.put, List.setIfInBounds_toArray, List.set_cons_zero, List.set_cons_succ])
  refine wpAnyH_done (by kernel_rfl) ?_ _
  refine NoPanic.normal ?_
  clear hHeld HEE
  generalize orI p q = age at *
  have HB3 := hid (on HB2.out hbw.out)
  have t1 : decide (age < 0) = true := by simpa using hag
  clear hag hbw HX2 HE2 HR2 HAD
  go_wp2
  go_ret2
  exact ⟨rfl, HB3.out⟩
set_option maxRecDepth 100000 in
set_option maxHeartbeats 1600000 in
theorem write_same (h : Sx w bb kd ks vv st sh) (c s b o k L cap : Nat) (A : Option Addr) (l : List Int) (hL : l.length = L) (hZ : L = sh.Z) (hb : 1 ≤ b ∧ b ≤ great) (ho : 1 ≤ o ∧ o ≤ great) (r : Rn w A l) (hy : Byt l) (hk1 : k < sh.B) (hc1 : c < sh.C) (hs1 : s < sh.S) (lb ls : List Int) (hlb : st.L[1 + k]? = some lb) (hls : st.L[sh.at_ c s]? = some ls) (hag : orI (cmpI6 (b : Nat) ((slt ls).1 : Nat)) (cmpI6 (o : Nat) ((slt ls).2.1 : Nat)) = 0) :
    Calls Tryz.prog 90 #[.pointer (some ⟨ks, 0, none⟩), .agg #[.int .i64 (c : Nat), .int .i64 (s : Nat), .int .i64 (b : Nat), .int .i64 (o : Nat), .int .i64 (k : Nat), .slice A L cap]] w fun e w' =>
      e = .returned (.tuple #[.int .i64 ((slt ls).2.2 : Nat), .int .i64 0]) ∧ Below w.heap.size w w' := by
  obtain ⟨W, hW, B1, HBb, sb⟩ := below_new w 133 #[.int .i64 (c : Nat), .int .i64 (s : Nat), .int .i64 (b : Nat), .int .i64 (o : Nat), .int .i64 (k : Nat), .slice A L cap]
  have HW := hid hW
  have HX := hid (h.below HBb)
  have HE := hid B1
  have HB := hid HBb
  have HR := hid (r.now HBb)
  have hwr : (Wr.mk c s b o k A cap l).wrong sh = 0 := by
    unfold great at hb ho
    unfold Wr.wrong Wr.slot
    rw [if_neg (by simp; omega), if_neg (by simp; omega), if_neg (by simp; omega)]
  have HRF := hid (fun w1 => srefuses_any sh h.ok w1 (Wr.mk c s b o k A cap l))
  have HLA := hid (fun w1 (h1 : Sx w1 bb kd ks vv st sh) => last_any h1 c s hc1 hs1 ls hls)
  have HLB := hid (slt_bnd ls)
  have HAD := hid (fun w1 (h1 : Sx w1 bb kd ks vv st sh) r1 => add_any h1 c s b o k L cap A l hL (by have := h.ok.z; omega) hb.2 ho.2 r1 hy hk1 hc1 hs1 lb hlb)
  simp only [Wr.v, hwr, hL] at HRF
  generalize slt ls = sl at *
  obtain ⟨b0, o0, a0⟩ := sl
  obtain ⟨B, Z, C, S⟩ := sh
  simp only [Sh.v] at HRF HLB HLA
  clear h hW B1 HBb sb hL hZ r hk1 hc1 hs1 hb ho hy hlb hls hwr
  generalize hp : cmpI6 (b : Nat) (b0 : Nat) = p at *
  generalize hq : cmpI6 (o : Nat) (o0 : Nat) = q at *
  have HP := hid hp
  have HQ := hid hq
  clear hp hq
  go_enter Tryz.func90, Tryz.ntmps90
  go_upto_region 1 with fail
  rw [HW.out]
  go_upto_region 3 with fail
  have HS := hid (fun y (hy : Below W.heap.size W y) => (HX.out.bx.next hy).all5)
  have HEE := hid (fun y (hy : Below W.heap.size W y) => HE.out.next hy)
  refine wp_region_noPanic ?_
  refine wp_region_held_drew (S := fun y => Below W.heap.size W y) (by kernel_rfl) ?_ (fun hHeld => ?_)
  · exact (Below.refl _ _).drew
  refine wpAnyH_take (i := 0) (oi := ⟨some 13, _, _, _, _, _⟩) (v := ?_) rfl (by kernel_rfl) (by kernel_rfl) (by kernel_rfl) (fun _ _ _ h => h) (Or.inl ⟨by rfl, ?_⟩) (by assumption) ?_
  rotate_left 1
  · intro w0 hSw
    clear hSw
    go_simp
    try with_reducible rfl
  (try simp only [Act.put, List.setIfInBounds_toArray, List.set_cons_zero, List.set_cons_succ])
  refine wpAnyH_take (i := 1) (oi := ⟨some 14, _, _, _, _, _⟩) (v := ?_) rfl (by kernel_rfl) (by kernel_rfl) (by kernel_rfl) (fun _ _ _ h => h) (Or.inl ⟨by rfl, ?_⟩) (by assumption) ?_
  rotate_left 1
  · intro w0 hSw
    clear hSw
    go_simp
    try with_reducible rfl
  (try simp only [Act.put, List.setIfInBounds_toArray, List.set_cons_zero, List.set_cons_succ])
  refine wpAnyH_take (i := 2) (oi := ⟨some 15, _, _, _, _, _⟩) (v := ?_) rfl (by kernel_rfl) (by kernel_rfl) (by kernel_rfl) (fun _ _ _ h => h) (Or.inl ⟨by rfl, ?_⟩) (by assumption) ?_
  rotate_left 1
  · intro w0 hSw
    clear hSw
    go_simp
    try with_reducible rfl
  (try simp only [Act.put, List.setIfInBounds_toArray, List.set_cons_zero, List.set_cons_succ])
  refine wpAnyH_take (i := 3) (oi := ⟨some 16, _, _, _, _, _⟩) (v := ?_) rfl (by kernel_rfl) (by kernel_rfl) (by kernel_rfl) (fun _ _ _ h => h) (Or.inl ⟨by rfl, ?_⟩) (by assumption) ?_
  rotate_left 1
  · intro w0 hSw
    obtain ⟨k0, k1, k2, k3, k4⟩ := HS.out _ hSw; clear hSw
    go_simp
    try with_reducible rfl
  (try simp only [Act.put, List.setIfInBounds_toArray, List.set_cons_zero, List.set_cons_succ])
  refine wpAnyH_take (i := 4) (oi := ⟨some 17, _, _, _, _, _⟩) (v := _) rfl (by kernel_rfl) (by kernel_rfl) (by kernel_rfl) (fun _ _ _ h => h) (yieldsIf_bx (by rfl) 133 (.tmp 3) rfl _ _ _ _ rfl HEE.out Tryz.underlying133 rfl (by kernel_rfl)) (by assumption) ?_
  (try simp only [Act.put, List.setIfInBounds_toArray, List.set_cons_zero, List.set_cons_succ])
  refine wpAnyH_ready (rs := [5]) (by kernel_rfl) (by simp) ?_
  refine AllReadyH.cons (o := ⟨some 18, _, _, _, _, _⟩) rfl (fun K hK => ?_) AllReadyH.nil
  rw [if_pos (by rfl)]
  go_simp
  go_at_call 123
  refine (HRF.out _).mono ?_
  rintro e w1 ⟨rfl, hb1⟩
  have hWb := hid (show Below W.heap.size W w1 from ⟨hb1.os, hb1.tape, hb1.output, hb1.size, hb1.block⟩)
  clear hb1
  refine hK.out _ _ hWb.out (fun hHeld => ?_)
  clear hK K
  (try simp only [Act.put, List.setIfInBounds_toArray, List.set_cons_zero, List.set_cons_succ])
  refine wpAnyH_take (i := 6) (oi := ⟨some 6, _, _, _, _, _⟩) (v := ?_) rfl (by kernel_rfl) (by kernel_rfl) (by kernel_rfl) (fun _ _ _ h => h) (Or.inl ⟨by rfl, ?_⟩) (by assumption) ?_
  rotate_left 1
  · intro w0 hSw
    clear hSw
    go_simp
    try with_reducible rfl
  (try simp only [Act.put, List.setIfInBounds_toArray, List.set_cons_zero, List.set_cons_succ])
  refine wpAnyH_done (by kernel_rfl) ?_ _
  refine NoPanic.normal ?_
  have HB1 := hid (on HB.out hWb.out)
  have HX1 := hid (HX.out.below hWb.out)
  have HE1 := hid (HE.out.next hWb.out)
  have HR1 := hid (HR.out.now hWb.out)
  clear hWb HX HE HR HB HW HRF HS HEE hHeld
  obtain ⟨d0, d1, d2, d3, d4, d5⟩ := HE1.out.all6
  go_wp2_with fail
  refine (HLA.out w1 HX1.out).mono ?_
  rintro e w2 ⟨rfl, hb2⟩
  have HB2 := hid (on HB1.out hb2)
  have HX2 := hid (HX1.out.below hb2)
  have HE2 := hid (HE1.out.next hb2)
  have HR2 := hid (HR1.out.now hb2)
  clear d0 d1 d2 d3 d4 d5 hb2 HX1 HE1 HR1 HB1 HLA
  go_upto_region 7 with fail
  have HEE := hid (fun y (hy : Below w2.heap.size w2 y) => (HE2.out.next hy).all6)
  refine wp_region_noPanic ?_
  refine wp_region_held_drew (S := fun y => Below w2.heap.size w2 y) (by kernel_rfl) ?_ (fun hHeld => ?_)
  · exact (Below.refl _ _).drew
  refine wpAnyH_take (i := 0) (oi := ⟨some 32, _, _, _, _, _⟩) (v := ?_) rfl (by kernel_rfl) (by kernel_rfl) (by kernel_rfl) (fun _ _ _ h => h) (Or.inl ⟨by rfl, ?_⟩) (by assumption) ?_
  rotate_left 1
  · intro w0 hSw
    clear hSw
    go_simp
    try with_reducible rfl
  (try simp only [Act.put, List.setIfInBounds_toArray, List.set_cons_zero, List.set_cons_succ])
  refine wpAnyH_take (i := 1) (oi := ⟨some 33, _, _, _, _, _⟩) (v := ?_) rfl (by kernel_rfl) (by kernel_rfl) (by kernel_rfl) (fun _ _ _ h => h) (Or.inl ⟨by rfl, ?_⟩) (by assumption) ?_
  rotate_left 1
  · intro w0 hSw
    obtain ⟨k0, k1, k2, k3, k4, k5⟩ := HEE.out _ hSw; clear hSw k0 k1 k4 k5
    go_simp
    try with_reducible rfl
  (try simp only [Act.put, List.setIfInBounds_toArray, List.set_cons_zero, List.set_cons_succ])
  refine wpAnyH_take (i := 2) (oi := ⟨some 34, _, _, _, _, _⟩) (v := ?_) rfl (by kernel_rfl) (by kernel_rfl) (by kernel_rfl) (fun _ _ _ h => h) (Or.inl ⟨by rfl, ?_⟩) (by assumption) ?_
  rotate_left 1
  · intro w0 hSw
    clear hSw
    go_simp
    try with_reducible rfl
  (try simp only [Act.put, List.setIfInBounds_toArray, List.set_cons_zero, List.set_cons_succ])
  refine wpAnyH_take (i := 4) (oi := ⟨some 36, _, _, _, _, _⟩) (v := ?_) rfl (by kernel_rfl) (by kernel_rfl) (by kernel_rfl) (fun _ _ _ h => h) (Or.inl ⟨by rfl, ?_⟩) (by assumption) ?_
  rotate_left 1
  · intro w0 hSw
    clear hSw
    go_simp
    try with_reducible rfl
  (try simp only [Act.put, List.setIfInBounds_toArray, List.set_cons_zero, List.set_cons_succ])
  refine wpAnyH_take (i := 5) (oi := ⟨some 37, _, _, _, _, _⟩) (v := ?_) rfl (by kernel_rfl) (by kernel_rfl) (by kernel_rfl) (fun _ _ _ h => h) (Or.inl ⟨by rfl, ?_⟩) (by assumption) ?_
  rotate_left 1
  · intro w0 hSw
    obtain ⟨k0, k1, k2, k3, k4, k5⟩ := HEE.out _ hSw; clear hSw k0 k1 k4 k5
    go_simp
    try with_reducible rfl
  (try simp only [Act.put, List.setIfInBounds_toArray, List.set_cons_zero, List.set_cons_succ])
  refine wpAnyH_take (i := 6) (oi := ⟨some 38, _, _, _, _, _⟩) (v := ?_) rfl (by kernel_rfl) (by kernel_rfl) (by kernel_rfl) (fun _ _ _ h => h) (Or.inl ⟨by rfl, ?_⟩) (by assumption) ?_
  rotate_left 1
  · intro w0 hSw
    clear hSw
    go_simp
    try with_reducible rfl
  (try simp only [Act.put, List.setIfInBounds_toArray, List.set_cons_zero, List.set_cons_succ])
  obtain ⟨y2, hy2⟩ : ∃ y, w2.drew = y := ⟨_, rfl⟩
  rw [hy2] at hHeld ⊢
  have HBY := hid hHeld
  clear hy2
  refine wpAnyH_ready (rs := [3]) (by kernel_rfl) (by simp) ?_
  refine AllReadyH.cons (o := ⟨some 35, _, _, _, _, _⟩) rfl (fun K hK => ?_) AllReadyH.nil
  rw [if_pos (by rfl)]
  go_simp
  go_at_call 126
  refine (compare6_any (b : Nat) (b0 : Nat) _).mono ?_
  rintro e w3 ⟨rfl, hw3⟩
  rw [hw3, HP.out]
  clear hw3
  refine hK.out _ _ HBY.out (fun hHeld => ?_)
  clear hK K
  (try simp only [Act.put, List.setIfInBounds_toArray, List.set_cons_zero, List.set_cons_succ])
  refine wpAnyH_ready (rs := [7]) (by kernel_rfl) (by simp) ?_
  refine AllReadyH.cons (o := ⟨some 39, _, _, _, _, _⟩) rfl (fun K hK => ?_) AllReadyH.nil
  rw [if_pos (by rfl)]
  go_simp
  go_at_call 126
  refine (compare6_any (o : Nat) (o0 : Nat) _).mono ?_
  rintro e w3 ⟨rfl, hw3⟩
  rw [hw3, HQ.out]
  clear hw3
  refine hK.out _ _ HBY.out (fun hHeld => ?_)
  clear hK K
  (try simp only [Act.put, List.setIfInBounds_toArray, List.set_cons_zero, List.set_cons_succ])
  refine wpAnyH_ready (rs := [8]) (by kernel_rfl) (by simp) ?_
  refine AllReadyH.cons (o := ⟨some 40, _, _, _, _, _⟩) rfl (fun K hK => ?_) AllReadyH.nil
  rw [if_pos (by rfl)]
  go_simp
  have hbw := hid (HBY.out.trans ((below_alloc y2 (.cells #[.int .i64 p, .int .i64 q] 3)).mono HBY.out.size))
  refine hK.out _ _ hbw.out (fun hHeld => ?_)
  clear hK K
  (try simp only [Act.put, List.setIfInBounds_toArray, List.set_cons_zero, List.set_cons_succ])
  refine wpAnyH_ready (rs := [9]) (by kernel_rfl) (by simp) ?_
  refine AllReadyH.cons (o := ⟨some 41, _, _, _, _, _⟩) rfl (fun K hK => ?_) AllReadyH.nil
  rw [if_pos (by rfl)]
  go_simp
  go_at_call 125
  refine (or_any p q _ _ _ ((Bx.new _ _ _).cell 0) ((Bx.new _ _ _).cell 1)).mono ?_
  rintro e w3 ⟨rfl, hw3⟩
  rw [hw3]
  clear hw3
  refine hK.out _ _ hbw.out (fun hHeld => ?_)
  clear hK K
  (try simp only [Act.put, List.setIfInBounds_toArray, List.set_cons_zero, List.set_cons_succ])
  refine wpAnyH_take (i := 10) (oi := ⟨some 10, _, _, _, _, _⟩) (v := ?_) rfl (by kernel_rfl) (by kernel_rfl) (by kernel_rfl) (fun _ _ _ h => h) (Or.inl ⟨by rfl, ?_⟩) (by assumption) ?_
  rotate_left 1
  · intro w0 hSw
    clear hSw
    go_simp
    try with_reducible rfl
  (try simp only [Act.put, List.setIfInBounds_toArray, List.set_cons_zero, List.set_cons_succ])
  refine wpAnyH_done (by kernel_rfl) ?_ _
  refine NoPanic.normal ?_
  clear hHeld HEE
  generalize orI p q = age at *
  have HB3 := hid (on HB2.out hbw.out)
  subst hag
  clear hbw HX2 HE2 HR2 HAD
  go_wp2
  go_ret2
  exact ⟨rfl, HB3.out⟩
set_option maxRecDepth 100000 in
set_option maxHeartbeats 1600000 in
theorem write_new (h : Sx w bb kd ks vv st sh) (c s b o k L cap : Nat) (A : Option Addr) (l : List Int) (hL : l.length = L) (hZ : L = sh.Z) (hb : 1 ≤ b ∧ b ≤ great) (ho : 1 ≤ o ∧ o ≤ great) (r : Rn w A l) (hy : Byt l) (hk1 : k < sh.B) (hc1 : c < sh.C) (hs1 : s < sh.S) (lb ls : List Int) (hlb : st.L[1 + k]? = some lb) (hls : st.L[sh.at_ c s]? = some ls) (hag : 0 < orI (cmpI6 (b : Nat) ((slt ls).1 : Nat)) (cmpI6 (o : Nat) ((slt ls).2.1 : Nat))) :
    Calls Tryz.prog 90 #[.pointer (some ⟨ks, 0, none⟩), .agg #[.int .i64 (c : Nat), .int .i64 (s : Nat), .int .i64 (b : Nat), .int .i64 (o : Nat), .int .i64 (k : Nat), .slice A L cap]] w fun e w' =>
      (e = .returned (.tuple #[.int .i64 (adr sh st (blk sh.Z lb).1 c s b o k l).2, .int .i64 (adr sh st (blk sh.Z lb).1 c s b o k l).1.2]) ∧ Sx w' bb kd ks vv (adr sh st (blk sh.Z lb).1 c s b o k l).1.1 sh ∧ Only w w' kd vv) := by
  obtain ⟨W, hW, B1, HBb, sb⟩ := below_new w 133 #[.int .i64 (c : Nat), .int .i64 (s : Nat), .int .i64 (b : Nat), .int .i64 (o : Nat), .int .i64 (k : Nat), .slice A L cap]
  have HW := hid hW
  have HX := hid (h.below HBb)
  have HE := hid B1
  have HB := hid HBb
  have HR := hid (r.now HBb)
  have hwr : (Wr.mk c s b o k A cap l).wrong sh = 0 := by
    unfold great at hb ho
    unfold Wr.wrong Wr.slot
    rw [if_neg (by simp; omega), if_neg (by simp; omega), if_neg (by simp; omega)]
  have HRF := hid (fun w1 => srefuses_any sh h.ok w1 (Wr.mk c s b o k A cap l))
  have HLA := hid (fun w1 (h1 : Sx w1 bb kd ks vv st sh) => last_any h1 c s hc1 hs1 ls hls)
  have HLB := hid (slt_bnd ls)
  have HAD := hid (fun w1 (h1 : Sx w1 bb kd ks vv st sh) r1 => add_any h1 c s b o k L cap A l hL (by have := h.ok.z; omega) hb.2 ho.2 r1 hy hk1 hc1 hs1 lb hlb)
  simp only [Wr.v, hwr, hL] at HRF
  generalize slt ls = sl at *
  obtain ⟨b0, o0, a0⟩ := sl
  obtain ⟨B, Z, C, S⟩ := sh
  simp only [Sh.v] at HRF HLB HLA
  clear h hW B1 HBb sb hL hZ r hk1 hc1 hs1 hb ho hy hlb hls hwr
  generalize hp : cmpI6 (b : Nat) (b0 : Nat) = p at *
  generalize hq : cmpI6 (o : Nat) (o0 : Nat) = q at *
  have HP := hid hp
  have HQ := hid hq
  clear hp hq
  go_enter Tryz.func90, Tryz.ntmps90
  go_upto_region 1 with fail
  rw [HW.out]
  go_upto_region 3 with fail
  have HS := hid (fun y (hy : Below W.heap.size W y) => (HX.out.bx.next hy).all5)
  have HEE := hid (fun y (hy : Below W.heap.size W y) => HE.out.next hy)
  refine wp_region_noPanic ?_
  refine wp_region_held_drew (S := fun y => Below W.heap.size W y) (by kernel_rfl) ?_ (fun hHeld => ?_)
  · exact (Below.refl _ _).drew
  refine wpAnyH_take (i := 0) (oi := ⟨some 13, _, _, _, _, _⟩) (v := ?_) rfl (by kernel_rfl) (by kernel_rfl) (by kernel_rfl) (fun _ _ _ h => h) (Or.inl ⟨by rfl, ?_⟩) (by assumption) ?_
  rotate_left 1
  · intro w0 hSw
    clear hSw
    go_simp
    try with_reducible rfl
  (try simp only [Act.put, List.setIfInBounds_toArray, List.set_cons_zero, List.set_cons_succ])
  refine wpAnyH_take (i := 1) (oi := ⟨some 14, _, _, _, _, _⟩) (v := ?_) rfl (by kernel_rfl) (by kernel_rfl) (by kernel_rfl) (fun _ _ _ h => h) (Or.inl ⟨by rfl, ?_⟩) (by assumption) ?_
  rotate_left 1
  · intro w0 hSw
    clear hSw
    go_simp
    try with_reducible rfl
  (try simp only [Act.put, List.setIfInBounds_toArray, List.set_cons_zero, List.set_cons_succ])
  refine wpAnyH_take (i := 2) (oi := ⟨some 15, _, _, _, _, _⟩) (v := ?_) rfl (by kernel_rfl) (by kernel_rfl) (by kernel_rfl) (fun _ _ _ h => h) (Or.inl ⟨by rfl, ?_⟩) (by assumption) ?_
  rotate_left 1
  · intro w0 hSw
    clear hSw
    go_simp
    try with_reducible rfl
  (try simp only [Act.put, List.setIfInBounds_toArray, List.set_cons_zero, List.set_cons_succ])
  refine wpAnyH_take (i := 3) (oi := ⟨some 16, _, _, _, _, _⟩) (v := ?_) rfl (by kernel_rfl) (by kernel_rfl) (by kernel_rfl) (fun _ _ _ h => h) (Or.inl ⟨by rfl, ?_⟩) (by assumption) ?_
  rotate_left 1
  · intro w0 hSw
    obtain ⟨k0, k1, k2, k3, k4⟩ := HS.out _ hSw; clear hSw
    go_simp
    try with_reducible rfl
  (try simp only [Act.put, List.setIfInBounds_toArray, List.set_cons_zero, List.set_cons_succ])
  refine wpAnyH_take (i := 4) (oi := ⟨some 17, _, _, _, _, _⟩) (v := _) rfl (by kernel_rfl) (by kernel_rfl) (by kernel_rfl) (fun _ _ _ h => h) (yieldsIf_bx (by rfl) 133 (.tmp 3) rfl _ _ _ _ rfl HEE.out Tryz.underlying133 rfl (by kernel_rfl)) (by assumption) ?_
  (try simp only [Act.put, List.setIfInBounds_toArray, List.set_cons_zero, List.set_cons_succ])
  refine wpAnyH_ready (rs := [5]) (by kernel_rfl) (by simp) ?_
  refine AllReadyH.cons (o := ⟨some 18, _, _, _, _, _⟩) rfl (fun K hK => ?_) AllReadyH.nil
  rw [if_pos (by rfl)]
  go_simp
  go_at_call 123
  refine (HRF.out _).mono ?_
  rintro e w1 ⟨rfl, hb1⟩
  have hWb := hid (show Below W.heap.size W w1 from ⟨hb1.os, hb1.tape, hb1.output, hb1.size, hb1.block⟩)
  clear hb1
  refine hK.out _ _ hWb.out (fun hHeld => ?_)
  clear hK K
  (try simp only [Act.put, List.setIfInBounds_toArray, List.set_cons_zero, List.set_cons_succ])
  refine wpAnyH_take (i := 6) (oi := ⟨some 6, _, _, _, _, _⟩) (v := ?_) rfl (by kernel_rfl) (by kernel_rfl) (by kernel_rfl) (fun _ _ _ h => h) (Or.inl ⟨by rfl, ?_⟩) (by assumption) ?_
  rotate_left 1
  · intro w0 hSw
    clear hSw
    go_simp
    try with_reducible rfl
  (try simp only [Act.put, List.setIfInBounds_toArray, List.set_cons_zero, List.set_cons_succ])
  refine wpAnyH_done (by kernel_rfl) ?_ _
  refine NoPanic.normal ?_
  have HB1 := hid (on HB.out hWb.out)
  have HX1 := hid (HX.out.below hWb.out)
  have HE1 := hid (HE.out.next hWb.out)
  have HR1 := hid (HR.out.now hWb.out)
  clear hWb HX HE HR HB HW HRF HS HEE hHeld
  obtain ⟨d0, d1, d2, d3, d4, d5⟩ := HE1.out.all6
  go_wp2_with fail
  refine (HLA.out w1 HX1.out).mono ?_
  rintro e w2 ⟨rfl, hb2⟩
  have HB2 := hid (on HB1.out hb2)
  have HX2 := hid (HX1.out.below hb2)
  have HE2 := hid (HE1.out.next hb2)
  have HR2 := hid (HR1.out.now hb2)
  clear d0 d1 d2 d3 d4 d5 hb2 HX1 HE1 HR1 HB1 HLA
  go_upto_region 7 with fail
  have HEE := hid (fun y (hy : Below w2.heap.size w2 y) => (HE2.out.next hy).all6)
  refine wp_region_noPanic ?_
  refine wp_region_held_drew (S := fun y => Below w2.heap.size w2 y) (by kernel_rfl) ?_ (fun hHeld => ?_)
  · exact (Below.refl _ _).drew
  refine wpAnyH_take (i := 0) (oi := ⟨some 32, _, _, _, _, _⟩) (v := ?_) rfl (by kernel_rfl) (by kernel_rfl) (by kernel_rfl) (fun _ _ _ h => h) (Or.inl ⟨by rfl, ?_⟩) (by assumption) ?_
  rotate_left 1
  · intro w0 hSw
    clear hSw
    go_simp
    try with_reducible rfl
  (try simp only [Act.put, List.setIfInBounds_toArray, List.set_cons_zero, List.set_cons_succ])
  refine wpAnyH_take (i := 1) (oi := ⟨some 33, _, _, _, _, _⟩) (v := ?_) rfl (by kernel_rfl) (by kernel_rfl) (by kernel_rfl) (fun _ _ _ h => h) (Or.inl ⟨by rfl, ?_⟩) (by assumption) ?_
  rotate_left 1
  · intro w0 hSw
    obtain ⟨k0, k1, k2, k3, k4, k5⟩ := HEE.out _ hSw; clear hSw k0 k1 k4 k5
    go_simp
    try with_reducible rfl
  (try simp only [Act.put, List.setIfInBounds_toArray, List.set_cons_zero, List.set_cons_succ])
  refine wpAnyH_take (i := 2) (oi := ⟨some 34, _, _, _, _, _⟩) (v := ?_) rfl (by kernel_rfl) (by kernel_rfl) (by kernel_rfl) (fun _ _ _ h => h) (Or.inl ⟨by rfl, ?_⟩) (by assumption) ?_
  rotate_left 1
  · intro w0 hSw
    clear hSw
    go_simp
    try with_reducible rfl
  (try simp only [Act.put, List.setIfInBounds_toArray, List.set_cons_zero, List.set_cons_succ])
  refine wpAnyH_take (i := 4) (oi := ⟨some 36, _, _, _, _, _⟩) (v := ?_) rfl (by kernel_rfl) (by kernel_rfl) (by kernel_rfl) (fun _ _ _ h => h) (Or.inl ⟨by rfl, ?_⟩) (by assumption) ?_
  rotate_left 1
  · intro w0 hSw
    clear hSw
    go_simp
    try with_reducible rfl
  (try simp only [Act.put, List.setIfInBounds_toArray, List.set_cons_zero, List.set_cons_succ])
  refine wpAnyH_take (i := 5) (oi := ⟨some 37, _, _, _, _, _⟩) (v := ?_) rfl (by kernel_rfl) (by kernel_rfl) (by kernel_rfl) (fun _ _ _ h => h) (Or.inl ⟨by rfl, ?_⟩) (by assumption) ?_
  rotate_left 1
  · intro w0 hSw
    obtain ⟨k0, k1, k2, k3, k4, k5⟩ := HEE.out _ hSw; clear hSw k0 k1 k4 k5
    go_simp
    try with_reducible rfl
  (try simp only [Act.put, List.setIfInBounds_toArray, List.set_cons_zero, List.set_cons_succ])
  refine wpAnyH_take (i := 6) (oi := ⟨some 38, _, _, _, _, _⟩) (v := ?_) rfl (by kernel_rfl) (by kernel_rfl) (by kernel_rfl) (fun _ _ _ h => h) (Or.inl ⟨by rfl, ?_⟩) (by assumption) ?_
  rotate_left 1
  · intro w0 hSw
    clear hSw
    go_simp
    try with_reducible rfl
  (try simp only [Act.put, List.setIfInBounds_toArray, List.set_cons_zero, List.set_cons_succ])
  obtain ⟨y2, hy2⟩ : ∃ y, w2.drew = y := ⟨_, rfl⟩
  rw [hy2] at hHeld ⊢
  have HBY := hid hHeld
  clear hy2
  refine wpAnyH_ready (rs := [3]) (by kernel_rfl) (by simp) ?_
  refine AllReadyH.cons (o := ⟨some 35, _, _, _, _, _⟩) rfl (fun K hK => ?_) AllReadyH.nil
  rw [if_pos (by rfl)]
  go_simp
  go_at_call 126
  refine (compare6_any (b : Nat) (b0 : Nat) _).mono ?_
  rintro e w3 ⟨rfl, hw3⟩
  rw [hw3, HP.out]
  clear hw3
  refine hK.out _ _ HBY.out (fun hHeld => ?_)
  clear hK K
  (try simp only [Act.put, List.setIfInBounds_toArray, List.set_cons_zero, List.set_cons_succ])
  refine wpAnyH_ready (rs := [7]) (by kernel_rfl) (by simp) ?_
  refine AllReadyH.cons (o := ⟨some 39, _, _, _, _, _⟩) rfl (fun K hK => ?_) AllReadyH.nil
  rw [if_pos (by rfl)]
  go_simp
  go_at_call 126
  refine (compare6_any (o : Nat) (o0 : Nat) _).mono ?_
  rintro e w3 ⟨rfl, hw3⟩
  rw [hw3, HQ.out]
  clear hw3
  refine hK.out _ _ HBY.out (fun hHeld => ?_)
  clear hK K
  (try simp only [Act.put, List.setIfInBounds_toArray, List.set_cons_zero, List.set_cons_succ])
  refine wpAnyH_ready (rs := [8]) (by kernel_rfl) (by simp) ?_
  refine AllReadyH.cons (o := ⟨some 40, _, _, _, _, _⟩) rfl (fun K hK => ?_) AllReadyH.nil
  rw [if_pos (by rfl)]
  go_simp
  have hbw := hid (HBY.out.trans ((below_alloc y2 (.cells #[.int .i64 p, .int .i64 q] 3)).mono HBY.out.size))
  refine hK.out _ _ hbw.out (fun hHeld => ?_)
  clear hK K
  (try simp only [Act.put, List.setIfInBounds_toArray, List.set_cons_zero, List.set_cons_succ])
  refine wpAnyH_ready (rs := [9]) (by kernel_rfl) (by simp) ?_
  refine AllReadyH.cons (o := ⟨some 41, _, _, _, _, _⟩) rfl (fun K hK => ?_) AllReadyH.nil
  rw [if_pos (by rfl)]
  go_simp
  go_at_call 125
  refine (or_any p q _ _ _ ((Bx.new _ _ _).cell 0) ((Bx.new _ _ _).cell 1)).mono ?_
  rintro e w3 ⟨rfl, hw3⟩
  rw [hw3]
  clear hw3
  refine hK.out _ _ hbw.out (fun hHeld => ?_)
  clear hK K
  (try simp only [Act.put, List.setIfInBounds_toArray, List.set_cons_zero, List.set_cons_succ])
  refine wpAnyH_take (i := 10) (oi := ⟨some 10, _, _, _, _, _⟩) (v := ?_) rfl (by kernel_rfl) (by kernel_rfl) (by kernel_rfl) (fun _ _ _ h => h) (Or.inl ⟨by rfl, ?_⟩) (by assumption) ?_
  rotate_left 1
  · intro w0 hSw
    clear hSw
    go_simp
    try with_reducible rfl
  (try simp only [Act.put, List.setIfInBounds_toArray, List.set_cons_zero, List.set_cons_succ])
  refine wpAnyH_done (by kernel_rfl) ?_ _
  refine NoPanic.normal ?_
  clear hHeld HEE
  generalize orI p q = age at *
  have HB3 := hid (on HB2.out hbw.out)
  have t1 : decide (age < 0) = false := by simp; omega
  have t2 : (age == 0) = false := by simp; omega
  have HX3 := hid (HX2.out.below hbw.out)
  have HE3 := hid (HE2.out.next hbw.out)
  have HR3 := hid (HR2.out.now hbw.out)
  clear hag hbw HX2 HE2 HR2
  go_wp2_with (refine wpList_load_bx rfl 133 (.tmp 3) rfl _ _ _ _ rfl HE3.out Tryz.underlying133 rfl (by kernel_rfl) ?_)
  refine (HAD.out _ HX3.out HR3.out).mono ?_
  rintro e w4 ⟨rfl, hx4, ho4⟩
  have HX4 := hid hx4
  have HO4 := hid (Only.trans (Only.of HB3.out kd vv) ho4)
  clear hx4 ho4 HAD HX3 HE3 HR3
  go_wp2
  go_ret2
  exact ⟨rfl, HX4.out, HO4.out⟩

end
end Go.Proofs.YtbcejfonkehjgaaGreatDoor
namespace Go.Proofs.YtbcejfonkehjgaaGreatDoor
open Go.RowKit

section
variable {w : World} {bb kd ks : Nat} {vv : Value} {st : St} {sh : Sh}
set_option maxHeartbeats 400000 in
theorem open_nil (B Z C S : Int) (w : World) : Calls Tryz.prog 31 #[.pointer none, .agg #[.int .i64 B, .int .i64 Z, .int .i64 C, .int .i64 S]] w fun e w' => e = .returned (.tuple #[.pointer none, .int .i64 7]) ∧ Below w.heap.size w w' := by
  go_enter Tryz.func31, Tryz.ntmps31
  go_wp2
  go_ret2
  exact ⟨rfl, below_alloc _ _⟩
set_option maxRecDepth 100000 in
set_option maxHeartbeats 1600000 in
theorem open_ok (B Z C S : Nat) (hd : Dk w 77 bb kd vv st) (ok : (Sh.mk B Z C S).ok) (hlen : (Sh.mk B Z C S).at_ C 0 ≤ st.L.length) (hby : ∀ l ∈ st.L, Ok1 l) (l : List Int) (hl : st.L[0]? = some l) (hr : (rdo ⟨B, Z, C, S⟩ st l).2 = 0) :
    Calls Tryz.prog 31 #[.pointer (some ⟨kd, 0, none⟩), .agg #[.int .i64 B, .int .i64 Z, .int .i64 C, .int .i64 S]] w fun e w' =>
      ∃ ks, e = .returned (.tuple #[.pointer (some ⟨ks, 0, none⟩), .int .i64 0]) ∧ Sx w' bb kd ks vv (rdo ⟨B, Z, C, S⟩ st l).1 ⟨B, Z, C, S⟩ ∧ Only w w' kd vv ∧ w.heap.size ≤ ks := by
  obtain ⟨W, hW, B1, HBb, sb⟩ := below_new w 73 #[.int .i64 B, .int .i64 Z, .int .i64 C, .int .i64 S]
  have HW := hid hW
  have HD := hid (hd.below HBb)
  have HB := hid HBb
  have HS := hid (fun y (hy : Below W.heap.size W y) => (B1.next hy).all4)
  have HRT := hid (fun w1 => right_yes ⟨B, Z, C, S⟩ ok w1)
  have HSC := hid (fun w1 => sectors_any ⟨B, Z, C, S⟩ ok w1)
  simp only [Sh.v] at HRT HSC
  have hlt : decide (st.L.length < (Sh.mk B Z C S).at_ C 0) = false := by simpa using hlen
  have HF := hid (And.intro ok (And.intro hlen hby))
  have HL := hid hl
  have HR := hid hr
  have HBK := hid (fun (y : World) (hy : Below W.heap.size W y) => (B1.next hy))
  clear hl hr hby
  generalize hat : Sh.at_ ⟨B, Z, C, S⟩ C 0 = m at hlt HSC
  clear ok hlen hat
  clear hW B1 HBb sb hd
  go_enter Tryz.func31, Tryz.ntmps31
  go_upto_region 3 with fail
  rw [HW.out]
  clear HW
  generalize hnn : st.L.length = nn at hlt
  have HNN := hid hnn
  clear hnn
  refine wp_region_noPanic ?_
  refine wp_region_held_drew (S := fun y => Below W.heap.size W y) (by kernel_rfl) ?_ (fun hHeld => ?_)
  · exact (Below.refl _ _).drew
  refine wpAnyH_take (i := 0) (oi := ⟨some 10, _, _, _, _, _⟩) (v := ?_) rfl (by kernel_rfl) (by kernel_rfl) (by kernel_rfl) (fun _ _ _ h => h) (Or.inl ⟨by rfl, ?_⟩) (by assumption) ?_
  rotate_left 1
  · intro w0 hSw
    obtain ⟨k0, k1, k2, k3⟩ := HS.out _ hSw; clear hSw
    go_simp
    try with_reducible rfl
  (try simp only [Act.put, List.setIfInBounds_toArray, List.set_cons_zero, List.set_cons_succ])
  obtain ⟨y0, hy0⟩ : ∃ y, W.drew = y := ⟨_, rfl⟩
  rw [hy0] at hHeld ⊢
  have HY0 := hid hHeld
  clear hy0
  refine wpAnyH_ready (rs := [1]) (by kernel_rfl) (by simp) ?_
  refine AllReadyH.cons (o := ⟨some 11, _, _, _, _, _⟩) rfl (fun K hK => ?_) AllReadyH.nil
  rw [if_pos (by rfl)]
  go_simp
  go_at_call 52
  refine (HRT.out y0).mono ?_
  rintro e y1 ⟨rfl, hb1⟩
  have HY1 := hid (on HY0.out hb1)
  clear hb1 HY0
  refine hK.out _ _ HY1.out (fun hHeld => ?_)
  clear hK K
  (try simp only [Act.put, List.setIfInBounds_toArray, List.set_cons_zero, List.set_cons_succ])
  refine wpAnyH_take (i := 2) (oi := ⟨some 12, _, _, _, _, _⟩) (v := ?_) rfl (by kernel_rfl) (by kernel_rfl) (by kernel_rfl) (fun _ _ _ h => h) (Or.inl ⟨by rfl, ?_⟩) (by assumption) ?_
  rotate_left 1
  · intro w0 hSw
    clear hSw
    go_simp
    try with_reducible rfl
  (try simp only [Act.put, List.setIfInBounds_toArray, List.set_cons_zero, List.set_cons_succ])
  refine wpAnyH_take (i := 3) (oi := ⟨some 13, _, _, _, _, _⟩) (v := ?_) rfl (by kernel_rfl) (by kernel_rfl) (by kernel_rfl) (fun _ _ _ h => h) (Or.inl ⟨by rfl, ?_⟩) (by assumption) ?_
  rotate_left 1
  · intro w0 hSw
    clear hSw
    go_simp
    try with_reducible rfl
  (try simp only [Act.put, List.setIfInBounds_toArray, List.set_cons_zero, List.set_cons_succ])
  refine wpAnyH_take (i := 4) (oi := ⟨some 14, _, _, _, _, _⟩) (v := ?_) rfl (by kernel_rfl) (by kernel_rfl) (by kernel_rfl) (fun _ _ _ h => h) (Or.inl ⟨by rfl, ?_⟩) (by assumption) ?_
  rotate_left 1
  · intro w0 hSw
    clear hSw
    go_simp
    try with_reducible rfl
  (try simp only [Act.put, List.setIfInBounds_toArray, List.set_cons_zero, List.set_cons_succ])
  refine wpAnyH_take (i := 6) (oi := ⟨some 16, _, _, _, _, _⟩) (v := ?_) rfl (by kernel_rfl) (by kernel_rfl) (by kernel_rfl) (fun _ _ _ h => h) (Or.inl ⟨by rfl, ?_⟩) (by assumption) ?_
  rotate_left 1
  · intro w0 hSw
    obtain ⟨k0, k1, k2, k3⟩ := HS.out _ hSw; clear hSw
    go_simp
    try with_reducible rfl
  (try simp only [Act.put, List.setIfInBounds_toArray, List.set_cons_zero, List.set_cons_succ])
  refine wpAnyH_ready (rs := [5]) (by kernel_rfl) (by simp) ?_
  refine AllReadyH.cons (o := ⟨some 15, _, _, _, _, _⟩) rfl (fun K hK => ?_) AllReadyH.nil
  rw [if_pos (by rfl)]
  go_simp
  go_at_call 53
  refine (len_any (HD.out.below HY1.out)).mono ?_
  rw [HNN.out]
  rintro e y2 ⟨rfl, hy2⟩
  rw [← hy2]
  clear hy2
  refine hK.out _ _ HY1.out (fun hHeld => ?_)
  clear hK K
  (try simp only [Act.put, List.setIfInBounds_toArray, List.set_cons_zero, List.set_cons_succ])
  refine wpAnyH_ready (rs := [7]) (by kernel_rfl) (by simp) ?_
  refine AllReadyH.cons (o := ⟨some 17, _, _, _, _, _⟩) rfl (fun K hK => ?_) AllReadyH.nil
  rw [if_pos (by rfl)]
  go_simp
  go_at_call 54
  refine (HSC.out y1).mono ?_
  rintro e y3 ⟨rfl, hb3⟩
  have HY3 := hid (on HY1.out hb3)
  clear hb3 HY1
  refine hK.out _ _ HY3.out (fun hHeld => ?_)
  clear hK K
  (try simp only [Act.put, List.setIfInBounds_toArray, List.set_cons_zero, List.set_cons_succ])
  refine wpAnyH_take (i := 8) (oi := ⟨some 18, _, _, _, _, _⟩) (v := ?_) rfl (by kernel_rfl) (by kernel_rfl) (by kernel_rfl) (fun _ _ _ h => h) (Or.inl ⟨by rfl, ?_⟩) (by assumption) ?_
  rotate_left 1
  · intro w0 hSw
    clear hSw
    go_simp
    try with_reducible rfl
  (try simp only [Act.put, List.setIfInBounds_toArray, List.set_cons_zero, List.set_cons_succ])
  refine wpAnyH_take (i := 9) (oi := ⟨some 19, _, _, _, _, _⟩) (v := ?_) rfl (by kernel_rfl) (by kernel_rfl) (by kernel_rfl) (fun _ _ _ h => h) (Or.inl ⟨by rfl, ?_⟩) (by assumption) ?_
  rotate_left 1
  · intro w0 hSw
    clear hSw
    go_simp
    try with_reducible rfl
  (try simp only [Act.put, List.setIfInBounds_toArray, List.set_cons_zero, List.set_cons_succ])
  refine wpAnyH_done (by kernel_rfl) ?_ _
  refine NoPanic.normal ?_
  clear hHeld HS
  have HBQ := hid (HBK.out y3 HY3.out)
  clear HBK
  go_wp2_with (refine wpList_load_bx rfl 73 (.tmp 3) rfl _ _ _ _ rfl HBQ.out Tryz.underlying73 rfl (by kernel_rfl) ?_)
  obtain ⟨y4, hy4, BS4, HB4, s4⟩ := below_new y3 109 #[.pointer (some ⟨kd, 0, none⟩), .int .i64 B, .int .i64 Z, .int .i64 C, .int .i64 S]
  have HX4 := hid (show Sx y4 bb kd y3.heap.size vv st ⟨B, Z, C, S⟩ from ⟨(HD.out.below HY3.out).below HB4, BS4, HF.out.1, HF.out.2.1, HF.out.2.2⟩)
  have HB5 := hid (on (on HB.out HY3.out) HB4)
  have HY4 := hid hy4
  have HSZ := hid (on HB.out HY3.out).size
  clear hy4 BS4 HB4 s4
  rw [HY4.out]
  refine (redo_any HX4.out l HL.out).mono ?_
  rintro e y5 ⟨rfl, hx5, ho5⟩
  rw [HR.out]
  have HX5 := hid hx5
  have HO5 := hid (Only.trans (Only.of HB5.out kd vv) ho5)
  clear hx5 ho5
  go_wp2
  go_ret2
  exact ⟨_, rfl, HX5.out, HO5.out, HSZ.out⟩
set_option maxRecDepth 100000 in
set_option maxHeartbeats 1600000 in
theorem write_no (h : Sx w bb kd ks vv st sh) (c s b o k : Int) (L cap : Nat) (A : Option Addr) (l : List Int) (hL : l.length = L) (hw : (Wr.mk c s b o k A cap l).wrong sh ≠ 0) :
    Calls Tryz.prog 90 #[.pointer (some ⟨ks, 0, none⟩), .agg #[.int .i64 c, .int .i64 s, .int .i64 b, .int .i64 o, .int .i64 k, .slice A L cap]] w fun e w' =>
      e = .returned (.tuple #[.int .i64 0, .int .i64 ((Wr.mk c s b o k A cap l).wrong sh : Nat)]) ∧ Below w.heap.size w w' := by
  obtain ⟨W, hW, B1, HBb, sb⟩ := below_new w 133 #[.int .i64 c, .int .i64 s, .int .i64 b, .int .i64 o, .int .i64 k, .slice A L cap]
  have HW := hid hW
  have HX := hid (h.below HBb)
  have HE := hid B1
  have HB := hid HBb
  have HRF := hid (fun w1 => srefuses_any sh h.ok w1 (Wr.mk c s b o k A cap l))
  obtain ⟨wr, hwr⟩ : ∃ n, (Wr.mk c s b o k A cap l).wrong sh = n := ⟨_, rfl⟩
  rw [hwr] at HRF hw ⊢
  simp only [Sh.v, Wr.v, hL] at HRF
  have q1 : ((wr : Int) != 0) = true := by simp; omega
  clear h hW B1 HBb sb hwr hL
  obtain ⟨B, Z, C, S⟩ := sh
  go_enter Tryz.func90, Tryz.ntmps90
  go_wp2_with fail
  rw [HW.out]
  go_upto_region 3 with fail
  have HS := hid (fun y (hy : Below W.heap.size W y) => (HX.out.bx.next hy).all5)
  have HEE := hid (fun y (hy : Below W.heap.size W y) => HE.out.next hy)
  refine wp_region_noPanic ?_
  refine wp_region_held_drew (S := fun y => Below W.heap.size W y) (by kernel_rfl) ?_ (fun hHeld => ?_)
  · exact (Below.refl _ _).drew
  refine wpAnyH_take (i := 0) (oi := ⟨some 13, _, _, _, _, _⟩) (v := ?_) rfl (by kernel_rfl) (by kernel_rfl) (by kernel_rfl) (fun _ _ _ h => h) (Or.inl ⟨by rfl, ?_⟩) (by assumption) ?_
  rotate_left 1
  · intro w0 hSw
    clear hSw
    go_simp
    try with_reducible rfl
  (try simp only [Act.put, List.setIfInBounds_toArray, List.set_cons_zero, List.set_cons_succ])
  refine wpAnyH_take (i := 1) (oi := ⟨some 14, _, _, _, _, _⟩) (v := ?_) rfl (by kernel_rfl) (by kernel_rfl) (by kernel_rfl) (fun _ _ _ h => h) (Or.inl ⟨by rfl, ?_⟩) (by assumption) ?_
  rotate_left 1
  · intro w0 hSw
    clear hSw
    go_simp
    try with_reducible rfl
  (try simp only [Act.put, List.setIfInBounds_toArray, List.set_cons_zero, List.set_cons_succ])
  refine wpAnyH_take (i := 2) (oi := ⟨some 15, _, _, _, _, _⟩) (v := ?_) rfl (by kernel_rfl) (by kernel_rfl) (by kernel_rfl) (fun _ _ _ h => h) (Or.inl ⟨by rfl, ?_⟩) (by assumption) ?_
  rotate_left 1
  · intro w0 hSw
    clear hSw
    go_simp
    try with_reducible rfl
  (try simp only [Act.put, List.setIfInBounds_toArray, List.set_cons_zero, List.set_cons_succ])
  refine wpAnyH_take (i := 3) (oi := ⟨some 16, _, _, _, _, _⟩) (v := ?_) rfl (by kernel_rfl) (by kernel_rfl) (by kernel_rfl) (fun _ _ _ h => h) (Or.inl ⟨by rfl, ?_⟩) (by assumption) ?_
  rotate_left 1
  · intro w0 hSw
    obtain ⟨k0, k1, k2, k3, k4⟩ := HS.out _ hSw; clear hSw
    go_simp
    try with_reducible rfl
  (try simp only [Act.put, List.setIfInBounds_toArray, List.set_cons_zero, List.set_cons_succ])
  refine wpAnyH_take (i := 4) (oi := ⟨some 17, _, _, _, _, _⟩) (v := _) rfl (by kernel_rfl) (by kernel_rfl) (by kernel_rfl) (fun _ _ _ h => h) (yieldsIf_bx (by rfl) 133 (.tmp 3) rfl _ _ _ _ rfl HEE.out Tryz.underlying133 rfl (by kernel_rfl)) (by assumption) ?_
  (try simp only [Act.put, List.setIfInBounds_toArray, List.set_cons_zero, List.set_cons_succ])
  refine wpAnyH_ready (rs := [5]) (by kernel_rfl) (by simp) ?_
  refine AllReadyH.cons (o := ⟨some 18, _, _, _, _, _⟩) rfl (fun K hK => ?_) AllReadyH.nil
  rw [if_pos (by rfl)]
  go_simp
  go_at_call 123
  refine (HRF.out _).mono ?_
  rintro e w1 ⟨rfl, hb1⟩
  have hWb := hid (show Below W.heap.size W w1 from ⟨hb1.os, hb1.tape, hb1.output, hb1.size, hb1.block⟩)
  clear hb1
  refine hK.out _ _ hWb.out (fun hHeld => ?_)
  clear hK K
  (try simp only [Act.put, List.setIfInBounds_toArray, List.set_cons_zero, List.set_cons_succ])
  refine wpAnyH_take (i := 6) (oi := ⟨some 6, _, _, _, _, _⟩) (v := ?_) rfl (by kernel_rfl) (by kernel_rfl) (by kernel_rfl) (fun _ _ _ h => h) (Or.inl ⟨by rfl, ?_⟩) (by assumption) ?_
  rotate_left 1
  · intro w0 hSw
    clear hSw
    go_simp
    try with_reducible rfl
  (try simp only [Act.put, List.setIfInBounds_toArray, List.set_cons_zero, List.set_cons_succ])
  refine wpAnyH_done (by kernel_rfl) ?_ _
  refine NoPanic.normal ?_
  have HB1 := hid (on HB.out hWb.out)
  clear hWb HX HE HB HW HRF HS HEE hHeld
  go_wp2
  go_ret2
  exact ⟨rfl, HB1.out⟩
end
end Go.Proofs.YtbcejfonkehjgaaGreatDoor
namespace Go.Proofs.YtbcejfonkehjgaaGreatDoor
open Go.RowKit

section
variable {w : World} {bb kd ks : Nat} {vv : Value} {st : St} {sh : Sh}
theorem stw_any (h : Sx w bb kd ks vv st sh) (x : Wr) (hy : Byt x.l) (r : Rn w x.A x.l) :
    Calls Tryz.prog 90 #[.pointer (some ⟨ks, 0, none⟩), x.v] w fun e w' =>
      e = .returned (.tuple #[.int .i64 (dwr sh st x).2.1, .int .i64 (dwr sh st x).2.2]) ∧ Sx w' bb kd ks vv (dwr sh st x).1 sh ∧ Only w w' kd vv := by
  by_cases hw : x.wrong sh = 0
  · have fit := x.fit h.ok hw
    obtain ⟨h1, h2, ⟨h3, h4⟩, h5, h6⟩ := x.fits sh hw
    have hlen := h.len
    have q1 : 1 + x.k.toNat < st.L.length := by
      have := fit.k
      rw [top_eq] at hlen
      omega
    have q2 : sh.at_ x.c.toNat x.s.toNat < st.L.length := by
      have := fit.i
      rw [top_eq] at hlen
      rw [at_eq]
      omega
    have e1 := sec_some q1
    have e2 := sec_some q2
    have hd : dwr sh st x = if age x.b x.o (slt (sec st.L (sh.at_ x.c.toNat x.s.toNat))).1 (slt (sec st.L (sh.at_ x.c.toNat x.s.toNat))).2.1 < 0 then ((st, 0, 12) : St × Int × Int)
      else if age x.b x.o (slt (sec st.L (sh.at_ x.c.toNat x.s.toNat))).1 (slt (sec st.L (sh.at_ x.c.toNat x.s.toNat))).2.1 = 0 then (st, ((slt (sec st.L (sh.at_ x.c.toNat x.s.toNat))).2.2 : Nat), 0)
      else ((adr sh st (blk sh.Z (sec st.L (1 + x.k.toNat))).1 x.c.toNat x.s.toNat x.b.toNat x.o.toNat x.k.toNat x.l).1.1, (adr sh st (blk sh.Z (sec st.L (1 + x.k.toNat))).1 x.c.toNat x.s.toNat x.b.toNat x.o.toNat x.k.toNat x.l).2, (adr sh st (blk sh.Z (sec st.L (1 + x.k.toNat))).1 x.c.toNat x.s.toNat x.b.toNat x.o.toNat x.k.toNat x.l).1.2) := if_pos hw
    rw [hd]
    obtain ⟨c, s, b, o, k, A, cap, l⟩ := x
    dsimp only [Wr.v] at *
    obtain ⟨c, rfl⟩ := Int.eq_ofNat_of_zero_le h3.1
    obtain ⟨s, rfl⟩ := Int.eq_ofNat_of_zero_le h4.1
    obtain ⟨k, rfl⟩ := Int.eq_ofNat_of_zero_le h1.1
    obtain ⟨b, rfl⟩ := Int.eq_ofNat_of_zero_le (show 0 ≤ b by omega)
    obtain ⟨o, rfl⟩ := Int.eq_ofNat_of_zero_le (show 0 ≤ o by omega)
    simp only [Int.toNat_natCast] at *
    have g1 : 1 ≤ b ∧ b ≤ great := by unfold great; omega
    have g2 : 1 ≤ o ∧ o ≤ great := by unfold great; omega
    by_cases a1 : age b o (slt (sec st.L (sh.at_ c s))).1 (slt (sec st.L (sh.at_ c s))).2.1 < 0
    · rw [if_pos a1]
      exact (write_old h c s b o k l.length cap A l rfl h2 g1 g2 r hy fit.k fit.c fit.t _ _ e1 e2 a1).mono fun e w' ⟨he, hb⟩ => ⟨he, h.below hb, Only.of hb _ _⟩
    · rw [if_neg a1]
      by_cases a2 : age b o (slt (sec st.L (sh.at_ c s))).1 (slt (sec st.L (sh.at_ c s))).2.1 = 0
      · rw [if_pos a2]
        exact (write_same h c s b o k l.length cap A l rfl h2 g1 g2 r hy fit.k fit.c fit.t _ _ e1 e2 a2).mono fun e w' ⟨he, hb⟩ => ⟨he, h.below hb, Only.of hb _ _⟩
      · rw [if_neg a2]
        exact write_new h c s b o k l.length cap A l rfl h2 g1 g2 r hy fit.k fit.c fit.t _ _ e1 e2 (by unfold age at a1 a2; omega)
  · have hd : dwr sh st x = (st, 0, ((x.wrong sh : Nat) : Int)) := if_neg hw
    rw [hd]
    exact (write_no h x.c x.s x.b x.o x.k x.l.length x.cap x.A x.l rfl hw).mono fun e w' ⟨he, hb⟩ => ⟨he, h.below hb, Only.of hb _ _⟩

theorem rn_one (w : World) (x : Int) : Rn (w.alloc (.cells #[.int .u8 x] 5)) (some ⟨w.heap.size, 0, none⟩) [x] := by
  intro j u hu
  have hj : j = 0 := by
    rcases Nat.lt_or_ge j 1 with h | h
    · omega
    · rw [List.getElem?_eq_none (by simpa using h)] at hu; cases hu
  subst hj
  refine ⟨_, rfl, by rw [World.size_alloc]; exact Nat.lt_succ_self _, ?_⟩
  simp only [List.getElem?_cons_zero, Option.some.injEq] at hu
  subst hu
  exact World.cell?_alloc_new _ _ _ 0
theorem sec_rep (n i : Nat) : sec (List.replicate n []) i = [] := by
  unfold sec
  rw [List.getD, List.getElem?_replicate]
  split <;> rfl
theorem Sx.bel {w' : World} {st' : St} (h : Sx w bb kd ks vv st sh) (_ : Sx w' bb kd ks vv st' sh) (ho : Only w w' kd vv) : Below bb w w' := h.dk.onlyBel ho (Nat.le_trans h.dk.low (Nat.le_of_lt h.dk.box.lt))
end
end Go.Proofs.YtbcejfonkehjgaaGreatDoor
namespace Go.Proofs.YtbcejfonkehjgaaGreatDoor
open Go.RowKit

structure AC where
  X : Nat → Prop
  F : Nat → Prop
  bb : Nat
  kd : Nat
  ks : Nat
  g : Nat
  G : Nat
  M : Nat
  vv : Value
  v : Value
  c : Nat → Int
  A : Option Addr
  n : Nat
  cp : Nat
  hh : Nat → Hn
def AC.own (K : AC) (j : Nat) : Prop := K.F j ∨ j = K.G ∨ j = K.M
def AC.dsk (K : AC) (j : Nat) : Prop := j = K.kd ∨ K.vv.ownBlock = some j
def AC.mine (K : AC) (j : Nat) : Prop := K.own j ∨ K.dsk j ∨ j = K.g
def AC.ptr (K : AC) : Value := .pointer (some ⟨K.g, 0, none⟩)
def shC (c : Nat → Int) : Sh := ⟨(c 2).toNat, (c 3).toNat, (c 0).toNat, (c 1).toNat⟩
def Offd (w : World) (X : Nat → Prop) (v : Value) (n : Nat) : Prop := ∀ g, v.ownBlock = some g → ∀ i A m c, i < n → w.cell? ⟨g, i, none⟩ = some (.slice (some A) m c) → 0 < m → ¬ X A.block
structure Am (w : World) (K : AC) (st : St) (o : Ob) (D : Int → List Int) (B : Nat) (r : Int) (dn : Bool) : Prop where
  bx : Bx w K.g 75 #[.int .i64 (K.c 4), .pointer (some ⟨K.ks, 0, none⟩), .pointer (some ⟨K.G, 0, none⟩), .int .i64 r, .bool dn]
  sx : Sx w K.bb K.kd K.ks K.vv st (shC K.c)
  cm : Cm w K.X K.G K.M K.F K.c K.A K.n K.cp K.hh 3 K.v o D B
  off : Offd w K.X K.vv st.L.length
  xd : ∀ j, K.dsk j → K.X j
  xg : K.X K.g
  nd : ∀ j, K.dsk j → ¬ K.own j
  ng : ¬ K.own K.g
  gd : ¬ K.dsk K.g
  ns : ¬ K.own K.ks
  dom : ∀ x, x ∈ o.all → 0 ≤ x ∧ x < K.c 2
section
variable {w w' : World} {K : AC} {st st' : St} {o o' : Ob} {D D' : Int → List Int} {B B' : Nat} {r : Int} {dn : Bool} {P Q X : Nat → Prop} {bb kd ks : Nat} {vv : Value} {sh : Sh}
theorem Dk.text (h : Dk w 77 bb kd vv st) {i : Nat} {l : List Int} (e : st.L[i]? = some l) (hl : 0 < l.length) : ∃ g A c, vv.ownBlock = some g ∧ w.cell? ⟨g, i, none⟩ = some (.slice (some A) l.length c) ∧ Rn w (some A) l := by
  obtain ⟨g, c, u, e1, e2, _, A, c', rfl, hr, _⟩ := h.sec e
  obtain ⟨ad, rfl, _, _⟩ := Rd.get hr hl
  exact ⟨g, ad, c', by rw [e1]; rfl, e2, hr⟩
theorem Rn.chg {A : Addr} {l : List Int} (h : Rn w (some A) l) (hc : Chg w w' P Q) (hp : ¬ P A.block) : Rn w' (some A) l := fun j x hx => by
  obtain ⟨ad, e, hb, hcell⟩ := h j x hx
  injection e with e
  subst e
  refine ⟨_, rfl, Nat.lt_of_lt_of_le hb hc.size, ?_⟩
  rw [hc.cell (by rw [addBlk]; exact hb) (by rw [addBlk]; exact hp)]
  exact hcell
theorem Dk.chgX (h : Dk w 77 bb kd vv st) (ho : Offd w X vv st.L.length) (hc : Chg w w' P Q) (hX : ∀ j, P j → X j) (hk : ¬ P kd) (hv : ∀ g, vv.ownBlock = some g → ¬ P g) : Dk w' 77 bb kd vv st ∧ Offd w' X vv st.L.length := by
  constructor
  · refine ⟨hc.bx h.box hk, h.low, ?_, h.bnd, h.ne⟩
    obtain ⟨us, hw, hu⟩ := h.row
    refine ⟨us, ⟨hw.1, ?_⟩, fun i l e => ?_⟩
    · rcases hw.2 with hn | ⟨g, cap, cur, hv', hb', hgg, rest⟩
      · exact .inl hn
      · have hob : vv.ownBlock = some g := by rw [hv']; rfl
        exact .inr ⟨g, cap, cur, hv', hb', (hc.block g (World.ownsRow.lt hw g hob).2 (hv g hob)).trans hgg, rest⟩
    · obtain ⟨u, e1, A, c, rfl, hr, hle⟩ := hu i l e
      refine ⟨_, e1, A, c, rfl, ?_, hle⟩
      by_cases hl : 0 < l.length
      · obtain ⟨ad, rfl, _, _⟩ := Rd.get hr hl
        have hi := (List.getElem?_eq_some_iff.1 e).1
        obtain ⟨g, c', hvv, _, _⟩ := World.ownsRow.form hw (by omega)
        have hcell : w.cell? ⟨g, i, none⟩ = some (.slice (some ad) l.length c) := by
          rw [hvv] at hw
          rw [World.ownsRow.cellAt hw i (by omega)]
          exact e1
        exact Rn.chg hr hc fun hp => ho g (by rw [hvv]; rfl) i ad _ _ hi hcell hl (hX _ hp)
      · obtain rfl : l = [] := List.length_eq_zero_iff.1 (by omega)
        exact Rd.nil _ _ _
  · intro g hg i A m c hi hcell hm
    have hlt := (h.rowLt hg).2
    rw [hc.cell (p := ⟨g, i, none⟩) hlt (hv g hg)] at hcell
    exact ho g hg i A m c hi hcell hm
theorem Offd.only (h : Offd w X vv st.L.length) (hk : Dk w 77 bb kd vv st) (ho : Only w w' kd vv) (hX : ∀ j, X j → j < w.heap.size) : Offd w' X vv st.L.length := fun g hg i A m c hi hcell hm => by
  rcases ho.fr g i A m c hg (hk.rowLt hg).2 hcell with h1 | h1
  · exact h g hg i A m c hi h1 hm
  · exact fun hx => by have := hX _ hx; omega
theorem Only.chg {k : Nat} (h : Only w w' k vv) : Chg w w' (fun j => j = k ∨ vv.ownBlock = some j) (fun j => j = k ∨ vv.ownBlock = some j) :=
  ⟨h.os, h.tape, h.output, h.size, fun j hj hn => h.block j hj (fun e => hn (.inl e)) (fun e => hn (.inr e.symm)), fun _ hj => .inl hj⟩
theorem Sx.ne (h : Sx w bb kd ks vv st sh) : ks ≠ kd ∧ vv.ownBlock ≠ some ks := by
  constructor
  · intro e
    have h1 := h.bx
    rw [e] at h1
    have h2 := h1.symm.trans h.dk.box
    simp at h2
  · intro e
    obtain ⟨us, hw, _⟩ := h.dk.row
    rcases hw.2 with hn | ⟨g, cap, cur, hv', hb', hgg, rest⟩
    · rw [hn.1] at e
      simp [Value.ownBlock] at e
    · rw [hv'] at e
      have e2 : g = ks := by simpa [Value.ownBlock] using e
      subst e2
      have h2 := h.bx.symm.trans hgg
      simp at h2
theorem Am.below (h : Am w K st o D B r dn) (hb : Below w.heap.size w w') : Am w' K st o D B r dn :=
  { h with
    bx := h.bx.next hb
    sx := h.sx.below hb
    cm := h.cm.below hb
    off := fun g hg i A m c hi hcell hm => h.off g hg i A m c hi (by rw [← hcell]; exact (hb.cell (p := ⟨g, i, none⟩) (h.sx.dk.rowLt hg).2).symm) hm }
theorem Am.draws (h : Am w K st o D B r dn) (d : Nat) : Am (w.drewN d) K st o D B r dn := h.below (below_draws (Below.refl _ _) d)
theorem Am.cache (h : Am w K st o D B r dn) (hc : Chg w w' P Q) (hP : ∀ j, P j → K.own j) (hcm : Cm w' K.X K.G K.M K.F K.c K.A K.n K.cp K.hh 3 K.v o' D' B') (hd : ∀ x, x ∈ o'.all → 0 ≤ x ∧ x < K.c 2) : Am w' K st o' D' B' r dn := by
  have hX : ∀ j, P j → K.X j := fun j hj => (hP j hj).elim (h.cm.fx j) fun e => e.elim (fun e => e ▸ h.cm.xG) fun e => e ▸ h.cm.xM
  obtain ⟨h1, h2⟩ := h.sx.dk.chgX h.off hc hX (fun hp => h.nd _ (.inl rfl) (hP _ hp)) fun g hg hp => h.nd _ (.inr hg) (hP _ hp)
  exact { bx := hc.bx h.bx fun hp => h.ng (hP _ hp), sx := ⟨h1, hc.bx h.sx.bx fun hp => h.ns (hP _ hp), h.sx.ok, h.sx.len, h.sx.by_⟩, cm := hcm, off := h2, xd := h.xd, xg := h.xg, nd := h.nd, ng := h.ng, gd := h.gd, ns := h.ns, dom := hd }
theorem Am.disk (h : Am w K st o D B r dn) (ho : Only w w' K.kd K.vv) (hs : Sx w' K.bb K.kd K.ks K.vv st' (shC K.c)) (hl : st'.L.length = st.L.length) : Am w' K st' o D B r dn :=
  { bx := ho.chg.bx h.bx h.gd, sx := hs, cm := h.cm.chg ho.chg h.xd fun j hj => ⟨fun hf => h.nd j hj (.inl hf), fun e => h.nd j hj (.inr (.inl e)), fun e => h.nd j hj (.inr (.inr e))⟩
    off := by rw [hl]; exact h.off.only h.sx.dk ho h.cm.lt, xd := h.xd, xg := h.xg, nd := h.nd, ng := h.ng, gd := h.gd, ns := h.ns, dom := h.dom }
theorem set_chg (w : World) (p : Addr) (u : Value) : Chg w (w.setCell p u) (· = p.block) (· = p.block) :=
  ⟨rfl, rfl, rfl, by rw [setSize]; exact Nat.le_refl _, fun j _ hn => Below.heap_setCell w p u j hn, fun _ hj => .inl hj⟩
theorem Am.ks_g (h : Am w K st o D B r dn) : K.ks ≠ K.g := fun e => by
  have h1 := h.sx.bx
  rw [e] at h1
  have h2 := h1.symm.trans h.bx
  simp at h2
theorem Am.cells (h : Am w K st o D B r dn) (hc : Chg w w' P Q) (hP : ∀ j, P j → j = K.g) {r' : Int} {dn' : Bool} (hb : Bx w' K.g 75 #[.int .i64 (K.c 4), .pointer (some ⟨K.ks, 0, none⟩), .pointer (some ⟨K.G, 0, none⟩), .int .i64 r', .bool dn']) : Am w' K st o D B r' dn' := by
  have hX : ∀ j, P j → K.X j := fun j hj => by rw [hP j hj]; exact h.xg
  obtain ⟨h1, h2⟩ := h.sx.dk.chgX h.off hc hX (fun hp => h.gd (.inl (hP _ hp).symm)) fun g hg hp => h.gd (.inr (by rw [← hP _ hp]; exact hg))
  exact { bx := hb, sx := ⟨h1, hc.bx h.sx.bx fun hp => h.ks_g (hP _ hp), h.sx.ok, h.sx.len, h.sx.by_⟩
          cm := h.cm.chg hc hX fun j hj => by
            have e := hP j hj
            subst e
            exact ⟨fun hf => h.ng (.inl hf), fun e => h.ng (.inr (.inl e)), fun e => h.ng (.inr (.inr e))⟩
          off := h2, xd := h.xd, xg := h.xg, nd := h.nd, ng := h.ng, gd := h.gd, ns := h.ns, dom := h.dom }
theorem Am.mine_x (h : Am w K st o D B r dn) : ∀ j, K.mine j → K.X j := fun j hj =>
  hj.elim (fun ho => ho.elim (h.cm.fx j) fun e => e.elim (fun e => e ▸ h.cm.xG) fun e => e ▸ h.cm.xM) fun e => e.elim (h.xd j) fun e => e ▸ h.xg
def rdV (c : Nat → Int) (st : St) (b : Int) : Int := if 0 ≤ b ∧ b < c 2 then ((blk (c 3).toNat (sec st.L (1 + b.toNat))).1 : Nat) else 0
def rdL (c : Nat → Int) (st : St) (b : Int) : List Int := if 0 ≤ b ∧ b < c 2 then (blk (c 3).toNat (sec st.L (1 + b.toNat))).2 else []
def rdE (c : Nat → Int) (b : Int) : Int := if 0 ≤ b ∧ b < c 2 then 0 else 9
theorem own_byX {v : Value} {l : List Int} (h : Own w' w.heap.size v l) (hX : ∀ j, X j → j < w.heap.size) : By w' X v l := by
  obtain ⟨A, c, e, hr, h1, h2⟩ := Own.shape h
  refine ⟨A, c, e, rd_rv hr, h1, h2, fun ad ea _ => ?_⟩
  have := World.ownsRow.lt h ad.block (by rw [e, ea]; rfl)
  exact ⟨this.2, fun hx => by have := hX _ hx; omega⟩
theorem sread_any (h : Sx w K.bb K.kd K.ks K.vv st (shC K.c)) (hX : ∀ j, X j → j < w.heap.size) (hc : 0 ≤ K.c 2) (b : Int) :
    Calls Tryz.prog 47 #[.pointer (some ⟨K.ks, 0, none⟩), .int .i64 b] w fun e w' => ∃ u, e = .returned (.tuple #[u, .int .i64 (rdV K.c st b), .int .i64 (rdE K.c b)]) ∧ By w' X u (rdL K.c st b) ∧ Below w.heap.size w w' := by
  unfold rdV rdL rdE
  by_cases hb : 0 ≤ b ∧ b < K.c 2
  · rw [if_pos hb, if_pos hb, if_pos hb]
    obtain ⟨k, rfl⟩ : ∃ k : Nat, b = k := ⟨b.toNat, by omega⟩
    have hk : k < (shC K.c).B := by show k < (K.c 2).toNat; omega
    have hlen : 1 + k < st.L.length := by
      have h1 := h.len
      rw [top_eq] at h1
      omega
    refine (read_yes h k hk _ (sec_some hlen)).mono fun e w' ⟨u, h1, h2, h3⟩ => ⟨u, ?_, own_byX h2 hX, h3⟩
    exact h1
  · rw [if_neg hb, if_neg hb, if_neg hb]
    refine (read_no h b fun hh => hb ⟨hh.1, by have h2 : b < ((K.c 2).toNat : Int) := hh.2; omega⟩).mono fun e w' ⟨h1, h2⟩ => ⟨_, h1, by_none _ _, h2⟩
theorem Am.c2 (h : Am w K st o D B r dn) : 1 ≤ K.c 2 ∧ K.c 2 ≤ 32 := h.cm.rt.1 2 (by omega)
theorem adown_any (h : Am w K st o D B r dn) : Calls Tryz.prog 22 #[K.ptr] w fun e w' => e = .returned (.bool dn) ∧ w' = w := by
  unfold AC.ptr
  have c4 : w.cell? ⟨K.g, 4, none⟩ = some (.bool dn) := h.bx.cell 4
  clear h
  go_enter Tryz.func22, Tryz.ntmps22
  go_wp2
  go_ret
  exact ⟨rfl, rfl⟩
theorem areads_any (h : Am w K st o D B r dn) : Calls Tryz.prog 21 #[K.ptr] w fun e w' => e = .returned (.int .i64 r) ∧ w' = w := by
  unfold AC.ptr
  have c3 : w.cell? ⟨K.g, 3, none⟩ = some (.int .i64 r) := h.bx.cell 3
  clear h
  go_enter Tryz.func21, Tryz.ntmps21
  go_wp2
  go_ret
  exact ⟨rfl, rfl⟩
theorem ablocks_any (h : Am w K st o D B r dn) : Calls Tryz.prog 19 #[K.ptr] w (Told w o.all) := by
  unfold AC.ptr
  have c2 : w.cell? ⟨K.g, 2, none⟩ = some (.pointer (some ⟨K.G, 0, none⟩)) := h.bx.cell 2
  have HA := hid (cm_all h.cm)
  clear h
  go_enter Tryz.func19, Tryz.ntmps19
  go_wp2_with (go_at_call 44; refine HA.out.mono ?_; rintro e w1 ⟨A1, cc1, rfl, htl⟩; have HT := hid htl; clear htl)
  go_ret
  exact ⟨_, _, rfl, HT.out⟩
theorem astored_any (h : Am w K st o D B r dn) (b : Int) : Calls Tryz.prog 23 #[K.ptr, .int .i64 b] w fun e w' => ∃ u, e = .returned (.tuple #[u, .int .i64 (rdV K.c st b), .int .i64 (rdE K.c b)]) ∧ By w' K.X u (rdL K.c st b) ∧ Below w.heap.size w w' := by
  unfold AC.ptr
  have c1 : w.cell? ⟨K.g, 1, none⟩ = some (.pointer (some ⟨K.ks, 0, none⟩)) := h.bx.cell 1
  have HA := hid (sread_any h.sx h.cm.lt (by have := h.c2; omega) b)
  clear h
  go_enter Tryz.func23, Tryz.ntmps23
  go_wp2_with (go_at_call 47; refine HA.out.mono ?_; rintro e w1 ⟨u, rfl, hy, hb⟩; have HY := hid hy; have HB := hid hb; clear hy hb)
  go_ret3
  exact ⟨_, rfl, HY.out, HB.out⟩
noncomputable def forA (c : Nat → Int) (o : Ob) (b lv : Int) : Bool := decide (lv = 3) && (decide (0 ≤ b ∧ b < c 2) && o.takes (c 5) 3 b lv)
theorem isfor_any (h : Am w K st o D B r dn) (b lv : Int) : Calls Tryz.prog 91 #[K.ptr, .int .i64 b, .int .i64 lv] w fun e w' => e = .returned (.bool (forA K.c o b lv)) ∧ Below w.heap.size w w' := by
  unfold AC.ptr forA
  have c2 : w.cell? ⟨K.g, 2, none⟩ = some (.pointer (some ⟨K.G, 0, none⟩)) := h.bx.cell 2
  have HA0 := cm_Takes h.cm b lv
  obtain ⟨tb, htb⟩ : ∃ t, (decide (0 ≤ b ∧ b < K.c 2) && o.takes (K.c 5) 3 b lv) = t := ⟨_, rfl⟩
  rw [show (decide (0 ≤ b ∧ b < K.c 2) && o.takes (K.c 5) ((3 : Nat) : Int) b lv) = tb from htb] at HA0
  rw [htb]
  have HA := hid HA0
  clear h HA0 htb
  by_cases h3 : lv = 3
  · subst h3
    rw [decide_eq_true rfl, Bool.true_and]
    go_enter Tryz.func91, Tryz.ntmps91
    go_wp2_with (go_at_call 128; refine HA.out.mono ?_; rintro e w1 ⟨rfl, hb⟩; have HB := hid hb; clear hb)
    go_ret
    exact ⟨rfl, HB.out⟩
  · have d3 : ((lv : Int) == 3) = false := by simpa using h3
    have e3 : decide (lv = 3) = false := by simpa using h3
    rw [e3, Bool.false_and]
    clear h3 e3
    go_enter Tryz.func91, Tryz.ntmps91
    go_wp2
    go_ret
    exact ⟨rfl, Below.refl _ _⟩
end
end Go.Proofs.YtbcejfonkehjgaaGreatDoor
