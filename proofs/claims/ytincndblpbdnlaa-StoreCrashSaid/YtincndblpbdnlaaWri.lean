/-
  What is proved: store's Write. Conditions: the store lies in memory as one, or there is none.
-/
import Derived.Test.YtincndblpbdnlaaAdd
import Derived.Test.YtincndblpbdnlaaLst
import Derived.Test.YtincndblpbdnlaaCmp
namespace Go.Proofs.Ytincndblpbdnlaa
open Go.RowKit

section
variable {w : World} {bb kd ks : Nat} {vv : Value} {st : St} {sh : Sh}
set_option maxRecDepth 100000 in
set_option maxHeartbeats 1600000 in
theorem write_old (h : Sx w bb kd ks vv st sh) (c s b o k L cap : Nat) (A : Option Addr) (l : List Int) (hL : l.length = L) (hZ : L = sh.Z) (hb : 1 ≤ b ∧ b ≤ great) (ho : 1 ≤ o ∧ o ≤ great) (r : Rn w A l) (hy : Byt l) (hk1 : k < sh.B) (hc1 : c < sh.C) (hs1 : s < sh.S) (lb ls : List Int) (hlb : st.L[1 + k]? = some lb) (hls : st.L[sh.at_ c s]? = some ls) (hag : orI (cmpI (b : Nat) ((slt ls).1 : Nat)) (cmpI (o : Nat) ((slt ls).2.1 : Nat)) < 0) :
    Calls Try.prog 15 #[.pointer (some ⟨ks, 0, none⟩), .agg #[.int .i64 (c : Nat), .int .i64 (s : Nat), .int .i64 (b : Nat), .int .i64 (o : Nat), .int .i64 (k : Nat), .slice A L cap]] w fun e w' =>
      e = .returned (.tuple #[.int .i64 0, .int .i64 12]) ∧ Below w.heap.size w w' := by
  obtain ⟨W, hW, B1, HBb, sb⟩ := below_new w 38 #[.int .i64 (c : Nat), .int .i64 (s : Nat), .int .i64 (b : Nat), .int .i64 (o : Nat), .int .i64 (k : Nat), .slice A L cap]
  have HW := hid hW
  have HX := hid (h.below HBb)
  have HE := hid B1
  have HB := hid HBb
  have HR := hid (r.now HBb)
  have hwr : (Wr.mk c s b o k A cap l).wrong sh = 0 := by
    unfold great at hb ho
    unfold Wr.wrong Wr.slot
    rw [if_neg (by simp; omega), if_neg (by simp; omega), if_neg (by simp; omega)]
  have HRF := hid (fun w1 => refuses_any sh h.ok w1 (Wr.mk c s b o k A cap l))
  have HLA := hid (fun w1 (h1 : Sx w1 bb kd ks vv st sh) => last_any h1 c s hc1 hs1 ls hls)
  have HLB := hid (slt_bnd ls)
  have HAD := hid (fun w1 (h1 : Sx w1 bb kd ks vv st sh) r1 => add_any h1 c s b o k L cap A l hL (by have := h.ok.z; omega) hb.2 ho.2 r1 hy hk1 hc1 hs1 lb hlb)
  simp only [Wr.v, hwr, hL] at HRF
  generalize slt ls = sl at *
  obtain ⟨b0, o0, a0⟩ := sl
  obtain ⟨B, Z, C, S⟩ := sh
  simp only [Sh.v] at HRF HLB HLA
  clear h hW B1 HBb sb hL hZ r hk1 hc1 hs1 hb ho hy hlb hls hwr
  generalize hp : cmpI (b : Nat) (b0 : Nat) = p at *
  generalize hq : cmpI (o : Nat) (o0 : Nat) = q at *
  have HP := hid hp
  have HQ := hid hq
  clear hp hq
  go_enter Try.func15, Try.ntmps15
  go_upto_region 1 with fail
  rw [HW.out]
  go_upto_region 3 with fail
  have HS := hid (fun y (hy : Below W.heap.size W y) => (HX.out.bx.next hy).all5)
  have HEE := hid (fun y (hy : Below W.heap.size W y) => HE.out.next hy)
  refine wp_region_noPanic ?_
  refine wp_region_held_drew (S := fun y => Below W.heap.size W y) (by kernel_rfl) ?_ (fun hHeld => ?_)
  · exact (Below.refl _ _).drew
  refine wpAnyH_take (i := 0) (oi := ⟨some 13, _, _, _, _, _⟩) (v := ?_) rfl (by kernel_rfl) (by kernel_rfl) (by kernel_rfl) (fun _ _ _ h => h) (Or.inl ⟨by rfl, ?_⟩) (by assumption) ?_
  rotate_left 1
  · intro w0 hSw
    clear hSw
    go_simp
    try with_reducible rfl
  (try simp only [Act.put, List.setIfInBounds_toArray, List.set_cons_zero, List.set_cons_succ])
  refine wpAnyH_take (i := 1) (oi := ⟨some 14, _, _, _, _, _⟩) (v := ?_) rfl (by kernel_rfl) (by kernel_rfl) (by kernel_rfl) (fun _ _ _ h => h) (Or.inl ⟨by rfl, ?_⟩) (by assumption) ?_
  rotate_left 1
  · intro w0 hSw
    clear hSw
    go_simp
    try with_reducible rfl
  (try simp only [Act.put, List.setIfInBounds_toArray, List.set_cons_zero, List.set_cons_succ])
  refine wpAnyH_take (i := 2) (oi := ⟨some 15, _, _, _, _, _⟩) (v := ?_) rfl (by kernel_rfl) (by kernel_rfl) (by kernel_rfl) (fun _ _ _ h => h) (Or.inl ⟨by rfl, ?_⟩) (by assumption) ?_
  rotate_left 1
  · intro w0 hSw
    clear hSw
    go_simp
    try with_reducible rfl
  (try simp only [Act.put, List.setIfInBounds_toArray, List.set_cons_zero, List.set_cons_succ])
  refine wpAnyH_take (i := 3) (oi := ⟨some 16, _, _, _, _, _⟩) (v := ?_) rfl (by kernel_rfl) (by kernel_rfl) (by kernel_rfl) (fun _ _ _ h => h) (Or.inl ⟨by rfl, ?_⟩) (by assumption) ?_
  rotate_left 1
  · intro w0 hSw
    obtain ⟨k0, k1, k2, k3, k4⟩ := HS.out _ hSw; clear hSw
    go_simp
    try with_reducible rfl
  (try simp only [Act.put, List.setIfInBounds_toArray, List.set_cons_zero, List.set_cons_succ])
  refine wpAnyH_take (i := 4) (oi := ⟨some 17, _, _, _, _, _⟩) (v := _) rfl (by kernel_rfl) (by kernel_rfl) (by kernel_rfl) (fun _ _ _ h => h) (yieldsIf_bx (by rfl) 38 (.tmp 3) rfl _ _ _ _ rfl HEE.out Try.underlying38 rfl (by kernel_rfl)) (by assumption) ?_
  (try simp only [Act.put, List.setIfInBounds_toArray, List.set_cons_zero, List.set_cons_succ])
  refine wpAnyH_ready (rs := [5]) (by kernel_rfl) (by simp) ?_
  refine AllReadyH.cons (o := ⟨some 18, _, _, _, _, _⟩) rfl (fun K hK => ?_) AllReadyH.nil
  rw [if_pos (by rfl)]
  go_simp
  go_at_call 33
  refine (HRF.out _).mono ?_
  rintro e w1 ⟨rfl, hb1⟩
  have hWb := hid (show Below W.heap.size W w1 from ⟨hb1.os, hb1.tape, hb1.output, hb1.size, hb1.block⟩)
  clear hb1
  refine hK.out _ _ hWb.out (fun hHeld => ?_)
  clear hK K
  (try simp only [Act.put, List.setIfInBounds_toArray, List.set_cons_zero, List.set_cons_succ])
  refine wpAnyH_take (i := 6) (oi := ⟨some 6, _, _, _, _, _⟩) (v := ?_) rfl (by kernel_rfl) (by kernel_rfl) (by kernel_rfl) (fun _ _ _ h => h) (Or.inl ⟨by rfl, ?_⟩) (by assumption) ?_
  rotate_left 1
  · intro w0 hSw
    clear hSw
    go_simp
    try with_reducible rfl
  (try simp only [Act.put, List.setIfInBounds_toArray, List.set_cons_zero, List.set_cons_succ])
  refine wpAnyH_done (by kernel_rfl) ?_ _
  refine NoPanic.normal ?_
  have HB1 := hid (on HB.out hWb.out)
  have HX1 := hid (HX.out.below hWb.out)
  have HE1 := hid (HE.out.next hWb.out)
  have HR1 := hid (HR.out.now hWb.out)
  clear hWb HX HE HR HB HW HRF HS HEE hHeld
  obtain ⟨d0, d1, d2, d3, d4, d5⟩ := HE1.out.all6
  go_wp2_with fail
  refine (HLA.out w1 HX1.out).mono ?_
  rintro e w2 ⟨rfl, hb2⟩
  have HB2 := hid (on HB1.out hb2)
  have HX2 := hid (HX1.out.below hb2)
  have HE2 := hid (HE1.out.next hb2)
  have HR2 := hid (HR1.out.now hb2)
  clear d0 d1 d2 d3 d4 d5 hb2 HX1 HE1 HR1 HB1 HLA
  go_upto_region 7 with fail
  have HEE := hid (fun y (hy : Below w2.heap.size w2 y) => (HE2.out.next hy).all6)
  refine wp_region_noPanic ?_
  refine wp_region_held_drew (S := fun y => Below w2.heap.size w2 y) (by kernel_rfl) ?_ (fun hHeld => ?_)
  · exact (Below.refl _ _).drew
  refine wpAnyH_take (i := 0) (oi := ⟨some 32, _, _, _, _, _⟩) (v := ?_) rfl (by kernel_rfl) (by kernel_rfl) (by kernel_rfl) (fun _ _ _ h => h) (Or.inl ⟨by rfl, ?_⟩) (by assumption) ?_
  rotate_left 1
  · intro w0 hSw
    clear hSw
    go_simp
    try with_reducible rfl
  (try simp only [Act.put, List.setIfInBounds_toArray, List.set_cons_zero, List.set_cons_succ])
  refine wpAnyH_take (i := 1) (oi := ⟨some 33, _, _, _, _, _⟩) (v := ?_) rfl (by kernel_rfl) (by kernel_rfl) (by kernel_rfl) (fun _ _ _ h => h) (Or.inl ⟨by rfl, ?_⟩) (by assumption) ?_
  rotate_left 1
  · intro w0 hSw
    obtain ⟨k0, k1, k2, k3, k4, k5⟩ := HEE.out _ hSw; clear hSw k0 k1 k4 k5
    go_simp
    try with_reducible rfl
  (try simp only [Act.put, List.setIfInBounds_toArray, List.set_cons_zero, List.set_cons_succ])
  refine wpAnyH_take (i := 2) (oi := ⟨some 34, _, _, _, _, _⟩) (v := ?_) rfl (by kernel_rfl) (by kernel_rfl) (by kernel_rfl) (fun _ _ _ h => h) (Or.inl ⟨by rfl, ?_⟩) (by assumption) ?_
  rotate_left 1
  · intro w0 hSw
    clear hSw
    go_simp
    try with_reducible rfl
  (try simp only [Act.put, List.setIfInBounds_toArray, List.set_cons_zero, List.set_cons_succ])
  refine wpAnyH_take (i := 4) (oi := ⟨some 36, _, _, _, _, _⟩) (v := ?_) rfl (by kernel_rfl) (by kernel_rfl) (by kernel_rfl) (fun _ _ _ h => h) (Or.inl ⟨by rfl, ?_⟩) (by assumption) ?_
  rotate_left 1
  · intro w0 hSw
    clear hSw
    go_simp
    try with_reducible rfl
  (try simp only [Act.put, List.setIfInBounds_toArray, List.set_cons_zero, List.set_cons_succ])
  refine wpAnyH_take (i := 5) (oi := ⟨some 37, _, _, _, _, _⟩) (v := ?_) rfl (by kernel_rfl) (by kernel_rfl) (by kernel_rfl) (fun _ _ _ h => h) (Or.inl ⟨by rfl, ?_⟩) (by assumption) ?_
  rotate_left 1
  · intro w0 hSw
    obtain ⟨k0, k1, k2, k3, k4, k5⟩ := HEE.out _ hSw; clear hSw k0 k1 k4 k5
    go_simp
    try with_reducible rfl
  (try simp only [Act.put, List.setIfInBounds_toArray, List.set_cons_zero, List.set_cons_succ])
  refine wpAnyH_take (i := 6) (oi := ⟨some 38, _, _, _, _, _⟩) (v := ?_) rfl (by kernel_rfl) (by kernel_rfl) (by kernel_rfl) (fun _ _ _ h => h) (Or.inl ⟨by rfl, ?_⟩) (by assumption) ?_
  rotate_left 1
  · intro w0 hSw
    clear hSw
    go_simp
    try with_reducible rfl
  (try simp only [Act.put, List.setIfInBounds_toArray, List.set_cons_zero, List.set_cons_succ])
  obtain ⟨y2, hy2⟩ : ∃ y, w2.drew = y := ⟨_, rfl⟩
  rw [hy2] at hHeld ⊢
  have HBY := hid hHeld
  clear hy2
  refine wpAnyH_ready (rs := [3]) (by kernel_rfl) (by simp) ?_
  refine AllReadyH.cons (o := ⟨some 35, _, _, _, _, _⟩) rfl (fun K hK => ?_) AllReadyH.nil
  rw [if_pos (by rfl)]
  go_simp
  go_at_call 36
  refine (compare_any (b : Nat) (b0 : Nat) _).mono ?_
  rintro e w3 ⟨rfl, hw3⟩
  rw [hw3, HP.out]
  clear hw3
  refine hK.out _ _ HBY.out (fun hHeld => ?_)
  clear hK K
  (try simp only [Act.put, List.setIfInBounds_toArray, List.set_cons_zero, List.set_cons_succ])
  refine wpAnyH_ready (rs := [7]) (by kernel_rfl) (by simp) ?_
  refine AllReadyH.cons (o := ⟨some 39, _, _, _, _, _⟩) rfl (fun K hK => ?_) AllReadyH.nil
  rw [if_pos (by rfl)]
  go_simp
  go_at_call 36
  refine (compare_any (o : Nat) (o0 : Nat) _).mono ?_
  rintro e w3 ⟨rfl, hw3⟩
  rw [hw3, HQ.out]
  clear hw3
  refine hK.out _ _ HBY.out (fun hHeld => ?_)
  clear hK K
  (try simp only [Act.put, List.setIfInBounds_toArray, List.set_cons_zero, List.set_cons_succ])
  refine wpAnyH_ready (rs := [8]) (by kernel_rfl) (by simp) ?_
  refine AllReadyH.cons (o := ⟨some 40, _, _, _, _, _⟩) rfl (fun K hK => ?_) AllReadyH.nil
  rw [if_pos (by rfl)]
  go_simp
  have hbw := hid (HBY.out.trans ((below_alloc y2 (.cells #[.int .i64 p, .int .i64 q] 3)).mono HBY.out.size))
  refine hK.out _ _ hbw.out (fun hHeld => ?_)
  clear hK K
  (try simp only [Act.put, List.setIfInBounds_toArray, List.set_cons_zero, List.set_cons_succ])
  refine wpAnyH_ready (rs := [9]) (by kernel_rfl) (by simp) ?_
  refine AllReadyH.cons (o := ⟨some 41, _, _, _, _, _⟩) rfl (fun K hK => ?_) AllReadyH.nil
  rw [if_pos (by rfl)]
  go_simp
  go_at_call 35
  refine (or_any p q _ _ _ ((Bx.new _ _ _).cell 0) ((Bx.new _ _ _).cell 1)).mono ?_
  rintro e w3 ⟨rfl, hw3⟩
  rw [hw3]
  clear hw3
  refine hK.out _ _ hbw.out (fun hHeld => ?_)
  clear hK K
  (try simp only [Act.put, List.setIfInBounds_toArray, List.set_cons_zero, List.set_cons_succ])
  refine wpAnyH_take (i := 10) (oi := ⟨some 10, _, _, _, _, _⟩) (v := ?_) rfl (by kernel_rfl) (by kernel_rfl) (by kernel_rfl) (fun _ _ _ h => h) (Or.inl ⟨by rfl, ?_⟩) (by assumption) ?_
  rotate_left 1
  · intro w0 hSw
    clear hSw
    go_simp
    try with_reducible rfl
  (try simp only [Act.put, List.setIfInBounds_toArray, List.set_cons_zero, List.set_cons_succ])
  refine wpAnyH_done (by kernel_rfl) ?_ _
  refine NoPanic.normal ?_
  clear hHeld HEE
  generalize orI p q = age at *
  have HB3 := hid (on HB2.out hbw.out)
  have t1 : decide (age < 0) = true := by simpa using hag
  clear hag hbw HX2 HE2 HR2 HAD
  go_wp2
  go_ret2
  exact ⟨rfl, HB3.out⟩
set_option maxRecDepth 100000 in
set_option maxHeartbeats 1600000 in
theorem write_same (h : Sx w bb kd ks vv st sh) (c s b o k L cap : Nat) (A : Option Addr) (l : List Int) (hL : l.length = L) (hZ : L = sh.Z) (hb : 1 ≤ b ∧ b ≤ great) (ho : 1 ≤ o ∧ o ≤ great) (r : Rn w A l) (hy : Byt l) (hk1 : k < sh.B) (hc1 : c < sh.C) (hs1 : s < sh.S) (lb ls : List Int) (hlb : st.L[1 + k]? = some lb) (hls : st.L[sh.at_ c s]? = some ls) (hag : orI (cmpI (b : Nat) ((slt ls).1 : Nat)) (cmpI (o : Nat) ((slt ls).2.1 : Nat)) = 0) :
    Calls Try.prog 15 #[.pointer (some ⟨ks, 0, none⟩), .agg #[.int .i64 (c : Nat), .int .i64 (s : Nat), .int .i64 (b : Nat), .int .i64 (o : Nat), .int .i64 (k : Nat), .slice A L cap]] w fun e w' =>
      e = .returned (.tuple #[.int .i64 ((slt ls).2.2 : Nat), .int .i64 0]) ∧ Below w.heap.size w w' := by
  obtain ⟨W, hW, B1, HBb, sb⟩ := below_new w 38 #[.int .i64 (c : Nat), .int .i64 (s : Nat), .int .i64 (b : Nat), .int .i64 (o : Nat), .int .i64 (k : Nat), .slice A L cap]
  have HW := hid hW
  have HX := hid (h.below HBb)
  have HE := hid B1
  have HB := hid HBb
  have HR := hid (r.now HBb)
  have hwr : (Wr.mk c s b o k A cap l).wrong sh = 0 := by
    unfold great at hb ho
    unfold Wr.wrong Wr.slot
    rw [if_neg (by simp; omega), if_neg (by simp; omega), if_neg (by simp; omega)]
  have HRF := hid (fun w1 => refuses_any sh h.ok w1 (Wr.mk c s b o k A cap l))
  have HLA := hid (fun w1 (h1 : Sx w1 bb kd ks vv st sh) => last_any h1 c s hc1 hs1 ls hls)
  have HLB := hid (slt_bnd ls)
  have HAD := hid (fun w1 (h1 : Sx w1 bb kd ks vv st sh) r1 => add_any h1 c s b o k L cap A l hL (by have := h.ok.z; omega) hb.2 ho.2 r1 hy hk1 hc1 hs1 lb hlb)
  simp only [Wr.v, hwr, hL] at HRF
  generalize slt ls = sl at *
  obtain ⟨b0, o0, a0⟩ := sl
  obtain ⟨B, Z, C, S⟩ := sh
  simp only [Sh.v] at HRF HLB HLA
  clear h hW B1 HBb sb hL hZ r hk1 hc1 hs1 hb ho hy hlb hls hwr
  generalize hp : cmpI (b : Nat) (b0 : Nat) = p at *
  generalize hq : cmpI (o : Nat) (o0 : Nat) = q at *
  have HP := hid hp
  have HQ := hid hq
  clear hp hq
  go_enter Try.func15, Try.ntmps15
  go_upto_region 1 with fail
  rw [HW.out]
  go_upto_region 3 with fail
  have HS := hid (fun y (hy : Below W.heap.size W y) => (HX.out.bx.next hy).all5)
  have HEE := hid (fun y (hy : Below W.heap.size W y) => HE.out.next hy)
  refine wp_region_noPanic ?_
  refine wp_region_held_drew (S := fun y => Below W.heap.size W y) (by kernel_rfl) ?_ (fun hHeld => ?_)
  · exact (Below.refl _ _).drew
  refine wpAnyH_take (i := 0) (oi := ⟨some 13, _, _, _, _, _⟩) (v := ?_) rfl (by kernel_rfl) (by kernel_rfl) (by kernel_rfl) (fun _ _ _ h => h) (Or.inl ⟨by rfl, ?_⟩) (by assumption) ?_
  rotate_left 1
  · intro w0 hSw
    clear hSw
    go_simp
    try with_reducible rfl
  (try simp only [Act.put, List.setIfInBounds_toArray, List.set_cons_zero, List.set_cons_succ])
  refine wpAnyH_take (i := 1) (oi := ⟨some 14, _, _, _, _, _⟩) (v := ?_) rfl (by kernel_rfl) (by kernel_rfl) (by kernel_rfl) (fun _ _ _ h => h) (Or.inl ⟨by rfl, ?_⟩) (by assumption) ?_
  rotate_left 1
  · intro w0 hSw
    clear hSw
    go_simp
    try with_reducible rfl
  (try simp only [Act.put, List.setIfInBounds_toArray, List.set_cons_zero, List.set_cons_succ])
  refine wpAnyH_take (i := 2) (oi := ⟨some 15, _, _, _, _, _⟩) (v := ?_) rfl (by kernel_rfl) (by kernel_rfl) (by kernel_rfl) (fun _ _ _ h => h) (Or.inl ⟨by rfl, ?_⟩) (by assumption) ?_
  rotate_left 1
  · intro w0 hSw
    clear hSw
    go_simp
    try with_reducible rfl
  (try simp only [Act.put, List.setIfInBounds_toArray, List.set_cons_zero, List.set_cons_succ])
  refine wpAnyH_take (i := 3) (oi := ⟨some 16, _, _, _, _, _⟩) (v := ?_) rfl (by kernel_rfl) (by kernel_rfl) (by kernel_rfl) (fun _ _ _ h => h) (Or.inl ⟨by rfl, ?_⟩) (by assumption) ?_
  rotate_left 1
  · intro w0 hSw
    obtain ⟨k0, k1, k2, k3, k4⟩ := HS.out _ hSw; clear hSw
    go_simp
    try with_reducible rfl
  (try simp only [Act.put, List.setIfInBounds_toArray, List.set_cons_zero, List.set_cons_succ])
  refine wpAnyH_take (i := 4) (oi := ⟨some 17, _, _, _, _, _⟩) (v := _) rfl (by kernel_rfl) (by kernel_rfl) (by kernel_rfl) (fun _ _ _ h => h) (yieldsIf_bx (by rfl) 38 (.tmp 3) rfl _ _ _ _ rfl HEE.out Try.underlying38 rfl (by kernel_rfl)) (by assumption) ?_
  (try simp only [Act.put, List.setIfInBounds_toArray, List.set_cons_zero, List.set_cons_succ])
  refine wpAnyH_ready (rs := [5]) (by kernel_rfl) (by simp) ?_
  refine AllReadyH.cons (o := ⟨some 18, _, _, _, _, _⟩) rfl (fun K hK => ?_) AllReadyH.nil
  rw [if_pos (by rfl)]
  go_simp
  go_at_call 33
  refine (HRF.out _).mono ?_
  rintro e w1 ⟨rfl, hb1⟩
  have hWb := hid (show Below W.heap.size W w1 from ⟨hb1.os, hb1.tape, hb1.output, hb1.size, hb1.block⟩)
  clear hb1
  refine hK.out _ _ hWb.out (fun hHeld => ?_)
  clear hK K
  (try simp only [Act.put, List.setIfInBounds_toArray, List.set_cons_zero, List.set_cons_succ])
  refine wpAnyH_take (i := 6) (oi := ⟨some 6, _, _, _, _, _⟩) (v := ?_) rfl (by kernel_rfl) (by kernel_rfl) (by kernel_rfl) (fun _ _ _ h => h) (Or.inl ⟨by rfl, ?_⟩) (by assumption) ?_
  rotate_left 1
  · intro w0 hSw
    clear hSw
    go_simp
    try with_reducible rfl
  (try simp only [Act.put, List.setIfInBounds_toArray, List.set_cons_zero, List.set_cons_succ])
  refine wpAnyH_done (by kernel_rfl) ?_ _
  refine NoPanic.normal ?_
  have HB1 := hid (on HB.out hWb.out)
  have HX1 := hid (HX.out.below hWb.out)
  have HE1 := hid (HE.out.next hWb.out)
  have HR1 := hid (HR.out.now hWb.out)
  clear hWb HX HE HR HB HW HRF HS HEE hHeld
  obtain ⟨d0, d1, d2, d3, d4, d5⟩ := HE1.out.all6
  go_wp2_with fail
  refine (HLA.out w1 HX1.out).mono ?_
  rintro e w2 ⟨rfl, hb2⟩
  have HB2 := hid (on HB1.out hb2)
  have HX2 := hid (HX1.out.below hb2)
  have HE2 := hid (HE1.out.next hb2)
  have HR2 := hid (HR1.out.now hb2)
  clear d0 d1 d2 d3 d4 d5 hb2 HX1 HE1 HR1 HB1 HLA
  go_upto_region 7 with fail
  have HEE := hid (fun y (hy : Below w2.heap.size w2 y) => (HE2.out.next hy).all6)
  refine wp_region_noPanic ?_
  refine wp_region_held_drew (S := fun y => Below w2.heap.size w2 y) (by kernel_rfl) ?_ (fun hHeld => ?_)
  · exact (Below.refl _ _).drew
  refine wpAnyH_take (i := 0) (oi := ⟨some 32, _, _, _, _, _⟩) (v := ?_) rfl (by kernel_rfl) (by kernel_rfl) (by kernel_rfl) (fun _ _ _ h => h) (Or.inl ⟨by rfl, ?_⟩) (by assumption) ?_
  rotate_left 1
  · intro w0 hSw
    clear hSw
    go_simp
    try with_reducible rfl
  (try simp only [Act.put, List.setIfInBounds_toArray, List.set_cons_zero, List.set_cons_succ])
  refine wpAnyH_take (i := 1) (oi := ⟨some 33, _, _, _, _, _⟩) (v := ?_) rfl (by kernel_rfl) (by kernel_rfl) (by kernel_rfl) (fun _ _ _ h => h) (Or.inl ⟨by rfl, ?_⟩) (by assumption) ?_
  rotate_left 1
  · intro w0 hSw
    obtain ⟨k0, k1, k2, k3, k4, k5⟩ := HEE.out _ hSw; clear hSw k0 k1 k4 k5
    go_simp
    try with_reducible rfl
  (try simp only [Act.put, List.setIfInBounds_toArray, List.set_cons_zero, List.set_cons_succ])
  refine wpAnyH_take (i := 2) (oi := ⟨some 34, _, _, _, _, _⟩) (v := ?_) rfl (by kernel_rfl) (by kernel_rfl) (by kernel_rfl) (fun _ _ _ h => h) (Or.inl ⟨by rfl, ?_⟩) (by assumption) ?_
  rotate_left 1
  · intro w0 hSw
    clear hSw
    go_simp
    try with_reducible rfl
  (try simp only [Act.put, List.setIfInBounds_toArray, List.set_cons_zero, List.set_cons_succ])
  refine wpAnyH_take (i := 4) (oi := ⟨some 36, _, _, _, _, _⟩) (v := ?_) rfl (by kernel_rfl) (by kernel_rfl) (by kernel_rfl) (fun _ _ _ h => h) (Or.inl ⟨by rfl, ?_⟩) (by assumption) ?_
  rotate_left 1
  · intro w0 hSw
    clear hSw
    go_simp
    try with_reducible rfl
  (try simp only [Act.put, List.setIfInBounds_toArray, List.set_cons_zero, List.set_cons_succ])
  refine wpAnyH_take (i := 5) (oi := ⟨some 37, _, _, _, _, _⟩) (v := ?_) rfl (by kernel_rfl) (by kernel_rfl) (by kernel_rfl) (fun _ _ _ h => h) (Or.inl ⟨by rfl, ?_⟩) (by assumption) ?_
  rotate_left 1
  · intro w0 hSw
    obtain ⟨k0, k1, k2, k3, k4, k5⟩ := HEE.out _ hSw; clear hSw k0 k1 k4 k5
    go_simp
    try with_reducible rfl
  (try simp only [Act.put, List.setIfInBounds_toArray, List.set_cons_zero, List.set_cons_succ])
  refine wpAnyH_take (i := 6) (oi := ⟨some 38, _, _, _, _, _⟩) (v := ?_) rfl (by kernel_rfl) (by kernel_rfl) (by kernel_rfl) (fun _ _ _ h => h) (Or.inl ⟨by rfl, ?_⟩) (by assumption) ?_
  rotate_left 1
  · intro w0 hSw
    clear hSw
    go_simp
    try with_reducible rfl
  (try simp only [Act.put, List.setIfInBounds_toArray, List.set_cons_zero, List.set_cons_succ])
  obtain ⟨y2, hy2⟩ : ∃ y, w2.drew = y := ⟨_, rfl⟩
  rw [hy2] at hHeld ⊢
  have HBY := hid hHeld
  clear hy2
  refine wpAnyH_ready (rs := [3]) (by kernel_rfl) (by simp) ?_
  refine AllReadyH.cons (o := ⟨some 35, _, _, _, _, _⟩) rfl (fun K hK => ?_) AllReadyH.nil
  rw [if_pos (by rfl)]
  go_simp
  go_at_call 36
  refine (compare_any (b : Nat) (b0 : Nat) _).mono ?_
  rintro e w3 ⟨rfl, hw3⟩
  rw [hw3, HP.out]
  clear hw3
  refine hK.out _ _ HBY.out (fun hHeld => ?_)
  clear hK K
  (try simp only [Act.put, List.setIfInBounds_toArray, List.set_cons_zero, List.set_cons_succ])
  refine wpAnyH_ready (rs := [7]) (by kernel_rfl) (by simp) ?_
  refine AllReadyH.cons (o := ⟨some 39, _, _, _, _, _⟩) rfl (fun K hK => ?_) AllReadyH.nil
  rw [if_pos (by rfl)]
  go_simp
  go_at_call 36
  refine (compare_any (o : Nat) (o0 : Nat) _).mono ?_
  rintro e w3 ⟨rfl, hw3⟩
  rw [hw3, HQ.out]
  clear hw3
  refine hK.out _ _ HBY.out (fun hHeld => ?_)
  clear hK K
  (try simp only [Act.put, List.setIfInBounds_toArray, List.set_cons_zero, List.set_cons_succ])
  refine wpAnyH_ready (rs := [8]) (by kernel_rfl) (by simp) ?_
  refine AllReadyH.cons (o := ⟨some 40, _, _, _, _, _⟩) rfl (fun K hK => ?_) AllReadyH.nil
  rw [if_pos (by rfl)]
  go_simp
  have hbw := hid (HBY.out.trans ((below_alloc y2 (.cells #[.int .i64 p, .int .i64 q] 3)).mono HBY.out.size))
  refine hK.out _ _ hbw.out (fun hHeld => ?_)
  clear hK K
  (try simp only [Act.put, List.setIfInBounds_toArray, List.set_cons_zero, List.set_cons_succ])
  refine wpAnyH_ready (rs := [9]) (by kernel_rfl) (by simp) ?_
  refine AllReadyH.cons (o := ⟨some 41, _, _, _, _, _⟩) rfl (fun K hK => ?_) AllReadyH.nil
  rw [if_pos (by rfl)]
  go_simp
  go_at_call 35
  refine (or_any p q _ _ _ ((Bx.new _ _ _).cell 0) ((Bx.new _ _ _).cell 1)).mono ?_
  rintro e w3 ⟨rfl, hw3⟩
  rw [hw3]
  clear hw3
  refine hK.out _ _ hbw.out (fun hHeld => ?_)
  clear hK K
  (try simp only [Act.put, List.setIfInBounds_toArray, List.set_cons_zero, List.set_cons_succ])
  refine wpAnyH_take (i := 10) (oi := ⟨some 10, _, _, _, _, _⟩) (v := ?_) rfl (by kernel_rfl) (by kernel_rfl) (by kernel_rfl) (fun _ _ _ h => h) (Or.inl ⟨by rfl, ?_⟩) (by assumption) ?_
  rotate_left 1
  · intro w0 hSw
    clear hSw
    go_simp
    try with_reducible rfl
  (try simp only [Act.put, List.setIfInBounds_toArray, List.set_cons_zero, List.set_cons_succ])
  refine wpAnyH_done (by kernel_rfl) ?_ _
  refine NoPanic.normal ?_
  clear hHeld HEE
  generalize orI p q = age at *
  have HB3 := hid (on HB2.out hbw.out)
  subst hag
  clear hbw HX2 HE2 HR2 HAD
  go_wp2
  go_ret2
  exact ⟨rfl, HB3.out⟩
set_option maxRecDepth 100000 in
set_option maxHeartbeats 1600000 in
theorem write_new (h : Sx w bb kd ks vv st sh) (c s b o k L cap : Nat) (A : Option Addr) (l : List Int) (hL : l.length = L) (hZ : L = sh.Z) (hb : 1 ≤ b ∧ b ≤ great) (ho : 1 ≤ o ∧ o ≤ great) (r : Rn w A l) (hy : Byt l) (hk1 : k < sh.B) (hc1 : c < sh.C) (hs1 : s < sh.S) (lb ls : List Int) (hlb : st.L[1 + k]? = some lb) (hls : st.L[sh.at_ c s]? = some ls) (hag : 0 < orI (cmpI (b : Nat) ((slt ls).1 : Nat)) (cmpI (o : Nat) ((slt ls).2.1 : Nat))) :
    Calls Try.prog 15 #[.pointer (some ⟨ks, 0, none⟩), .agg #[.int .i64 (c : Nat), .int .i64 (s : Nat), .int .i64 (b : Nat), .int .i64 (o : Nat), .int .i64 (k : Nat), .slice A L cap]] w fun e w' =>
      (e = .returned (.tuple #[.int .i64 (adr sh st (blk sh.Z lb).1 c s b o k l).2, .int .i64 (adr sh st (blk sh.Z lb).1 c s b o k l).1.2]) ∧ Sx w' bb kd ks vv (adr sh st (blk sh.Z lb).1 c s b o k l).1.1 sh ∧ Only w w' kd vv) := by
  obtain ⟨W, hW, B1, HBb, sb⟩ := below_new w 38 #[.int .i64 (c : Nat), .int .i64 (s : Nat), .int .i64 (b : Nat), .int .i64 (o : Nat), .int .i64 (k : Nat), .slice A L cap]
  have HW := hid hW
  have HX := hid (h.below HBb)
  have HE := hid B1
  have HB := hid HBb
  have HR := hid (r.now HBb)
  have hwr : (Wr.mk c s b o k A cap l).wrong sh = 0 := by
    unfold great at hb ho
    unfold Wr.wrong Wr.slot
    rw [if_neg (by simp; omega), if_neg (by simp; omega), if_neg (by simp; omega)]
  have HRF := hid (fun w1 => refuses_any sh h.ok w1 (Wr.mk c s b o k A cap l))
  have HLA := hid (fun w1 (h1 : Sx w1 bb kd ks vv st sh) => last_any h1 c s hc1 hs1 ls hls)
  have HLB := hid (slt_bnd ls)
  have HAD := hid (fun w1 (h1 : Sx w1 bb kd ks vv st sh) r1 => add_any h1 c s b o k L cap A l hL (by have := h.ok.z; omega) hb.2 ho.2 r1 hy hk1 hc1 hs1 lb hlb)
  simp only [Wr.v, hwr, hL] at HRF
  generalize slt ls = sl at *
  obtain ⟨b0, o0, a0⟩ := sl
  obtain ⟨B, Z, C, S⟩ := sh
  simp only [Sh.v] at HRF HLB HLA
  clear h hW B1 HBb sb hL hZ r hk1 hc1 hs1 hb ho hy hlb hls hwr
  generalize hp : cmpI (b : Nat) (b0 : Nat) = p at *
  generalize hq : cmpI (o : Nat) (o0 : Nat) = q at *
  have HP := hid hp
  have HQ := hid hq
  clear hp hq
  go_enter Try.func15, Try.ntmps15
  go_upto_region 1 with fail
  rw [HW.out]
  go_upto_region 3 with fail
  have HS := hid (fun y (hy : Below W.heap.size W y) => (HX.out.bx.next hy).all5)
  have HEE := hid (fun y (hy : Below W.heap.size W y) => HE.out.next hy)
  refine wp_region_noPanic ?_
  refine wp_region_held_drew (S := fun y => Below W.heap.size W y) (by kernel_rfl) ?_ (fun hHeld => ?_)
  · exact (Below.refl _ _).drew
  refine wpAnyH_take (i := 0) (oi := ⟨some 13, _, _, _, _, _⟩) (v := ?_) rfl (by kernel_rfl) (by kernel_rfl) (by kernel_rfl) (fun _ _ _ h => h) (Or.inl ⟨by rfl, ?_⟩) (by assumption) ?_
  rotate_left 1
  · intro w0 hSw
    clear hSw
    go_simp
    try with_reducible rfl
  (try simp only [Act.put, List.setIfInBounds_toArray, List.set_cons_zero, List.set_cons_succ])
  refine wpAnyH_take (i := 1) (oi := ⟨some 14, _, _, _, _, _⟩) (v := ?_) rfl (by kernel_rfl) (by kernel_rfl) (by kernel_rfl) (fun _ _ _ h => h) (Or.inl ⟨by rfl, ?_⟩) (by assumption) ?_
  rotate_left 1
  · intro w0 hSw
    clear hSw
    go_simp
    try with_reducible rfl
  (try simp only [Act.put, List.setIfInBounds_toArray, List.set_cons_zero, List.set_cons_succ])
  refine wpAnyH_take (i := 2) (oi := ⟨some 15, _, _, _, _, _⟩) (v := ?_) rfl (by kernel_rfl) (by kernel_rfl) (by kernel_rfl) (fun _ _ _ h => h) (Or.inl ⟨by rfl, ?_⟩) (by assumption) ?_
  rotate_left 1
  · intro w0 hSw
    clear hSw
    go_simp
    try with_reducible rfl
  (try simp only [Act.put, List.setIfInBounds_toArray, List.set_cons_zero, List.set_cons_succ])
  refine wpAnyH_take (i := 3) (oi := ⟨some 16, _, _, _, _, _⟩) (v := ?_) rfl (by kernel_rfl) (by kernel_rfl) (by kernel_rfl) (fun _ _ _ h => h) (Or.inl ⟨by rfl, ?_⟩) (by assumption) ?_
  rotate_left 1
  · intro w0 hSw
    obtain ⟨k0, k1, k2, k3, k4⟩ := HS.out _ hSw; clear hSw
    go_simp
    try with_reducible rfl
  (try simp only [Act.put, List.setIfInBounds_toArray, List.set_cons_zero, List.set_cons_succ])
  refine wpAnyH_take (i := 4) (oi := ⟨some 17, _, _, _, _, _⟩) (v := _) rfl (by kernel_rfl) (by kernel_rfl) (by kernel_rfl) (fun _ _ _ h => h) (yieldsIf_bx (by rfl) 38 (.tmp 3) rfl _ _ _ _ rfl HEE.out Try.underlying38 rfl (by kernel_rfl)) (by assumption) ?_
  (try simp only [Act.put, List.setIfInBounds_toArray, List.set_cons_zero, List.set_cons_succ])
  refine wpAnyH_ready (rs := [5]) (by kernel_rfl) (by simp) ?_
  refine AllReadyH.cons (o := ⟨some 18, _, _, _, _, _⟩) rfl (fun K hK => ?_) AllReadyH.nil
  rw [if_pos (by rfl)]
  go_simp
  go_at_call 33
  refine (HRF.out _).mono ?_
  rintro e w1 ⟨rfl, hb1⟩
  have hWb := hid (show Below W.heap.size W w1 from ⟨hb1.os, hb1.tape, hb1.output, hb1.size, hb1.block⟩)
  clear hb1
  refine hK.out _ _ hWb.out (fun hHeld => ?_)
  clear hK K
  (try simp only [Act.put, List.setIfInBounds_toArray, List.set_cons_zero, List.set_cons_succ])
  refine wpAnyH_take (i := 6) (oi := ⟨some 6, _, _, _, _, _⟩) (v := ?_) rfl (by kernel_rfl) (by kernel_rfl) (by kernel_rfl) (fun _ _ _ h => h) (Or.inl ⟨by rfl, ?_⟩) (by assumption) ?_
  rotate_left 1
  · intro w0 hSw
    clear hSw
    go_simp
    try with_reducible rfl
  (try simp only [Act.put, List.setIfInBounds_toArray, List.set_cons_zero, List.set_cons_succ])
  refine wpAnyH_done (by kernel_rfl) ?_ _
  refine NoPanic.normal ?_
  have HB1 := hid (on HB.out hWb.out)
  have HX1 := hid (HX.out.below hWb.out)
  have HE1 := hid (HE.out.next hWb.out)
  have HR1 := hid (HR.out.now hWb.out)
  clear hWb HX HE HR HB HW HRF HS HEE hHeld
  obtain ⟨d0, d1, d2, d3, d4, d5⟩ := HE1.out.all6
  go_wp2_with fail
  refine (HLA.out w1 HX1.out).mono ?_
  rintro e w2 ⟨rfl, hb2⟩
  have HB2 := hid (on HB1.out hb2)
  have HX2 := hid (HX1.out.below hb2)
  have HE2 := hid (HE1.out.next hb2)
  have HR2 := hid (HR1.out.now hb2)
  clear d0 d1 d2 d3 d4 d5 hb2 HX1 HE1 HR1 HB1 HLA
  go_upto_region 7 with fail
  have HEE := hid (fun y (hy : Below w2.heap.size w2 y) => (HE2.out.next hy).all6)
  refine wp_region_noPanic ?_
  refine wp_region_held_drew (S := fun y => Below w2.heap.size w2 y) (by kernel_rfl) ?_ (fun hHeld => ?_)
  · exact (Below.refl _ _).drew
  refine wpAnyH_take (i := 0) (oi := ⟨some 32, _, _, _, _, _⟩) (v := ?_) rfl (by kernel_rfl) (by kernel_rfl) (by kernel_rfl) (fun _ _ _ h => h) (Or.inl ⟨by rfl, ?_⟩) (by assumption) ?_
  rotate_left 1
  · intro w0 hSw
    clear hSw
    go_simp
    try with_reducible rfl
  (try simp only [Act.put, List.setIfInBounds_toArray, List.set_cons_zero, List.set_cons_succ])
  refine wpAnyH_take (i := 1) (oi := ⟨some 33, _, _, _, _, _⟩) (v := ?_) rfl (by kernel_rfl) (by kernel_rfl) (by kernel_rfl) (fun _ _ _ h => h) (Or.inl ⟨by rfl, ?_⟩) (by assumption) ?_
  rotate_left 1
  · intro w0 hSw
    obtain ⟨k0, k1, k2, k3, k4, k5⟩ := HEE.out _ hSw; clear hSw k0 k1 k4 k5
    go_simp
    try with_reducible rfl
  (try simp only [Act.put, List.setIfInBounds_toArray, List.set_cons_zero, List.set_cons_succ])
  refine wpAnyH_take (i := 2) (oi := ⟨some 34, _, _, _, _, _⟩) (v := ?_) rfl (by kernel_rfl) (by kernel_rfl) (by kernel_rfl) (fun _ _ _ h => h) (Or.inl ⟨by rfl, ?_⟩) (by assumption) ?_
  rotate_left 1
  · intro w0 hSw
    clear hSw
    go_simp
    try with_reducible rfl
  (try simp only [Act.put, List.setIfInBounds_toArray, List.set_cons_zero, List.set_cons_succ])
  refine wpAnyH_take (i := 4) (oi := ⟨some 36, _, _, _, _, _⟩) (v := ?_) rfl (by kernel_rfl) (by kernel_rfl) (by kernel_rfl) (fun _ _ _ h => h) (Or.inl ⟨by rfl, ?_⟩) (by assumption) ?_
  rotate_left 1
  · intro w0 hSw
    clear hSw
    go_simp
    try with_reducible rfl
  (try simp only [Act.put, List.setIfInBounds_toArray, List.set_cons_zero, List.set_cons_succ])
  refine wpAnyH_take (i := 5) (oi := ⟨some 37, _, _, _, _, _⟩) (v := ?_) rfl (by kernel_rfl) (by kernel_rfl) (by kernel_rfl) (fun _ _ _ h => h) (Or.inl ⟨by rfl, ?_⟩) (by assumption) ?_
  rotate_left 1
  · intro w0 hSw
    obtain ⟨k0, k1, k2, k3, k4, k5⟩ := HEE.out _ hSw; clear hSw k0 k1 k4 k5
    go_simp
    try with_reducible rfl
  (try simp only [Act.put, List.setIfInBounds_toArray, List.set_cons_zero, List.set_cons_succ])
  refine wpAnyH_take (i := 6) (oi := ⟨some 38, _, _, _, _, _⟩) (v := ?_) rfl (by kernel_rfl) (by kernel_rfl) (by kernel_rfl) (fun _ _ _ h => h) (Or.inl ⟨by rfl, ?_⟩) (by assumption) ?_
  rotate_left 1
  · intro w0 hSw
    clear hSw
    go_simp
    try with_reducible rfl
  (try simp only [Act.put, List.setIfInBounds_toArray, List.set_cons_zero, List.set_cons_succ])
  obtain ⟨y2, hy2⟩ : ∃ y, w2.drew = y := ⟨_, rfl⟩
  rw [hy2] at hHeld ⊢
  have HBY := hid hHeld
  clear hy2
  refine wpAnyH_ready (rs := [3]) (by kernel_rfl) (by simp) ?_
  refine AllReadyH.cons (o := ⟨some 35, _, _, _, _, _⟩) rfl (fun K hK => ?_) AllReadyH.nil
  rw [if_pos (by rfl)]
  go_simp
  go_at_call 36
  refine (compare_any (b : Nat) (b0 : Nat) _).mono ?_
  rintro e w3 ⟨rfl, hw3⟩
  rw [hw3, HP.out]
  clear hw3
  refine hK.out _ _ HBY.out (fun hHeld => ?_)
  clear hK K
  (try simp only [Act.put, List.setIfInBounds_toArray, List.set_cons_zero, List.set_cons_succ])
  refine wpAnyH_ready (rs := [7]) (by kernel_rfl) (by simp) ?_
  refine AllReadyH.cons (o := ⟨some 39, _, _, _, _, _⟩) rfl (fun K hK => ?_) AllReadyH.nil
  rw [if_pos (by rfl)]
  go_simp
  go_at_call 36
  refine (compare_any (o : Nat) (o0 : Nat) _).mono ?_
  rintro e w3 ⟨rfl, hw3⟩
  rw [hw3, HQ.out]
  clear hw3
  refine hK.out _ _ HBY.out (fun hHeld => ?_)
  clear hK K
  (try simp only [Act.put, List.setIfInBounds_toArray, List.set_cons_zero, List.set_cons_succ])
  refine wpAnyH_ready (rs := [8]) (by kernel_rfl) (by simp) ?_
  refine AllReadyH.cons (o := ⟨some 40, _, _, _, _, _⟩) rfl (fun K hK => ?_) AllReadyH.nil
  rw [if_pos (by rfl)]
  go_simp
  have hbw := hid (HBY.out.trans ((below_alloc y2 (.cells #[.int .i64 p, .int .i64 q] 3)).mono HBY.out.size))
  refine hK.out _ _ hbw.out (fun hHeld => ?_)
  clear hK K
  (try simp only [Act.put, List.setIfInBounds_toArray, List.set_cons_zero, List.set_cons_succ])
  refine wpAnyH_ready (rs := [9]) (by kernel_rfl) (by simp) ?_
  refine AllReadyH.cons (o := ⟨some 41, _, _, _, _, _⟩) rfl (fun K hK => ?_) AllReadyH.nil
  rw [if_pos (by rfl)]
  go_simp
  go_at_call 35
  refine (or_any p q _ _ _ ((Bx.new _ _ _).cell 0) ((Bx.new _ _ _).cell 1)).mono ?_
  rintro e w3 ⟨rfl, hw3⟩
  rw [hw3]
  clear hw3
  refine hK.out _ _ hbw.out (fun hHeld => ?_)
  clear hK K
  (try simp only [Act.put, List.setIfInBounds_toArray, List.set_cons_zero, List.set_cons_succ])
  refine wpAnyH_take (i := 10) (oi := ⟨some 10, _, _, _, _, _⟩) (v := ?_) rfl (by kernel_rfl) (by kernel_rfl) (by kernel_rfl) (fun _ _ _ h => h) (Or.inl ⟨by rfl, ?_⟩) (by assumption) ?_
  rotate_left 1
  · intro w0 hSw
    clear hSw
    go_simp
    try with_reducible rfl
  (try simp only [Act.put, List.setIfInBounds_toArray, List.set_cons_zero, List.set_cons_succ])
  refine wpAnyH_done (by kernel_rfl) ?_ _
  refine NoPanic.normal ?_
  clear hHeld HEE
  generalize orI p q = age at *
  have HB3 := hid (on HB2.out hbw.out)
  have t1 : decide (age < 0) = false := by simp; omega
  have t2 : (age == 0) = false := by simp; omega
  have HX3 := hid (HX2.out.below hbw.out)
  have HE3 := hid (HE2.out.next hbw.out)
  have HR3 := hid (HR2.out.now hbw.out)
  clear hag hbw HX2 HE2 HR2
  go_wp2_with (refine wpList_load_bx rfl 38 (.tmp 3) rfl _ _ _ _ rfl HE3.out Try.underlying38 rfl (by kernel_rfl) ?_)
  refine (HAD.out _ HX3.out HR3.out).mono ?_
  rintro e w4 ⟨rfl, hx4, ho4⟩
  have HX4 := hid hx4
  have HO4 := hid (Only.trans (Only.of HB3.out kd vv) ho4)
  clear hx4 ho4 HAD HX3 HE3 HR3
  go_wp2
  go_ret2
  exact ⟨rfl, HX4.out, HO4.out⟩

end
end Go.Proofs.Ytincndblpbdnlaa
