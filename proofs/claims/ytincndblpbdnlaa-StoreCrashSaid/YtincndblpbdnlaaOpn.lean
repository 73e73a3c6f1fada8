/-
  What is proved: store's Open; a Write that is refused. Conditions: the disk lies in memory as one.
-/
import Derived.Test.YtincndblpbdnlaaWri
import Derived.Test.YtincndblpbdnlaaRea
namespace Go.Proofs.Ytincndblpbdnlaa
open Go.RowKit

set_option maxHeartbeats 400000 in
theorem right_no0 (B Z C S : Int) (w : World)  (h0 : ¬ (1 ≤ B ∧ B ≤ 32)) : Calls Try.prog 29 #[.agg #[.int .i64 B, .int .i64 Z, .int .i64 C, .int .i64 S]] w fun e w' => e = .returned (.bool false) ∧ Below w.heap.size w w' := by
  have H0 := hid h0
  clear h0
  go_enter Try.func29, Try.ntmps29
  go_wp2_with (go_at_call 48; first | (with_reducible refine (within_no _ _ _ _ H0.out).mono ?_; rintro e w1 ⟨rfl, rfl⟩))
  go_ret
  exact ⟨rfl, below_alloc _ _⟩
set_option maxHeartbeats 400000 in
theorem right_no1 (B Z C S : Int) (w : World) (h0 : 1 ≤ B ∧ B ≤ 32) (h1 : ¬ (1 ≤ Z ∧ Z ≤ 16)) : Calls Try.prog 29 #[.agg #[.int .i64 B, .int .i64 Z, .int .i64 C, .int .i64 S]] w fun e w' => e = .returned (.bool false) ∧ Below w.heap.size w w' := by
  have H0 := hid h0
  clear h0
  have H1 := hid h1
  clear h1
  go_enter Try.func29, Try.ntmps29
  go_wp2_with (go_at_call 48; first | (with_reducible refine (within_no _ _ _ _ H1.out).mono ?_; rintro e w1 ⟨rfl, rfl⟩) | (with_reducible refine (within_yes _ _ _ _ H0.out).mono ?_; rintro e w1 ⟨rfl, rfl⟩))
  go_ret
  exact ⟨rfl, below_alloc _ _⟩
set_option maxHeartbeats 400000 in
theorem right_no2 (B Z C S : Int) (w : World) (h0 : 1 ≤ B ∧ B ≤ 32) (h1 : 1 ≤ Z ∧ Z ≤ 16) (h2 : ¬ (1 ≤ C ∧ C ≤ 4)) : Calls Try.prog 29 #[.agg #[.int .i64 B, .int .i64 Z, .int .i64 C, .int .i64 S]] w fun e w' => e = .returned (.bool false) ∧ Below w.heap.size w w' := by
  have H0 := hid h0
  clear h0
  have H1 := hid h1
  clear h1
  have H2 := hid h2
  clear h2
  go_enter Try.func29, Try.ntmps29
  go_wp2_with (go_at_call 48; first | (with_reducible refine (within_no _ _ _ _ H2.out).mono ?_; rintro e w1 ⟨rfl, rfl⟩) | (with_reducible refine (within_yes _ _ _ _ H0.out).mono ?_; rintro e w1 ⟨rfl, rfl⟩) | (with_reducible refine (within_yes _ _ _ _ H1.out).mono ?_; rintro e w1 ⟨rfl, rfl⟩))
  go_ret
  exact ⟨rfl, below_alloc _ _⟩
set_option maxHeartbeats 400000 in
theorem right_no3 (B Z C S : Int) (w : World) (h0 : 1 ≤ B ∧ B ≤ 32) (h1 : 1 ≤ Z ∧ Z ≤ 16) (h2 : 1 ≤ C ∧ C ≤ 4) (h3 : ¬ (1 ≤ S ∧ S ≤ 4)) : Calls Try.prog 29 #[.agg #[.int .i64 B, .int .i64 Z, .int .i64 C, .int .i64 S]] w fun e w' => e = .returned (.bool false) ∧ Below w.heap.size w w' := by
  have H0 := hid h0
  clear h0
  have H1 := hid h1
  clear h1
  have H2 := hid h2
  clear h2
  have H3 := hid h3
  clear h3
  go_enter Try.func29, Try.ntmps29
  go_wp2_with (go_at_call 48; first | (with_reducible refine (within_no _ _ _ _ H3.out).mono ?_; rintro e w1 ⟨rfl, rfl⟩) | (with_reducible refine (within_yes _ _ _ _ H0.out).mono ?_; rintro e w1 ⟨rfl, rfl⟩) | (with_reducible refine (within_yes _ _ _ _ H1.out).mono ?_; rintro e w1 ⟨rfl, rfl⟩) | (with_reducible refine (within_yes _ _ _ _ H2.out).mono ?_; rintro e w1 ⟨rfl, rfl⟩))
  go_ret
  exact ⟨rfl, below_alloc _ _⟩

/-- a shape of whole numbers that may be -/
def RightI (B Z C S : Int) : Prop := (1 ≤ B ∧ B ≤ 32) ∧ (1 ≤ Z ∧ Z ≤ 16) ∧ (1 ≤ C ∧ C ≤ 4) ∧ 1 ≤ S ∧ S ≤ 4
theorem right_no (B Z C S : Int) (w : World) (h : ¬ RightI B Z C S) : Calls Try.prog 29 #[.agg #[.int .i64 B, .int .i64 Z, .int .i64 C, .int .i64 S]] w fun e w' => e = .returned (.bool false) ∧ Below w.heap.size w w' := by
  by_cases h0 : 1 ≤ B ∧ B ≤ 32
  · by_cases h1 : 1 ≤ Z ∧ Z ≤ 16
    · by_cases h2 : 1 ≤ C ∧ C ≤ 4
      · exact right_no3 B Z C S w h0 h1 h2 fun h3 => h ⟨h0, h1, h2, h3⟩
      · exact right_no2 B Z C S w h0 h1 h2
    · exact right_no1 B Z C S w h0 h1
  · exact right_no0 B Z C S w h0
section
variable {w : World} {bb kd ks : Nat} {vv : Value} {st : St} {sh : Sh}
set_option maxHeartbeats 400000 in
theorem open_nil (B Z C S : Int) (w : World) : Calls Try.prog 14 #[.pointer none, .agg #[.int .i64 B, .int .i64 Z, .int .i64 C, .int .i64 S]] w fun e w' => e = .returned (.tuple #[.pointer none, .int .i64 7]) ∧ Below w.heap.size w w' := by
  go_enter Try.func14, Try.ntmps14
  go_wp2
  go_ret2
  exact ⟨rfl, below_alloc _ _⟩
set_option maxRecDepth 100000 in
set_option maxHeartbeats 1600000 in
theorem open_bad (B Z C S : Int) (hd : Dk w 67 bb kd vv st) (hr : ¬ RightI B Z C S) :
    Calls Try.prog 14 #[.pointer (some ⟨kd, 0, none⟩), .agg #[.int .i64 B, .int .i64 Z, .int .i64 C, .int .i64 S]] w fun e w' =>
      e = .returned (.tuple #[.pointer none, .int .i64 6]) ∧ Below w.heap.size w w' := by
  obtain ⟨W, hW, B1, HBb, sb⟩ := below_new w 23 #[.int .i64 B, .int .i64 Z, .int .i64 C, .int .i64 S]
  have HW := hid hW
  have HD := hid (hd.below HBb)
  have HB := hid HBb
  have HS := hid (fun y (hy : Below W.heap.size W y) => (B1.next hy).all4)
  have HRT := hid (fun w1 => right_no B Z C S w1 hr)
  clear hr
  clear hW B1 HBb sb hd
  go_enter Try.func14, Try.ntmps14
  go_upto_region 3 with fail
  rw [HW.out]
  clear HW
  refine wp_region_noPanic ?_
  refine wp_region_held_drew (S := fun y => Below W.heap.size W y) (by kernel_rfl) ?_ (fun hHeld => ?_)
  · exact (Below.refl _ _).drew
  refine wpAnyH_take (i := 0) (oi := ⟨some 10, _, _, _, _, _⟩) (v := ?_) rfl (by kernel_rfl) (by kernel_rfl) (by kernel_rfl) (fun _ _ _ h => h) (Or.inl ⟨by rfl, ?_⟩) (by assumption) ?_
  rotate_left 1
  · intro w0 hSw
    obtain ⟨k0, k1, k2, k3⟩ := HS.out _ hSw; clear hSw
    go_simp
    try with_reducible rfl
  (try simp only [Act.put, List.setIfInBounds_toArray, List.set_cons_zero, List.set_cons_succ])
  obtain ⟨y0, hy0⟩ : ∃ y, W.drew = y := ⟨_, rfl⟩
  rw [hy0] at hHeld ⊢
  have HY0 := hid hHeld
  clear hy0
  refine wpAnyH_ready (rs := [1]) (by kernel_rfl) (by simp) ?_
  refine AllReadyH.cons (o := ⟨some 11, _, _, _, _, _⟩) rfl (fun K hK => ?_) AllReadyH.nil
  rw [if_pos (by rfl)]
  go_simp
  go_at_call 29
  refine (HRT.out y0).mono ?_
  rintro e y1 ⟨rfl, hb1⟩
  have HY1 := hid (on HY0.out hb1)
  clear hb1 HY0
  refine hK.out _ _ HY1.out (fun hHeld => ?_)
  clear hK K
  (try simp only [Act.put, List.setIfInBounds_toArray, List.set_cons_zero, List.set_cons_succ])
  refine wpAnyH_take (i := 2) (oi := ⟨some 12, _, _, _, _, _⟩) (v := ?_) rfl (by kernel_rfl) (by kernel_rfl) (by kernel_rfl) (fun _ _ _ h => h) (Or.inl ⟨by rfl, ?_⟩) (by assumption) ?_
  rotate_left 1
  · intro w0 hSw
    clear hSw
    go_simp
    try with_reducible rfl
  (try simp only [Act.put, List.setIfInBounds_toArray, List.set_cons_zero, List.set_cons_succ])
  refine wpAnyH_take (i := 3) (oi := ⟨some 13, _, _, _, _, _⟩) (v := ?_) rfl (by kernel_rfl) (by kernel_rfl) (by kernel_rfl) (fun _ _ _ h => h) (Or.inl ⟨by rfl, ?_⟩) (by assumption) ?_
  rotate_left 1
  · intro w0 hSw
    clear hSw
    go_simp
    try with_reducible rfl
  (try simp only [Act.put, List.setIfInBounds_toArray, List.set_cons_zero, List.set_cons_succ])
  refine wpAnyH_take (i := 4) (oi := ⟨some 14, _, _, _, _, _⟩) (v := undef) rfl (by kernel_rfl) (by kernel_rfl) (by kernel_rfl) (fun _ _ _ h => h) (Or.inr ⟨by rfl, rfl⟩) (by assumption) ?_
  (try simp only [Act.put, List.setIfInBounds_toArray, List.set_cons_zero, List.set_cons_succ])
  refine wpAnyH_take (i := 5) (oi := ⟨some 15, _, _, _, _, _⟩) (v := undef) rfl (by kernel_rfl) (by kernel_rfl) (by kernel_rfl) (fun _ _ _ h => h) (Or.inr ⟨by rfl, rfl⟩) (by assumption) ?_
  (try simp only [Act.put, List.setIfInBounds_toArray, List.set_cons_zero, List.set_cons_succ])
  refine wpAnyH_take (i := 6) (oi := ⟨some 16, _, _, _, _, _⟩) (v := undef) rfl (by kernel_rfl) (by kernel_rfl) (by kernel_rfl) (fun _ _ _ h => h) (Or.inr ⟨by rfl, rfl⟩) (by assumption) ?_
  (try simp only [Act.put, List.setIfInBounds_toArray, List.set_cons_zero, List.set_cons_succ])
  refine wpAnyH_take (i := 7) (oi := ⟨some 17, _, _, _, _, _⟩) (v := undef) rfl (by kernel_rfl) (by kernel_rfl) (by kernel_rfl) (fun _ _ _ h => h) (Or.inr ⟨by rfl, rfl⟩) (by assumption) ?_
  (try simp only [Act.put, List.setIfInBounds_toArray, List.set_cons_zero, List.set_cons_succ])
  refine wpAnyH_take (i := 8) (oi := ⟨some 18, _, _, _, _, _⟩) (v := undef) rfl (by kernel_rfl) (by kernel_rfl) (by kernel_rfl) (fun _ _ _ h => h) (Or.inr ⟨by rfl, rfl⟩) (by assumption) ?_
  (try simp only [Act.put, List.setIfInBounds_toArray, List.set_cons_zero, List.set_cons_succ])
  refine wpAnyH_take (i := 9) (oi := ⟨some 19, _, _, _, _, _⟩) (v := ?_) rfl (by kernel_rfl) (by kernel_rfl) (by kernel_rfl) (fun _ _ _ h => h) (Or.inl ⟨by rfl, ?_⟩) (by assumption) ?_
  rotate_left 1
  · intro w0 hSw
    clear hSw
    go_simp
    try with_reducible rfl
  (try simp only [Act.put, List.setIfInBounds_toArray, List.set_cons_zero, List.set_cons_succ])
  refine wpAnyH_done (by kernel_rfl) ?_ _
  refine NoPanic.normal ?_
  clear hHeld HS HD
  go_wp2
  go_ret2
  exact ⟨rfl, on HB.out HY1.out⟩
set_option maxRecDepth 100000 in
set_option maxHeartbeats 1600000 in
theorem open_few (B Z C S : Nat) (hd : Dk w 67 bb kd vv st) (ok : (Sh.mk B Z C S).ok) (hlen : st.L.length < (Sh.mk B Z C S).at_ C 0) :
    Calls Try.prog 14 #[.pointer (some ⟨kd, 0, none⟩), .agg #[.int .i64 B, .int .i64 Z, .int .i64 C, .int .i64 S]] w fun e w' =>
      e = .returned (.tuple #[.pointer none, .int .i64 6]) ∧ Below w.heap.size w w' := by
  obtain ⟨W, hW, B1, HBb, sb⟩ := below_new w 23 #[.int .i64 B, .int .i64 Z, .int .i64 C, .int .i64 S]
  have HW := hid hW
  have HD := hid (hd.below HBb)
  have HB := hid HBb
  have HS := hid (fun y (hy : Below W.heap.size W y) => (B1.next hy).all4)
  have HRT := hid (fun w1 => right_yes ⟨B, Z, C, S⟩ ok w1)
  have HSC := hid (fun w1 => sectors_any ⟨B, Z, C, S⟩ ok w1)
  simp only [Sh.v] at HRT HSC
  have hlt : decide (st.L.length < (Sh.mk B Z C S).at_ C 0) = true := by simpa using hlen
  generalize Sh.at_ ⟨B, Z, C, S⟩ C 0 = m at *
  clear ok hlen
  clear hW B1 HBb sb hd
  go_enter Try.func14, Try.ntmps14
  go_upto_region 3 with fail
  rw [HW.out]
  clear HW
  generalize hnn : st.L.length = nn at hlt
  have HNN := hid hnn
  clear hnn
  refine wp_region_noPanic ?_
  refine wp_region_held_drew (S := fun y => Below W.heap.size W y) (by kernel_rfl) ?_ (fun hHeld => ?_)
  · exact (Below.refl _ _).drew
  refine wpAnyH_take (i := 0) (oi := ⟨some 10, _, _, _, _, _⟩) (v := ?_) rfl (by kernel_rfl) (by kernel_rfl) (by kernel_rfl) (fun _ _ _ h => h) (Or.inl ⟨by rfl, ?_⟩) (by assumption) ?_
  rotate_left 1
  · intro w0 hSw
    obtain ⟨k0, k1, k2, k3⟩ := HS.out _ hSw; clear hSw
    go_simp
    try with_reducible rfl
  (try simp only [Act.put, List.setIfInBounds_toArray, List.set_cons_zero, List.set_cons_succ])
  obtain ⟨y0, hy0⟩ : ∃ y, W.drew = y := ⟨_, rfl⟩
  rw [hy0] at hHeld ⊢
  have HY0 := hid hHeld
  clear hy0
  refine wpAnyH_ready (rs := [1]) (by kernel_rfl) (by simp) ?_
  refine AllReadyH.cons (o := ⟨some 11, _, _, _, _, _⟩) rfl (fun K hK => ?_) AllReadyH.nil
  rw [if_pos (by rfl)]
  go_simp
  go_at_call 29
  refine (HRT.out y0).mono ?_
  rintro e y1 ⟨rfl, hb1⟩
  have HY1 := hid (on HY0.out hb1)
  clear hb1 HY0
  refine hK.out _ _ HY1.out (fun hHeld => ?_)
  clear hK K
  (try simp only [Act.put, List.setIfInBounds_toArray, List.set_cons_zero, List.set_cons_succ])
  refine wpAnyH_take (i := 2) (oi := ⟨some 12, _, _, _, _, _⟩) (v := ?_) rfl (by kernel_rfl) (by kernel_rfl) (by kernel_rfl) (fun _ _ _ h => h) (Or.inl ⟨by rfl, ?_⟩) (by assumption) ?_
  rotate_left 1
  · intro w0 hSw
    clear hSw
    go_simp
    try with_reducible rfl
  (try simp only [Act.put, List.setIfInBounds_toArray, List.set_cons_zero, List.set_cons_succ])
  refine wpAnyH_take (i := 3) (oi := ⟨some 13, _, _, _, _, _⟩) (v := ?_) rfl (by kernel_rfl) (by kernel_rfl) (by kernel_rfl) (fun _ _ _ h => h) (Or.inl ⟨by rfl, ?_⟩) (by assumption) ?_
  rotate_left 1
  · intro w0 hSw
    clear hSw
    go_simp
    try with_reducible rfl
  (try simp only [Act.put, List.setIfInBounds_toArray, List.set_cons_zero, List.set_cons_succ])
  refine wpAnyH_take (i := 4) (oi := ⟨some 14, _, _, _, _, _⟩) (v := ?_) rfl (by kernel_rfl) (by kernel_rfl) (by kernel_rfl) (fun _ _ _ h => h) (Or.inl ⟨by rfl, ?_⟩) (by assumption) ?_
  rotate_left 1
  · intro w0 hSw
    clear hSw
    go_simp
    try with_reducible rfl
  (try simp only [Act.put, List.setIfInBounds_toArray, List.set_cons_zero, List.set_cons_succ])
  refine wpAnyH_take (i := 6) (oi := ⟨some 16, _, _, _, _, _⟩) (v := ?_) rfl (by kernel_rfl) (by kernel_rfl) (by kernel_rfl) (fun _ _ _ h => h) (Or.inl ⟨by rfl, ?_⟩) (by assumption) ?_
  rotate_left 1
  · intro w0 hSw
    obtain ⟨k0, k1, k2, k3⟩ := HS.out _ hSw; clear hSw
    go_simp
    try with_reducible rfl
  (try simp only [Act.put, List.setIfInBounds_toArray, List.set_cons_zero, List.set_cons_succ])
  refine wpAnyH_ready (rs := [5]) (by kernel_rfl) (by simp) ?_
  refine AllReadyH.cons (o := ⟨some 15, _, _, _, _, _⟩) rfl (fun K hK => ?_) AllReadyH.nil
  rw [if_pos (by rfl)]
  go_simp
  go_at_call 30
  refine (len_any (HD.out.below HY1.out)).mono ?_
  rw [HNN.out]
  rintro e y2 ⟨rfl, hy2⟩
  rw [← hy2]
  clear hy2
  refine hK.out _ _ HY1.out (fun hHeld => ?_)
  clear hK K
  (try simp only [Act.put, List.setIfInBounds_toArray, List.set_cons_zero, List.set_cons_succ])
  refine wpAnyH_ready (rs := [7]) (by kernel_rfl) (by simp) ?_
  refine AllReadyH.cons (o := ⟨some 17, _, _, _, _, _⟩) rfl (fun K hK => ?_) AllReadyH.nil
  rw [if_pos (by rfl)]
  go_simp
  go_at_call 31
  refine (HSC.out y1).mono ?_
  rintro e y3 ⟨rfl, hb3⟩
  have HY3 := hid (on HY1.out hb3)
  clear hb3 HY1
  refine hK.out _ _ HY3.out (fun hHeld => ?_)
  clear hK K
  (try simp only [Act.put, List.setIfInBounds_toArray, List.set_cons_zero, List.set_cons_succ])
  refine wpAnyH_take (i := 8) (oi := ⟨some 18, _, _, _, _, _⟩) (v := ?_) rfl (by kernel_rfl) (by kernel_rfl) (by kernel_rfl) (fun _ _ _ h => h) (Or.inl ⟨by rfl, ?_⟩) (by assumption) ?_
  rotate_left 1
  · intro w0 hSw
    clear hSw
    go_simp
    try with_reducible rfl
  (try simp only [Act.put, List.setIfInBounds_toArray, List.set_cons_zero, List.set_cons_succ])
  refine wpAnyH_take (i := 9) (oi := ⟨some 19, _, _, _, _, _⟩) (v := ?_) rfl (by kernel_rfl) (by kernel_rfl) (by kernel_rfl) (fun _ _ _ h => h) (Or.inl ⟨by rfl, ?_⟩) (by assumption) ?_
  rotate_left 1
  · intro w0 hSw
    clear hSw
    go_simp
    try with_reducible rfl
  (try simp only [Act.put, List.setIfInBounds_toArray, List.set_cons_zero, List.set_cons_succ])
  refine wpAnyH_done (by kernel_rfl) ?_ _
  refine NoPanic.normal ?_
  clear hHeld HS HD
  go_wp2
  go_ret2
  exact ⟨rfl, on HB.out HY3.out⟩
set_option maxRecDepth 100000 in
set_option maxHeartbeats 1600000 in
theorem open_ok (B Z C S : Nat) (hd : Dk w 67 bb kd vv st) (ok : (Sh.mk B Z C S).ok) (hlen : (Sh.mk B Z C S).at_ C 0 ≤ st.L.length) (hby : ∀ l ∈ st.L, Ok1 l) (l : List Int) (hl : st.L[0]? = some l) (hr : (rdo ⟨B, Z, C, S⟩ st l).2 = 0) :
    Calls Try.prog 14 #[.pointer (some ⟨kd, 0, none⟩), .agg #[.int .i64 B, .int .i64 Z, .int .i64 C, .int .i64 S]] w fun e w' =>
      ∃ ks, e = .returned (.tuple #[.pointer (some ⟨ks, 0, none⟩), .int .i64 0]) ∧ Sx w' bb kd ks vv (rdo ⟨B, Z, C, S⟩ st l).1 ⟨B, Z, C, S⟩ ∧ Only w w' kd vv ∧ w.heap.size ≤ ks := by
  obtain ⟨W, hW, B1, HBb, sb⟩ := below_new w 23 #[.int .i64 B, .int .i64 Z, .int .i64 C, .int .i64 S]
  have HW := hid hW
  have HD := hid (hd.below HBb)
  have HB := hid HBb
  have HS := hid (fun y (hy : Below W.heap.size W y) => (B1.next hy).all4)
  have HRT := hid (fun w1 => right_yes ⟨B, Z, C, S⟩ ok w1)
  have HSC := hid (fun w1 => sectors_any ⟨B, Z, C, S⟩ ok w1)
  simp only [Sh.v] at HRT HSC
  have hlt : decide (st.L.length < (Sh.mk B Z C S).at_ C 0) = false := by simpa using hlen
  have HF := hid (And.intro ok (And.intro hlen hby))
  have HL := hid hl
  have HR := hid hr
  have HBK := hid (fun (y : World) (hy : Below W.heap.size W y) => (B1.next hy))
  clear hl hr hby
  generalize hat : Sh.at_ ⟨B, Z, C, S⟩ C 0 = m at hlt HSC
  clear ok hlen hat
  clear hW B1 HBb sb hd
  go_enter Try.func14, Try.ntmps14
  go_upto_region 3 with fail
  rw [HW.out]
  clear HW
  generalize hnn : st.L.length = nn at hlt
  have HNN := hid hnn
  clear hnn
  refine wp_region_noPanic ?_
  refine wp_region_held_drew (S := fun y => Below W.heap.size W y) (by kernel_rfl) ?_ (fun hHeld => ?_)
  · exact (Below.refl _ _).drew
  refine wpAnyH_take (i := 0) (oi := ⟨some 10, _, _, _, _, _⟩) (v := ?_) rfl (by kernel_rfl) (by kernel_rfl) (by kernel_rfl) (fun _ _ _ h => h) (Or.inl ⟨by rfl, ?_⟩) (by assumption) ?_
  rotate_left 1
  · intro w0 hSw
    obtain ⟨k0, k1, k2, k3⟩ := HS.out _ hSw; clear hSw
    go_simp
    try with_reducible rfl
  (try simp only [Act.put, List.setIfInBounds_toArray, List.set_cons_zero, List.set_cons_succ])
  obtain ⟨y0, hy0⟩ : ∃ y, W.drew = y := ⟨_, rfl⟩
  rw [hy0] at hHeld ⊢
  have HY0 := hid hHeld
  clear hy0
  refine wpAnyH_ready (rs := [1]) (by kernel_rfl) (by simp) ?_
  refine AllReadyH.cons (o := ⟨some 11, _, _, _, _, _⟩) rfl (fun K hK => ?_) AllReadyH.nil
  rw [if_pos (by rfl)]
  go_simp
  go_at_call 29
  refine (HRT.out y0).mono ?_
  rintro e y1 ⟨rfl, hb1⟩
  have HY1 := hid (on HY0.out hb1)
  clear hb1 HY0
  refine hK.out _ _ HY1.out (fun hHeld => ?_)
  clear hK K
  (try simp only [Act.put, List.setIfInBounds_toArray, List.set_cons_zero, List.set_cons_succ])
  refine wpAnyH_take (i := 2) (oi := ⟨some 12, _, _, _, _, _⟩) (v := ?_) rfl (by kernel_rfl) (by kernel_rfl) (by kernel_rfl) (fun _ _ _ h => h) (Or.inl ⟨by rfl, ?_⟩) (by assumption) ?_
  rotate_left 1
  · intro w0 hSw
    clear hSw
    go_simp
    try with_reducible rfl
  (try simp only [Act.put, List.setIfInBounds_toArray, List.set_cons_zero, List.set_cons_succ])
  refine wpAnyH_take (i := 3) (oi := ⟨some 13, _, _, _, _, _⟩) (v := ?_) rfl (by kernel_rfl) (by kernel_rfl) (by kernel_rfl) (fun _ _ _ h => h) (Or.inl ⟨by rfl, ?_⟩) (by assumption) ?_
  rotate_left 1
  · intro w0 hSw
    clear hSw
    go_simp
    try with_reducible rfl
  (try simp only [Act.put, List.setIfInBounds_toArray, List.set_cons_zero, List.set_cons_succ])
  refine wpAnyH_take (i := 4) (oi := ⟨some 14, _, _, _, _, _⟩) (v := ?_) rfl (by kernel_rfl) (by kernel_rfl) (by kernel_rfl) (fun _ _ _ h => h) (Or.inl ⟨by rfl, ?_⟩) (by assumption) ?_
  rotate_left 1
  · intro w0 hSw
    clear hSw
    go_simp
    try with_reducible rfl
  (try simp only [Act.put, List.setIfInBounds_toArray, List.set_cons_zero, List.set_cons_succ])
  refine wpAnyH_take (i := 6) (oi := ⟨some 16, _, _, _, _, _⟩) (v := ?_) rfl (by kernel_rfl) (by kernel_rfl) (by kernel_rfl) (fun _ _ _ h => h) (Or.inl ⟨by rfl, ?_⟩) (by assumption) ?_
  rotate_left 1
  · intro w0 hSw
    obtain ⟨k0, k1, k2, k3⟩ := HS.out _ hSw; clear hSw
    go_simp
    try with_reducible rfl
  (try simp only [Act.put, List.setIfInBounds_toArray, List.set_cons_zero, List.set_cons_succ])
  refine wpAnyH_ready (rs := [5]) (by kernel_rfl) (by simp) ?_
  refine AllReadyH.cons (o := ⟨some 15, _, _, _, _, _⟩) rfl (fun K hK => ?_) AllReadyH.nil
  rw [if_pos (by rfl)]
  go_simp
  go_at_call 30
  refine (len_any (HD.out.below HY1.out)).mono ?_
  rw [HNN.out]
  rintro e y2 ⟨rfl, hy2⟩
  rw [← hy2]
  clear hy2
  refine hK.out _ _ HY1.out (fun hHeld => ?_)
  clear hK K
  (try simp only [Act.put, List.setIfInBounds_toArray, List.set_cons_zero, List.set_cons_succ])
  refine wpAnyH_ready (rs := [7]) (by kernel_rfl) (by simp) ?_
  refine AllReadyH.cons (o := ⟨some 17, _, _, _, _, _⟩) rfl (fun K hK => ?_) AllReadyH.nil
  rw [if_pos (by rfl)]
  go_simp
  go_at_call 31
  refine (HSC.out y1).mono ?_
  rintro e y3 ⟨rfl, hb3⟩
  have HY3 := hid (on HY1.out hb3)
  clear hb3 HY1
  refine hK.out _ _ HY3.out (fun hHeld => ?_)
  clear hK K
  (try simp only [Act.put, List.setIfInBounds_toArray, List.set_cons_zero, List.set_cons_succ])
  refine wpAnyH_take (i := 8) (oi := ⟨some 18, _, _, _, _, _⟩) (v := ?_) rfl (by kernel_rfl) (by kernel_rfl) (by kernel_rfl) (fun _ _ _ h => h) (Or.inl ⟨by rfl, ?_⟩) (by assumption) ?_
  rotate_left 1
  · intro w0 hSw
    clear hSw
    go_simp
    try with_reducible rfl
  (try simp only [Act.put, List.setIfInBounds_toArray, List.set_cons_zero, List.set_cons_succ])
  refine wpAnyH_take (i := 9) (oi := ⟨some 19, _, _, _, _, _⟩) (v := ?_) rfl (by kernel_rfl) (by kernel_rfl) (by kernel_rfl) (fun _ _ _ h => h) (Or.inl ⟨by rfl, ?_⟩) (by assumption) ?_
  rotate_left 1
  · intro w0 hSw
    clear hSw
    go_simp
    try with_reducible rfl
  (try simp only [Act.put, List.setIfInBounds_toArray, List.set_cons_zero, List.set_cons_succ])
  refine wpAnyH_done (by kernel_rfl) ?_ _
  refine NoPanic.normal ?_
  clear hHeld HS
  have HBQ := hid (HBK.out y3 HY3.out)
  clear HBK
  go_wp2_with (refine wpList_load_bx rfl 23 (.tmp 3) rfl _ _ _ _ rfl HBQ.out Try.underlying23 rfl (by kernel_rfl) ?_)
  obtain ⟨y4, hy4, BS4, HB4, s4⟩ := below_new y3 73 #[.pointer (some ⟨kd, 0, none⟩), .int .i64 B, .int .i64 Z, .int .i64 C, .int .i64 S]
  have HX4 := hid (show Sx y4 bb kd y3.heap.size vv st ⟨B, Z, C, S⟩ from ⟨(HD.out.below HY3.out).below HB4, BS4, HF.out.1, HF.out.2.1, HF.out.2.2⟩)
  have HB5 := hid (on (on HB.out HY3.out) HB4)
  have HY4 := hid hy4
  have HSZ := hid (on HB.out HY3.out).size
  clear hy4 BS4 HB4 s4
  rw [HY4.out]
  refine (redo_any HX4.out l HL.out).mono ?_
  rintro e y5 ⟨rfl, hx5, ho5⟩
  rw [HR.out]
  have HX5 := hid hx5
  have HO5 := hid (Only.trans (Only.of HB5.out kd vv) ho5)
  clear hx5 ho5
  go_wp2
  go_ret2
  exact ⟨_, rfl, HX5.out, HO5.out, HSZ.out⟩
set_option maxRecDepth 100000 in
set_option maxHeartbeats 1600000 in
theorem write_no (h : Sx w bb kd ks vv st sh) (c s b o k : Int) (L cap : Nat) (A : Option Addr) (l : List Int) (hL : l.length = L) (hw : (Wr.mk c s b o k A cap l).wrong sh ≠ 0) :
    Calls Try.prog 15 #[.pointer (some ⟨ks, 0, none⟩), .agg #[.int .i64 c, .int .i64 s, .int .i64 b, .int .i64 o, .int .i64 k, .slice A L cap]] w fun e w' =>
      e = .returned (.tuple #[.int .i64 0, .int .i64 ((Wr.mk c s b o k A cap l).wrong sh : Nat)]) ∧ Below w.heap.size w w' := by
  obtain ⟨W, hW, B1, HBb, sb⟩ := below_new w 38 #[.int .i64 c, .int .i64 s, .int .i64 b, .int .i64 o, .int .i64 k, .slice A L cap]
  have HW := hid hW
  have HX := hid (h.below HBb)
  have HE := hid B1
  have HB := hid HBb
  have HRF := hid (fun w1 => refuses_any sh h.ok w1 (Wr.mk c s b o k A cap l))
  obtain ⟨wr, hwr⟩ : ∃ n, (Wr.mk c s b o k A cap l).wrong sh = n := ⟨_, rfl⟩
  rw [hwr] at HRF hw ⊢
  simp only [Sh.v, Wr.v, hL] at HRF
  have q1 : ((wr : Int) != 0) = true := by simp; omega
  clear h hW B1 HBb sb hwr hL
  obtain ⟨B, Z, C, S⟩ := sh
  go_enter Try.func15, Try.ntmps15
  go_wp2_with fail
  rw [HW.out]
  go_upto_region 3 with fail
  have HS := hid (fun y (hy : Below W.heap.size W y) => (HX.out.bx.next hy).all5)
  have HEE := hid (fun y (hy : Below W.heap.size W y) => HE.out.next hy)
  refine wp_region_noPanic ?_
  refine wp_region_held_drew (S := fun y => Below W.heap.size W y) (by kernel_rfl) ?_ (fun hHeld => ?_)
  · exact (Below.refl _ _).drew
  refine wpAnyH_take (i := 0) (oi := ⟨some 13, _, _, _, _, _⟩) (v := ?_) rfl (by kernel_rfl) (by kernel_rfl) (by kernel_rfl) (fun _ _ _ h => h) (Or.inl ⟨by rfl, ?_⟩) (by assumption) ?_
  rotate_left 1
  · intro w0 hSw
    clear hSw
    go_simp
    try with_reducible rfl
  (try simp only [Act.put, List.setIfInBounds_toArray, List.set_cons_zero, List.set_cons_succ])
  refine wpAnyH_take (i := 1) (oi := ⟨some 14, _, _, _, _, _⟩) (v := ?_) rfl (by kernel_rfl) (by kernel_rfl) (by kernel_rfl) (fun _ _ _ h => h) (Or.inl ⟨by rfl, ?_⟩) (by assumption) ?_
  rotate_left 1
  · intro w0 hSw
    clear hSw
    go_simp
    try with_reducible rfl
  (try simp only [Act.put, List.setIfInBounds_toArray, List.set_cons_zero, List.set_cons_succ])
  refine wpAnyH_take (i := 2) (oi := ⟨some 15, _, _, _, _, _⟩) (v := ?_) rfl (by kernel_rfl) (by kernel_rfl) (by kernel_rfl) (fun _ _ _ h => h) (Or.inl ⟨by rfl, ?_⟩) (by assumption) ?_
  rotate_left 1
  · intro w0 hSw
    clear hSw
    go_simp
    try with_reducible rfl
  (try simp only [Act.put, List.setIfInBounds_toArray, List.set_cons_zero, List.set_cons_succ])
  refine wpAnyH_take (i := 3) (oi := ⟨some 16, _, _, _, _, _⟩) (v := ?_) rfl (by kernel_rfl) (by kernel_rfl) (by kernel_rfl) (fun _ _ _ h => h) (Or.inl ⟨by rfl, ?_⟩) (by assumption) ?_
  rotate_left 1
  · intro w0 hSw
    obtain ⟨k0, k1, k2, k3, k4⟩ := HS.out _ hSw; clear hSw
    go_simp
    try with_reducible rfl
  (try simp only [Act.put, List.setIfInBounds_toArray, List.set_cons_zero, List.set_cons_succ])
  refine wpAnyH_take (i := 4) (oi := ⟨some 17, _, _, _, _, _⟩) (v := _) rfl (by kernel_rfl) (by kernel_rfl) (by kernel_rfl) (fun _ _ _ h => h) (yieldsIf_bx (by rfl) 38 (.tmp 3) rfl _ _ _ _ rfl HEE.out Try.underlying38 rfl (by kernel_rfl)) (by assumption) ?_
  (try simp only [Act.put, List.setIfInBounds_toArray, List.set_cons_zero, List.set_cons_succ])
  refine wpAnyH_ready (rs := [5]) (by kernel_rfl) (by simp) ?_
  refine AllReadyH.cons (o := ⟨some 18, _, _, _, _, _⟩) rfl (fun K hK => ?_) AllReadyH.nil
  rw [if_pos (by rfl)]
  go_simp
  go_at_call 33
  refine (HRF.out _).mono ?_
  rintro e w1 ⟨rfl, hb1⟩
  have hWb := hid (show Below W.heap.size W w1 from ⟨hb1.os, hb1.tape, hb1.output, hb1.size, hb1.block⟩)
  clear hb1
  refine hK.out _ _ hWb.out (fun hHeld => ?_)
  clear hK K
  (try simp only [Act.put, List.setIfInBounds_toArray, List.set_cons_zero, List.set_cons_succ])
  refine wpAnyH_take (i := 6) (oi := ⟨some 6, _, _, _, _, _⟩) (v := ?_) rfl (by kernel_rfl) (by kernel_rfl) (by kernel_rfl) (fun _ _ _ h => h) (Or.inl ⟨by rfl, ?_⟩) (by assumption) ?_
  rotate_left 1
  · intro w0 hSw
    clear hSw
    go_simp
    try with_reducible rfl
  (try simp only [Act.put, List.setIfInBounds_toArray, List.set_cons_zero, List.set_cons_succ])
  refine wpAnyH_done (by kernel_rfl) ?_ _
  refine NoPanic.normal ?_
  have HB1 := hid (on HB.out hWb.out)
  clear hWb HX HE HB HW HRF HS HEE hHeld
  go_wp2
  go_ret2
  exact ⟨rfl, HB1.out⟩
set_option maxHeartbeats 400000 in
theorem write_nil (c s b o k : Int) (L cap : Nat) (A : Option Addr) (w : World) :
    Calls Try.prog 15 #[.pointer none, .agg #[.int .i64 c, .int .i64 s, .int .i64 b, .int .i64 o, .int .i64 k, .slice A L cap]] w fun e w' =>
      e = .returned (.tuple #[.int .i64 0, .int .i64 7]) ∧ Below w.heap.size w w' := by
  go_enter Try.func15, Try.ntmps15
  go_wp2
  go_ret2
  exact ⟨rfl, below_alloc _ _⟩

end
end Go.Proofs.Ytincndblpbdnlaa
