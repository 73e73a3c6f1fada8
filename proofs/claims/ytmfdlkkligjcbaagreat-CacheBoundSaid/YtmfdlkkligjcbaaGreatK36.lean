/-
  What is proved: what Set of a tier's cache does. Condition: as many as 10000000 were put and set at most.
-/
import Derived.Test.YtmfdlkkligjcbaaGreatK35
namespace Go.Proofs.YtmfdlkkligjcbaaGreat
open Go.RowKit

variable {w w' : World} {X F Q : Nat → Prop} {G M n cp T B k1 c1 : Nat} {c : Nat → Int} {A A1 : Option Addr} {hh : Nat → Hn} {v : Value} {o : Ob} {D : Int → List Int} {b : Int}
set_option maxRecDepth 20000 in
set_option maxHeartbeats 1000000 in
theorem cm_set_no (h : Cm w X G M F c A n cp hh T v o D B) (hn : ¬ (b ∈ o.all ∧ (k1 : Int) = c 3)) : Calls Tryz.prog 27 #[.pointer (some ⟨G, 0, none⟩), .agg #[.int .i64 b, .slice A1 k1 c1]] w fun e w' => e = .returned (.bool false) ∧ Below w.heap.size w w' := by
  have hb0 := below_alloc w (.cells #[.int .i64 b, .slice A1 k1 c1] 38)
  have hx0 := Bx.new w 38 #[.int .i64 b, .slice A1 k1 c1]
  have h0 := h.below hb0
  have HB0 := hid hb0
  have x0 : (w.alloc (.cells #[.int .i64 b, .slice A1 k1 c1] 38)).cell? ⟨w.heap.size, 0, none⟩ = some (.int .i64 b) := hx0.cell 0
  have x1 : (w.alloc (.cells #[.int .i64 b, .slice A1 k1 c1] 38)).cell? ⟨w.heap.size, 1, none⟩ = some (.slice A1 k1 c1) := hx0.cell 1
  have x3 := h0.c3
  have HH := hid (fun k => cm_has (h0.draws k) b)
  clear hx0 hb0
  by_cases hb : b ∈ o.all
  · have d3 : ((k1 : Int) != c 3) = true := by
      have : ¬ (k1 : Int) = c 3 := fun e => hn ⟨hb, e⟩
      simpa using this
    rw [dec_true hb] at HH
    clear h h0 hn hb
    go_enter Tryz.func27, Tryz.ntmps27
    go_upto_region 1 with fail
    obtain ⟨W0, hW0⟩ : ∃ x, w.alloc (.cells #[.int .i64 b, .slice A1 k1 c1] 38) = x := ⟨_, rfl⟩
    obtain ⟨p, hp⟩ : ∃ x, w.heap.size = x := ⟨_, rfl⟩
    rw [hW0] at HB0 HH x0 x1 x3 ⊢
    rw [hp] at x0 x1 ⊢
    clear hW0 hp
    go_quiet (first | (go_at_call 19; exact quietL (HH.out _)))
    go_wp2
    go_ret
    exact ⟨rfl, below_draws HB0.out _⟩
  · rw [dec_false hb] at HH
    clear h h0 hn hb
    go_enter Tryz.func27, Tryz.ntmps27
    go_upto_region 1 with fail
    obtain ⟨W0, hW0⟩ : ∃ x, w.alloc (.cells #[.int .i64 b, .slice A1 k1 c1] 38) = x := ⟨_, rfl⟩
    obtain ⟨p, hp⟩ : ∃ x, w.heap.size = x := ⟨_, rfl⟩
    rw [hW0] at HB0 HH x0 x1 x3 ⊢
    rw [hp] at x0 x1 ⊢
    clear hW0 hp
    go_quiet (first | (go_at_call 19; exact quietL (HH.out _)))
    go_wp2
    go_ret
    exact ⟨rfl, below_draws HB0.out _⟩
set_option maxRecDepth 20000 in
set_option maxHeartbeats 2000000 in
theorem cm_set_yes (h : Cm w X G M F c A n cp hh T v o D B) (hB : B ≤ 10000000) {l : List Int} (hd : By w X (.slice A1 k1 c1) l) (hb : b ∈ o.all) (hk : (k1 : Int) = c 3) : Calls Tryz.prog 27 #[.pointer (some ⟨G, 0, none⟩), .agg #[.int .i64 b, .slice A1 k1 c1]] w fun e w' => e = .returned (.bool true) ∧ Cm w' X G M F c A n cp hh T v o (updB D b l) (B + 1) ∧ Chg w w' (fun j => F j ∨ j = M) (fun j => F j ∨ j = M) := by
  have hb0 := below_alloc w (.cells #[.int .i64 b, .slice A1 k1 c1] 38)
  have hx0 := Bx.new w 38 #[.int .i64 b, .slice A1 k1 c1]
  have h0 := h.below hb0
  have HB0 := hid hb0
  have HX0 := hid hx0
  have x0 : (w.alloc (.cells #[.int .i64 b, .slice A1 k1 c1] 38)).cell? ⟨w.heap.size, 0, none⟩ = some (.int .i64 b) := hx0.cell 0
  have x1 : (w.alloc (.cells #[.int .i64 b, .slice A1 k1 c1] 38)).cell? ⟨w.heap.size, 1, none⟩ = some (.slice A1 k1 c1) := hx0.cell 1
  have x3 := h0.c3
  have HH := hid (fun k => cm_has (h0.draws k) b)
  rw [dec_true hb] at HH
  have d3 : ((k1 : Int) != c 3) = false := by simpa using hk
  have l3 : (1 : Int) ≤ c 3 ∧ c 3 ≤ 16 := h.rt.1 3 (by omega)
  have HXB := hid (h.wf hb)
  have HBB := hid hB
  have HK16 := hid (show k1 ≤ 16 from by omega)
  have HLK := hid hd.at_.2
  have HD0 := hid (hd.below hb0)
  have H0 := hid h0
  have HNM0 := hid (show ¬ w.heap.size = M from fun e => by have := h.lt M h.xM; omega)
  have HGM := hid h.gm
  clear hx0 hb0 h h0 hk hb l3 hd
  go_enter Tryz.func27, Tryz.ntmps27
  go_upto_region 1 with fail
  obtain ⟨W0, hW0⟩ : ∃ x, w.alloc (.cells #[.int .i64 b, .slice A1 k1 c1] 38) = x := ⟨_, rfl⟩
  obtain ⟨p, hp⟩ : ∃ x, w.heap.size = x := ⟨_, rfl⟩
  rw [hW0] at HB0 HH HX0 HD0 H0 x0 x1 x3 ⊢
  rw [hp] at x0 x1 HX0 HNM0 ⊢
  have HNM := HNM0
  clear hW0 hp
  go_quiet (first | (go_at_call 19; exact quietL (HH.out _)))
  clear x0 x1 x3
  go_upto_region 3 with fail
  obtain ⟨W1, hW1⟩ : ∃ x, (W0.drewN nq).drew = x := ⟨_, rfl⟩
  have HE1 := hid hW1
  have HB01 := hid (show Below W0.heap.size W0 W1 from hW1 ▸ below_draws (below_draws (Below.refl _ _) nq) 1)
  have H1 := hid (H0.out.below HB01.out)
  have HP := hid (HX0.out.next HB01.out)
  have HBG := hid H1.out.box
  have HD1 := hid (HD0.out.below HB01.out)
  have x0 : W1.cell? ⟨p, 0, none⟩ = some (.int .i64 b) := HP.out.cell 0
  have x1 : W1.cell? ⟨p, 1, none⟩ = some (.slice A1 k1 c1) := HP.out.cell 1
  have g19 := H1.out.c19
  obtain ⟨f, hmf, hfx⟩ := H1.out.map
  have HMF := hid hmf
  have HFX := hid hfx
  have HX4 := hid H1.out.lt
  have HCL := hid (clone_bytes A1 k1 c1 l W1 HLK.out (by have := HK16.out; omega) HD1.out.at_.1)
  clear hmf hfx hW1
  refine wp_region_noPanic ?_
  refine wp_region_held_drew (S := fun w' => w'.cell? ⟨p, 0, none⟩ = some (.int .i64 b) ∧ w'.cell? ⟨p, 1, none⟩ = some (.slice A1 k1 c1) ∧ w'.cell? ⟨G, 19, none⟩ = some (.map (some M))) (by kernel_rfl) ?_ (fun hHeld => ?_)
  · rw [HE1.out]; exact ⟨x0, x1, g19⟩
  refine wpAnyH_take (i := 0) (oi := ⟨some 21, _, _, _, _, _⟩) (v := ?_) rfl (by kernel_rfl) (by kernel_rfl) (by kernel_rfl) (fun _ _ _ h => h) (Or.inl ⟨by rfl, ?_⟩) (by assumption) ?_
  rotate_left 1
  · intro w0 hSw
    obtain ⟨s0, s1, s2⟩ := hSw
    go_simp
    try with_reducible rfl
  (try simp only [Act.put, List.setIfInBounds_toArray, List.set_cons_zero, List.set_cons_succ])
  refine wpAnyH_take (i := 1) (oi := ⟨some 22, _, _, _, _, _⟩) (v := ?_) rfl (by kernel_rfl) (by kernel_rfl) (by kernel_rfl) (fun _ _ _ h => h) (Or.inl ⟨by rfl, ?_⟩) (by assumption) ?_
  rotate_left 1
  · intro w0 hSw
    obtain ⟨s0, s1, s2⟩ := hSw
    go_simp
    try with_reducible rfl
  (try simp only [Act.put, List.setIfInBounds_toArray, List.set_cons_zero, List.set_cons_succ])
  refine wpAnyH_take (i := 2) (oi := ⟨some 23, _, _, _, _, _⟩) (v := ?_) rfl (by kernel_rfl) (by kernel_rfl) (by kernel_rfl) (fun _ _ _ h => h) (Or.inl ⟨by rfl, ?_⟩) (by assumption) ?_
  rotate_left 1
  · intro w0 hSw
    obtain ⟨s0, s1, s2⟩ := hSw
    go_simp
    try with_reducible rfl
  (try simp only [Act.put, List.setIfInBounds_toArray, List.set_cons_zero, List.set_cons_succ])
  refine wpAnyH_take (i := 3) (oi := ⟨some 24, _, _, _, _, _⟩) (v := ?_) rfl (by kernel_rfl) (by kernel_rfl) (by kernel_rfl) (fun _ _ _ h => h) (Or.inl ⟨by rfl, ?_⟩) (by assumption) ?_
  rotate_left 1
  · intro w0 hSw
    obtain ⟨s0, s1, s2⟩ := hSw
    go_simp
    try with_reducible rfl
  (try simp only [Act.put, List.setIfInBounds_toArray, List.set_cons_zero, List.set_cons_succ])
  refine wpAnyH_take (i := 4) (oi := ⟨some 25, _, _, _, _, _⟩) (v := ?_) rfl (by kernel_rfl) (by kernel_rfl) (by kernel_rfl) (fun _ _ _ h => h) (Or.inl ⟨by rfl, ?_⟩) (by assumption) ?_
  rotate_left 1
  · intro w0 hSw
    obtain ⟨s0, s1, s2⟩ := hSw
    go_simp
    try with_reducible rfl
  (try simp only [Act.put, List.setIfInBounds_toArray, List.set_cons_zero, List.set_cons_succ])
  refine wpAnyH_take (i := 5) (oi := ⟨some 26, _, _, _, _, _⟩) (v := ?_) rfl (by kernel_rfl) (by kernel_rfl) (by kernel_rfl) (fun _ _ _ h => h) (Or.inl ⟨by rfl, ?_⟩) (by assumption) ?_
  rotate_left 1
  · intro w0 hSw
    obtain ⟨s0, s1, s2⟩ := hSw
    go_simp
    try with_reducible rfl
  (try simp only [Act.put, List.setIfInBounds_toArray, List.set_cons_zero, List.set_cons_succ])
  refine wpAnyH_take (i := 6) (oi := ⟨some 27, _, _, _, _, _⟩) (v := ?_) rfl (by kernel_rfl) (by kernel_rfl) (by kernel_rfl) (fun _ _ _ h => h) (Or.inl ⟨by rfl, ?_⟩) (by assumption) ?_
  rotate_left 1
  · intro w0 hSw
    obtain ⟨s0, s1, s2⟩ := hSw
    go_simp
    try with_reducible rfl
  (try simp only [Act.put, List.setIfInBounds_toArray, List.set_cons_zero, List.set_cons_succ])
  refine wpAnyH_take (i := 7) (oi := ⟨some 28, _, _, _, _, _⟩) (v := ?_) rfl (by kernel_rfl) (by kernel_rfl) (by kernel_rfl) (fun _ _ _ h => h) (Or.inl ⟨by rfl, ?_⟩) (by assumption) ?_
  rotate_left 1
  · intro w0 hSw
    obtain ⟨s0, s1, s2⟩ := hSw
    go_simp
    try with_reducible rfl
  (try simp only [Act.put, List.setIfInBounds_toArray, List.set_cons_zero, List.set_cons_succ])
  refine wpAnyH_ready (rs := [8]) (by kernel_rfl) (by simp) ?_
  refine AllReadyH.cons (o := ⟨some 29, _, _, _, _, _⟩) rfl (fun K hK => ?_) AllReadyH.nil
  rw [if_pos (by rfl)]
  rw [HE1.out]
  go_simp
  refine HCL.out.mono ?_
  rintro e w5 hq
  obtain ⟨u, rfl, h5, h6⟩ := CpQ.by_ hq _ HX4.out
  obtain ⟨w6, hput, hm6, hg6⟩ := (HMF.out.below h6).put Tryz.underlying3 Tryz.underlying49 (by have := HBB.out; unfold maxLen; omega) HXB.out u
  have HU5 := hid h5
  have HB5 := hid h6
  have HM6 := hid hm6
  have HG6 := hid (grown_chg hg6)
  have kp := And.intro ((HP.out.next h6).cell 0) (And.intro ((HP.out.next h6).cell 1) ((HBG.out.next h6).cell 19))
  clear hq h5 h6 hm6 hg6
  go_simp
  refine hK.out _ _ kp (fun hHeld => ?_)
  clear hK K
  (try simp only [Act.put, List.setIfInBounds_toArray, List.set_cons_zero, List.set_cons_succ])
  refine wpAnyH_ready (rs := [9]) (by kernel_rfl) (by simp) ?_
  refine AllReadyH.cons (o := ⟨none, _, _, _, _, _⟩) rfl (fun K hK => ?_) AllReadyH.nil
  rw [if_pos (by rfl)]
  have HP6 := hid (HG6.out.bx (HP.out.next HB5.out) HNM.out)
  have HBG6 := hid (HG6.out.bx (HBG.out.next HB5.out) HGM.out)
  have kq := And.intro (HP6.out.cell 0) (And.intro (HP6.out.cell 1) (HBG6.out.cell 19))
  go_simp
  refine hK.out _ _ kq (fun hHeld => ?_)
  clear hK K
  (try simp only [Act.put, List.setIfInBounds_toArray, List.set_cons_zero, List.set_cons_succ])
  refine wpAnyH_done (by kernel_rfl) ?_ _
  refine NoPanic.normal ?_
  go_wp2
  go_ret
  have hxm : ∀ j, j = M → X j := fun j e => e ▸ H1.out.xM
  have hfm : ∀ j, F j → ¬ j = M := fun j hf e => H1.out.fM (e ▸ hf)
  have hch : Chg W1 w6 (fun j => F j ∨ j = M) (fun j => F j ∨ j = M) := (Chg.of HB5.out _).trans (HG6.out.wide fun j hj => .inr hj)
  refine ⟨rfl, H1.out.to hch ((H1.out.ord.below HB5.out).chg HG6.out hfm) H1.out.ok (Nat.le_trans H1.out.tm (Nat.le_succ _)) H1.out.kd ⟨_, HM6.out, fun x hx => ?_⟩ (fun x hx => ?_), (Chg.of (on HB0.out HB01.out) _).trans hch⟩
  · by_cases e : x = b
    · refine ⟨u, if_pos e, ?_⟩
      rw [show updB D b l x = l from if_pos e]
      exact HU5.out.chg HG6.out hxm
    · obtain ⟨u2, h3, h4⟩ := HFX.out x hx
      refine ⟨u2, (if_neg e).trans h3, ?_⟩
      rw [show updB D b l x = D x from if_neg e]
      exact (h4.below HB5.out).chg HG6.out hxm
  · by_cases e : x = b
    · rw [show updB D b l x = l from if_pos e, HLK.out]
      exact HK16.out
    · rw [show updB D b l x = D x from if_neg e]
      exact H1.out.sz x hx
end Go.Proofs.YtmfdlkkligjcbaaGreat
