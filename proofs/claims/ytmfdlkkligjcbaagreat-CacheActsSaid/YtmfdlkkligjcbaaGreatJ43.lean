/-
  What is proved: Clear makes a tier's cache one with nothing in it. No condition.
-/
import Derived.Test.YtmfdlkkligjcbaaGreatJ01
import Derived.Test.YtmfdlkkligjcbaaGreatJ38
import Derived.Test.YtmfdlkkligjcbaaGreatJ39
namespace Go.Proofs.YtmfdlkkligjcbaaGreat
open Go.RowKit

section
variable {w w' : World} {X F : Nat → Prop} {G M n cp T B : Nat} {c : Nat → Int} {A : Option Addr} {hh : Nat → Hn} {v : Value} {o : Ob} {D : Int → List Int}
/-- what comes of Clear -/
def ClearQ (w : World) (X : Nat → Prop) (G M n cp T : Nat) (c : Nat → Int) (A : Option Addr) (hh : Nat → Hn) (D : Int → List Int) (e : Ending) (w' : World) : Prop :=
  e = .returned (.tuple #[]) ∧ ∃ v' F', Cm w' (fun j => X j ∨ F' j) G M F' c A n cp hh T v' (Ob.new c hh n T) D 0 ∧ (∀ j, F' j → w.heap.size ≤ j ∧ j < w'.heap.size) ∧ Chg w w' (fun j => j = G ∨ j = M) (fun j => j = G ∨ j = M)
theorem cfgrange16 {v : Value} (h : Bx w G 70 (cc c A n cp T v M)) : w.rangeAt G 0 (cfgC c A n cp).toList := fun j u hj => by
  rw [Nat.zero_add, h.cell]
  have h17 : j < 17 := (List.getElem?_eq_some_iff.1 hj).1
  rcases j with _ | _ | _ | _ | _ | _ | _ | _ | _ | _ | _ | _ | _ | _ | _ | _ | _ | j
  all_goals first | exact hj | omega
set_option maxRecDepth 20000 in
set_option maxHeartbeats 2000000 in
theorem cm_clear (h : Cm w X G M F c A n cp hh T v o D B) : Calls Tryz.prog 13 #[.pointer (some ⟨G, 0, none⟩)] w (ClearQ w X G M n cp T c A hh D) := by
  have H := hid h
  clear h
  obtain ⟨W0, hW0⟩ : ∃ x, w.drew = x := ⟨_, rfl⟩
  have HE0 := hid hW0
  have hb0 : Below w.heap.size w W0 := hW0 ▸ below_draws (Below.refl _ _) 1
  have HB0 := hid hb0
  have H0 := hid (H.out.below hb0)
  have HNO := hid (neworder_any H0.out.rt H0.out.hr H0.out.ca H0.out.t1 H0.out.t3)
  clear hW0 hb0
  go_enter Tryz.func13, Tryz.ntmps13
  go_upto_region 1 with fail
  refine wp_region_noPanic ?_
  refine wp_region_held_drew (S := fun w' => w'.rangeAt G 0 (cfgC c A n cp).toList ∧ w'.cell? ⟨G, 17, none⟩ = some (.int .i64 T)) (by kernel_rfl) ?_ (fun hHeld => ?_)
  · rw [HE0.out]; exact ⟨H0.out.range, H0.out.c17⟩
  refine tkv 0 (some 4) rfl ?_
  refine tkv 1 (some 5) rfl ?_
  refine tkv 2 (some 6) rfl ?_
  refine tkv 3 (some 7) rfl ?_
  refine wpAnyH_take (i := 4) (oi := ⟨some 8, _, _, _, _, _⟩) (v := _) rfl (by kernel_rfl) (by kernel_rfl) (by kernel_rfl) (fun _ _ _ h => h) (yieldsIf_load_mid (by rfl) 25 (.tmp 7) rfl G 0 rfl (cfgC c A n cp).toList _ (fun w hw => hw.1) Tryz.underlying25 rfl (by kernel_rfl)) (by assumption) ?_
  (try simp only [Act.put, tkA, tk0, tk1])
  refine tkv 5 (some 9) rfl ?_
  refine tkv 6 (some 10) rfl ?_
  refine tkv 7 (some 11) rfl ?_
  refine tkv 8 (some 12) rfl ?_
  refine tkc 9 (some 13) rfl fun K hK => ?_
  rw [HE0.out]
  go_simp
  refine HNO.out.mono ?_
  rintro e W1 ⟨ty, g1, rfl, hom, hok, hb⟩
  have HOM := hid hom
  have HOK := hid hok
  have HB1 := hid hb
  have H1 := hid (H0.out.below hb)
  have kp := And.intro H1.out.range H1.out.c17
  have z18 : W1.cell? ⟨G, 18, none⟩ = some v := H1.out.c18
  have f18 := H1.out.box.free 18
  clear hom hok hb
  go_simp
  refine hK.out _ _ kp (fun hHeld => ?_)
  clear hK K
  (try simp only [Act.put, tkA, tk0, tk1])
  refine tkv 10 (some 14) rfl ?_
  refine tkv 11 (some 15) rfl ?_
  refine tkc 12 (none) rfl fun K hK => ?_
  have hc := chg_set (Chg.refl W1 (· = G)) 18 (.iface ty (.pointer (some ⟨g1, 0, none⟩)))
  have HC2 := hid hc
  have HX2 := hid (show Bx (W1.setCell ⟨G, 18, none⟩ (.iface ty (.pointer (some ⟨g1, 0, none⟩)))) G 70 (cc c A n cp T (.iface ty (.pointer (some ⟨g1, 0, none⟩))) M) from H1.out.box.set 18 (.iface ty (.pointer (some ⟨g1, 0, none⟩))))
  have kq := And.intro (cfgrange16 HX2.out) (HX2.out.cell 17)
  clear hc
  go_simp
  refine hK.out _ _ kq (fun hHeld => ?_)
  clear hK K
  (try simp only [Act.put, tkA, tk0, tk1])
  refine wpAnyH_done (by kernel_rfl) ?_ _
  refine NoPanic.normal ?_
  have HS2 := hid (setSize W1 ⟨G, 18, none⟩ (.iface ty (.pointer (some ⟨g1, 0, none⟩))))
  generalize W1.setCell ⟨G, 18, none⟩ (.iface ty (.pointer (some ⟨g1, 0, none⟩))) = W2 at *
  clear z18 f18
  have g19 : W2.cell? ⟨G, 19, none⟩ = some (.map (some M)) := HX2.out.cell 19
  obtain ⟨f, hmf, -⟩ := H1.out.map
  obtain ⟨W3, hcl, hm3, hg3⟩ := (hmf.same (HC2.out.block M hmf.lt fun e => H1.out.gm e.symm)).clear Tryz.underlying49 0
  have HM3 := hid hm3
  have HG3 := hid (grown_chg hg3)
  have HS3 := hid HG3.out.size
  clear hmf hm3 hg3
  go_wp2
  refine bodyPost_end (results_none rfl _ _ _) rfl ?_
  have hF : ∀ j, (W0.heap.size ≤ j ∧ j < W1.heap.size) → w.heap.size ≤ j ∧ j < W3.heap.size := fun j hj => by have := HB0.out.size; have := HS2.out; have := HS3.out; omega
  have hX : ∀ j, X j → j < W0.heap.size := fun j hj => H0.out.lt j hj
  refine ⟨rfl, .iface ty (.pointer (some ⟨g1, 0, none⟩)), fun j => W0.heap.size ≤ j ∧ j < W1.heap.size, ?_, hF, (Chg.of (on HB0.out HB1.out) _).trans ((HC2.out.wide fun j e => .inl e).trans (HG3.out.wide fun j e => .inr e))⟩
  have hGM : G < W0.heap.size ∧ M < W0.heap.size := ⟨hX G H0.out.xG, hX M H0.out.xM⟩
  exact
    { box := HG3.out.bx HX2.out H0.out.gm
      hr := HG3.out.rv (HC2.out.rv H1.out.hr fun ad e e2 => (H1.out.hA ad e).2 (e2 ▸ H1.out.xG)) fun ad e e2 => (H1.out.hA ad e).2 (e2 ▸ H1.out.xM)
      hA := fun ad e => ⟨by have := (H1.out.hA ad e).1; have := HS2.out; have := HS3.out; omega, fun hx => hx.elim (H0.out.hA ad e).2 fun h2 => by have := (H0.out.hA ad e).1; omega⟩
      ca := H0.out.ca
      ord := (HOM.out.chg HC2.out fun j hj e => by omega).chg HG3.out fun j hj e => by omega
      ok := HOK.out
      tm := Nat.le_of_eq (Ob.new_tm c hh n T)
      map := ⟨_, HM3.out, fun x hx => by rw [Ob.new_all] at hx; cases hx⟩
      sz := fun x hx => by rw [Ob.new_all] at hx; cases hx
      rt := H0.out.rt
      t1 := H0.out.t1
      t3 := H0.out.t3
      kd := Ob.kin_self _
      fx := fun j hj => .inr hj
      xG := .inl H0.out.xG
      xM := .inl H0.out.xM
      fG := fun hf => by omega
      fM := fun hf => by omega
      gm := H0.out.gm
      lt := fun j hj => hj.elim (fun hj => by have := hX j hj; have := HB1.out.size; have := HS2.out; have := HS3.out; omega) fun hj => (hF j hj).2 }
end
end Go.Proofs.YtmfdlkkligjcbaaGreat
namespace Go.Proofs.YtmfdlkkligjcbaaGreat
open Go.RowKit

variable {w w' : World} {X F Q : Nat → Prop} {G M n cp T B k1 c1 : Nat} {c : Nat → Int} {A A1 : Option Addr} {hh : Nat → Hn} {v : Value} {o : Ob} {D : Int → List Int} {b : Int}
set_option maxRecDepth 20000 in
set_option maxHeartbeats 1000000 in
theorem cm_set_no (h : Cm w X G M F c A n cp hh T v o D B) (hn : ¬ (b ∈ o.all ∧ (k1 : Int) = c 3)) : Calls Tryz.prog 27 #[.pointer (some ⟨G, 0, none⟩), .agg #[.int .i64 b, .slice A1 k1 c1]] w fun e w' => e = .returned (.bool false) ∧ Below w.heap.size w w' := by
  have hb0 := below_alloc w (.cells #[.int .i64 b, .slice A1 k1 c1] 38)
  have hx0 := Bx.new w 38 #[.int .i64 b, .slice A1 k1 c1]
  have h0 := h.below hb0
  have HB0 := hid hb0
  have x0 : (w.alloc (.cells #[.int .i64 b, .slice A1 k1 c1] 38)).cell? ⟨w.heap.size, 0, none⟩ = some (.int .i64 b) := hx0.cell 0
  have x1 : (w.alloc (.cells #[.int .i64 b, .slice A1 k1 c1] 38)).cell? ⟨w.heap.size, 1, none⟩ = some (.slice A1 k1 c1) := hx0.cell 1
  have x3 := h0.c3
  have HH := hid (fun k => cm_has (h0.draws k) b)
  clear hx0 hb0
  by_cases hb : b ∈ o.all
  · have d3 : ((k1 : Int) != c 3) = true := by
      have : ¬ (k1 : Int) = c 3 := fun e => hn ⟨hb, e⟩
      simpa using this
    rw [dec_true hb] at HH
    clear h h0 hn hb
    go_enter Tryz.func27, Tryz.ntmps27
    go_upto_region 1 with fail
    obtain ⟨W0, hW0⟩ : ∃ x, w.alloc (.cells #[.int .i64 b, .slice A1 k1 c1] 38) = x := ⟨_, rfl⟩
    obtain ⟨p, hp⟩ : ∃ x, w.heap.size = x := ⟨_, rfl⟩
    rw [hW0] at HB0 HH x0 x1 x3 ⊢
    rw [hp] at x0 x1 ⊢
    clear hW0 hp
    go_quiet (first | (go_at_call 19; exact quietL (HH.out _)))
    go_wp2
    go_ret
    exact ⟨rfl, below_draws HB0.out _⟩
  · rw [dec_false hb] at HH
    clear h h0 hn hb
    go_enter Tryz.func27, Tryz.ntmps27
    go_upto_region 1 with fail
    obtain ⟨W0, hW0⟩ : ∃ x, w.alloc (.cells #[.int .i64 b, .slice A1 k1 c1] 38) = x := ⟨_, rfl⟩
    obtain ⟨p, hp⟩ : ∃ x, w.heap.size = x := ⟨_, rfl⟩
    rw [hW0] at HB0 HH x0 x1 x3 ⊢
    rw [hp] at x0 x1 ⊢
    clear hW0 hp
    go_quiet (first | (go_at_call 19; exact quietL (HH.out _)))
    go_wp2
    go_ret
    exact ⟨rfl, below_draws HB0.out _⟩
set_option maxRecDepth 20000 in
set_option maxHeartbeats 2000000 in
theorem cm_set_yes (h : Cm w X G M F c A n cp hh T v o D B) (hB : B ≤ 10000000) {l : List Int} (hd : By w X (.slice A1 k1 c1) l) (hb : b ∈ o.all) (hk : (k1 : Int) = c 3) : Calls Tryz.prog 27 #[.pointer (some ⟨G, 0, none⟩), .agg #[.int .i64 b, .slice A1 k1 c1]] w fun e w' => e = .returned (.bool true) ∧ Cm w' X G M F c A n cp hh T v o (updB D b l) (B + 1) ∧ Chg w w' (fun j => F j ∨ j = M) (fun j => F j ∨ j = M) := by
  have hb0 := below_alloc w (.cells #[.int .i64 b, .slice A1 k1 c1] 38)
  have hx0 := Bx.new w 38 #[.int .i64 b, .slice A1 k1 c1]
  have h0 := h.below hb0
  have HB0 := hid hb0
  have HX0 := hid hx0
  have x0 : (w.alloc (.cells #[.int .i64 b, .slice A1 k1 c1] 38)).cell? ⟨w.heap.size, 0, none⟩ = some (.int .i64 b) := hx0.cell 0
  have x1 : (w.alloc (.cells #[.int .i64 b, .slice A1 k1 c1] 38)).cell? ⟨w.heap.size, 1, none⟩ = some (.slice A1 k1 c1) := hx0.cell 1
  have x3 := h0.c3
  have HH := hid (fun k => cm_has (h0.draws k) b)
  rw [dec_true hb] at HH
  have d3 : ((k1 : Int) != c 3) = false := by simpa using hk
  have l3 : (1 : Int) ≤ c 3 ∧ c 3 ≤ 16 := h.rt.1 3 (by omega)
  have HXB := hid (h.wf hb)
  have HBB := hid hB
  have HK16 := hid (show k1 ≤ 16 from by omega)
  have HLK := hid hd.at_.2
  have HD0 := hid (hd.below hb0)
  have H0 := hid h0
  have HNM0 := hid (show ¬ w.heap.size = M from fun e => by have := h.lt M h.xM; omega)
  have HGM := hid h.gm
  clear hx0 hb0 h h0 hk hb l3 hd
  go_enter Tryz.func27, Tryz.ntmps27
  go_upto_region 1 with fail
  obtain ⟨W0, hW0⟩ : ∃ x, w.alloc (.cells #[.int .i64 b, .slice A1 k1 c1] 38) = x := ⟨_, rfl⟩
  obtain ⟨p, hp⟩ : ∃ x, w.heap.size = x := ⟨_, rfl⟩
  rw [hW0] at HB0 HH HX0 HD0 H0 x0 x1 x3 ⊢
  rw [hp] at x0 x1 HX0 HNM0 ⊢
  have HNM := HNM0
  clear hW0 hp
  go_quiet (first | (go_at_call 19; exact quietL (HH.out _)))
  clear x0 x1 x3
  go_upto_region 3 with fail
  obtain ⟨W1, hW1⟩ : ∃ x, (W0.drewN nq).drew = x := ⟨_, rfl⟩
  have HE1 := hid hW1
  have HB01 := hid (show Below W0.heap.size W0 W1 from hW1 ▸ below_draws (below_draws (Below.refl _ _) nq) 1)
  have H1 := hid (H0.out.below HB01.out)
  have HP := hid (HX0.out.next HB01.out)
  have HBG := hid H1.out.box
  have HD1 := hid (HD0.out.below HB01.out)
  have x0 : W1.cell? ⟨p, 0, none⟩ = some (.int .i64 b) := HP.out.cell 0
  have x1 : W1.cell? ⟨p, 1, none⟩ = some (.slice A1 k1 c1) := HP.out.cell 1
  have g19 := H1.out.c19
  obtain ⟨f, hmf, hfx⟩ := H1.out.map
  have HMF := hid hmf
  have HFX := hid hfx
  have HX4 := hid H1.out.lt
  have HCL := hid (clone_bytes A1 k1 c1 l W1 HLK.out (by have := HK16.out; omega) HD1.out.at_.1)
  clear hmf hfx hW1
  refine wp_region_noPanic ?_
  refine wp_region_held_drew (S := fun w' => w'.cell? ⟨p, 0, none⟩ = some (.int .i64 b) ∧ w'.cell? ⟨p, 1, none⟩ = some (.slice A1 k1 c1) ∧ w'.cell? ⟨G, 19, none⟩ = some (.map (some M))) (by kernel_rfl) ?_ (fun hHeld => ?_)
  · rw [HE1.out]; exact ⟨x0, x1, g19⟩
  refine tkv 0 (some 21) rfl ?_
  refine tkv 1 (some 22) rfl ?_
  refine tkv 2 (some 23) rfl ?_
  refine tkv 3 (some 24) rfl ?_
  refine tkv 4 (some 25) rfl ?_
  refine tkv 5 (some 26) rfl ?_
  refine tkv 6 (some 27) rfl ?_
  refine tkv 7 (some 28) rfl ?_
  refine tkc 8 (some 29) rfl fun K hK => ?_
  rw [HE1.out]
  go_simp
  refine HCL.out.mono ?_
  rintro e w5 hq
  obtain ⟨u, rfl, h5, h6⟩ := CpQ.by_ hq _ HX4.out
  obtain ⟨w6, hput, hm6, hg6⟩ := (HMF.out.below h6).put Tryz.underlying3 Tryz.underlying49 (by have := HBB.out; unfold maxLen; omega) HXB.out u
  have HU5 := hid h5
  have HB5 := hid h6
  have HM6 := hid hm6
  have HG6 := hid (grown_chg hg6)
  have kp := And.intro ((HP.out.next h6).cell 0) (And.intro ((HP.out.next h6).cell 1) ((HBG.out.next h6).cell 19))
  clear hq h5 h6 hm6 hg6
  go_simp
  refine hK.out _ _ kp (fun hHeld => ?_)
  clear hK K
  (try simp only [Act.put, tkA, tk0, tk1])
  refine tkc 9 (none) rfl fun K hK => ?_
  have HP6 := hid (HG6.out.bx (HP.out.next HB5.out) HNM.out)
  have HBG6 := hid (HG6.out.bx (HBG.out.next HB5.out) HGM.out)
  have kq := And.intro (HP6.out.cell 0) (And.intro (HP6.out.cell 1) (HBG6.out.cell 19))
  go_simp
  refine hK.out _ _ kq (fun hHeld => ?_)
  clear hK K
  (try simp only [Act.put, tkA, tk0, tk1])
  refine wpAnyH_done (by kernel_rfl) ?_ _
  refine NoPanic.normal ?_
  go_wp2
  go_ret
  have hxm : ∀ j, j = M → X j := fun j e => e ▸ H1.out.xM
  have hfm : ∀ j, F j → ¬ j = M := fun j hf e => H1.out.fM (e ▸ hf)
  have hch : Chg W1 w6 (fun j => F j ∨ j = M) (fun j => F j ∨ j = M) := (Chg.of HB5.out _).trans (HG6.out.wide fun j hj => .inr hj)
  refine ⟨rfl, H1.out.to hch ((H1.out.ord.below HB5.out).chg HG6.out hfm) H1.out.ok (Nat.le_trans H1.out.tm (Nat.le_succ _)) H1.out.kd ⟨_, HM6.out, fun x hx => ?_⟩ (fun x hx => ?_), (Chg.of (on HB0.out HB01.out) _).trans hch⟩
  · by_cases e : x = b
    · refine ⟨u, if_pos e, ?_⟩
      rw [show updB D b l x = l from if_pos e]
      exact HU5.out.chg HG6.out hxm
    · obtain ⟨u2, h3, h4⟩ := HFX.out x hx
      refine ⟨u2, (if_neg e).trans h3, ?_⟩
      rw [show updB D b l x = D x from if_neg e]
      exact (h4.below HB5.out).chg HG6.out hxm
  · by_cases e : x = b
    · rw [show updB D b l x = l from if_pos e, HLK.out]
      exact HK16.out
    · rw [show updB D b l x = D x from if_neg e]
      exact H1.out.sz x hx
end Go.Proofs.YtmfdlkkligjcbaaGreat
