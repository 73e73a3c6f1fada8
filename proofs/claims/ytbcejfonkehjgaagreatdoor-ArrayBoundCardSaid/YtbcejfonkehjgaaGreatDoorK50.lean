/-
  What is proved: ArrayBound's walk. Condition: the table of the kinds' fields lies where the program lays it.
-/
import Derived.Test.YtbcejfonkehjgaaGreatDoorK49
import Derived.Deep.RegionHeld3
namespace Go.Proofs.YtbcejfonkehjgaaGreatDoor
open Go.RowKit

set_option maxRecDepth 20000 in
set_option maxHeartbeats 8000000 in
theorem bound18 {c : Nat → Int} {A A2 : Option Addr} {n cq m c2 : Nat} {hh : Nat → Hn} {f : Nat → A18} {w : World} (hN : Nm w) (hn : n ≤ maxLen) (hr : Rv w w.heap.size A (hvs hh n)) (ca : A = none → cq = 0) (hm : m ≤ maxLen) (hac : Acts18 w A2 m f) (hg : ∀ i, i < m → (f i).Good w) :
    Calls Tryz.prog 5 #[.agg (cfgC c A n cq), .slice A2 m c2] w fun e w' => e = .returned (.bool true) ∧ Below w.heap.size w w' := by
  have hb0 := below_alloc w (.cells (cfgC c A n cq) 25)
  have HX0 := hid (Bx.new w 25 (cfgC c A n cq))
  have HB0 := hid hb0
  have HR0 := hid ((hr.below hb0 (Nat.le_refl _)).more hb0.size)
  have HN := hid hN
  have HAC := hid hac
  have HGD := hid hg
  have HCA := hid ca
  have HNN := hid hn
  have HLO := hid (fun (y : World) (hb : Below w.heap.size w y) => long18 (c := c) (A := A) (n := n) (cq := cq) (c2 := c2) hm (hac.below hb) fun i hi => (hg i hi).below hb)
  clear hr hb0 hac hg hm hN ca hn
  go_enter Tryz.func5, Tryz.ntmps5
  go_upto_region 1 with fail
  obtain ⟨W0, hW0⟩ : ∃ x, w.alloc (.cells (cfgC c A n cq) 25) = x := ⟨_, rfl⟩
  obtain ⟨r0, hr0⟩ : ∃ x, w.heap.size = x := ⟨_, rfl⟩
  rw [hW0] at HB0 HX0 HR0 ⊢
  rw [hr0] at HX0 ⊢
  have HZ := hid hr0
  have HRL := hid HX0.out.lt
  clear hW0 hr0
  go_upto_region 3 with (go_at_call 8; refine (wakes18 _ (HN.out.next HB0.out)).mono ?_; rintro e w1 ⟨rfl, hb⟩; have HB1 := hid hb; have HX1 := hid (HX0.out.next hb); have HR1 := hid (Rv.more (HR0.out.below hb (Nat.le_refl _)) hb.size); clear hb)
  go_wp2_with (refine wpList_load_bxg (by rfl) 25 (.tmp 2) rfl r0 _ _ _ rfl HX1.out Tryz.underlying25 rfl (by kernel_rfl) ?_)
  refine (HLO.out _ (on HB0.out HB1.out)).mono ?_
  rintro e w2 ⟨bl, rfl, hb, hl⟩
  have HB2 := hid (on HB1.out hb)
  have HX2 := hid (HX1.out.next hb)
  have HR2 := hid (Rv.more (HR1.out.below hb (Nat.le_refl _)) hb.size)
  have HLI := hid hl
  clear hb hl HX1 HR0 HR1 HB1 HLO
  cases bl with
  | true =>
    go_wp2
    go_ret
    exact ⟨rfl, on HB0.out HB2.out⟩
  | false =>
  have HLE := hid (HLI.out rfl)
  clear HLI
  go_upto_region 5 with fail
  by_cases rt : RightP c hh n
  rotate_left 1
  · have RT := hid rt
    clear rt
    refine wp_region_noPanic ?_
    refine wp_region_held_drew (S := fun y => y.rangeAt r0 0 (cfgC c A n cq).toList) (by kernel_rfl) ?_ (fun hHeld => ?_)
    · exact box_range HX2.out
    refine wpAnyH_take (i := 0) (oi := ⟨some 18, _, _, _, _, _⟩) (v := _) rfl (by kernel_rfl) (by kernel_rfl) (by kernel_rfl) (fun _ _ _ h => h) (yieldsIf_load_mid (by rfl) 25 (.tmp 2) rfl r0 0 rfl (cfgC c A n cq).toList _ (fun w hw => hw) Tryz.underlying25 rfl (by kernel_rfl)) (by assumption) ?_
    (try simp only [Act.put, List.setIfInBounds_toArray, List.set_cons_zero, List.set_cons_succ])
    refine wpAnyH_ready (rs := [1]) (by kernel_rfl) (by simp) ?_
    refine AllReadyH.cons (o := ⟨some 19, _, _, _, _, _⟩) rfl (fun K hK => ?_) AllReadyH.nil
    rw [if_pos (by rfl)]
    go_simp
    refine (disknew_any 64 _).mono ?_
    rintro e w3 ⟨kd, v, rfl, hk, hb⟩
    have HK3 := hid (show Dk w3 77 w2.heap.size kd v ⟨List.replicate 64 [], -1, false⟩ from hk)
    have HB3 := hid (below_of_drew hb)
    have HX3 := hid (HX2.out.next HB3.out)
    have HR3 := hid (Rv.more (HR2.out.below HB3.out (Nat.le_refl _)) HB3.out.size)
    have k3 := box_range HX3.out
    clear hk hb
    go_simp
    refine hK.out _ _ k3 (fun hHeld => ?_)
    clear hK K
    (try simp only [Act.put, List.setIfInBounds_toArray, List.set_cons_zero, List.set_cons_succ])
    refine wpAnyH_ready (rs := [2]) (by kernel_rfl) (by simp) ?_
    refine AllReadyH.cons (o := ⟨some 20, _, _, _, _, _⟩) rfl (fun K hK => ?_) AllReadyH.nil
    rw [if_pos (by rfl)]
    go_simp
    refine (anew_no HR3.out HNN.out RT.out _).mono ?_
    rintro e w4 ⟨rfl, hb⟩
    have HB4 := hid hb
    have k4 := box_range (HX3.out.next HB4.out)
    clear hb
    go_simp
    refine hK.out _ _ k4 (fun hHeld => ?_)
    clear hK K
    (try simp only [Act.put, List.setIfInBounds_toArray, List.set_cons_zero, List.set_cons_succ])
    refine wpAnyH_take (i := 3) (oi := ⟨some 17, _, _, _, _, _⟩) (v := ?_) rfl (by kernel_rfl) (by kernel_rfl) (by kernel_rfl) (fun _ _ _ h => h) (Or.inl ⟨by rfl, ?_⟩) (by assumption) ?_
    rotate_left 1
    · intro w0 hSw
      try dsimp only at hSw
      go_simp
      try with_reducible rfl
    (try simp only [Act.put, List.setIfInBounds_toArray, List.set_cons_zero, List.set_cons_succ])
    refine wpAnyH_take (i := 4) (oi := ⟨some 21, _, _, _, _, _⟩) (v := ?_) rfl (by kernel_rfl) (by kernel_rfl) (by kernel_rfl) (fun _ _ _ h => h) (Or.inl ⟨by rfl, ?_⟩) (by assumption) ?_
    rotate_left 1
    · intro w0 hSw
      try dsimp only at hSw
      go_simp
      try with_reducible rfl
    (try simp only [Act.put, List.setIfInBounds_toArray, List.set_cons_zero, List.set_cons_succ])
    refine wpAnyH_take (i := 5) (oi := ⟨some 22, _, _, _, _, _⟩) (v := ?_) rfl (by kernel_rfl) (by kernel_rfl) (by kernel_rfl) (fun _ _ _ h => h) (Or.inl ⟨by rfl, ?_⟩) (by assumption) ?_
    rotate_left 1
    · intro w0 hSw
      try dsimp only at hSw
      go_simp
      try with_reducible rfl
    (try simp only [Act.put, List.setIfInBounds_toArray, List.set_cons_zero, List.set_cons_succ])
    refine wpAnyH_take (i := 6) (oi := ⟨some 5, _, _, _, _, _⟩) (v := ?_) rfl (by kernel_rfl) (by kernel_rfl) (by kernel_rfl) (fun _ _ _ h => h) (Or.inl ⟨by rfl, ?_⟩) (by assumption) ?_
    rotate_left 1
    · intro w0 hSw
      try dsimp only at hSw
      go_simp
      try with_reducible rfl
    (try simp only [Act.put, List.setIfInBounds_toArray, List.set_cons_zero, List.set_cons_succ])
    refine wpAnyH_take (i := 7) (oi := ⟨some 6, _, _, _, _, _⟩) (v := ?_) rfl (by kernel_rfl) (by kernel_rfl) (by kernel_rfl) (fun _ _ _ h => h) (Or.inl ⟨by rfl, ?_⟩) (by assumption) ?_
    rotate_left 1
    · intro w0 hSw
      try dsimp only at hSw
      go_simp
      try with_reducible rfl
    (try simp only [Act.put, List.setIfInBounds_toArray, List.set_cons_zero, List.set_cons_succ])
    refine wpAnyH_done (by kernel_rfl) ?_ _
    refine NoPanic.normal ?_
    go_wp2
    go_ret
    exact ⟨rfl, on HB0.out (on HB2.out (on HB3.out HB4.out))⟩
  have RT := hid rt
  clear rt
  refine wp_region_noPanic ?_
  refine wp_region_held_drew (S := fun y => y.rangeAt r0 0 (cfgC c A n cq).toList) (by kernel_rfl) ?_ (fun hHeld => ?_)
  · exact box_range HX2.out
  refine wpAnyH_take (i := 0) (oi := ⟨some 18, _, _, _, _, _⟩) (v := _) rfl (by kernel_rfl) (by kernel_rfl) (by kernel_rfl) (fun _ _ _ h => h) (yieldsIf_load_mid (by rfl) 25 (.tmp 2) rfl r0 0 rfl (cfgC c A n cq).toList _ (fun w hw => hw) Tryz.underlying25 rfl (by kernel_rfl)) (by assumption) ?_
  (try simp only [Act.put, List.setIfInBounds_toArray, List.set_cons_zero, List.set_cons_succ])
  refine wpAnyH_ready (rs := [1]) (by kernel_rfl) (by simp) ?_
  refine AllReadyH.cons (o := ⟨some 19, _, _, _, _, _⟩) rfl (fun K hK => ?_) AllReadyH.nil
  rw [if_pos (by rfl)]
  go_simp
  refine (disknew_any 64 _).mono ?_
  rintro e w3 ⟨kd, v, rfl, hk, hb⟩
  have HK3 := hid (show Dk w3 77 w2.heap.size kd v ⟨List.replicate 64 [], -1, false⟩ from hk)
  have HB3 := hid (below_of_drew hb)
  have HX3 := hid (HX2.out.next HB3.out)
  have HR3 := hid (Rv.more (HR2.out.below HB3.out (Nat.le_refl _)) HB3.out.size)
  have k3 := box_range HX3.out
  clear hk hb
  go_simp
  refine hK.out _ _ k3 (fun hHeld => ?_)
  clear hK K
  (try simp only [Act.put, List.setIfInBounds_toArray, List.set_cons_zero, List.set_cons_succ])
  refine wpAnyH_ready (rs := [2]) (by kernel_rfl) (by simp) ?_
  refine AllReadyH.cons (o := ⟨some 20, _, _, _, _, _⟩) rfl (fun K hK => ?_) AllReadyH.nil
  rw [if_pos (by rfl)]
  go_simp
  refine (anew_new RT.out HR3.out HCA.out HK3.out (Z := fun _ => False) (fun _ h => h.elim)).mono ?_
  rintro e w4 hq
  obtain ⟨Kq, rfl, ha, -, -, -, hc, -, -, hb, ho, hxm, hzx⟩ := hq.law (on HB2.out HB3.out) HK3.out HB2.out.size
  have HA := hid ha
  have HC := hid hc
  have HB4 := hid hb
  have HO := hid ho
  have HXM := hid hxm
  have HZX := hid hzx
  have HX4 := hid (HX0.out.next hb)
  have k4 := box_range HX4.out
  clear ha hc hb ho hxm hzx hq
  go_simp
  refine hK.out _ _ k4 (fun hHeld => ?_)
  clear hK K
  (try simp only [Act.put, List.setIfInBounds_toArray, List.set_cons_zero, List.set_cons_succ])
  refine wpAnyH_take (i := 3) (oi := ⟨some 17, _, _, _, _, _⟩) (v := ?_) rfl (by kernel_rfl) (by kernel_rfl) (by kernel_rfl) (fun _ _ _ h => h) (Or.inl ⟨by rfl, ?_⟩) (by assumption) ?_
  rotate_left 1
  · intro w0 hSw
    try dsimp only at hSw
    go_simp
    try with_reducible rfl
  (try simp only [Act.put, List.setIfInBounds_toArray, List.set_cons_zero, List.set_cons_succ])
  refine wpAnyH_take (i := 4) (oi := ⟨some 21, _, _, _, _, _⟩) (v := ?_) rfl (by kernel_rfl) (by kernel_rfl) (by kernel_rfl) (fun _ _ _ h => h) (Or.inl ⟨by rfl, ?_⟩) (by assumption) ?_
  rotate_left 1
  · intro w0 hSw
    try dsimp only at hSw
    go_simp
    try with_reducible rfl
  (try simp only [Act.put, List.setIfInBounds_toArray, List.set_cons_zero, List.set_cons_succ])
  refine wpAnyH_take (i := 5) (oi := ⟨some 22, _, _, _, _, _⟩) (v := ?_) rfl (by kernel_rfl) (by kernel_rfl) (by kernel_rfl) (fun _ _ _ h => h) (Or.inl ⟨by rfl, ?_⟩) (by assumption) ?_
  rotate_left 1
  · intro w0 hSw
    try dsimp only at hSw
    go_simp
    try with_reducible rfl
  (try simp only [Act.put, List.setIfInBounds_toArray, List.set_cons_zero, List.set_cons_succ])
  refine wpAnyH_take (i := 6) (oi := ⟨some 5, _, _, _, _, _⟩) (v := ?_) rfl (by kernel_rfl) (by kernel_rfl) (by kernel_rfl) (fun _ _ _ h => h) (Or.inl ⟨by rfl, ?_⟩) (by assumption) ?_
  rotate_left 1
  · intro w0 hSw
    try dsimp only at hSw
    go_simp
    try with_reducible rfl
  (try simp only [Act.put, List.setIfInBounds_toArray, List.set_cons_zero, List.set_cons_succ])
  refine wpAnyH_take (i := 7) (oi := ⟨some 6, _, _, _, _, _⟩) (v := ?_) rfl (by kernel_rfl) (by kernel_rfl) (by kernel_rfl) (fun _ _ _ h => h) (Or.inl ⟨by rfl, ?_⟩) (by assumption) ?_
  rotate_left 1
  · intro w0 hSw
    try dsimp only at hSw
    go_simp
    try with_reducible rfl
  (try simp only [Act.put, List.setIfInBounds_toArray, List.set_cons_zero, List.set_cons_succ])
  refine wpAnyH_done (by kernel_rfl) ?_ _
  refine NoPanic.normal ?_
  go_wp2
  go_loopg [27] m (fun gk tp wr => ∃ p : Nat, p + gk = m ∧ tp = .int .i64 p ∧ ∃ L X o D r, Lv18 w.heap.size W0 wr Kq r0 (cfgC c A n cq) L X o D (2 * p) r)
  case atStart => exact ⟨0, by omega, rfl, _, _, _, _, _, lv_new HA.out HC.out RT.out HB4.out HX4.out (fun j hj => HO.out j (.inl hj)) (fun j hj => Nat.le_trans HB0.out.size (HO.out j (.inl ((HXM.out j hj).elim id fun h => h.elim)))) HRL.out⟩
  case round =>
    obtain ⟨p, hp, rfl, L, X, o, D, r, hlv⟩ := hrel
    have HLV := hid hlv
    clear hlv
    by_cases hlt : p < m
    · have hlt' : (p : Int) < (m : Int) := by omega
      obtain ⟨ad, rfl, hat⟩ := (HAC.out.below (on HB0.out HLV.out.bel)) p hlt
      have hgood := HGD.out p hlt
      have hlen := HLE.out.2.2 p hlt
      have hp100 : p < 100 := by have := HLE.out.2.1; omega
      obtain ⟨⟨fu, ⟨tc, tg, l⟩, Bq, bc⟩, hf⟩ : ∃ y, f p = y := ⟨_, rfl⟩
      rw [hf] at hat hgood hlen
      obtain ⟨c0, c1, c2', c3, c4, c5, c6, c7, c8, c9, c10, c11⟩ := hat.all
      dsimp only [A18.sl] at c0 c1 c2' c3 c4 c5 c6 c7 c8 c9 c10 c11
      obtain ⟨kl, hkl⟩ : ∃ x, l.length = x := ⟨_, rfl⟩
      rw [hkl] at c11
      have HGOOD := hid (fun (y : World) (hb : Below w.heap.size w y) => show By y Kq.X (.slice Bq kl bc) l from hkl ▸ (hgood.y.below hb).less fun j hj => HLV.out.xlo j hj)
      have HBYT := hid (show Byt l from hgood.b)
      obtain ⟨ra, hra⟩ : ∃ g, wr.heap.size = g := ⟨_, rfl⟩
      obtain ⟨W, hW⟩ : ∃ W, wr.alloc (.cells #[.int .i64 fu, .int .i64 (tc 0), .int .i64 (tc 1), .int .i64 (tc 2), .int .i64 (tc 3), .int .i64 (tc 4), .int .i64 (tc 5), .int .i64 (tc 6), .int .i64 (tc 7), .int .i64 (tc 8), .bool tg, .slice Bq kl bc] 42) = W := ⟨_, rfl⟩
      have BW : Below wr.heap.size wr W := by rw [← hW]; exact below_alloc _ _
      have HXW := hid (show Bx W ra 42 #[.int .i64 fu, .int .i64 (tc 0), .int .i64 (tc 1), .int .i64 (tc 2), .int .i64 (tc 3), .int .i64 (tc 4), .int .i64 (tc 5), .int .i64 (tc 6), .int .i64 (tc 7), .int .i64 (tc 8), .bool tg, .slice Bq kl bc] from by rw [← hW, ← hra]; exact Bx.new _ _ _)
      have HLW := hid (HLV.out.below BW)
      have HWW := hid hW
      have HGG := hid hra
      have HRA := hid (show W0.heap.size ≤ ra from by rw [← hra]; exact HLV.out.bel.size)
      have HBWR := hid BW
      clear BW hf hW hra hgood hkl hlen
      go_upto_region 11 with fail
      rw [HGG.out, HWW.out]
      clear c0 c1 c2' c3 c4 c5 c6 c7 c8 c9 c10 c11 HWW
      have HNA := hid (show ¬ Kq.mine ra from fun hj => by have h7 := HLV.out.am.cm.lt _ (HLV.out.am.mine_x _ hj); rw [HGG.out] at h7; omega)
      have x1 : W.cell? ⟨ra, 1, none⟩ = some (.int .i64 (tc 0)) := HXW.out.cell 1
      have x2 : W.cell? ⟨ra, 2, none⟩ = some (.int .i64 (tc 1)) := HXW.out.cell 2
      have x3 : W.cell? ⟨ra, 3, none⟩ = some (.int .i64 (tc 2)) := HXW.out.cell 3
      have x4 : W.cell? ⟨ra, 4, none⟩ = some (.int .i64 (tc 3)) := HXW.out.cell 4
      have x5 : W.cell? ⟨ra, 5, none⟩ = some (.int .i64 (tc 4)) := HXW.out.cell 5
      have x6 : W.cell? ⟨ra, 6, none⟩ = some (.int .i64 (tc 5)) := HXW.out.cell 6
      have x7 : W.cell? ⟨ra, 7, none⟩ = some (.int .i64 (tc 6)) := HXW.out.cell 7
      have x8 : W.cell? ⟨ra, 8, none⟩ = some (.int .i64 (tc 7)) := HXW.out.cell 8
      have x9 : W.cell? ⟨ra, 9, none⟩ = some (.int .i64 (tc 8)) := HXW.out.cell 9
      have x10 : W.cell? ⟨ra, 10, none⟩ = some (.bool tg) := HXW.out.cell 10
      have x11 : W.cell? ⟨ra, 11, none⟩ = some (.slice Bq kl bc) := HXW.out.cell 11
      have HHE := hid (show Calls Tryz.prog 15 #[Kq.ptr, .agg #[.int .i64 (tc 0), .int .i64 (tc 1), .int .i64 (tc 2), .int .i64 (tc 3), .int .i64 (tc 4), .int .i64 (tc 5), .int .i64 (tc 6), .int .i64 (tc 7), .int .i64 (tc 8), .bool tg, .slice Bq kl bc]] W _ from ahear_any (mc := tc) (gr := tg) (n := kl) (cp := bc) HLW.out.am (HN.out.next (on HB0.out HLW.out.bel)) HLW.out.fine (by omega) (by have := HLW.out.rr; omega) (HGOOD.out W (on HB0.out HLW.out.bel)) HBYT.out)
      go_wp2_with fail
      refine HHE.out.mono ?_
      rintro e W2 hq
      have hqc := hq.chg
      obtain ⟨u, L', rfl, hlv, htl, hbt⟩ := HLW.out.hear hq
      have HXA := hid (hqc.bx HXW.out HNA.out)
      obtain ⟨⟨⟨X2, o2, D2, r2⟩, tl⟩, hpq⟩ : ∃ q, hearF Kq.c ⟨X, o, D, r⟩ ⟨tc, tg, l⟩ = q := ⟨_, rfl⟩
      rw [hpq] at hlv htl hbt
      dsimp only at hlv htl hbt
      have HPQ := hid hpq
      have HL2 := hid hlv
      have HBT := hid hbt
      obtain ⟨A5, c5, rfl, h5a, h5b, -, h5d⟩ := htl.at_
      have HTD := hid h5d
      have H5 := hid (And.intro h5a h5b)
      obtain ⟨n5, hn5⟩ : ∃ n, tl.length = n := ⟨_, rfl⟩
      rw [hn5] at h5a ⊢
      have HN5 := hid hn5
      clear hlv hbt htl h5a h5b h5d hn5
      clear hq hpq hqc
      clear x1 x2 x3 x4 x5 x6 x7 x8 x9 x10 x11
      have h5m : n5 ≤ maxLen := by have h7 := H5.out.1; have h8 := H5.out.2; have h9 := HN5.out; omega
      unfold maxLen at h5m
      clear HHE HLW HXW HGOOD HBYT HBWR
      go_wp2
      go_loopg [36] n5 (fun gk2 tq wr => ∃ q : Nat, q + gk2 = n5 ∧ tq = .int .i64 q ∧ Below W2.heap.size W2 wr)
      case atStart => exact ⟨0, by omega, rfl, Below.refl _ _⟩
      case round =>
        obtain ⟨q, hq, rfl, hb2⟩ := hrel
        have HQB := hid hb2
        clear hb2
        by_cases hql : q < n5
        · have hql' : (q : Int) < (n5 : Int) := by omega
          obtain ⟨t, ht⟩ : ∃ t, tl[q]? = some t := ⟨_, List.getElem?_eq_getElem (by have := HN5.out; omega)⟩
          have hbt := HBT.out t (List.mem_of_getElem? ht)
          obtain ⟨ad5, u5, rfl, hat5⟩ := HTD.out q t ht
          obtain ⟨dc, dg, dl⟩ := t
          obtain ⟨A7, c7, rfl, -⟩ := id hat5.y
          obtain ⟨e0, e1, e2, e3, e4, e5, e6, e7, e8, e9, e10⟩ := (TmAt.mono hat5 HQB.out).all
          dsimp only at e0 e1 e2 e3 e4 e5 e6 e7 e8 e9 e10
          have HBTQ := hid hbt
          obtain ⟨rb, hrb⟩ : ∃ g, wr.heap.size = g := ⟨_, rfl⟩
          obtain ⟨W3, hW3⟩ : ∃ x, wr.alloc (.cells #[.int .i64 (dc 0), .int .i64 (dc 1), .int .i64 (dc 2), .int .i64 (dc 3), .int .i64 (dc 4), .int .i64 (dc 5), .int .i64 (dc 6), .int .i64 (dc 7), .int .i64 (dc 8), .bool dg, .slice A7 dl.length c7] 40) = x := ⟨_, rfl⟩
          have BW3 : Below wr.heap.size wr W3 := by rw [← hW3]; exact below_alloc _ _
          have HX3 := hid (show Bx W3 rb 40 #[.int .i64 (dc 0), .int .i64 (dc 1), .int .i64 (dc 2), .int .i64 (dc 3), .int .i64 (dc 4), .int .i64 (dc 5), .int .i64 (dc 6), .int .i64 (dc 7), .int .i64 (dc 8), .bool dg, .slice A7 dl.length c7] from by rw [← hW3, ← hrb]; exact Bx.new _ _ _)
          have HB3' := hid (on HQB.out BW3)
          have HW3 := hid hW3
          have HRB := hid hrb
          clear hat5 hbt BW3 hW3 hrb ht
          go_upto_region 14 with fail
          rw [HRB.out, HW3.out]
          clear e0 e1 e2 e3 e4 e5 e6 e7 e8 e9 e10 HW3
          have HL3 := hid (HL2.out.below HB3'.out)
          have HXA3 := hid (HXA.out.next HB3'.out)
          have z5 : W3.cell? ⟨rb, 5, none⟩ = some (.int .i64 (dc 5)) := HX3.out.cell 5
          obtain ⟨nl2, hnl2⟩ : ∃ n, o2.all.length = n := ⟨_, rfl⟩
          have HNL := hid hnl2
          have HL16 := hid (show o2.all.length ≤ maxLen from Nat.le_trans HL3.out.am.len16 (by unfold maxLen; omega))
          clear hnl2
          go_region_held3 (fun y => y.cell? ⟨rb, 5, none⟩ = some (.int .i64 (dc 5))) (first | exact kp | exact z5) (first
            | (go_at_call 19; (refine (ablocks_rv (HL3.out.am.draws 1)).mono ?_); rintro e W4 ⟨A6, c6, rfl, hr6, hb4, -⟩; have HR6 := hid hr6; have HB4' := hid (below_of_drew hb4); have kp : W4.cell? ⟨rb, 5, none⟩ = some (.int .i64 (dc 5)) := (HX3.out.next HB4'.out).cell 5; clear hr6 hb4)
            | (go_at_call 27; (refine (rhas_any A6 _ c6 o2.all (dc 5) _ _ rfl HL16.out HR6.out).mono ?_); rintro e W5 ⟨rfl, rfl⟩))
          have HL4 := hid (HL3.out.below HB4'.out)
          have HX4' := hid (HX3.out.next HB4'.out)
          have HXA4 := hid (HXA3.out.next HB4'.out)
          clear z5 kp
          have z0 : W4.cell? ⟨rb, 0, none⟩ = some (.int .i64 (dc 0)) := HX4'.out.cell 0
          have z8 : W4.cell? ⟨rb, 8, none⟩ = some (.int .i64 (dc 8)) := HX4'.out.cell 8
          have s4 : W4.cell? ⟨r0, 4, none⟩ = some (.int .i64 (c 4)) := HL4.out.cb.cell 4
          have s5 : W4.cell? ⟨r0, 5, none⟩ = some (.int .i64 (c 5)) := HL4.out.cb.cell 5
          have s7 : W4.cell? ⟨ra, 7, none⟩ = some (.int .i64 (tc 6)) := HXA4.out.cell 7
          have HBQ2 := hid (show Below W2.heap.size W2 W4 from on HB3'.out HB4'.out)
          have hbb := HBTQ.out
          unfold Bt18 at hbb
          dsimp only at hbb
          rw [HC.out] at hbb
          obtain ⟨hs, hhs⟩ : ∃ b, dec (dc 5 ∈ o2.all) = b := ⟨_, rfl⟩
          rw [hhs]
          have hin : hs = true ↔ dc 5 ∈ o2.all := by rw [← hhs]; exact dec_iff
          clear hhs HL3 HX3 HXA3 HB3' HB4' HR6 HBTQ
          by_cases k12 : dc 0 = 12
          · have q12 : ((dc 0 : Int) == 12) = true := by simpa using k12
            have q14 : ((dc 0 : Int) == 14) = false := by simpa using (show ¬ dc 0 = 14 by omega)
            by_cases k8 : dc 8 = 0
            · have q8 : ((dc 8 : Int) == 0) = true := by simpa using k8
              by_cases p0 : c 5 = 0
              · have q5 : ((c 5 : Int) == 0) = true := by simpa using p0
                have hh := hbb.1 k12 k8 p0
                by_cases m2 : c 4 = 2
                · have q4 : ((c 4 : Int) != 2) = false := by simpa using m2
                  by_cases l3 : tc 6 = 3
                  · have q6 : ((tc 6 : Int) == 3) = true := by simpa using l3
                    obtain rfl : hs = true := hin.2 (hh.2 fun h9 => h9.2 l3)
                    clear hin hh hbb k12 k8 p0 m2 l3
                    go_wp2
                    go_roundg (gk - 1)
                    case measure => omega
                    case rel => exact ⟨q + 1, by omega, by go_num, HBQ2.out⟩
                  · have q6 : ((tc 6 : Int) == 3) = false := by simpa using l3
                    obtain rfl : hs = false := by
                      cases hs
                      · rfl
                      · exact absurd ⟨m2, l3⟩ (hh.1 (hin.1 rfl))
                    clear hin hh hbb k12 k8 p0 m2 l3
                    go_wp2
                    go_roundg (gk - 1)
                    case measure => omega
                    case rel => exact ⟨q + 1, by omega, by go_num, HBQ2.out⟩
                · have q4 : ((c 4 : Int) != 2) = true := by simpa using m2
                  obtain rfl : hs = true := hin.2 (hh.2 fun h9 => m2 h9.1)
                  clear hin hh hbb k12 k8 p0 m2
                  go_wp2
                  go_roundg (gk - 1)
                  case measure => omega
                  case rel => exact ⟨q + 1, by omega, by go_num, HBQ2.out⟩
              · have q5 : ((c 5 : Int) == 0) = false := by simpa using p0
                clear hin hbb k12 k8 p0
                go_wp2
                go_roundg (gk - 1)
                case measure => omega
                case rel => exact ⟨q + 1, by omega, by go_num, HBQ2.out⟩
            · have q8 : ((dc 8 : Int) == 0) = false := by simpa using k8
              clear hin hbb k12 k8
              go_wp2
              go_roundg (gk - 1)
              case measure => omega
              case rel => exact ⟨q + 1, by omega, by go_num, HBQ2.out⟩
          · have q12 : ((dc 0 : Int) == 12) = false := by simpa using k12
            by_cases k14 : dc 0 = 14
            · have q14 : ((dc 0 : Int) == 14) = true := by simpa using k14
              obtain ⟨h7, h8⟩ := hbb.2 k14
              have q4 : ((c 4 : Int) != 1) = false := by simpa using h8
              obtain rfl : hs = false := by
                cases hs
                · rfl
                · exact absurd (hin.1 rfl) h7
              clear hin hbb k12 k14 h7 h8
              go_wp2
              go_roundg (gk - 1)
              case measure => omega
              case rel => exact ⟨q + 1, by omega, by go_num, HBQ2.out⟩
            · have q14 : ((dc 0 : Int) == 14) = false := by simpa using k14
              clear hin hbb k12 k14
              go_wp2
              go_roundg (gk - 1)
              case measure => omega
              case rel => exact ⟨q + 1, by omega, by go_num, HBQ2.out⟩
        · have hql' : ¬ (q : Int) < (n5 : Int) := by omega
          have HL4 := hid (HL2.out.below HQB.out)
          have HL16 := hid (show o2.all.length ≤ maxLen from Nat.le_trans HL4.out.am.len16 (by unfold maxLen; omega))
          have s11 : wr.cell? ⟨r0, 11, none⟩ = some (.int .i64 (c 11)) := HL4.out.cb.cell 11
          have hcap : ((o2.all.length : Nat) : Int) ≤ c 11 := by have h7 := HL4.out.am.cm.cap; rw [HC.out] at h7; exact h7
          obtain ⟨nl2, hnl2⟩ : ∃ n, o2.all.length = n := ⟨_, rfl⟩
          rw [hnl2] at hcap
          have dcap : decide ((c 11 : Int) < (nl2 : Int)) = false := decide_eq_false (by omega)
          have HNL := hid hnl2
          clear hnl2 hcap
          go_upto_region 20 with fail
          go_region_held3 (fun y => y.cell? ⟨r0, 11, none⟩ = some (.int .i64 (c 11))) (first | exact kp | exact s11) (first
            | (go_at_call 19; (refine (ablocks_rv (HL4.out.am.draws 1)).mono ?_); rintro e W4 ⟨A6, c6, rfl, hr6, hb4, -⟩; rw [HNL.out]; have HB4' := hid (below_of_drew hb4); have kp : W4.cell? ⟨r0, 11, none⟩ = some (.int .i64 (c 11)) := (HL4.out.below HB4'.out).cb.cell 11; clear hr6 hb4))
          go_wp2
          go_roundg (m - p - 1)
          case measure => omega
          case rel => exact ⟨p + 1, by omega, by go_num, _, _, _, _, _, HL4.out.below HB4'.out⟩
    · have hlt' : ¬ (p : Int) < (m : Int) := by omega
      go_wp2
      go_ret
      exact ⟨rfl, on HB0.out HLV.out.bel⟩
end Go.Proofs.YtbcejfonkehjgaaGreatDoor
