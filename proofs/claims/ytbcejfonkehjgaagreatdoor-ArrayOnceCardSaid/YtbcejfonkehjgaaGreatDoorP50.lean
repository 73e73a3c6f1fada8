/-
  What is proved: ArrayOnce's walk. Condition: the table of the kinds' fields lies where the program lays it.
-/
import Derived.Test.YtbcejfonkehjgaaGreatDoorP49
import Derived.Deep.RegionHeld3
namespace Go.Proofs.YtbcejfonkehjgaaGreatDoor
open Go.RowKit

def mwK (mc : Nat → Int) : Nat → Int := fun i => if i = 0 then 9 else mc i

set_option maxRecDepth 20000 in
set_option maxHeartbeats 8000000 in
theorem once18 {c : Nat → Int} {A A2 : Option Addr} {n cq m c2 : Nat} {hh : Nat → Hn} {f : Nat → A18} {mc : Nat → Int} {gr : Bool} {Bm : Option Addr} {km cm : Nat} {ml : List Int} {w : World} (hN : Nm w) (hn : n ≤ maxLen) (hr : Rv w w.heap.size A (hvs hh n)) (ca : A = none → cq = 0) (hm : m ≤ maxLen) (hac : Acts18 w A2 m f) (hg : ∀ i, i < m → (f i).Good w) (hmd : By w (fun j => w.heap.size ≤ j) (.slice Bm km cm) ml) (hmb : Byt ml) :
    Calls Tryz.prog 7 #[.agg (cfgC c A n cq), .slice A2 m c2, .agg (msgC mc gr Bm km cm)] w fun e w' => e = .returned (.bool true) ∧ Below w.heap.size w w' := by
  have hb1 := below_alloc w (.cells (cfgC c A n cq) 25)
  have hb2 := below_alloc (w.alloc (.cells (cfgC c A n cq) 25)) (.cells (msgC mc gr Bm km cm) 40)
  have hb0 := on hb1 hb2
  have HX0 := hid ((Bx.new w 25 (cfgC c A n cq)).next hb2)
  have HM0 := hid (Bx.new (w.alloc (.cells (cfgC c A n cq) 25)) 40 (msgC mc gr Bm km cm))
  rw [show (w.alloc (.cells (cfgC c A n cq) 25)).heap.size = w.heap.size + 1 from World.size_alloc _ _] at HM0
  have HB0 := hid hb0
  have HR0 := hid ((hr.below hb0 (Nat.le_refl _)).more hb0.size)
  have HN := hid hN
  have HAC := hid hac
  have HGD := hid hg
  have HCA := hid ca
  have HNN := hid hn
  have HMD := hid hmd
  have HMB := hid hmb
  have HLO := hid (fun (y : World) (hb : Below w.heap.size w y) => long18 (c := c) (A := A) (n := n) (cq := cq) (c2 := c2) hm (hac.below hb) fun i hi => (hg i hi).below hb)
  clear hr hb0 hb1 hb2 hac hg hm hN ca hn hmd hmb
  go_enter Tryz.func7, Tryz.ntmps7
  go_upto_region 1 with fail
  obtain ⟨W0, hW0⟩ : ∃ x, (w.alloc (.cells (cfgC c A n cq) 25)).alloc (.cells (msgC mc gr Bm km cm) 40) = x := ⟨_, rfl⟩
  obtain ⟨r0, hr0⟩ : ∃ x, w.heap.size = x := ⟨_, rfl⟩
  obtain ⟨rm, hrm⟩ : ∃ x, r0 + 1 = x := ⟨_, rfl⟩
  rw [hW0] at HB0 HX0 HM0 HR0 ⊢
  rw [hr0] at HX0 HM0 ⊢
  rw [hrm] at HM0 ⊢
  have HZ := hid hr0
  have HZM := hid hrm
  have HRL := hid HX0.out.lt
  have HRM := hid HM0.out.lt
  clear hW0 hr0 hrm
  go_upto_region 3 with (go_at_call 8; refine (wakes18 _ (HN.out.next HB0.out)).mono ?_; rintro e w1 ⟨rfl, hb⟩; have HB1 := hid hb; have HX1 := hid (HX0.out.next hb); have HR1 := hid (Rv.more (HR0.out.below hb (Nat.le_refl _)) hb.size); clear hb)
  go_wp2_with (refine wpList_load_bxg (by rfl) 25 (.tmp 3) rfl r0 _ _ _ rfl HX1.out Tryz.underlying25 rfl (by kernel_rfl) ?_)
  refine (HLO.out _ (on HB0.out HB1.out)).mono ?_
  rintro e w2 ⟨bl, rfl, hb, hl⟩
  have HB2 := hid (on HB1.out hb)
  have HX2 := hid (HX1.out.next hb)
  have HM2 := hid (HM0.out.next HB2.out)
  have HR2 := hid (Rv.more (HR1.out.below hb (Nat.le_refl _)) hb.size)
  have HLI := hid hl
  clear hb hl HX1 HR0 HR1 HB1 HLO
  cases bl with
  | true =>
    go_wp2
    go_ret
    exact ⟨rfl, on HB0.out HB2.out⟩
  | false =>
  have HLE := hid (HLI.out rfl)
  clear HLI
  have m10 : w2.cell? ⟨rm, 10, none⟩ = some (.slice Bm km cm) := HM2.out.cell 10
  by_cases h100 : 100 < km
  · have d100 : decide ((100 : Int) < (km : Int)) = true := decide_eq_true (by omega)
    clear h100
    go_wp2
    go_ret
    exact ⟨rfl, on HB0.out HB2.out⟩
  have d100 : decide ((100 : Int) < (km : Int)) = false := decide_eq_false (by omega)
  clear h100
  go_upto_region 5 with fail
  clear m10 d100
  by_cases rt : RightP c hh n
  rotate_left 1
  · have RT := hid rt
    clear rt
    refine wp_region_noPanic ?_
    refine wp_region_held_drew (S := fun y => y.rangeAt r0 0 (cfgC c A n cq).toList) (by kernel_rfl) ?_ (fun hHeld => ?_)
    · exact box_range HX2.out
    refine wpAnyH_take (i := 0) (oi := ⟨some 33, _, _, _, _, _⟩) (v := _) rfl (by kernel_rfl) (by kernel_rfl) (by kernel_rfl) (fun _ _ _ h => h) (yieldsIf_load_mid (by rfl) 25 (.tmp 3) rfl r0 0 rfl (cfgC c A n cq).toList _ (fun w hw => hw) Tryz.underlying25 rfl (by kernel_rfl)) (by assumption) ?_
    (try simp only [Act.put, List.setIfInBounds_toArray, List.set_cons_zero, List.set_cons_succ])
    refine wpAnyH_ready (rs := [1]) (by kernel_rfl) (by simp) ?_
    refine AllReadyH.cons (o := ⟨some 34, _, _, _, _, _⟩) rfl (fun K hK => ?_) AllReadyH.nil
    rw [if_pos (by rfl)]
    go_simp
    refine (disknew_any 64 _).mono ?_
    rintro e w3 ⟨kd, v, rfl, hk, hb⟩
    have HK3 := hid (show Dk w3 77 w2.heap.size kd v ⟨List.replicate 64 [], -1, false⟩ from hk)
    have HB3 := hid (below_of_drew hb)
    have HX3 := hid (HX2.out.next HB3.out)
    have HR3 := hid (Rv.more (HR2.out.below HB3.out (Nat.le_refl _)) HB3.out.size)
    have k3 := box_range HX3.out
    clear hk hb
    go_simp
    refine hK.out _ _ k3 (fun hHeld => ?_)
    clear hK K
    (try simp only [Act.put, List.setIfInBounds_toArray, List.set_cons_zero, List.set_cons_succ])
    refine wpAnyH_ready (rs := [2]) (by kernel_rfl) (by simp) ?_
    refine AllReadyH.cons (o := ⟨some 35, _, _, _, _, _⟩) rfl (fun K hK => ?_) AllReadyH.nil
    rw [if_pos (by rfl)]
    go_simp
    refine (anew_no HR3.out HNN.out RT.out _).mono ?_
    rintro e w4 ⟨rfl, hb⟩
    have HB4 := hid hb
    have k4 := box_range (HX3.out.next HB4.out)
    clear hb
    go_simp
    refine hK.out _ _ k4 (fun hHeld => ?_)
    clear hK K
    (try simp only [Act.put, List.setIfInBounds_toArray, List.set_cons_zero, List.set_cons_succ])
    refine wpAnyH_take (i := 3) (oi := ⟨some 32, _, _, _, _, _⟩) (v := ?_) rfl (by kernel_rfl) (by kernel_rfl) (by kernel_rfl) (fun _ _ _ h => h) (Or.inl ⟨by rfl, ?_⟩) (by assumption) ?_
    rotate_left 1
    · intro w0 hSw
      try dsimp only at hSw
      go_simp
      try with_reducible rfl
    (try simp only [Act.put, List.setIfInBounds_toArray, List.set_cons_zero, List.set_cons_succ])
    refine wpAnyH_take (i := 4) (oi := ⟨some 36, _, _, _, _, _⟩) (v := ?_) rfl (by kernel_rfl) (by kernel_rfl) (by kernel_rfl) (fun _ _ _ h => h) (Or.inl ⟨by rfl, ?_⟩) (by assumption) ?_
    rotate_left 1
    · intro w0 hSw
      try dsimp only at hSw
      go_simp
      try with_reducible rfl
    (try simp only [Act.put, List.setIfInBounds_toArray, List.set_cons_zero, List.set_cons_succ])
    refine wpAnyH_take (i := 5) (oi := ⟨some 37, _, _, _, _, _⟩) (v := ?_) rfl (by kernel_rfl) (by kernel_rfl) (by kernel_rfl) (fun _ _ _ h => h) (Or.inl ⟨by rfl, ?_⟩) (by assumption) ?_
    rotate_left 1
    · intro w0 hSw
      try dsimp only at hSw
      go_simp
      try with_reducible rfl
    (try simp only [Act.put, List.setIfInBounds_toArray, List.set_cons_zero, List.set_cons_succ])
    refine wpAnyH_take (i := 6) (oi := ⟨some 7, _, _, _, _, _⟩) (v := ?_) rfl (by kernel_rfl) (by kernel_rfl) (by kernel_rfl) (fun _ _ _ h => h) (Or.inl ⟨by rfl, ?_⟩) (by assumption) ?_
    rotate_left 1
    · intro w0 hSw
      try dsimp only at hSw
      go_simp
      try with_reducible rfl
    (try simp only [Act.put, List.setIfInBounds_toArray, List.set_cons_zero, List.set_cons_succ])
    refine wpAnyH_take (i := 7) (oi := ⟨some 8, _, _, _, _, _⟩) (v := ?_) rfl (by kernel_rfl) (by kernel_rfl) (by kernel_rfl) (fun _ _ _ h => h) (Or.inl ⟨by rfl, ?_⟩) (by assumption) ?_
    rotate_left 1
    · intro w0 hSw
      try dsimp only at hSw
      go_simp
      try with_reducible rfl
    (try simp only [Act.put, List.setIfInBounds_toArray, List.set_cons_zero, List.set_cons_succ])
    refine wpAnyH_done (by kernel_rfl) ?_ _
    refine NoPanic.normal ?_
    go_wp2
    go_ret
    exact ⟨rfl, on HB0.out (on HB2.out (on HB3.out HB4.out))⟩
  have RT := hid rt
  clear rt
  refine wp_region_noPanic ?_
  refine wp_region_held_drew (S := fun y => y.rangeAt r0 0 (cfgC c A n cq).toList) (by kernel_rfl) ?_ (fun hHeld => ?_)
  · exact box_range HX2.out
  refine wpAnyH_take (i := 0) (oi := ⟨some 33, _, _, _, _, _⟩) (v := _) rfl (by kernel_rfl) (by kernel_rfl) (by kernel_rfl) (fun _ _ _ h => h) (yieldsIf_load_mid (by rfl) 25 (.tmp 3) rfl r0 0 rfl (cfgC c A n cq).toList _ (fun w hw => hw) Tryz.underlying25 rfl (by kernel_rfl)) (by assumption) ?_
  (try simp only [Act.put, List.setIfInBounds_toArray, List.set_cons_zero, List.set_cons_succ])
  refine wpAnyH_ready (rs := [1]) (by kernel_rfl) (by simp) ?_
  refine AllReadyH.cons (o := ⟨some 34, _, _, _, _, _⟩) rfl (fun K hK => ?_) AllReadyH.nil
  rw [if_pos (by rfl)]
  go_simp
  refine (disknew_any 64 _).mono ?_
  rintro e w3 ⟨kd, v, rfl, hk, hb⟩
  have HK3 := hid (show Dk w3 77 w2.heap.size kd v ⟨List.replicate 64 [], -1, false⟩ from hk)
  have HB3 := hid (below_of_drew hb)
  have HX3 := hid (HX2.out.next HB3.out)
  have HR3 := hid (Rv.more (HR2.out.below HB3.out (Nat.le_refl _)) HB3.out.size)
  have k3 := box_range HX3.out
  clear hk hb
  go_simp
  refine hK.out _ _ k3 (fun hHeld => ?_)
  clear hK K
  (try simp only [Act.put, List.setIfInBounds_toArray, List.set_cons_zero, List.set_cons_succ])
  refine wpAnyH_ready (rs := [2]) (by kernel_rfl) (by simp) ?_
  refine AllReadyH.cons (o := ⟨some 35, _, _, _, _, _⟩) rfl (fun K hK => ?_) AllReadyH.nil
  rw [if_pos (by rfl)]
  go_simp
  refine (anew_new RT.out HR3.out HCA.out HK3.out (Z := fun j => j = rm) (fun j e => by have h7 := HRM.out; have h8 := (on HB2.out HB3.out).size; have h9 : j = rm := e; omega)).mono ?_
  rintro e w4 hq
  obtain ⟨Kq, rfl, ha, -, -, -, hc, -, -, hb, ho, hxm, hzx⟩ := hq.law (on HB2.out HB3.out) HK3.out HB2.out.size
  have HA := hid ha
  have HC := hid hc
  have HB4 := hid hb
  have HO := hid ho
  have HXM := hid hxm
  have HZX := hid hzx
  have HX4 := hid (HX0.out.next hb)
  have k4 := box_range HX4.out
  clear ha hc hb ho hxm hzx hq
  go_simp
  refine hK.out _ _ k4 (fun hHeld => ?_)
  clear hK K
  (try simp only [Act.put, List.setIfInBounds_toArray, List.set_cons_zero, List.set_cons_succ])
  refine wpAnyH_take (i := 3) (oi := ⟨some 32, _, _, _, _, _⟩) (v := ?_) rfl (by kernel_rfl) (by kernel_rfl) (by kernel_rfl) (fun _ _ _ h => h) (Or.inl ⟨by rfl, ?_⟩) (by assumption) ?_
  rotate_left 1
  · intro w0 hSw
    try dsimp only at hSw
    go_simp
    try with_reducible rfl
  (try simp only [Act.put, List.setIfInBounds_toArray, List.set_cons_zero, List.set_cons_succ])
  refine wpAnyH_take (i := 4) (oi := ⟨some 36, _, _, _, _, _⟩) (v := ?_) rfl (by kernel_rfl) (by kernel_rfl) (by kernel_rfl) (fun _ _ _ h => h) (Or.inl ⟨by rfl, ?_⟩) (by assumption) ?_
  rotate_left 1
  · intro w0 hSw
    try dsimp only at hSw
    go_simp
    try with_reducible rfl
  (try simp only [Act.put, List.setIfInBounds_toArray, List.set_cons_zero, List.set_cons_succ])
  refine wpAnyH_take (i := 5) (oi := ⟨some 37, _, _, _, _, _⟩) (v := ?_) rfl (by kernel_rfl) (by kernel_rfl) (by kernel_rfl) (fun _ _ _ h => h) (Or.inl ⟨by rfl, ?_⟩) (by assumption) ?_
  rotate_left 1
  · intro w0 hSw
    try dsimp only at hSw
    go_simp
    try with_reducible rfl
  (try simp only [Act.put, List.setIfInBounds_toArray, List.set_cons_zero, List.set_cons_succ])
  refine wpAnyH_take (i := 6) (oi := ⟨some 7, _, _, _, _, _⟩) (v := ?_) rfl (by kernel_rfl) (by kernel_rfl) (by kernel_rfl) (fun _ _ _ h => h) (Or.inl ⟨by rfl, ?_⟩) (by assumption) ?_
  rotate_left 1
  · intro w0 hSw
    try dsimp only at hSw
    go_simp
    try with_reducible rfl
  (try simp only [Act.put, List.setIfInBounds_toArray, List.set_cons_zero, List.set_cons_succ])
  refine wpAnyH_take (i := 7) (oi := ⟨some 8, _, _, _, _, _⟩) (v := ?_) rfl (by kernel_rfl) (by kernel_rfl) (by kernel_rfl) (fun _ _ _ h => h) (Or.inl ⟨by rfl, ?_⟩) (by assumption) ?_
  rotate_left 1
  · intro w0 hSw
    try dsimp only at hSw
    go_simp
    try with_reducible rfl
  (try simp only [Act.put, List.setIfInBounds_toArray, List.set_cons_zero, List.set_cons_succ])
  refine wpAnyH_done (by kernel_rfl) ?_ _
  refine NoPanic.normal ?_
  go_wp2
  go_loopg [42] m (fun gk tp wr => ∃ p : Nat, p + gk = m ∧ tp = .int .i64 p ∧ ∃ L X o D r, Lv18 w.heap.size W0 wr Kq r0 (cfgC c A n cq) L X o D (2 * p) r)
  case atStart => exact ⟨0, by omega, rfl, _, _, _, _, _, lv_new HA.out HC.out RT.out HB4.out HX4.out (fun j hj => HO.out j (.inl hj)) (fun j hj => (HXM.out j hj).elim (fun h => Nat.le_trans HB0.out.size (HO.out j (.inl h))) fun h => by have h7 := HZ.out; have h8 := HZM.out; have h9 : j = rm := h; omega) HRL.out⟩
  case round =>
    obtain ⟨p, hp, rfl, L, X, o, D, r, hlv⟩ := hrel
    have HLV := hid hlv
    clear hlv
    by_cases hlt : p < m
    · have hlt' : (p : Int) < (m : Int) := by omega
      obtain ⟨ad, rfl, hat⟩ := (HAC.out.below (on HB0.out HLV.out.bel)) p hlt
      have hgood := HGD.out p hlt
      have hlen := HLE.out.2.2 p hlt
      have hp100 : p < 100 := by have := HLE.out.2.1; omega
      obtain ⟨⟨fu, ⟨tc, tg, l⟩, Bq, bc⟩, hf⟩ : ∃ y, f p = y := ⟨_, rfl⟩
      rw [hf] at hat hgood hlen
      obtain ⟨c0, c1, c2', c3, c4, c5, c6, c7, c8, c9, c10, c11⟩ := hat.all
      dsimp only [A18.sl] at c0 c1 c2' c3 c4 c5 c6 c7 c8 c9 c10 c11
      obtain ⟨kl, hkl⟩ : ∃ x, l.length = x := ⟨_, rfl⟩
      rw [hkl] at c11
      have HGOOD := hid (fun (y : World) (hb : Below w.heap.size w y) => show By y Kq.X (.slice Bq kl bc) l from hkl ▸ (hgood.y.below hb).less fun j hj => HLV.out.xlo j hj)
      have HBYT := hid (show Byt l from hgood.b)
      obtain ⟨ra, hra⟩ : ∃ g, wr.heap.size = g := ⟨_, rfl⟩
      obtain ⟨W, hW⟩ : ∃ W, wr.alloc (.cells #[.int .i64 fu, .int .i64 (tc 0), .int .i64 (tc 1), .int .i64 (tc 2), .int .i64 (tc 3), .int .i64 (tc 4), .int .i64 (tc 5), .int .i64 (tc 6), .int .i64 (tc 7), .int .i64 (tc 8), .bool tg, .slice Bq kl bc] 42) = W := ⟨_, rfl⟩
      have BW : Below wr.heap.size wr W := by rw [← hW]; exact below_alloc _ _
      have HXW := hid (show Bx W ra 42 #[.int .i64 fu, .int .i64 (tc 0), .int .i64 (tc 1), .int .i64 (tc 2), .int .i64 (tc 3), .int .i64 (tc 4), .int .i64 (tc 5), .int .i64 (tc 6), .int .i64 (tc 7), .int .i64 (tc 8), .bool tg, .slice Bq kl bc] from by rw [← hW, ← hra]; exact Bx.new _ _ _)
      have HLW := hid (HLV.out.below BW)
      have HWW := hid hW
      have HGG := hid hra
      have HRA := hid (show W0.heap.size ≤ ra from by rw [← hra]; exact HLV.out.bel.size)
      have HBWR := hid BW
      clear BW hf hW hra hgood hkl hlen
      go_upto_region 11 with fail
      rw [HGG.out, HWW.out]
      clear c0 c1 c2' c3 c4 c5 c6 c7 c8 c9 c10 c11 HWW
      have HNA := hid (show ¬ Kq.mine ra from fun hj => by have h7 := HLV.out.am.cm.lt _ (HLV.out.am.mine_x _ hj); rw [HGG.out] at h7; omega)
      have x1 : W.cell? ⟨ra, 1, none⟩ = some (.int .i64 (tc 0)) := HXW.out.cell 1
      have x2 : W.cell? ⟨ra, 2, none⟩ = some (.int .i64 (tc 1)) := HXW.out.cell 2
      have x3 : W.cell? ⟨ra, 3, none⟩ = some (.int .i64 (tc 2)) := HXW.out.cell 3
      have x4 : W.cell? ⟨ra, 4, none⟩ = some (.int .i64 (tc 3)) := HXW.out.cell 4
      have x5 : W.cell? ⟨ra, 5, none⟩ = some (.int .i64 (tc 4)) := HXW.out.cell 5
      have x6 : W.cell? ⟨ra, 6, none⟩ = some (.int .i64 (tc 5)) := HXW.out.cell 6
      have x7 : W.cell? ⟨ra, 7, none⟩ = some (.int .i64 (tc 6)) := HXW.out.cell 7
      have x8 : W.cell? ⟨ra, 8, none⟩ = some (.int .i64 (tc 7)) := HXW.out.cell 8
      have x9 : W.cell? ⟨ra, 9, none⟩ = some (.int .i64 (tc 8)) := HXW.out.cell 9
      have x10 : W.cell? ⟨ra, 10, none⟩ = some (.bool tg) := HXW.out.cell 10
      have x11 : W.cell? ⟨ra, 11, none⟩ = some (.slice Bq kl bc) := HXW.out.cell 11
      have HHE := hid (show Calls Tryz.prog 15 #[Kq.ptr, .agg #[.int .i64 (tc 0), .int .i64 (tc 1), .int .i64 (tc 2), .int .i64 (tc 3), .int .i64 (tc 4), .int .i64 (tc 5), .int .i64 (tc 6), .int .i64 (tc 7), .int .i64 (tc 8), .bool tg, .slice Bq kl bc]] W _ from ahear_any (mc := tc) (gr := tg) (n := kl) (cp := bc) HLW.out.am (HN.out.next (on HB0.out HLW.out.bel)) HLW.out.fine (by omega) (by have := HLW.out.rr; omega) (HGOOD.out W (on HB0.out HLW.out.bel)) HBYT.out)
      go_wp2_with fail
      refine HHE.out.mono ?_
      rintro e W2 hq
      have hqc := hq.chg
      obtain ⟨u, L', rfl, hlv, htl, hbt⟩ := HLW.out.hear hq
      have HXA := hid (hqc.bx HXW.out HNA.out)
      obtain ⟨⟨⟨X2, o2, D2, r2⟩, tl⟩, hpq⟩ : ∃ q, hearF Kq.c ⟨X, o, D, r⟩ ⟨tc, tg, l⟩ = q := ⟨_, rfl⟩
      rw [hpq] at hlv htl hbt
      dsimp only at hlv htl hbt
      have HPQ := hid hpq
      have HL2 := hid hlv
      clear hlv hbt htl
      clear hq hpq hqc
      clear x1 x2 x3 x4 x5 x6 x7 x8 x9 x10 x11
      go_wp2
      go_roundg (gk - 1)
      case measure => omega
      case rel => exact ⟨p + 1, by omega, by go_num, _, _, _, _, _, HL2.out⟩
    · have hlt' : ¬ (p : Int) < (m : Int) := by omega
      have hp100 : p ≤ 100 := by have := HLE.out.2.1; omega
      have hMr : Bx wr rm 40 (msgC mc gr Bm km cm) := HM0.out.next HLV.out.bel
      have f0 : wr.frozen? ⟨rm, 0, none⟩ = false := hMr.free 0
      have m0 : wr.cell? ⟨rm, 0, none⟩ = some (.int .i64 (mc 0)) := hMr.cell 0
      go_upto_region 14 with fail
      have hsc := set_chg wr ⟨rm, 0, none⟩ (.int .i64 9)
      have hnm : ∀ j, j = rm → ¬ Kq.mine j ∧ j ≠ Kq.ks := fun j e => ⟨fun hj => by have h7 := HO.out j (.inl hj); have h8 := HRM.out; omega, fun hj => by have h7 := HO.out j (.inr hj); have h8 := HRM.out; omega⟩
      have ha1 := HLV.out.am.other hsc (fun j e => HZX.out j e) hnm
      have hM1 := hMr.set 0 (.int .i64 9)
      have hbw : Below w.heap.size w (wr.setCell ⟨rm, 0, none⟩ (.int .i64 9)) := below_set (on HB0.out HLV.out.bel) _ _ (by have h7 := HZ.out; have h8 := HZM.out; show w.heap.size ≤ rm; omega)
      obtain ⟨W1, hW1⟩ : ∃ x, wr.setCell ⟨rm, 0, none⟩ (.int .i64 9) = x := ⟨_, rfl⟩
      rw [hW1] at ha1 hM1 hbw ⊢
      have HA1 := hid ha1
      have HM1 := hid (show Bx W1 rm 40 (msgC (mwK mc) gr Bm km cm) from hM1)
      have HBW := hid hbw
      have HNM := hid (fun hj : Kq.mine rm => (hnm rm rfl).1 hj)
      have HY := hid (fun (y : World) (hb : Below w.heap.size w y) => show By y Kq.X (.slice Bm km cm) ml from (HMD.out.below hb).less fun j hj => HLV.out.xlo j hj)
      have HRR := hid HLV.out.rr
      have HDZ := hid HLV.out.dz
      have HF1 := hid HLV.out.fine
      have HLO := hid (fun j (hj : Kq.mine j) => show w.heap.size ≤ j from Nat.le_trans HB0.out.size (HO.out j (.inl hj)))
      clear f0 m0 hsc hnm ha1 hM1 hbw hW1 hMr HLV
      have HH1 := hid (ahear_any (mc := mwK mc) (gr := gr) HA1.out (HN.out.next HBW.out) HF1.out (by omega) (by have := HRR.out; omega) (HY.out W1 HBW.out) HMB.out)
      go_wp2_with (refine wpList_load_bx rfl 40 (.tmp 5) rfl rm _ _ _ rfl HM1.out Tryz.underlying40 rfl (by kernel_rfl) ?_)
      refine HH1.out.mono ?_
      rintro e W2 ⟨u, L1, f1, rfl, hc1, hq1⟩
      have HC1 := hid hc1
      have HQ1 := hid (hq1.resolve_right fun h => absurd h.1 (by omega))
      clear hc1 hq1 HH1
      obtain ⟨ha2, hf2, hf1, htl⟩ := HQ1.out
      obtain rfl := hf1 (by omega)
      have HBK := hid (fun t ht => once_book (c := Kq.c) (s := ⟨X, o, D, r⟩) (m := ⟨mwK mc, gr, ml⟩) rfl t ht)
      have hrb := (hear_bound (r := r) (c := Kq.c) (o := o) (D := D) (X := X) HA1.out.o18 (fun b => fine_len HA1.out HF1.out b) HDZ.out ⟨mwK mc, gr, ml⟩).2.2
      obtain ⟨⟨⟨X1, o1, D1, r1⟩, tl⟩, hp1⟩ : ∃ q, hearF Kq.c ⟨X, o, D, r⟩ ⟨mwK mc, gr, ml⟩ = q := ⟨_, rfl⟩
      rw [hp1] at ha2 hf2 htl HBK hrb
      dsimp only at ha2 hf2 htl HBK hrb
      have HA2 := hid ha2
      have HF2 := hid hf2
      have HRB := hid hrb
      obtain ⟨A5, c5, rfl, h5a, h5b, -, h5d⟩ := htl.at_
      have HTD := hid h5d
      have HB2 := hid (HBW.out.trans (HC1.out.bel HBW.out.size HLO.out))
      have HM2 := hid (HC1.out.bx HM1.out HNM.out)
      obtain ⟨n1, hn1⟩ : ∃ n, tl.length = n := ⟨_, rfl⟩
      have h5m : n1 ≤ 9223372036854775807 := by unfold maxLen at h5b; omega
      rw [hn1]
      have HN1 := hid hn1
      clear ha2 hf2 htl hf1 hrb h5a h5b h5d hn1 HQ1 hp1 HDZ HF1
      by_cases h0 : n1 = 0
      · subst h0
        go_wp2
        go_ret
        exact ⟨rfl, HB2.out⟩
      have q0 : ((n1 : Int) == 0) = false := by simpa using (show ¬ (n1 : Int) = 0 by omega)
      obtain ⟨k, hk⟩ : ∃ k : Nat, n1 = k + 1 := ⟨n1 - 1, by omega⟩
      have hk1 : (n1 : Int) - 1 = (k : Int) := by omega
      have hkn : (k : Int) < (n1 : Int) := by omega
      obtain ⟨t, ht⟩ : ∃ t, tl[k]? = some t := ⟨_, List.getElem?_eq_getElem (by have := HN1.out; omega)⟩
      have HBT := hid (HBK.out t (by rw [List.getLast?_eq_getElem?, HN1.out, show n1 - 1 = k by omega]; exact ht))
      obtain ⟨ad5, u5, rfl, hat5⟩ := HTD.out k t ht
      obtain ⟨A7, c7, rfl, -⟩ := id hat5.y
      obtain ⟨tc, tg, tl7⟩ := t
      obtain ⟨e0, e1, e2, e3, e4, e5, e6, e7, e8, e9, e10⟩ := hat5.all
      dsimp only at e0 e1 e2 e3 e4 e5 e6 e7 e8 e9 e10 HBT
      obtain ⟨rd, hrd⟩ : ∃ g, W2.heap.size = g := ⟨_, rfl⟩
      obtain ⟨W3, hW3⟩ : ∃ x, W2.alloc (.cells #[.int .i64 (tc 0), .int .i64 (tc 1), .int .i64 (tc 2), .int .i64 (tc 3), .int .i64 (tc 4), .int .i64 (tc 5), .int .i64 (tc 6), .int .i64 (tc 7), .int .i64 (tc 8), .bool tg, .slice A7 tl7.length c7] 40) = x := ⟨_, rfl⟩
      have BW3 : Below W2.heap.size W2 W3 := by rw [← hW3]; exact below_alloc _ _
      have HX3 := hid (show Bx W3 rd 40 #[.int .i64 (tc 0), .int .i64 (tc 1), .int .i64 (tc 2), .int .i64 (tc 3), .int .i64 (tc 4), .int .i64 (tc 5), .int .i64 (tc 6), .int .i64 (tc 7), .int .i64 (tc 8), .bool tg, .slice A7 tl7.length c7] from by rw [← hW3, ← hrd]; exact Bx.new _ _ _)
      have HB3 := hid BW3
      have HW3 := hid hW3
      have HRD := hid hrd
      clear hat5 BW3 hW3 hrd ht h0 hk HBK HTD HN1
      go_upto_region 18 with fail
      rw [HRD.out, HW3.out]
      clear e0 e1 e2 e3 e4 e5 e6 e7 e8 e9 e10 HW3 hk1 hkn
      have HA3 := hid (HA2.out.below HB3.out)
      have HNRD := hid (show ¬ Kq.mine rd from fun hj => by have h7 := HA2.out.cm.lt _ (HA2.out.mine_x _ hj); rw [HRD.out] at h7; omega)
      have HBL := hid (ablocks_rv HA3.out)
      have HM3 := hid (HM2.out.next HB3.out)
      go_wp2_with fail
      refine HBL.out.mono ?_
      rintro e W4 ⟨A6, c6, rfl, hr6, hb4, hn6⟩
      have HR4 := hid hr6
      have HB4 := hid hb4
      have HA4 := hid (HA3.out.below hb4)
      have HM4 := hid (HM3.out.next hb4)
      have HX4 := hid (HX3.out.next hb4)
      have HN6 := hid (fun ad ea hj => by have h7 := HA3.out.cm.lt _ (HA3.out.mine_x _ hj); have h8 := hn6 ad ea; exact absurd h7 (by omega) : ∀ ad, A6 = some ad → ¬ Kq.mine ad.block)
      clear hr6 hb4 hn6 HBL HM3 HX3
      obtain ⟨va, hva⟩ : ∃ v, vrs Kq.c ⟨mwK mc, gr, ml⟩ X1 = v := ⟨_, rfl⟩
      have HV1 := hid (show rdV Kq.c ⟨L1, -1, false⟩ (mc 5) = va from (rdV_vrs (mc := mwK mc) (gr := gr) (ml := ml) HA4.out HF2.out).trans hva)
      have HVA := hid hva
      have HST := hid (astored_any HA4.out (mc 5))
      rw [HV1.out] at HST
      have m5 : W4.cell? ⟨rm, 5, none⟩ = some (.int .i64 (mc 5)) := HM4.out.cell 5
      clear hva
      go_wp2_with fail
      refine HST.out.mono ?_
      rintro e W5 ⟨u7, rfl, -, hb5⟩
      have HB5 := hid hb5
      have HA5 := hid (HA4.out.below hb5)
      have HM5 := hid (HM4.out.next hb5)
      have HX5 := hid (HX4.out.next hb5)
      have HR5 := hid (Rv.now HR4.out hb5)
      have HBW5 := hid (on (on (on HB2.out HB3.out) HB4.out) hb5)
      clear hb5 m5 HST HM4 HX4 HR4
      have HH2 := hid (ahear_any (mc := mwK mc) (gr := gr) HA5.out (HN.out.next HBW5.out) HF2.out (by omega) (by have := HRR.out; have := HRB.out; omega) (HY.out W5 HBW5.out) HMB.out)
      go_wp2_with (refine wpList_load_bx rfl 40 (.tmp 5) rfl rm _ _ _ rfl HM5.out Tryz.underlying40 rfl (by kernel_rfl) ?_)
      refine HH2.out.mono ?_
      rintro e W6 ⟨u, L2, f2, rfl, hc2, hq2⟩
      have HC2 := hid hc2
      have HQ2 := hid (hq2.resolve_right fun h => absurd h.1 (by omega))
      clear hc2 hq2 HH2
      obtain ⟨ha6, hf6, hf7, htl⟩ := HQ2.out
      obtain rfl := hf7 (by omega)
      obtain ⟨⟨⟨X2, o2, D2, r2⟩, tl2⟩, hp2⟩ : ∃ q, hearF Kq.c ⟨X1, o1, D1, r1⟩ ⟨mwK mc, gr, ml⟩ = q := ⟨_, rfl⟩
      rw [hp2] at ha6 hf6 htl HBT
      dsimp only at ha6 hf6 htl HBT
      obtain ⟨b1, b2, b3, b4⟩ := HBT.out
      subst b1
      have HA6 := hid ha6
      have HF6 := hid hf6
      have HO2 := hid b2
      have HG2 := hid b4
      have HV2 := hid (show rdV Kq.c ⟨L2, -1, false⟩ (mc 5) = va from (rdV_vrs (mc := mwK mc) (gr := gr) (ml := ml) ha6 hf6).trans (b3.trans HVA.out))
      obtain ⟨A8, c8, rfl, -, h8b, -, h8d⟩ := htl.at_
      obtain ⟨ad8, u8, rfl, hat8⟩ := h8d 0 _ rfl
      have HT8 := hid (show TmAt W6 Kq.X ad8 (tmW (mwK mc) (tc 8) false) u8 from hat8)
      have HB6 := hid (HBW5.out.trans (HC2.out.bel HBW5.out.size HLO.out))
      have HM6 := hid (HC2.out.bx HM5.out HNM.out)
      have HX6 := hid (HC2.out.bx HX5.out HNRD.out)
      have HR6 := hid (HC2.out.rv HR5.out HN6.out)
      clear ha6 hf6 hf7 htl b2 b3 b4 h8b h8d hat8 HQ2 hp2 HBT HM5 HX5 HR5
      have hl8 : (([tmW (mwK mc) (tc 8) false].length : Nat) : Int) = 1 := rfl
      have HST2 := hid (astored_any HA6.out (mc 5))
      rw [HV2.out] at HST2
      have m5 : W6.cell? ⟨rm, 5, none⟩ = some (.int .i64 (mc 5)) := HM6.out.cell 5
      go_wp2_with fail
      refine HST2.out.mono ?_
      rintro e W7 ⟨u9, rfl, -, hb7⟩
      have HB7 := hid (on HB6.out hb7)
      have HA7 := hid (HA6.out.below hb7)
      have HX7 := hid (HX6.out.next hb7)
      have HR7 := hid (Rv.now HR6.out hb7)
      have HT7 := hid (HT8.out.mono hb7)
      clear hb7 m5 HST2 HX6 HR6 HT8
      have t8 : W7.cell? ⟨ad8.block, ad8.off + 8, none⟩ = some (.int .i64 (tc 8)) := HT7.out.all.2.2.2.2.2.2.2.2.1
      have t9 : W7.cell? ⟨ad8.block, ad8.off + 9, none⟩ = some (.bool false) := HT7.out.all.2.2.2.2.2.2.2.2.2.1
      have d8 : W7.cell? ⟨rd, 8, none⟩ = some (.int .i64 (tc 8)) := HX7.out.cell 8
      have HL16 := hid (show o2.all.length ≤ maxLen from Nat.le_trans HA7.out.len16 (by unfold maxLen; omega))
      have HOL := hid (show o2.all = o1.all from by rw [HO2.out])
      have hadlt : ad8.block < W7.heap.size := HT7.out.lt
      go_upto_region 22 with fail
      go_region_held3 (fun y => y.cell? ⟨ad8.block, ad8.off + 9, none⟩ = some (.bool false) ∧ y.cell? ⟨ad8.block, ad8.off + 8, none⟩ = some (.int .i64 (tc 8)) ∧ y.cell? ⟨rd, 8, none⟩ = some (.int .i64 (tc 8))) (first | exact kp | exact ⟨t9, t8, d8⟩) (first
        | (go_at_call 19; (refine (ablocks_rv (HA7.out.draws 1)).mono ?_); rintro e W8 ⟨A9, c9, rfl, hr9, hb8, -⟩; have HR9 := hid hr9; have HB8 := hid (below_of_drew hb8); have HX8 := hid (HX7.out.next HB8.out); have HT9 := hid (HT7.out.mono HB8.out); have HRB8 := hid (Rv.now HR7.out HB8.out); have kp := And.intro HT9.out.all.2.2.2.2.2.2.2.2.2.1 (And.intro HT9.out.all.2.2.2.2.2.2.2.2.1 (HX8.out.cell 8)); clear hr9 hb8)
        | (go_at_call 18; (refine (sameints_yes A9 A6 _ _ c9 c6 o2.all _ _ _ rfl (by rw [HOL.out]) HL16.out HR9.out (by rw [HOL.out]; exact HRB8.out)).mono ?_); rintro e W9 ⟨rfl, k9, rfl⟩))
      have hvv : ((va : Int) == va) = true := by simp
      have d9 : (W8.drewN k9).cell? ⟨rd, 9, none⟩ = some (.bool tg) := HX8.out.cell 9
      replace d8 : (W8.drewN k9).cell? ⟨rd, 8, none⟩ = some (.int .i64 (tc 8)) := HX8.out.cell 8
      clear t8 t9 kp hadlt
      cases tg with
      | true =>
        have z8 : ((tc 8 : Int) == 0) = true := by simpa using HG2.out rfl
        go_wp2
        go_ret
        exact ⟨rfl, below_draws (on HB7.out HB8.out) k9⟩
      | false =>
        go_wp2
        go_ret
        exact ⟨rfl, below_draws (on HB7.out HB8.out) k9⟩
end Go.Proofs.YtbcejfonkehjgaaGreatDoor
