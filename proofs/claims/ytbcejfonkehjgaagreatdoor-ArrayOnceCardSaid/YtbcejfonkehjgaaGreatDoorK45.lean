/-
  What is proved: what an array tells of a read, and has behind it. Conditions: as many as 10000000 uses, 1000000000 reads at most.
-/
import Derived.Test.YtbcejfonkehjgaaGreatDoorK41
import Derived.Test.YtbcejfonkehjgaaGreatDoorK44
import Derived.Test.YtbcejfonkehjgaaGreatDoorK39
import Derived.Test.YtbcejfonkehjgaaGreatDoorK42
namespace Go.Proofs.YtbcejfonkehjgaaGreatDoor
open Go.RowKit

section
variable {w w' : World} {K : AC} {st : St} {o o' : Ob} {D D' : Int → List Int} {B B' : Nat} {r : Int} {dn : Bool} {mc : Nat → Int} {gr : Bool} {A : Option Addr} {n cp : Nat} {X : RS} {ml : List Int}
def RdQ (w : World) (K : AC) (st : St) (B : Nat) (dn : Bool) (p : S18 × List Tm) (e : Ending) (w' : World) : Prop :=
  ∃ u, e = .returned u ∧ Am w' K st p.1.o p.1.D (B + 2) p.1.r dn ∧ Chg w w' K.mine K.mine ∧ Tlv w' w.heap.size K.X u p.2
theorem own_mine (K : AC) : ∀ j, K.own j → K.mine j := fun _ hj => .inl hj
theorem hdT_len (c : Nat → Int) (o : Ob) (b lv : Int) (k : Nat) : (hdT c o b lv k).length ≤ 1 := by
  unfold hdT
  split
  · simp
  · split <;> simp
theorem Tlv.low {b b' : Nat} {X : Nat → Prop} {v : Value} {L : List Tm} (h : Tlv w b X v L) (hb : b' ≤ b) : Tlv w b' X v L := by
  obtain ⟨us, h1, h2, h3⟩ := h
  refine ⟨us, h1, ⟨h2.1, ?_⟩, h3⟩
  rcases h2.2 with hn | ⟨g, cap, cur, hv, hb2, rest⟩
  · exact .inl hn
  · exact .inr ⟨g, cap, cur, hv, Nat.le_trans hb hb2, rest⟩
theorem tcl_one {u : Value} (t : Tm) (h : u.oneCell' = true) : ∀ y ∈ tcl t u, y.oneCell' = true := fun y hy => by
  unfold tcl at hy
  simp only [List.mem_cons, List.not_mem_nil, or_false] at hy
  rcases hy with rfl | rfl | rfl | rfl | rfl | rfl | rfl | rfl | rfl | rfl | rfl
  all_goals first | rfl | exact h
set_option maxRecDepth 20000 in
set_option maxHeartbeats 2000000 in
theorem aread_had2 (h : Am w K st o D B r dn) (hB : B ≤ 9000000) (hin : mc 5 ∈ o.all) (h4 : K.c 4 = 2) : Calls Tryz.prog 62 #[K.ptr, .agg (msgC mc gr A n cp)] w (RdQ w K st B dn (⟨X, hdO K.c (o.use (mc 5)) (mc 5) (mc 6) (D (mc 5)).length, hdD K.c (o.use (mc 5)) D (mc 5) (mc 6) (D (mc 5)), r⟩, hdT K.c (o.use (mc 5)) (mc 5) (mc 6) (D (mc 5)).length ++ [tmD (mc 5) (D (mc 5))])) := by
  have HMEM := hid hin
  have HIN := hid (dec_true hin)
  have d4 : ((K.c 4 : Int) == 2) = true := by simpa using h4
  have HB9 := hid hB
  replace hB : B ≤ 10000000 := by omega
  clear hin h4
  unfold AC.ptr
  have hb0 := below_alloc w (.cells (msgC mc gr A n cp) 40)
  have HX0 := hid (Bx.new w 40 (msgC mc gr A n cp))
  have HB0 := hid hb0
  have H0 := hid (h.below hb0)
  have HNP := hid (show ∀ j, K.X j → j ≠ w.heap.size from fun j hj => by have := h.cm.lt j hj; omega)
  have HBB := hid hB
  clear hb0 h hB
  go_enter Tryz.func62, Tryz.ntmps62
  go_upto_region 1 with fail
  obtain ⟨W0, hW0⟩ : ∃ x, w.alloc (.cells (msgC mc gr A n cp) 40) = x := ⟨_, rfl⟩
  obtain ⟨p, hp⟩ : ∃ x, w.heap.size = x := ⟨_, rfl⟩
  rw [hW0] at HX0 HB0 H0 ⊢
  rw [hp] at HX0 HNP ⊢
  have HW := hid hp
  clear hW0 hp
  have y5 : W0.cell? ⟨p, 5, none⟩ = some (.int .i64 (mc 5)) := HX0.out.cell 5
  have yG : W0.cell? ⟨K.g, 2, none⟩ = some (.pointer (some ⟨K.G, 0, none⟩)) := H0.out.bx.cell 2
  go_region_held3 (fun y => y.cell? ⟨p, 5, none⟩ = some (.int .i64 (mc 5)) ∧ y.cell? ⟨K.g, 2, none⟩ = some (.pointer (some ⟨K.G, 0, none⟩))) (first | exact kp | exact ⟨y5, yG⟩) ((go_at_call 88; refine (cuse_any (H0.out.draws 1) HBB.out (mc 5)).mono ?_; rintro e W1 ⟨u1, rfl, ha, hc, hy, hn⟩; rw [HIN.out]; have H1 := hid ha; have HC1 := hid hc; obtain ⟨A5, c5, rfl, -⟩ := id (hy HMEM.out); have HY := hid (hy HMEM.out); have HX1 := hid (hc.bx (HX0.out.draws 1) (fun ho => HNP.out p (H0.out.mine_x p (.inl ho)) rfl)); have kp := And.intro (HX1.out.cell 5) (ha.bx.cell 2); clear ha hc hy hn))
  have HCC := hid ((Chg.of HB0.out K.own).trans ((Chg.of (below_draws (Below.refl _ _) 1) K.own).trans HC1.out))
  clear kp y5 yG HC1 HX0 H0 HIN
  have g0 : W1.cell? ⟨K.g, 0, none⟩ = some (.int .i64 (K.c 4)) := H1.out.bx.cell 0
  go_upto_region 10 with fail
  clear g0
  have x5 : W1.cell? ⟨p, 5, none⟩ = some (.int .i64 (mc 5)) := HX1.out.cell 5
  have x6 : W1.cell? ⟨p, 6, none⟩ = some (.int .i64 (mc 6)) := HX1.out.cell 6
  have HH := hid (hold_any H1.out (by have := HB9.out; omega) HY.out (mc 5) (mc 6))
  obtain ⟨tl, htl⟩ : ∃ t, hdT K.c (o.use (mc 5)) (mc 5) (mc 6) (D (mc 5)).length = t := ⟨_, rfl⟩
  have HTL := hid (show tl.length ≤ 1 from htl ▸ hdT_len _ _ _ _ _)
  have HTLE := hid htl
  rw [htl] at HH
  clear htl
  go_upto_region 11 with (go_at_call 89; refine HH.out.mono ?_; rintro e W4 ⟨u4, rfl, ha, hc, ht⟩; have H4 := hid ha; have HC4 := hid hc; have HT4 := hid ht; clear ha hc ht)
  have HX4 := hid (HC4.out.bx HX1.out (fun ho => HNP.out p (H1.out.mine_x p (.inl ho)) rfl))
  clear x5 x6 HH
  have x5 : W4.cell? ⟨p, 5, none⟩ = some (.int .i64 (mc 5)) := HX4.out.cell 5
  obtain ⟨us, hul, hown, hby⟩ := HT4.out
  have HUL := hid hul
  have HOW := hid hown
  have HBU := hid hby
  have HBS := hid HC4.out.size
  have HB5 := hid (below_alloc W4 (.cells (tcl (tmD (mc 5) (D (mc 5))) (.slice A5 (D (mc 5)).length c5)).toArray 40))
  clear hul hown hby
  go_wp2_with (at_builtin; (refine wpList_appV elt_msg rfl (.tmp 63) (.tmp 68) rfl W1.heap.size u4 tl.length (tcs tl us) (HOW.out.below HB5.out) rfl (W4.heap.size + 1) (some ⟨W4.heap.size, 0, none⟩) 1 1 (tcl (tmD (mc 5) (D (mc 5))) (.slice A5 (D (mc 5)).length c5)) rfl rfl (rv_new W4 _ _) (tcl_one _ rfl) (by have := HTL.out; unfold maxLen; omega) (by have := HTL.out; omega) (Nat.le_trans HBS.out HB5.out.size) ?_); intro v2 w2 ho2 hg2; have HO2 := hid ho2; have HG2 := hid hg2; clear ho2 hg2)
  have HTA := hid (told_app (t := tmD (mc 5) (D (mc 5))) H1.out H4.out HC4.out HT4.out HB5.out HUL.out HBU.out HY.out HO2.out HG2.out)
  go_ret
  have h9 := HTA.out.2.1.low HCC.out.size
  rw [← HTLE.out] at h9
  exact ⟨_, rfl, HTA.out.1, (HCC.out.trans HTA.out.2.2).wide (own_mine K), h9⟩
set_option maxRecDepth 20000 in
set_option maxHeartbeats 2000000 in
theorem aread_had (h : Am w K st o D B r dn) (hB : B ≤ 10000000) (hin : mc 5 ∈ o.all) (h4 : ¬ K.c 4 = 2) : Calls Tryz.prog 62 #[K.ptr, .agg (msgC mc gr A n cp)] w (RdQ w K st B dn (⟨X, o.use (mc 5), D, r⟩, [tmD (mc 5) (D (mc 5))])) := by
  have HMEM := hid hin
  have HIN := hid (dec_true hin)
  have d4 : ((K.c 4 : Int) == 2) = false := by simpa using h4
  clear hin h4
  unfold AC.ptr
  have hb0 := below_alloc w (.cells (msgC mc gr A n cp) 40)
  have HX0 := hid (Bx.new w 40 (msgC mc gr A n cp))
  have HB0 := hid hb0
  have H0 := hid (h.below hb0)
  have HNP := hid (show ∀ j, K.X j → j ≠ w.heap.size from fun j hj => by have := h.cm.lt j hj; omega)
  have HBB := hid hB
  clear hb0 h hB
  go_enter Tryz.func62, Tryz.ntmps62
  go_upto_region 1 with fail
  obtain ⟨W0, hW0⟩ : ∃ x, w.alloc (.cells (msgC mc gr A n cp) 40) = x := ⟨_, rfl⟩
  obtain ⟨p, hp⟩ : ∃ x, w.heap.size = x := ⟨_, rfl⟩
  rw [hW0] at HX0 HB0 H0 ⊢
  rw [hp] at HX0 HNP ⊢
  have HW := hid hp
  clear hW0 hp
  have y5 : W0.cell? ⟨p, 5, none⟩ = some (.int .i64 (mc 5)) := HX0.out.cell 5
  have yG : W0.cell? ⟨K.g, 2, none⟩ = some (.pointer (some ⟨K.G, 0, none⟩)) := H0.out.bx.cell 2
  go_region_held3 (fun y => y.cell? ⟨p, 5, none⟩ = some (.int .i64 (mc 5)) ∧ y.cell? ⟨K.g, 2, none⟩ = some (.pointer (some ⟨K.G, 0, none⟩))) (first | exact kp | exact ⟨y5, yG⟩) ((go_at_call 88; refine (cuse_any (H0.out.draws 1) HBB.out (mc 5)).mono ?_; rintro e W1 ⟨u1, rfl, ha, hc, hy, hn⟩; rw [HIN.out]; have H1 := hid ha; have HC1 := hid hc; obtain ⟨A5, c5, rfl, -⟩ := id (hy HMEM.out); have HY := hid (hy HMEM.out); have HX1 := hid (hc.bx (HX0.out.draws 1) (fun ho => HNP.out p (H0.out.mine_x p (.inl ho)) rfl)); have kp := And.intro (HX1.out.cell 5) (ha.bx.cell 2); clear ha hc hy hn))
  have HCC := hid ((Chg.of HB0.out K.own).trans ((Chg.of (below_draws (Below.refl _ _) 1) K.own).trans HC1.out))
  clear kp y5 yG HC1 HX0 H0 HIN
  have g0 : W1.cell? ⟨K.g, 0, none⟩ = some (.int .i64 (K.c 4)) := H1.out.bx.cell 0
  go_upto_region 11 with fail
  clear g0
  have H4 := hid H1.out.nil
  have HC4 := hid (Chg.refl W1 K.own)
  have HT4 := hid (tlv_nil W1 W1.heap.size (K.and (.slice none 0 0)).X)
  have HX4 := HX1
  have HTL := hid (show ([] : List Tm).length ≤ 1 from Nat.zero_le _)
  have x5 : W1.cell? ⟨p, 5, none⟩ = some (.int .i64 (mc 5)) := HX4.out.cell 5
  obtain ⟨us, hul, hown, hby⟩ := HT4.out
  have HUL := hid hul
  have HOW := hid hown
  have HBU := hid hby
  have HBS := hid HC4.out.size
  have HB5 := hid (below_alloc W1 (.cells (tcl (tmD (mc 5) (D (mc 5))) (.slice A5 (D (mc 5)).length c5)).toArray 40))
  clear hul hown hby
  go_wp2_with (at_builtin; (refine wpList_appV elt_msg rfl (.tmp 63) (.tmp 68) rfl W1.heap.size (.slice none 0 0) ([] : List Tm).length (tcs ([] : List Tm) us) (HOW.out.below HB5.out) rfl (W1.heap.size + 1) (some ⟨W1.heap.size, 0, none⟩) 1 1 (tcl (tmD (mc 5) (D (mc 5))) (.slice A5 (D (mc 5)).length c5)) rfl rfl (rv_new W1 _ _) (tcl_one _ rfl) (by have := HTL.out; unfold maxLen; omega) (by have := HTL.out; omega) (Nat.le_trans HBS.out HB5.out.size) ?_); intro v2 w2 ho2 hg2; have HO2 := hid ho2; have HG2 := hid hg2; clear ho2 hg2)
  have HTA := hid (told_app (t := tmD (mc 5) (D (mc 5))) H1.out H4.out HC4.out HT4.out HB5.out HUL.out HBU.out HY.out HO2.out HG2.out)
  go_ret
  exact ⟨_, rfl, HTA.out.1.up (Nat.le_succ _), (HCC.out.trans HTA.out.2.2).wide (own_mine K), HTA.out.2.1.low (by have := HCC.out.size; exact this)⟩
set_option maxRecDepth 20000 in
set_option maxHeartbeats 2000000 in
theorem aread_no (h : Am w K st o D B r dn) (hB : B ≤ 10000000) (_ : 0 ≤ mc 5) (hb2 : ¬ mc 5 < K.c 2) : Calls Tryz.prog 62 #[K.ptr, .agg (msgC mc gr A n cp)] w (RdQ w K st B dn (⟨X, o.use (mc 5), D, r⟩, [tmE (mc 5)])) := by
  have HMEM := hid (fun hin => hb2 (h.dom _ hin).2 : mc 5 ∉ o.all)
  have HIN := hid (dec_false HMEM.out)
  have HRE := hid (show rdE K.c (mc 5) = 9 from if_neg fun hh => hb2 hh.2)
  clear hb2
  unfold AC.ptr
  have hb0 := below_alloc w (.cells (msgC mc gr A n cp) 40)
  have HX0 := hid (Bx.new w 40 (msgC mc gr A n cp))
  have HB0 := hid hb0
  have H0 := hid (h.below hb0)
  have HNP := hid (show ∀ j, K.X j → j ≠ w.heap.size from fun j hj => by have := h.cm.lt j hj; omega)
  have HBB := hid hB
  clear hb0 h hB
  go_enter Tryz.func62, Tryz.ntmps62
  go_upto_region 1 with fail
  obtain ⟨W0, hW0⟩ : ∃ x, w.alloc (.cells (msgC mc gr A n cp) 40) = x := ⟨_, rfl⟩
  obtain ⟨p, hp⟩ : ∃ x, w.heap.size = x := ⟨_, rfl⟩
  rw [hW0] at HX0 HB0 H0 ⊢
  rw [hp] at HX0 HNP ⊢
  have HW := hid hp
  clear hW0 hp
  have y5 : W0.cell? ⟨p, 5, none⟩ = some (.int .i64 (mc 5)) := HX0.out.cell 5
  have yG : W0.cell? ⟨K.g, 2, none⟩ = some (.pointer (some ⟨K.G, 0, none⟩)) := H0.out.bx.cell 2
  go_region_held3 (fun y => y.cell? ⟨p, 5, none⟩ = some (.int .i64 (mc 5)) ∧ y.cell? ⟨K.g, 2, none⟩ = some (.pointer (some ⟨K.G, 0, none⟩))) (first | exact kp | exact ⟨y5, yG⟩) ((go_at_call 88; refine (cuse_any (H0.out.draws 1) HBB.out (mc 5)).mono ?_; rintro e W1 ⟨u1, rfl, ha, hc, hy, hn⟩; rw [HIN.out]; have H1 := hid ha; have HC1 := hid hc; obtain rfl := hn HMEM.out; have HX1 := hid (hc.bx (HX0.out.draws 1) (fun ho => HNP.out p (H0.out.mine_x p (.inl ho)) rfl)); have kp := And.intro (HX1.out.cell 5) (ha.bx.cell 2); clear ha hc hy hn))
  have HCC := hid ((Chg.of HB0.out K.own).trans ((Chg.of (below_draws (Below.refl _ _) 1) K.own).trans HC1.out))
  clear kp y5 yG HC1 HX0 H0 HIN
  have x5 : W1.cell? ⟨p, 5, none⟩ = some (.int .i64 (mc 5)) := HX1.out.cell 5
  have xS : W1.cell? ⟨K.g, 1, none⟩ = some (.pointer (some ⟨K.ks, 0, none⟩)) := H1.out.bx.cell 1
  go_upto_region 4 with fail
  go_region_held3 (fun y => y.cell? ⟨p, 5, none⟩ = some (.int .i64 (mc 5)) ∧ y.cell? ⟨K.g, 1, none⟩ = some (.pointer (some ⟨K.ks, 0, none⟩))) (first | exact kp | exact ⟨x5, xS⟩) ((go_at_call 47; refine (sread_any (H1.out.draws 1).sx H1.out.cm.lt (by have := H1.out.c2; omega) (mc 5)).mono ?_; rintro e W2 ⟨u2, rfl, hy, hb⟩; obtain ⟨A5, c5, rfl, -⟩ := id hy; rw [HRE.out]; have HB2 := hid (below_of_drew hb); have HX2 := hid (HX1.out.next HB2.out); have H2 := hid (H1.out.below HB2.out); have HY2 := hid hy; have kp := And.intro (HX2.out.cell 5) (H2.out.bx.cell 1); clear hy hb))
  clear xS x5
  have x5 : W2.cell? ⟨p, 5, none⟩ = some (.int .i64 (mc 5)) := HX2.out.cell 5
  clear kp
  go_wp2
  go_ret
  have hsz : w.heap.size ≤ W2.heap.size := Nat.le_trans HCC.out.size HB2.out.size
  exact ⟨_, rfl, (H2.out.below (below_alloc _ _)).up (Nat.le_succ _), (HCC.out.trans ((Chg.of HB2.out _).trans (Chg.of (below_alloc _ _) _))).wide (own_mine K), tlv_one (t := tmE (mc 5)) hsz (by_none _ _)⟩
set_option maxRecDepth 20000 in
set_option maxHeartbeats 2000000 in
theorem aread_new (h : Am w K st o D B r dn) (hB : B ≤ 9000000) (hin : mc 5 ∉ o.all) (hr : 0 ≤ r ∧ r ≤ 1000000000) (hb : 0 ≤ mc 5) (hb2 : mc 5 < K.c 2) (hT : rdL K.c st (mc 5) = ml) : Calls Tryz.prog 62 #[K.ptr, .agg (msgC mc gr A n cp)] w (RdQ w K st B dn (⟨X, hdO K.c (o.use (mc 5)) (mc 5) (mc 6) ml.length, hdD K.c (o.use (mc 5)) D (mc 5) (mc 6) ml, r + 1⟩, hdT K.c (o.use (mc 5)) (mc 5) (mc 6) ml.length ++ [tmD (mc 5) ml])) := by
  subst hT
  have HMEM := hid hin
  have HIN := hid (dec_false hin)
  have HRE := hid (show rdE K.c (mc 5) = 0 from if_pos ⟨hb, hb2⟩)
  have HB9 := hid hB
  replace hB : B ≤ 10000000 := by omega
  obtain ⟨hr1, hr2⟩ := hr
  clear hb2 hb hin
  unfold AC.ptr
  have hb0 := below_alloc w (.cells (msgC mc gr A n cp) 40)
  have HX0 := hid (Bx.new w 40 (msgC mc gr A n cp))
  have HB0 := hid hb0
  have H0 := hid (h.below hb0)
  have HNP := hid (show ∀ j, K.X j → j ≠ w.heap.size from fun j hj => by have := h.cm.lt j hj; omega)
  have HBB := hid hB
  clear hb0 h hB
  go_enter Tryz.func62, Tryz.ntmps62
  go_upto_region 1 with fail
  obtain ⟨W0, hW0⟩ : ∃ x, w.alloc (.cells (msgC mc gr A n cp) 40) = x := ⟨_, rfl⟩
  obtain ⟨p, hp⟩ : ∃ x, w.heap.size = x := ⟨_, rfl⟩
  rw [hW0] at HX0 HB0 H0 ⊢
  rw [hp] at HX0 HNP ⊢
  have HW := hid hp
  clear hW0 hp
  have y5 : W0.cell? ⟨p, 5, none⟩ = some (.int .i64 (mc 5)) := HX0.out.cell 5
  have yG : W0.cell? ⟨K.g, 2, none⟩ = some (.pointer (some ⟨K.G, 0, none⟩)) := H0.out.bx.cell 2
  go_region_held3 (fun y => y.cell? ⟨p, 5, none⟩ = some (.int .i64 (mc 5)) ∧ y.cell? ⟨K.g, 2, none⟩ = some (.pointer (some ⟨K.G, 0, none⟩))) (first | exact kp | exact ⟨y5, yG⟩) ((go_at_call 88; refine (cuse_any (H0.out.draws 1) HBB.out (mc 5)).mono ?_; rintro e W1 ⟨u1, rfl, ha, hc, hy, hn⟩; rw [HIN.out]; have H1 := hid ha; have HC1 := hid hc; obtain rfl := hn HMEM.out; have HX1 := hid (hc.bx (HX0.out.draws 1) (fun ho => HNP.out p (H0.out.mine_x p (.inl ho)) rfl)); have kp := And.intro (HX1.out.cell 5) (ha.bx.cell 2); clear ha hc hy hn))
  have HCC := hid ((Chg.of HB0.out K.own).trans ((Chg.of (below_draws (Below.refl _ _) 1) K.own).trans HC1.out))
  clear kp y5 yG HC1 HX0 H0 HIN
  have x5 : W1.cell? ⟨p, 5, none⟩ = some (.int .i64 (mc 5)) := HX1.out.cell 5
  have xS : W1.cell? ⟨K.g, 1, none⟩ = some (.pointer (some ⟨K.ks, 0, none⟩)) := H1.out.bx.cell 1
  go_upto_region 4 with fail
  go_region_held3 (fun y => y.cell? ⟨p, 5, none⟩ = some (.int .i64 (mc 5)) ∧ y.cell? ⟨K.g, 1, none⟩ = some (.pointer (some ⟨K.ks, 0, none⟩))) (first | exact kp | exact ⟨x5, xS⟩) ((go_at_call 47; refine (sread_any (H1.out.draws 1).sx H1.out.cm.lt (by have := H1.out.c2; omega) (mc 5)).mono ?_; rintro e W2 ⟨u2, rfl, hy, hb⟩; obtain ⟨A5, c5, rfl, -⟩ := id hy; rw [HRE.out]; have HB2 := hid (below_of_drew hb); have HX2 := hid (HX1.out.next HB2.out); have H2 := hid (H1.out.below HB2.out); have HY2 := hid hy; have kp := And.intro (HX2.out.cell 5) (H2.out.bx.cell 1); clear hy hb))
  clear xS x5
  have g3 : W2.cell? ⟨K.g, 3, none⟩ = some (.int .i64 r) := H2.out.bx.cell 3
  have gf : W2.frozen? ⟨K.g, 3, none⟩ = false := H2.out.bx.free 3
  clear kp
  go_upto_region 8 with fail
  obtain ⟨W3, hW3⟩ : ∃ x, W2.setCell ⟨K.g, 3, none⟩ (.int .i64 (r + 1)) = x := ⟨_, rfl⟩
  have hsc := set_chg W2 ⟨K.g, 3, none⟩ (.int .i64 (r + 1))
  rw [hW3] at hsc ⊢
  have HS3 := hid hsc
  have H3 := hid (show Am W3 K st (o.use (mc 5)) D (B + 1) (r + 1) dn from H2.out.cells hsc (fun j hj => hj) (by rw [← hW3]; exact H2.out.bx.set 3 _))
  have HX3 := hid (hsc.bx HX2.out fun e => HNP.out K.g H2.out.xg e.symm)
  have HY3 := hid (HY2.out.chg hsc fun j hj => by rw [show j = K.g from hj]; exact H2.out.xg)
  have HCD := hid (((HCC.out.trans (Chg.of HB2.out _)).wide (own_mine K)).trans (hsc.wide fun j hj => .inr (.inr hj)))
  clear g3 gf hsc hW3 HX1 HX2 H1 H2 HY2 HB2 HCC hr1 hr2 HS3
  go_upto_region 10 with fail
  have H1 := H3
  have HX1 := HX3
  have HY := HY3
  have x5 : W3.cell? ⟨p, 5, none⟩ = some (.int .i64 (mc 5)) := HX1.out.cell 5
  have x6 : W3.cell? ⟨p, 6, none⟩ = some (.int .i64 (mc 6)) := HX1.out.cell 6
  have HH := hid (hold_any H1.out (by have := HB9.out; omega) HY.out (mc 5) (mc 6))
  obtain ⟨tl, htl⟩ : ∃ t, hdT K.c (o.use (mc 5)) (mc 5) (mc 6) (rdL K.c st (mc 5)).length = t := ⟨_, rfl⟩
  have HTL := hid (show tl.length ≤ 1 from htl ▸ hdT_len _ _ _ _ _)
  have HTLE := hid htl
  rw [htl] at HH
  clear htl
  go_upto_region 11 with (go_at_call 89; refine HH.out.mono ?_; rintro e W4 ⟨u4, rfl, ha, hc, ht⟩; have H4 := hid ha; have HC4 := hid hc; have HT4 := hid ht; clear ha hc ht)
  have HX4 := hid (HC4.out.bx HX1.out (fun ho => HNP.out p (H1.out.mine_x p (.inl ho)) rfl))
  clear x5 x6 HH
  have x5 : W4.cell? ⟨p, 5, none⟩ = some (.int .i64 (mc 5)) := HX4.out.cell 5
  obtain ⟨us, hul, hown, hby⟩ := HT4.out
  have HUL := hid hul
  have HOW := hid hown
  have HBU := hid hby
  have HBS := hid HC4.out.size
  have HB5 := hid (below_alloc W4 (.cells (tcl (tmD (mc 5) (rdL K.c st (mc 5))) (.slice A5 (rdL K.c st (mc 5)).length c5)).toArray 40))
  clear hul hown hby
  go_wp2_with (at_builtin; (refine wpList_appV elt_msg rfl (.tmp 63) (.tmp 68) rfl W3.heap.size u4 tl.length (tcs tl us) (HOW.out.below HB5.out) rfl (W4.heap.size + 1) (some ⟨W4.heap.size, 0, none⟩) 1 1 (tcl (tmD (mc 5) (rdL K.c st (mc 5))) (.slice A5 (rdL K.c st (mc 5)).length c5)) rfl rfl (rv_new W4 _ _) (tcl_one _ rfl) (by have := HTL.out; unfold maxLen; omega) (by have := HTL.out; omega) (Nat.le_trans HBS.out HB5.out.size) ?_); intro v2 w2 ho2 hg2; have HO2 := hid ho2; have HG2 := hid hg2; clear ho2 hg2)
  have HTA := hid (told_app (t := tmD (mc 5) (rdL K.c st (mc 5))) H1.out H4.out HC4.out HT4.out HB5.out HUL.out HBU.out HY.out HO2.out HG2.out)
  go_ret
  have h9 := HTA.out.2.1.low HCD.out.size
  rw [← HTLE.out] at h9
  exact ⟨_, rfl, HTA.out.1, HCD.out.trans (HTA.out.2.2.wide (own_mine K)), h9⟩
theorem aread_any (h : Am w K st o D B r dn) (hB : B ≤ 9000000) (hr : 0 ≤ r ∧ r ≤ 1000000000) (hb : 0 ≤ mc 5) (hT : ∀ b, 0 ≤ b → b < K.c 2 → rdL K.c st b = X.T b.toNat) : Calls Tryz.prog 62 #[K.ptr, .agg (msgC mc gr A n cp)] w (RdQ w K st B dn (hrR K.c ⟨X, o, D, r⟩ ⟨mc, gr, ml⟩)) := by
  unfold hrR rdY rdR
  dsimp only
  by_cases hb2 : mc 5 < K.c 2
  · rw [if_pos hb2]
    by_cases hin : mc 5 ∈ o.all
    · rw [if_pos hin, if_pos hin]
      by_cases h4 : K.c 4 = 2
      · rw [if_pos (.inr h4)]
        exact aread_had2 h hB hin h4
      · rw [if_neg (fun hh => hh.elim (fun hn => hn hin) h4)]
        exact aread_had h (by omega) hin h4
    · rw [if_neg hin, if_neg hin, if_pos (.inl hin)]
      exact aread_new h hB hin hr hb hb2 (hT _ hb hb2)
  · rw [if_neg hb2]
    exact aread_no h (by omega) hb hb2
end
end Go.Proofs.YtbcejfonkehjgaaGreatDoor
namespace Go.Proofs.YtbcejfonkehjgaaGreatDoor
open Go.RowKit

structure Fine (sh : Sh) (L : List (List Int)) (X : RS) : Prop where
  ok : sh.ok
  len : sh.at_ sh.C 0 ≤ L.length
  agr : Agr sh L X
  no : ¬ pok sh (sec L 0)
theorem Fine.rdo {sh : Sh} {L : List (List Int)} {X : RS} (h : Fine sh L X) (f : Int) (d : Bool) : rdo sh ⟨L, f, d⟩ (sec L 0) = (⟨L, f, d⟩, 0) := rdo_none h.no
theorem fine_new {sh : Sh} (ok : sh.ok) : Fine sh (List.replicate 64 []) (RS.zero sh.Z) := by
  refine ⟨ok, ?_, agr_zero sh 64, by rw [sec_rep]; exact pok_nil sh⟩
  rw [List.length_replicate, top_eq]
  have h1 := ok.b
  have h4 : sh.S * sh.C ≤ 4 * 4 := Nat.mul_le_mul ok.s.2 ok.c.2
  omega
section
variable {w : World} {bb kd ks : Nat} {vv : Value} {sh : Sh} {L : List (List Int)} {X : RS}
end






























































end Go.Proofs.YtbcejfonkehjgaaGreatDoor
namespace Go.Proofs.YtbcejfonkehjgaaGreatDoor
open Go.RowKit

section
variable {w w' : World} {K : AC} {st : St} {o o' : Ob} {D D' : Int → List Int} {B B' : Nat} {r : Int} {dn : Bool} {mc : Nat → Int} {gr : Bool} {A : Option Addr} {n cp : Nat} {X : RS} {ml : List Int} {L : List (List Int)} {f : Int} {d : Bool}
def WrP (K : AC) (L : List (List Int)) (f : Int) (X : RS) (x : Wr) (z1 z2 : Int) (st : St) : Prop :=
  (∃ L' f', st = ⟨L', f', false⟩ ∧ z1 = (rwr (shC K.c) X x).2.1 ∧ z2 = (rwr (shC K.c) X x).2.2 ∧ Fine (shC K.c) L' (rwr (shC K.c) X x).1 ∧ (f < 0 → f' = f)) ∨
  (0 ≤ f ∧ ∃ L' f', st = ⟨L', f', true⟩ ∧ z1 = 0 ∧ z2 = 8 ∧ L'.length = L.length ∧ Pend (shC K.c) L' X (rwr (shC K.c) X x).1)
theorem by_rn {X : Nat → Prop} {A : Option Addr} {k c : Nat} {l : List Int} (h : By w X (.slice A k c) l) : Rn w A l := by
  obtain ⟨A', c', e, hr, _⟩ := h
  injection e with e1 e2 e3
  subst e1
  exact rv_rd hr
theorem swrite_any (h : Am w K ⟨L, f, false⟩ o D B r dn) (hF : Fine (shC K.c) L X) (x : Wr) (hy : Byt x.l) (hr : Rn w x.A x.l) : Calls Tryz.prog 90 #[.pointer (some ⟨K.ks, 0, none⟩), x.v] w fun e w' =>
    ∃ z1 z2 st, e = .returned (.tuple #[.int .i64 z1, .int .i64 z2]) ∧ Am w' K st o D B r dn ∧ Chg w w' K.dsk K.dsk ∧ WrP K L f X x z1 z2 st := by
  refine (stw_any h.sx x hy hr).mono fun e w' ⟨h1, h2, h3⟩ => ⟨_, _, (dwr (shC K.c) ⟨L, f, false⟩ x).1, h1, ?_, h3.chg, ?_⟩
  · refine h.disk h3 h2 ?_
    rcases dwr_any hF.ok hF.len hF.agr hF.no x hy f with ⟨L', f', a1, a2, _⟩ | ⟨_, L', f', a1, a2, _⟩
    · rw [a1]; exact a2
    · rw [a1]; exact a2
  · rcases dwr_any hF.ok hF.len hF.agr hF.no x hy f with ⟨L', f', a1, a2, a3, a4, a5⟩ | ⟨a0, L', f', a1, a2, a3⟩
    · exact .inl ⟨L', f', by rw [a1], by rw [a1], by rw [a1], ⟨hF.ok, by rw [a2]; exact hF.len, a4, a3⟩, a5⟩
    · exact .inr ⟨a0, L', f', by rw [a1], by rw [a1], by rw [a1], a2, a3⟩
theorem rd_fine (_ : Am w K ⟨L, f, d⟩ o D B r dn) (hF : Fine (shC K.c) L X) (b : Int) (hb : 0 ≤ b) (hb2 : b < K.c 2) : rdL K.c ⟨L, f, d⟩ b = X.T b.toNat ∧ rdV K.c ⟨L, f, d⟩ b = (X.V b.toNat : Nat) := by
  unfold rdL rdV
  rw [if_pos ⟨hb, hb2⟩, if_pos ⟨hb, hb2⟩]
  have h1 := hF.agr.b b.toNat (by show b.toNat < (K.c 2).toNat; omega)
  have h2 : blk (K.c 3).toNat (sec L (1 + b.toNat)) = (X.V b.toNat, X.T b.toNat) := h1
  exact ⟨by show (blk (K.c 3).toNat (sec L (1 + b.toNat))).2 = _; rw [h2], by show (((blk (K.c 3).toNat (sec L (1 + b.toNat))).1 : Nat) : Int) = _; rw [h2]⟩
theorem rdV_vrs (h : Am w K ⟨L, f, d⟩ o D B r dn) (hF : Fine (shC K.c) L X) : rdV K.c ⟨L, f, d⟩ (mc 5) = vrs K.c ⟨mc, gr, ml⟩ X := by
  unfold vrs
  by_cases hb : 0 ≤ mc 5 ∧ mc 5 < K.c 2
  · rw [if_pos (by exact hb)]
    exact (rd_fine h hF (mc 5) hb.1 hb.2).2
  · rw [if_neg (by exact hb)]
    exact if_neg hb
theorem am_set_new {W : World} {ob : Obj} (h : Am w K st o D B r dn) (hb : Below (w.alloc ob).heap.size (w.alloc ob) W) (i : Nat) (u : Value) : Am (W.setCell ⟨w.heap.size, i, none⟩ u) K st o D B r dn := by
  have hmx := h.mine_x
  have hX := h.cm.lt
  exact Am.less (((h.with_new ob).below hb).other (set_chg W ⟨w.heap.size, i, none⟩ u) (fun j e => .inr e) fun j e => ⟨fun hj => by have h1 := hX _ (hmx _ hj); have h2 : j = w.heap.size := e; omega, fun hj => by have h1 : K.ks < w.heap.size := h.sx.bx.lt; have h2 : j = w.heap.size := e; have h3 : j = K.ks := hj; omega⟩) (fun j hj => .inl hj) hmx
theorem by_set_new {W : World} {ob : Obj} {X : Nat → Prop} {v : Value} {l : List Int} (h : By w X v l) (hb : Below (w.alloc ob).heap.size (w.alloc ob) W) (i : Nat) (u : Value) : By (W.setCell ⟨w.heap.size, i, none⟩ u) X v l := by
  have h1 : By w (fun j => X j ∨ j = w.heap.size) v l := h.more fun j hj => hj.imp id fun e => by omega
  exact (((h1.below (below_alloc w ob)).below hb).chg (set_chg W ⟨w.heap.size, i, none⟩ u) fun j e => .inr e).less fun j hj => .inl hj
theorem box_range {g : Nat} {t : TypeId} {cs : Array Value} (h : Bx w g t cs) : w.rangeAt g 0 cs.toList := fun j u hj => by
  rw [Nat.zero_add, h.cell]
  rw [Array.getElem?_toList] at hj
  exact hj
theorem rv_bx {g : Nat} {t : TypeId} {cs : Array Value} (h : Bx w g t cs) : Rv w w.heap.size (some ⟨g, 0, none⟩) cs.toList := fun j u hu => ⟨_, rfl, h.lt, by
  rw [addG, h.cell]
  rw [Array.getElem?_toList] at hu
  exact hu⟩
theorem wp_app18 {o : Oper} {a : Act} {K : Act → World → Prop} {Q : Exit → Act → World → Prop} (s x : Operand)
    (ho : o.op = .call { callee := .builtin .append, args := #[s, x], argTypes := #[44, 44] }) (b : Nat) (v : Value) (n : Nat) (us : List Value) (hown : OwnV w b 40 11 v n us) (hs : a.eval s = v) (C : Nat) (A : Option Addr) (m c : Nat) (news : List Value)
    (hx : a.eval x = .slice A m c) (hm : news.length = m * 11) (hr : Rv w C A news) (h1 : ∀ u ∈ news, u.oneCell' = true) (hlen : n + m ≤ maxLen) (hbytes : (n + m) * 104 ≤ 140737488355328) (hbase : b ≤ w.heap.size)
    (h : ∀ v' w', OwnV w' b 40 11 v' (n + m) (us ++ news) → GrownV w w' v v' → K (a.put o.dst v') w') : o.wp Tryz.prog a w K Q := by
  obtain ⟨v', w', hrun, h2, h3⟩ := run_appV elt_msg w o.type b v n us hown C A m c news hm hr h1 hlen hbytes hbase
  unfold Oper.wp execOp
  simp only [ho, resolve, invoke, builtin, Sem.run_bind, Sem.run_pure, Result.andThen_ok, List.map_toArray, List.map_cons, List.map_nil, hs, hx, hrun]
  exact h v' w' h2 h3
def WrE (w : World) (K : AC) (L : List (List Int)) (f : Int) (X Y : RS) (o : Ob) (D : Int → List Int) (B : Nat) (r : Int) (p : S18 × List Tm) (e : Ending) (w' : World) : Prop :=
  ∃ u L' f', e = .returned u ∧ Chg w w' K.mine K.mine ∧
    ((Am w' K ⟨L', f', false⟩ p.1.o p.1.D (B + 2) p.1.r false ∧ Fine (shC K.c) L' p.1.X ∧ (f < 0 → f' = f) ∧ Tlv w' w.heap.size K.X u p.2) ∨
     (0 ≤ f ∧ u = .slice none 0 0 ∧ Am w' K ⟨L', f', true⟩ o D (B + 2) r true ∧ L'.length = L.length ∧ Pend (shC K.c) L' X Y))
def WrQ (w : World) (K : AC) (L : List (List Int)) (f : Int) (X : RS) (o : Ob) (D : Int → List Int) (B : Nat) (r : Int) (m : Tm) : Ending → World → Prop := WrE w K L f X (rwr (shC K.c) X (wrX m)).1 o D B r (hrW K.c ⟨X, o, D, r⟩ m)
theorem rwr_err {sh : Sh} {X : RS} {x : Wr} (h : ¬ (rwr sh X x).2.2 = 0) : ¬ (rwr sh X x).2.2 = 8 ∧ (rwr sh X x).1 = X := by
  unfold rwr at h ⊢
  by_cases hw : x.wrong sh = 0
  · rw [if_pos hw] at h ⊢
    by_cases h1 : age x.b x.o (X.P (x.i sh)) (X.O (x.i sh)) < 0
    · rw [if_pos h1] at h ⊢
      exact ⟨by simp, rfl⟩
    · rw [if_neg h1] at h ⊢
      by_cases h2 : age x.b x.o (X.P (x.i sh)) (X.O (x.i sh)) = 0
      · rw [if_pos h2] at h
        exact absurd rfl h
      · rw [if_neg h2] at h
        exact absurd rfl h
  · rw [if_neg hw] at h ⊢
    refine ⟨fun e => ?_, rfl⟩
    have e8 : x.wrong sh = 8 := by
      have e2 : ((x.wrong sh : Nat) : Int) = 8 := e
      omega
    unfold Wr.wrong at e8
    split at e8
    · cases e8
    · split at e8
      · cases e8
      · split at e8 <;> cases e8
set_option maxRecDepth 20000 in
set_option maxHeartbeats 2000000 in
theorem awrite_any (h : Am w K ⟨L, f, false⟩ o D B r false) (hF : Fine (shC K.c) L X) (hB : B ≤ 9000000) (hd : By w K.X (.slice A n cp) ml) (hby : Byt ml) : Calls Tryz.prog 63 #[K.ptr, .agg (msgC mc gr A n cp)] w (WrQ w K L f X o D B r ⟨mc, gr, ml⟩) := by
  obtain rfl := by_len hd
  have HD0 := hid (hd.below (below_alloc w (.cells (msgC mc gr A ml.length cp) 40)))
  have HF := hid hF
  have HBY := hid hby
  unfold WrQ hrW wrZ
  dsimp only
  rw [show rwr (shC K.c) X (wrX ⟨mc, gr, ml⟩) = rwr (shC K.c) X ⟨mc 1, mc 2, mc 3, mc 4, mc 5, A, cp, ml⟩ from rfl]
  obtain ⟨⟨Y, z1, z2⟩, hR⟩ : ∃ R, rwr (shC K.c) X ⟨mc 1, mc 2, mc 3, mc 4, mc 5, A, cp, ml⟩ = R := ⟨_, rfl⟩
  have HRE := hid (fun h => rwr_err (sh := shC K.c) (X := X) (x := ⟨mc 1, mc 2, mc 3, mc 4, mc 5, A, cp, ml⟩) h)
  have HRQ := hid hR
  rw [hR] at HRE ⊢
  dsimp only at HRE ⊢
  obtain ⟨va, hva⟩ : ∃ v, vrs K.c ⟨mc, gr, ml⟩ X = v := ⟨_, rfl⟩
  obtain ⟨vb, hvb⟩ : ∃ v, vrs K.c ⟨mc, gr, ml⟩ Y = v := ⟨_, rfl⟩
  have HVA := hid hva
  have HVB := hid hvb
  obtain ⟨z, hz⟩ : ∃ z, (if z2 = 0 then z1 else z2) = z := ⟨_, rfl⟩
  have HZ := hid hz
  rw [hva, hvb, hz]
  obtain ⟨pq, hpq⟩ : ∃ q, (if z2 = 12 then ((⟨Y, o, D, r⟩ : S18), ([] : List Tm)) else if vb = va then (⟨Y, o, D, r⟩, [tmW mc z false]) else (⟨Y, hdO K.c o (mc 5) (mc 6) ml.length, hdD K.c o D (mc 5) (mc 6) ml, r⟩, hdT K.c o (mc 5) (mc 6) ml.length ++ [tmW mc z true])) = q := ⟨_, rfl⟩
  have HPQ := hid hpq
  rw [hpq]
  clear hd hF hby hR hva hvb hz hpq
  unfold AC.ptr
  have hb0 := below_alloc w (.cells (msgC mc gr A ml.length cp) 40)
  have HX0 := hid (Bx.new w 40 (msgC mc gr A ml.length cp))
  have HB0 := hid hb0
  have H0 := hid (h.below hb0)
  have HNP := hid (show ∀ j, K.X j → j ≠ w.heap.size from fun j hj => by have := h.cm.lt j hj; omega)
  have HBB := hid hB
  clear hb0 h hB
  go_enter Tryz.func63, Tryz.ntmps63
  go_upto_region 1 with fail
  obtain ⟨W0, hW0⟩ : ∃ x, w.alloc (.cells (msgC mc gr A ml.length cp) 40) = x := ⟨_, rfl⟩
  obtain ⟨p, hp⟩ : ∃ x, w.heap.size = x := ⟨_, rfl⟩
  rw [hW0] at HX0 HB0 H0 HD0 ⊢
  rw [hp] at HX0 HNP ⊢
  have HW := hid hp
  clear hW0 hp
  have y5 : W0.cell? ⟨p, 5, none⟩ = some (.int .i64 (mc 5)) := HX0.out.cell 5
  have yS : W0.cell? ⟨K.g, 1, none⟩ = some (.pointer (some ⟨K.ks, 0, none⟩)) := H0.out.bx.cell 1
  have HRV := hid (show rdV K.c ⟨L, f, false⟩ (mc 5) = va from (rdV_vrs H0.out HF.out).trans HVA.out)
  go_region_held3 (fun y => y.cell? ⟨p, 5, none⟩ = some (.int .i64 (mc 5)) ∧ y.cell? ⟨K.g, 1, none⟩ = some (.pointer (some ⟨K.ks, 0, none⟩))) (first | exact kp | exact ⟨y5, yS⟩) ((go_at_call 47; refine (sread_any (H0.out.draws 1).sx H0.out.cm.lt (by have := H0.out.c2; omega) (mc 5)).mono ?_; rintro e W1 ⟨u1, rfl, hy, hb⟩; rw [HRV.out]; have HB1 := hid (below_of_drew hb); have HX1 := hid (HX0.out.next HB1.out); have H1 := hid (H0.out.below HB1.out); have HD1 := hid (HD0.out.below HB1.out); have kp := And.intro (HX1.out.cell 5) (H1.out.bx.cell 1); clear hy hb))
  have HCC := hid ((Chg.of HB0.out K.mine).trans (Chg.of HB1.out K.mine))
  clear kp y5 yS HX0 H0 HD0
  have x1 : W1.cell? ⟨p, 1, none⟩ = some (.int .i64 (mc 1)) := HX1.out.cell 1
  have x2 : W1.cell? ⟨p, 2, none⟩ = some (.int .i64 (mc 2)) := HX1.out.cell 2
  have x3 : W1.cell? ⟨p, 3, none⟩ = some (.int .i64 (mc 3)) := HX1.out.cell 3
  have x4 : W1.cell? ⟨p, 4, none⟩ = some (.int .i64 (mc 4)) := HX1.out.cell 4
  have x5 : W1.cell? ⟨p, 5, none⟩ = some (.int .i64 (mc 5)) := HX1.out.cell 5
  have x10 : W1.cell? ⟨p, 10, none⟩ = some (.slice A ml.length cp) := HX1.out.cell 10
  have xS : W1.cell? ⟨K.g, 1, none⟩ = some (.pointer (some ⟨K.ks, 0, none⟩)) := H1.out.bx.cell 1
  go_upto_region 2 with fail
  go_region_held3 (fun y => y.cell? ⟨p, 1, none⟩ = some (.int .i64 (mc 1)) ∧ y.cell? ⟨p, 2, none⟩ = some (.int .i64 (mc 2)) ∧ y.cell? ⟨p, 3, none⟩ = some (.int .i64 (mc 3)) ∧ y.cell? ⟨p, 4, none⟩ = some (.int .i64 (mc 4)) ∧ y.cell? ⟨p, 5, none⟩ = some (.int .i64 (mc 5)) ∧ y.cell? ⟨p, 10, none⟩ = some (.slice A ml.length cp) ∧ y.cell? ⟨K.g, 1, none⟩ = some (.pointer (some ⟨K.ks, 0, none⟩))) (first | exact kp | exact ⟨x1, x2, x3, x4, x5, x10, xS⟩) ((go_at_call 90; refine (swrite_any (H1.out.draws 1) HF.out ⟨mc 1, mc 2, mc 3, mc 4, mc 5, A, cp, ml⟩ HBY.out (by_rn (HD1.out.below (below_draws (Below.refl _ _) 1)))).mono ?_; rintro e W2 ⟨y1, y2, st2, rfl, ha, hc, ho⟩; unfold WrP at ho; rw [HRQ.out] at ho; dsimp only at ho; have H2 := hid ha; have HC2 := hid hc; have HO := hid ho; have HX2 := hid (hc.bx (HX1.out.draws 1) (fun ho => HNP.out p (H1.out.xd p ho) rfl)); have HD2 := hid ((HD1.out.below (below_draws (Below.refl _ _) 1)).chg hc H1.out.xd); have kp := And.intro (HX2.out.cell 1) (And.intro (HX2.out.cell 2) (And.intro (HX2.out.cell 3) (And.intro (HX2.out.cell 4) (And.intro (HX2.out.cell 5) (And.intro (HX2.out.cell 10) (H2.out.bx.cell 1)))))); clear ha hc ho))
  have HC3 := hid ((HCC.out.trans (Chg.of (below_draws (Below.refl _ _) 1) K.mine)).trans (HC2.out.wide fun j hj => .inr (.inl hj)))
  clear kp x1 x2 x3 x4 x5 x10 xS HX1 H1 HD1 HCC HC2 HBY
  rcases HO.out with ⟨L', f', rfl, e1, e2, hF2, hf2⟩ | ⟨hf0, L', f', rfl, rfl, rfl, hl2, hp2⟩
  rotate_left 1
  · have HP := hid (And.intro hf0 (And.intro hl2 hp2))
    have g4 : W2.cell? ⟨K.g, 4, none⟩ = some (.bool false) := H2.out.bx.cell 4
    have gf : W2.frozen? ⟨K.g, 4, none⟩ = false := H2.out.bx.free 4
    clear hf0 hl2 hp2 HO
    go_wp2
    go_ret
    have hsc := set_chg W2 ⟨K.g, 4, none⟩ (.bool true)
    refine ⟨_, L', f', rfl, HC3.out.trans (hsc.wide fun j hj => .inr (.inr hj)), .inr ⟨HP.out.1, rfl, ?_, HP.out.2.1, HP.out.2.2⟩⟩
    exact (H2.out.cells hsc (fun j hj => hj) (H2.out.bx.set 4 _)).up (by omega)
  replace e1 := e1.symm
  replace e2 := e2.symm
  subst e1 e2
  have HF2 := hid hF2
  have HF3 := hid hf2
  have HRW := hid (show rdV K.c ⟨L', f', false⟩ (mc 5) = vb from (rdV_vrs H2.out HF2.out).trans HVB.out)
  clear hF2 hf2 HO
  by_cases h12 : z2 = 12
  · subst h12
    go_wp2
    go_ret
    rw [← HPQ.out, if_pos trivial]
    exact ⟨_, L', f', rfl, HC3.out, .inl ⟨H2.out.up (by omega), HF2.out, HF3.out, tlv_nil _ _ _⟩⟩
  have H12 := hid h12
  have d12 : ((z2 : Int) == 12) = false := by simpa using h12
  clear h12
  have x1 : W2.cell? ⟨p, 1, none⟩ = some (.int .i64 (mc 1)) := HX2.out.cell 1
  have x2 : W2.cell? ⟨p, 2, none⟩ = some (.int .i64 (mc 2)) := HX2.out.cell 2
  have x3 : W2.cell? ⟨p, 3, none⟩ = some (.int .i64 (mc 3)) := HX2.out.cell 3
  have x4 : W2.cell? ⟨p, 4, none⟩ = some (.int .i64 (mc 4)) := HX2.out.cell 4
  have x5 : W2.cell? ⟨p, 5, none⟩ = some (.int .i64 (mc 5)) := HX2.out.cell 5
  have HNE : Hid (¬ z2 = 0 → vb = va) := hid fun h => by rw [← HVB.out, ← HVA.out, (HRE.out h).2]
  by_cases h0 : z2 = 0
  · have d0 : ((z2 : Int) == 0) = true := by simpa using h0
    have hzz : z = z1 := by rw [← HZ.out, if_pos h0]
    subst hzz
    clear h0 HZ
    go_upto_region 12 with fail
    obtain ⟨W3, hW3⟩ : ∃ x, W2.alloc (.cells #[.int .i64 13, .int .i64 (mc 1), .int .i64 (mc 2), .int .i64 (mc 3), .int .i64 (mc 4), .int .i64 (mc 5), .int .i64 0, .int .i64 0, .int .i64 z, .bool false, .slice none 0 0] 40) = x := ⟨_, rfl⟩
    have hb3 := below_alloc W2 (.cells #[.int .i64 13, .int .i64 (mc 1), .int .i64 (mc 2), .int .i64 (mc 3), .int .i64 (mc 4), .int .i64 (mc 5), .int .i64 0, .int .i64 0, .int .i64 z, .bool false, .slice none 0 0] 40)
    have HQ3 := hid (show Bx W3 W2.heap.size 40 #[.int .i64 13, .int .i64 (mc 1), .int .i64 (mc 2), .int .i64 (mc 3), .int .i64 (mc 4), .int .i64 (mc 5), .int .i64 0, .int .i64 0, .int .i64 z, .bool false, .slice none 0 0] from hW3 ▸ Bx.new _ _ _)
    rw [hW3] at hb3 ⊢
    have HE3 := hid hW3
    have H3 := hid (H2.out.below hb3)
    have HX3 := hid (HX2.out.next hb3)
    have HB3 := hid hb3
    clear hb3 hW3 x1 x2 x3 x4 x5 d12
    have x5 : W3.cell? ⟨p, 5, none⟩ = some (.int .i64 (mc 5)) := HX3.out.cell 5
    have xS : W3.cell? ⟨K.g, 1, none⟩ = some (.pointer (some ⟨K.ks, 0, none⟩)) := H3.out.bx.cell 1
    go_region_held3 (fun y => y.cell? ⟨p, 5, none⟩ = some (.int .i64 (mc 5)) ∧ y.cell? ⟨K.g, 1, none⟩ = some (.pointer (some ⟨K.ks, 0, none⟩))) (first | exact kp | exact ⟨x5, xS⟩) ((go_at_call 47; refine (sread_any (H3.out.draws 1).sx H3.out.cm.lt (by have := H3.out.c2; omega) (mc 5)).mono ?_; rintro e W4 ⟨u4, rfl, hy, hb⟩; rw [HRW.out]; have HB4 := hid (below_of_drew hb); have HX4 := hid (HX3.out.next HB4.out); have HQ4 := hid (HQ3.out.next HB4.out); have H4 := hid (H3.out.below HB4.out); have kp := And.intro (HX4.out.cell 5) (H4.out.bx.cell 1); clear hy hb))
    clear kp x5 xS HX3 H3 HRW
    by_cases hv : vb = va
    · have HV := hid hv
      have d13 : ((vb : Int) == va) = true := by simpa using hv
      go_upto_region 14 with fail
      go_wp2_with (refine wpList_load_bx rfl 40 (.tmp 10) rfl _ _ _ _ rfl HQ4.out Tryz.underlying40 rfl (by kernel_rfl) ?_)
      go_ret
      rw [← HPQ.out, if_neg H12.out, if_pos HV.out]
      exact ⟨_, L', f', rfl, HC3.out.trans ((Chg.of HB3.out _).trans ((Chg.of HB4.out _).trans (Chg.of (below_alloc _ _) _))), .inl ⟨(H4.out.below (below_alloc _ _)).up (by omega), HF2.out, HF3.out, tlv_one (t := tmW mc z false) (Nat.le_trans HC3.out.size (Nat.le_trans HB3.out.size HB4.out.size)) (by_none _ _)⟩⟩
    · have HV := hid hv
      have d13 : ((vb : Int) == va) = false := by simpa using hv
      have z9 : W4.cell? ⟨W2.heap.size, 9, none⟩ = some (.bool false) := HQ4.out.cell 9
      have zf : W4.frozen? ⟨W2.heap.size, 9, none⟩ = false := HQ4.out.free 9
      go_upto_region 16 with fail
      have hbb : Below (W2.alloc (.cells #[.int .i64 13, .int .i64 (mc 1), .int .i64 (mc 2), .int .i64 (mc 3), .int .i64 (mc 4), .int .i64 (mc 5), .int .i64 0, .int .i64 0, .int .i64 z, .bool false, .slice none 0 0] 40)).heap.size (W2.alloc (.cells #[.int .i64 13, .int .i64 (mc 1), .int .i64 (mc 2), .int .i64 (mc 3), .int .i64 (mc 4), .int .i64 (mc 5), .int .i64 0, .int .i64 0, .int .i64 z, .bool false, .slice none 0 0] 40)) W4 := by rw [HE3.out]; exact HB4.out
      have ha5 := am_set_new H2.out hbb 9 (.bool true)
      have hd5 := by_set_new HD2.out hbb 9 (.bool true)
      have hq5 := HQ4.out.set 9 (.bool true)
      have hx5 := HX4.out.far ⟨W2.heap.size, 9, none⟩ (.bool true) (fun e => by have h7 := HX2.out.lt; have h8 : W2.heap.size = p := e; omega)
      have hc5 : Chg w (W4.setCell ⟨W2.heap.size, 9, none⟩ (.bool true)) K.mine K.mine := ⟨HC3.out.os ▸ HB3.out.os ▸ HB4.out.os, HC3.out.tape ▸ HB3.out.tape ▸ HB4.out.tape, HC3.out.output ▸ HB3.out.output ▸ HB4.out.output, by rw [setSize]; exact Nat.le_trans HC3.out.size (Nat.le_trans HB3.out.size HB4.out.size), fun j hj hn => by
        have h7 := HC3.out.size
        have h8 := HB3.out.size
        rw [Below.heap_setCell _ _ _ j (show j ≠ W2.heap.size by omega), HB4.out.block j (by omega), HB3.out.block j (by omega)]
        exact HC3.out.block j hj hn, fun _ hj => .inl hj⟩
      obtain ⟨W5, hW5⟩ : ∃ x, W4.setCell ⟨W2.heap.size, 9, none⟩ (.bool true) = x := ⟨_, rfl⟩
      obtain ⟨q, hq⟩ : ∃ x, W2.heap.size = x := ⟨_, rfl⟩
      rw [hW5] at ha5 hd5 hq5 hx5 hc5 ⊢
      rw [hq] at hq5 ⊢
      have H5 := hid ha5
      have HD5 := hid hd5
      have HQ5 := hid (show Bx W5 q 40 #[.int .i64 13, .int .i64 (mc 1), .int .i64 (mc 2), .int .i64 (mc 3), .int .i64 (mc 4), .int .i64 (mc 5), .int .i64 0, .int .i64 0, .int .i64 z, .bool true, .slice none 0 0] from hq5)
      have HX5 := hid hx5
      have HC5 := hid hc5
      have HNQ := hid (show ∀ j, K.X j → j ≠ q from fun j hj => by have := H2.out.cm.lt j hj; omega)
      have HNR := hid (show ∀ j, K.X j → j ≠ W5.heap.size from fun j hj => by have := H5.out.cm.lt j hj; omega)
      clear z9 zf ha5 hd5 hq5 hx5 hc5 hW5 hq hbb HQ4 HX4 HQ3 HE3 HB3 HB4 H4 HX2 HD2 H2 HC3
      obtain ⟨tl, htl⟩ : ∃ t, hdT K.c o (mc 5) (mc 6) ml.length = t := ⟨_, rfl⟩
      have HTL := hid (show tl.length ≤ 1 from htl ▸ hdT_len _ _ _ _ _)
      have HTLE := hid htl
      clear htl
      have kal := hid (And.intro (And.intro ((HX5.out.alloc (.cells #[.int .i64 13, .int .i64 (mc 1), .int .i64 (mc 2), .int .i64 (mc 3), .int .i64 (mc 4), .int .i64 (mc 5), .int .i64 0, .int .i64 0, .int .i64 z, .bool true, .slice none 0 0] 40)).cell 5) (And.intro ((HX5.out.alloc (.cells #[.int .i64 13, .int .i64 (mc 1), .int .i64 (mc 2), .int .i64 (mc 3), .int .i64 (mc 4), .int .i64 (mc 5), .int .i64 0, .int .i64 0, .int .i64 z, .bool true, .slice none 0 0] 40)).cell 6) ((HX5.out.alloc (.cells #[.int .i64 13, .int .i64 (mc 1), .int .i64 (mc 2), .int .i64 (mc 3), .int .i64 (mc 4), .int .i64 (mc 5), .int .i64 0, .int .i64 0, .int .i64 z, .bool true, .slice none 0 0] 40)).cell 10))) (box_range (HQ5.out.alloc (.cells #[.int .i64 13, .int .i64 (mc 1), .int .i64 (mc 2), .int .i64 (mc 3), .int .i64 (mc 4), .int .i64 (mc 5), .int .i64 0, .int .i64 0, .int .i64 z, .bool true, .slice none 0 0] 40))))
      refine wp_region_noPanic ?_
      refine wp_region_held_drew (S := fun y => (y.cell? ⟨p, 5, none⟩ = some (.int .i64 (mc 5)) ∧ y.cell? ⟨p, 6, none⟩ = some (.int .i64 (mc 6)) ∧ y.cell? ⟨p, 10, none⟩ = some (.slice A ml.length cp)) ∧ y.rangeAt q 0 (#[.int .i64 13, .int .i64 (mc 1), .int .i64 (mc 2), .int .i64 (mc 3), .int .i64 (mc 4), .int .i64 (mc 5), .int .i64 0, .int .i64 0, .int .i64 z, .bool true, .slice none 0 0] : Array Value).toList) (by kernel_rfl) ?_ (fun hHeld => ?_)
      · exact ⟨⟨HX5.out.cell 5, HX5.out.cell 6, HX5.out.cell 10⟩, box_range HQ5.out⟩
      refine wpAnyH_take (i := 0) (oi := ⟨some 86, _, _, _, _, _⟩) (v := ?_) rfl (by kernel_rfl) (by kernel_rfl) (by kernel_rfl) (fun _ _ _ h => h) (Or.inl ⟨by rfl, ?_⟩) (by assumption) ?_
      rotate_left 1
      · intro w0 hSw
        obtain ⟨⟨s0, s1, s2⟩, s3⟩ := hSw
        go_simp
        try with_reducible rfl
      (try simp only [Act.put, List.setIfInBounds_toArray, List.set_cons_zero, List.set_cons_succ])
      refine wpAnyH_take (i := 1) (oi := ⟨some 87, _, _, _, _, _⟩) (v := ?_) rfl (by kernel_rfl) (by kernel_rfl) (by kernel_rfl) (fun _ _ _ h => h) (Or.inl ⟨by rfl, ?_⟩) (by assumption) ?_
      rotate_left 1
      · intro w0 hSw
        obtain ⟨⟨s0, s1, s2⟩, s3⟩ := hSw
        go_simp
        try with_reducible rfl
      (try simp only [Act.put, List.setIfInBounds_toArray, List.set_cons_zero, List.set_cons_succ])
      refine wpAnyH_take (i := 2) (oi := ⟨some 88, _, _, _, _, _⟩) (v := ?_) rfl (by kernel_rfl) (by kernel_rfl) (by kernel_rfl) (fun _ _ _ h => h) (Or.inl ⟨by rfl, ?_⟩) (by assumption) ?_
      rotate_left 1
      · intro w0 hSw
        obtain ⟨⟨s0, s1, s2⟩, s3⟩ := hSw
        go_simp
        try with_reducible rfl
      (try simp only [Act.put, List.setIfInBounds_toArray, List.set_cons_zero, List.set_cons_succ])
      refine wpAnyH_take (i := 3) (oi := ⟨some 89, _, _, _, _, _⟩) (v := ?_) rfl (by kernel_rfl) (by kernel_rfl) (by kernel_rfl) (fun _ _ _ h => h) (Or.inl ⟨by rfl, ?_⟩) (by assumption) ?_
      rotate_left 1
      · intro w0 hSw
        obtain ⟨⟨s0, s1, s2⟩, s3⟩ := hSw
        go_simp
        try with_reducible rfl
      (try simp only [Act.put, List.setIfInBounds_toArray, List.set_cons_zero, List.set_cons_succ])
      refine wpAnyH_take (i := 4) (oi := ⟨some 90, _, _, _, _, _⟩) (v := ?_) rfl (by kernel_rfl) (by kernel_rfl) (by kernel_rfl) (fun _ _ _ h => h) (Or.inl ⟨by rfl, ?_⟩) (by assumption) ?_
      rotate_left 1
      · intro w0 hSw
        obtain ⟨⟨s0, s1, s2⟩, s3⟩ := hSw
        go_simp
        try with_reducible rfl
      (try simp only [Act.put, List.setIfInBounds_toArray, List.set_cons_zero, List.set_cons_succ])
      refine wpAnyH_take (i := 5) (oi := ⟨some 91, _, _, _, _, _⟩) (v := ?_) rfl (by kernel_rfl) (by kernel_rfl) (by kernel_rfl) (fun _ _ _ h => h) (Or.inl ⟨by rfl, ?_⟩) (by assumption) ?_
      rotate_left 1
      · intro w0 hSw
        obtain ⟨⟨s0, s1, s2⟩, s3⟩ := hSw
        go_simp
        try with_reducible rfl
      (try simp only [Act.put, List.setIfInBounds_toArray, List.set_cons_zero, List.set_cons_succ])
      refine wpAnyH_take (i := 6) (oi := ⟨some 92, _, _, _, _, _⟩) (v := ?_) rfl (by kernel_rfl) (by kernel_rfl) (by kernel_rfl) (fun _ _ _ h => h) (Or.inl ⟨by rfl, ?_⟩) (by assumption) ?_
      rotate_left 1
      · intro w0 hSw
        obtain ⟨⟨s0, s1, s2⟩, s3⟩ := hSw
        go_simp
        try with_reducible rfl
      (try simp only [Act.put, List.setIfInBounds_toArray, List.set_cons_zero, List.set_cons_succ])
      refine wpAnyH_take (i := 7) (oi := ⟨some 93, _, _, _, _, _⟩) (v := ?_) rfl (by kernel_rfl) (by kernel_rfl) (by kernel_rfl) (fun _ _ _ h => h) (Or.inl ⟨by rfl, ?_⟩) (by assumption) ?_
      rotate_left 1
      · intro w0 hSw
        obtain ⟨⟨s0, s1, s2⟩, s3⟩ := hSw
        go_simp
        try with_reducible rfl
      (try simp only [Act.put, List.setIfInBounds_toArray, List.set_cons_zero, List.set_cons_succ])
      refine wpAnyH_take (i := 9) (oi := ⟨some 95, _, _, _, _, _⟩) (v := _) rfl (by kernel_rfl) (by kernel_rfl) (by kernel_rfl) (fun _ _ _ h => h) (yieldsIf_load_mid (by rfl) 40 (.tmp 10) rfl q 0 rfl (#[.int .i64 13, .int .i64 (mc 1), .int .i64 (mc 2), .int .i64 (mc 3), .int .i64 (mc 4), .int .i64 (mc 5), .int .i64 0, .int .i64 0, .int .i64 z, .bool true, .slice none 0 0] : Array Value).toList _ (fun w hw => hw.2) Tryz.underlying40 rfl (by kernel_rfl)) (by assumption) ?_
      (try simp only [Act.put, List.setIfInBounds_toArray, List.set_cons_zero, List.set_cons_succ])
      refine wpAnyH_ready (rs := [8, 10]) (by kernel_rfl) (by simp) ?_
      refine (AllReadyH.cons (o := ⟨some 94, _, _, _, _, _⟩) rfl (fun K hK => ?_) (AllReadyH.cons (o := ⟨some 96, _, _, _, _, _⟩) rfl (fun K hK => ?_) AllReadyH.nil))
      · rw [if_pos (by rfl)]
        go_simp
        refine (hold_any (H5.out.draws 1) (by have := HBB.out; omega) (HD5.out.below (below_draws (Below.refl _ _) 1)) (mc 5) (mc 6)).mono ?_
        rintro e W6 ⟨u6, rfl, ha, hc, ht⟩
        rw [HTLE.out] at ht
        have H6 := hid ha
        have HC6 := hid hc
        have HT6 := hid ht
        have HX6 := hid (hc.bx (HX5.out.draws 1) (fun ho => HNP.out p (H5.out.mine_x p (.inl ho)) rfl))
        have HQ6 := hid (hc.bx (HQ5.out.draws 1) (fun ho => HNQ.out _ (H5.out.mine_x _ (.inl ho)) rfl))
        have k8 := And.intro (And.intro (HX6.out.cell 5) (And.intro (HX6.out.cell 6) (HX6.out.cell 10))) (box_range HQ6.out)
        clear ha hc ht
        go_simp
        refine hK.out _ _ k8 (fun hHeld => ?_)
        clear hK K
        (try simp only [Act.put, List.setIfInBounds_toArray, List.set_cons_zero, List.set_cons_succ])
        refine wpAnyH_ready (rs := [10]) (by kernel_rfl) (by simp) ?_
        refine AllReadyH.cons (o := ⟨some 96, _, _, _, _, _⟩) rfl (fun K hK => ?_) AllReadyH.nil
        rw [if_pos (by rfl)]
        have kb := And.intro (And.intro ((HX6.out.alloc (.cells #[.int .i64 13, .int .i64 (mc 1), .int .i64 (mc 2), .int .i64 (mc 3), .int .i64 (mc 4), .int .i64 (mc 5), .int .i64 0, .int .i64 0, .int .i64 z, .bool true, .slice none 0 0] 40)).cell 5) (And.intro ((HX6.out.alloc (.cells #[.int .i64 13, .int .i64 (mc 1), .int .i64 (mc 2), .int .i64 (mc 3), .int .i64 (mc 4), .int .i64 (mc 5), .int .i64 0, .int .i64 0, .int .i64 z, .bool true, .slice none 0 0] 40)).cell 6) ((HX6.out.alloc (.cells #[.int .i64 13, .int .i64 (mc 1), .int .i64 (mc 2), .int .i64 (mc 3), .int .i64 (mc 4), .int .i64 (mc 5), .int .i64 0, .int .i64 0, .int .i64 z, .bool true, .slice none 0 0] 40)).cell 10))) (box_range (HQ6.out.alloc (.cells #[.int .i64 13, .int .i64 (mc 1), .int .i64 (mc 2), .int .i64 (mc 3), .int .i64 (mc 4), .int .i64 (mc 5), .int .i64 0, .int .i64 0, .int .i64 z, .bool true, .slice none 0 0] 40)))
        go_simp
        refine hK.out _ _ kb (fun hHeld => ?_)
        clear hK K
        (try simp only [Act.put, List.setIfInBounds_toArray, List.set_cons_zero, List.set_cons_succ])
        refine wpAnyH_ready (rs := [11]) (by kernel_rfl) (by simp) ?_
        refine AllReadyH.cons (o := ⟨some 97, _, _, _, _, _⟩) rfl (fun K hK => ?_) AllReadyH.nil
        rw [if_pos (by rfl)]
        obtain ⟨us, hul, hown, hby⟩ := HT6.out
        have hlow : ∀ j, j < W5.heap.size → some j ≠ u6.ownBlock := fun j hj e => by have h8 : W5.heap.size ≤ W5.drew.heap.size := Nat.le_refl _; have h7 : W5.heap.size ≤ j := Nat.le_trans h8 (World.ownsRow.lt hown j e.symm).1; omega
        refine wp_app18 (.tmp 94) (.tmp 96) rfl W5.drew.heap.size u6 _ (tcs tl us) (OwnV.below hown (below_alloc W6 (.cells #[.int .i64 13, .int .i64 (mc 1), .int .i64 (mc 2), .int .i64 (mc 3), .int .i64 (mc 4), .int .i64 (mc 5), .int .i64 0, .int .i64 0, .int .i64 z, .bool true, .slice none 0 0] 40))) rfl (W6.heap.size + 1) (some ⟨W6.heap.size, 0, none⟩) 1 1 (tcl (tmW mc z true) (.slice none 0 0)) rfl rfl (rv_new W6 _ _) (tcl_one _ rfl) (by have := HTL.out; unfold maxLen; omega) (by have := HTL.out; omega) (Nat.le_trans HC6.out.size (below_alloc W6 (.cells #[.int .i64 13, .int .i64 (mc 1), .int .i64 (mc 2), .int .i64 (mc 3), .int .i64 (mc 4), .int .i64 (mc 5), .int .i64 0, .int .i64 0, .int .i64 z, .bool true, .slice none 0 0] 40)).size) ?_
        intro v7 W7 ho7 hg7
        have HTA := hid (told_app (t := tmW mc z true) (y := .slice none 0 0) (H5.out.draws 1) H6.out HC6.out HT6.out (below_alloc W6 (.cells #[.int .i64 13, .int .i64 (mc 1), .int .i64 (mc 2), .int .i64 (mc 3), .int .i64 (mc 4), .int .i64 (mc 5), .int .i64 0, .int .i64 0, .int .i64 z, .bool true, .slice none 0 0] 40)) hul hby (by_none _ _) ho7 hg7)
        have HX7 := hid (Bx.apart (HX6.out.alloc (.cells #[.int .i64 13, .int .i64 (mc 1), .int .i64 (mc 2), .int .i64 (mc 3), .int .i64 (mc 4), .int .i64 (mc 5), .int .i64 0, .int .i64 0, .int .i64 z, .bool true, .slice none 0 0] 40)) hg7.1 (hlow _ HX5.out.lt))
        have HQ7 := hid (Bx.apart (HQ6.out.alloc (.cells #[.int .i64 13, .int .i64 (mc 1), .int .i64 (mc 2), .int .i64 (mc 3), .int .i64 (mc 4), .int .i64 (mc 5), .int .i64 0, .int .i64 0, .int .i64 z, .bool true, .slice none 0 0] 40)) hg7.1 (hlow _ HQ5.out.lt))
        have k11 := And.intro (And.intro (HX7.out.cell 5) (And.intro (HX7.out.cell 6) (HX7.out.cell 10))) (box_range HQ7.out)
        clear hul hown hby ho7 hg7 hlow
        refine hK.out _ _ k11 (fun hHeld => ?_)
        clear hK K
        (try simp only [Act.put, List.setIfInBounds_toArray, List.set_cons_zero, List.set_cons_succ])
        refine wpAnyH_take (i := 12) (oi := ⟨some 4, _, _, _, _, _⟩) (v := ?_) rfl (by kernel_rfl) (by kernel_rfl) (by kernel_rfl) (fun _ _ _ h => h) (Or.inl ⟨by rfl, ?_⟩) (by assumption) ?_
        rotate_left 1
        · intro w0 hSw
          obtain ⟨⟨s0, s1, s2⟩, s3⟩ := hSw
          go_simp
          try with_reducible rfl
        (try simp only [Act.put, List.setIfInBounds_toArray, List.set_cons_zero, List.set_cons_succ])
        refine wpAnyH_done (by kernel_rfl) ?_ _
        refine NoPanic.normal ?_
        go_wp2_with fail
        go_ret
        have h9 := HTA.out.2.1.low HC5.out.size
        rw [← HTLE.out] at h9
        rw [← HPQ.out, if_neg H12.out, if_neg HV.out]
        exact ⟨_, L', f', rfl, HC5.out.trans ((Chg.of (below_draws (Below.refl W5.heap.size W5) 1) _).trans (HTA.out.2.2.wide (own_mine K))), .inl ⟨HTA.out.1.up (by omega), HF2.out, HF3.out, h9⟩⟩
      · rw [if_pos (by rfl)]
        go_simp
        refine hK.out _ _ kal.out (fun hHeld => ?_)
        clear hK K
        (try simp only [Act.put, List.setIfInBounds_toArray, List.set_cons_zero, List.set_cons_succ])
        refine wpAnyH_ready (rs := [8]) (by kernel_rfl) (by simp) ?_
        refine AllReadyH.cons (o := ⟨some 94, _, _, _, _, _⟩) rfl (fun K hK => ?_) AllReadyH.nil
        rw [if_pos (by rfl)]
        go_simp
        refine (hold_any ((H5.out.below (below_alloc W5 (.cells #[.int .i64 13, .int .i64 (mc 1), .int .i64 (mc 2), .int .i64 (mc 3), .int .i64 (mc 4), .int .i64 (mc 5), .int .i64 0, .int .i64 0, .int .i64 z, .bool true, .slice none 0 0] 40))).draws 1) (by have := HBB.out; omega) ((HD5.out.below (below_alloc W5 (.cells #[.int .i64 13, .int .i64 (mc 1), .int .i64 (mc 2), .int .i64 (mc 3), .int .i64 (mc 4), .int .i64 (mc 5), .int .i64 0, .int .i64 0, .int .i64 z, .bool true, .slice none 0 0] 40))).below (below_draws (Below.refl _ _) 1)) (mc 5) (mc 6)).mono ?_
        rintro e W6 ⟨u6, rfl, ha, hc, ht⟩
        rw [HTLE.out] at ht
        have H6 := hid ha
        have HC6 := hid hc
        have HT6 := hid ht
        have HX6 := hid (hc.bx ((HX5.out.alloc (.cells #[.int .i64 13, .int .i64 (mc 1), .int .i64 (mc 2), .int .i64 (mc 3), .int .i64 (mc 4), .int .i64 (mc 5), .int .i64 0, .int .i64 0, .int .i64 z, .bool true, .slice none 0 0] 40)).draws 1) (fun ho => HNP.out p (H5.out.mine_x p (.inl ho)) rfl))
        have HQ6 := hid (hc.bx ((HQ5.out.alloc (.cells #[.int .i64 13, .int .i64 (mc 1), .int .i64 (mc 2), .int .i64 (mc 3), .int .i64 (mc 4), .int .i64 (mc 5), .int .i64 0, .int .i64 0, .int .i64 z, .bool true, .slice none 0 0] 40)).draws 1) (fun ho => HNQ.out _ (H5.out.mine_x _ (.inl ho)) rfl))
        have HR6 := hid (hc.bx ((Bx.new W5 40 #[.int .i64 13, .int .i64 (mc 1), .int .i64 (mc 2), .int .i64 (mc 3), .int .i64 (mc 4), .int .i64 (mc 5), .int .i64 0, .int .i64 0, .int .i64 z, .bool true, .slice none 0 0]).draws 1) (fun ho => HNR.out _ (H5.out.mine_x _ (.inl ho)) rfl))
        have k8 := And.intro (And.intro (HX6.out.cell 5) (And.intro (HX6.out.cell 6) (HX6.out.cell 10))) (box_range HQ6.out)
        clear ha hc ht
        go_simp
        refine hK.out _ _ k8 (fun hHeld => ?_)
        clear hK K
        (try simp only [Act.put, List.setIfInBounds_toArray, List.set_cons_zero, List.set_cons_succ])
        refine wpAnyH_ready (rs := [11]) (by kernel_rfl) (by simp) ?_
        refine AllReadyH.cons (o := ⟨some 97, _, _, _, _, _⟩) rfl (fun K hK => ?_) AllReadyH.nil
        rw [if_pos (by rfl)]
        obtain ⟨us, hul, hown, hby⟩ := HT6.out
        have hlow : ∀ j, j < W5.heap.size → some j ≠ u6.ownBlock := fun j hj e => by have h8 : W5.heap.size ≤ ((W5.alloc (.cells #[.int .i64 13, .int .i64 (mc 1), .int .i64 (mc 2), .int .i64 (mc 3), .int .i64 (mc 4), .int .i64 (mc 5), .int .i64 0, .int .i64 0, .int .i64 z, .bool true, .slice none 0 0] 40)).drew).heap.size := (below_alloc W5 (.cells #[.int .i64 13, .int .i64 (mc 1), .int .i64 (mc 2), .int .i64 (mc 3), .int .i64 (mc 4), .int .i64 (mc 5), .int .i64 0, .int .i64 0, .int .i64 z, .bool true, .slice none 0 0] 40)).size; have h7 : W5.heap.size ≤ j := Nat.le_trans h8 (World.ownsRow.lt hown j e.symm).1; omega
        refine wp_app18 (.tmp 94) (.tmp 96) rfl ((W5.alloc (.cells #[.int .i64 13, .int .i64 (mc 1), .int .i64 (mc 2), .int .i64 (mc 3), .int .i64 (mc 4), .int .i64 (mc 5), .int .i64 0, .int .i64 0, .int .i64 z, .bool true, .slice none 0 0] 40)).drew).heap.size u6 _ (tcs tl us) hown rfl W6.heap.size (some ⟨W5.heap.size, 0, none⟩) 1 1 (tcl (tmW mc z true) (.slice none 0 0)) rfl rfl (rv_bx HR6.out) (tcl_one _ rfl) (by have := HTL.out; unfold maxLen; omega) (by have := HTL.out; omega) HC6.out.size ?_
        intro v7 W7 ho7 hg7
        have HTA := hid (told_app (t := tmW mc z true) (y := .slice none 0 0) ((H5.out.below (below_alloc W5 (.cells #[.int .i64 13, .int .i64 (mc 1), .int .i64 (mc 2), .int .i64 (mc 3), .int .i64 (mc 4), .int .i64 (mc 5), .int .i64 0, .int .i64 0, .int .i64 z, .bool true, .slice none 0 0] 40))).draws 1) H6.out HC6.out HT6.out (Below.refl _ _) hul hby (by_none _ _) ho7 hg7)
        have HX7 := hid (Bx.apart HX6.out hg7.1 (hlow _ HX5.out.lt))
        have HQ7 := hid (Bx.apart HQ6.out hg7.1 (hlow _ HQ5.out.lt))
        have k11 := And.intro (And.intro (HX7.out.cell 5) (And.intro (HX7.out.cell 6) (HX7.out.cell 10))) (box_range HQ7.out)
        clear hul hown hby ho7 hg7 hlow
        refine hK.out _ _ k11 (fun hHeld => ?_)
        clear hK K
        (try simp only [Act.put, List.setIfInBounds_toArray, List.set_cons_zero, List.set_cons_succ])
        refine wpAnyH_take (i := 12) (oi := ⟨some 4, _, _, _, _, _⟩) (v := ?_) rfl (by kernel_rfl) (by kernel_rfl) (by kernel_rfl) (fun _ _ _ h => h) (Or.inl ⟨by rfl, ?_⟩) (by assumption) ?_
        rotate_left 1
        · intro w0 hSw
          obtain ⟨⟨s0, s1, s2⟩, s3⟩ := hSw
          go_simp
          try with_reducible rfl
        (try simp only [Act.put, List.setIfInBounds_toArray, List.set_cons_zero, List.set_cons_succ])
        refine wpAnyH_done (by kernel_rfl) ?_ _
        refine NoPanic.normal ?_
        go_wp2_with fail
        go_ret
        have h9 := HTA.out.2.1.low (Nat.le_trans HC5.out.size (below_alloc W5 (.cells #[.int .i64 13, .int .i64 (mc 1), .int .i64 (mc 2), .int .i64 (mc 3), .int .i64 (mc 4), .int .i64 (mc 5), .int .i64 0, .int .i64 0, .int .i64 z, .bool true, .slice none 0 0] 40)).size)
        rw [← HTLE.out] at h9
        rw [← HPQ.out, if_neg H12.out, if_neg HV.out]
        exact ⟨_, L', f', rfl, HC5.out.trans ((Chg.of (below_draws (below_alloc W5 (.cells #[.int .i64 13, .int .i64 (mc 1), .int .i64 (mc 2), .int .i64 (mc 3), .int .i64 (mc 4), .int .i64 (mc 5), .int .i64 0, .int .i64 0, .int .i64 z, .bool true, .slice none 0 0] 40)) 1) _).trans (HTA.out.2.2.wide (own_mine K))), .inl ⟨HTA.out.1.up (by omega), HF2.out, HF3.out, h9⟩⟩
  · have d0 : ((z2 : Int) == 0) = false := by simpa using h0
    have d8 : ((z2 : Int) == 8) = false := by simpa using (HRE.out h0).1
    have hv := HNE.out h0
    have HV := hid hv
    have hzz : z = z2 := by rw [← HZ.out, if_neg h0]
    subst hzz
    clear h0 HZ
    go_upto_region 12 with fail
    obtain ⟨W3, hW3⟩ : ∃ x, W2.alloc (.cells #[.int .i64 13, .int .i64 (mc 1), .int .i64 (mc 2), .int .i64 (mc 3), .int .i64 (mc 4), .int .i64 (mc 5), .int .i64 0, .int .i64 0, .int .i64 z, .bool false, .slice none 0 0] 40) = x := ⟨_, rfl⟩
    have hb3 := below_alloc W2 (.cells #[.int .i64 13, .int .i64 (mc 1), .int .i64 (mc 2), .int .i64 (mc 3), .int .i64 (mc 4), .int .i64 (mc 5), .int .i64 0, .int .i64 0, .int .i64 z, .bool false, .slice none 0 0] 40)
    have HQ3 := hid (show Bx W3 W2.heap.size 40 #[.int .i64 13, .int .i64 (mc 1), .int .i64 (mc 2), .int .i64 (mc 3), .int .i64 (mc 4), .int .i64 (mc 5), .int .i64 0, .int .i64 0, .int .i64 z, .bool false, .slice none 0 0] from hW3 ▸ Bx.new _ _ _)
    rw [hW3] at hb3 ⊢
    have HE3 := hid hW3
    have H3 := hid (H2.out.below hb3)
    have HX3 := hid (HX2.out.next hb3)
    have HB3 := hid hb3
    clear hb3 hW3 x1 x2 x3 x4 x5 d12
    have x5 : W3.cell? ⟨p, 5, none⟩ = some (.int .i64 (mc 5)) := HX3.out.cell 5
    have xS : W3.cell? ⟨K.g, 1, none⟩ = some (.pointer (some ⟨K.ks, 0, none⟩)) := H3.out.bx.cell 1
    go_region_held3 (fun y => y.cell? ⟨p, 5, none⟩ = some (.int .i64 (mc 5)) ∧ y.cell? ⟨K.g, 1, none⟩ = some (.pointer (some ⟨K.ks, 0, none⟩))) (first | exact kp | exact ⟨x5, xS⟩) ((go_at_call 47; refine (sread_any (H3.out.draws 1).sx H3.out.cm.lt (by have := H3.out.c2; omega) (mc 5)).mono ?_; rintro e W4 ⟨u4, rfl, hy, hb⟩; rw [HRW.out]; have HB4 := hid (below_of_drew hb); have HX4 := hid (HX3.out.next HB4.out); have HQ4 := hid (HQ3.out.next HB4.out); have H4 := hid (H3.out.below HB4.out); have kp := And.intro (HX4.out.cell 5) (H4.out.bx.cell 1); clear hy hb))
    clear kp x5 xS HX3 H3 HRW
    have d13 : ((vb : Int) == va) = true := by simpa using hv
    go_upto_region 14 with fail
    go_wp2_with (refine wpList_load_bx rfl 40 (.tmp 10) rfl _ _ _ _ rfl HQ4.out Tryz.underlying40 rfl (by kernel_rfl) ?_)
    go_ret
    rw [← HPQ.out, if_neg H12.out, if_pos HV.out]
    exact ⟨_, L', f', rfl, HC3.out.trans ((Chg.of HB3.out _).trans ((Chg.of HB4.out _).trans (Chg.of (below_alloc _ _) _))), .inl ⟨(H4.out.below (below_alloc _ _)).up (by omega), HF2.out, HF3.out, tlv_one (t := tmW mc z false) (Nat.le_trans HC3.out.size (Nat.le_trans HB3.out.size HB4.out.size)) (by_none _ _)⟩⟩
end
end Go.Proofs.YtbcejfonkehjgaaGreatDoor
namespace Go.Proofs.YtbcejfonkehjgaaGreatDoor
open Go.RowKit

theorem shl_eq (x k : Nat) (hx : x < 9223372036854775808) (hk : k < 63) : ((bits BinOp.and IntKind.u64 (x : Int) (IntKind.u64.wrap (2 ^ k))) == 0) = !x.testBit k := by
  have e : IntKind.u64.wrap (2 ^ k : Int) = ((2 ^ k : Nat) : Int) := by
    have h : (2 : Nat) ^ k < 9223372036854775808 := Nat.lt_of_lt_of_le (Nat.pow_lt_pow_right (by omega) hk) (by decide)
    rw [IntKind.wrap_u64, show (2 ^ k : Int) = ((2 ^ k : Nat) : Int) by rw [Int.natCast_pow]; rfl]
    generalize 2 ^ k = y at h
    omega
  rw [e]
  have := bit_yes k hx hk
  rw [bne] at this
  rw [← this, Bool.not_not]
theorem mk_le (k : Nat) : mk k ≤ 2046 := by
  match k with
  | 0 | 1 | 2 | 3 | 4 | 5 | 6 | 7 | 8 | 9 | 10 | 11 | 12 | 13 | 14 => decide
  | n + 15 => exact Nat.zero_le _
end Go.Proofs.YtbcejfonkehjgaaGreatDoor
