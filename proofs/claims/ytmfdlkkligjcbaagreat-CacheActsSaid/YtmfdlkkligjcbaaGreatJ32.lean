/-
  What is proved: the walk of the reference's Add, beside the lists. Condition: its MQ lies in memory as one.
-/
import Derived.Test.YtmfdlkkligjcbaaGreatJ01
import Derived.Test.YtmfdlkkligjcbaaGreatJ31
namespace Go.Proofs.YtmfdlkkligjcbaaGreat
open Go.RowKit

section
variable {w w' : World} {k : Nat} {X : Nat → Prop} {h a p e C N L H : Nat} {m : Ms}
theorem chg_far {F : Nat → Prop} {w2 : World} (hc : Chg w w2 F F) (hk : w.heap.size ≤ k) (i : Nat) (v : Value) : Chg w (w2.setCell ⟨k, i, none⟩ v) F F :=
  ⟨hc.os, hc.tape, hc.output, by rw [setSize]; exact hc.size, fun j h1 h2 => (Below.heap_setCell w2 ⟨k, i, none⟩ v j (show j ≠ k by omega)).trans (hc.block j h1 h2), fun _ e => .inl e⟩
theorem chg_fresh {F : Nat → Prop} {w2 : World} (hc : Chg w w2 F F) (hk : w.heap.size ≤ k) (cs : Array Value) : Chg w (w2.setRow k cs) F F :=
  ⟨hc.os, hc.tape, hc.output, by rw [setRow_size]; exact hc.size, fun j h1 h2 => (setRow_other w2 k j cs (by omega)).trans (hc.block j h1 h2), fun _ e => .inl e⟩
/-- the answer's block is another one: the lists stand, and the block is let go -/
theorem rs_end (r : Rs w (fun j => X j ∨ j = k) h a p e C N L H m) (hF : ∀ j, Fr h a p e j → X j) (hk : ¬ X k) (cs : Array Value) : Rs (w.setRow k cs) X h a p e C N L H m := by
  refine (r.chg (chg_row w k cs) (fun j e => .inr e) fun j e hf => hk ?_).less (fun j hj => .inl hj) hF
  rw [← e]
  exact hF j hf
set_option maxRecDepth 10000 in
set_option maxHeartbeats 1000000 in
theorem rs_add_was (r : Rs w X h a p e C N L H m) (ok : Okm C N L H m) (ht : m.t ≤ 10000000) {b : Int} (hb : b ∈ m.al) :
    Calls Tryz.prog 76 #[.pointer (some ⟨h, 0, none⟩), .int .i64 b] w fun en w' => en = .returned (.agg #[.int .i64 0, .bool false, .int .i64 0]) ∧ Rs w' X h a p e C N L H (m.us N L b) ∧ Chg w w' (Fr h a p e) (Fr h a p e) := by
  have hv := ok.lt (ok.in_al hb)
  have v0 : ¬ b < 0 := by omega
  have v1 : ¬ (63 : Int) < b := by omega
  have HXF := hid r.xf
  have HR0 := hid (r.alloc (.cells #[.int .i64 0, .bool false, .int .i64 0] 151))
  have HB0 := hid (Bx.new w 151 #[.int .i64 0, .bool false, .int .i64 0])
  have HC0 := hid (Chg.of (below_alloc w (.cells #[.int .i64 0, .bool false, .int .i64 0] 151)) (Fr h a p e))
  have HNX := hid (show ¬ X w.heap.size from fun hx => by have := r.xf.2 _ hx; omega)
  have HUSE := hid (rs_use HR0.out ok ht b)
  rw [decide_eq_true hb, show m.useM N L b = m.us N L b from if_pos hb] at HUSE
  clear hv r ok hb
  go_enter Tryz.func76, Tryz.ntmps76
  go_upto_region 3 with fail
  obtain ⟨W0, hW0⟩ : ∃ x, w.alloc (.cells #[.int .i64 0, .bool false, .int .i64 0] 151) = x := ⟨_, rfl⟩
  obtain ⟨r0, hr0⟩ : ∃ x, w.heap.size = x := ⟨_, rfl⟩
  rw [hW0] at HR0 HB0 HC0 HUSE ⊢
  rw [hr0] at HR0 HB0 HNX HUSE ⊢
  have HSZ := hid (Nat.le_of_eq hr0)
  clear hW0 hr0
  go_upto_region 4 with (go_at_call 75; refine HUSE.out.mono ?_; rintro e2 w2 ⟨rfl, hz, hc⟩; have HR2 := hid hz; have HB2 := hid (hc.bx HB0.out fun hf => HNX.out (HXF.out.1 _ hf)); have HC2 := hid (HC0.out.trans hc); clear hz hc)
  go_wp2_with (refine wpList_store_bx rfl 151 (.tmp 4) (.tmp 17) rfl rfl r0 _ _ #[.int .i64 0, .bool false, .int .i64 0] rfl rfl HB2.out (by kernel_rfl) rfl (by simp [Value.oneCell']) ?_)
  refine bodyPost_ret (results_bx1 rfl _ rfl (HB2.out.row (cs' := #[.int .i64 0, .bool false, .int .i64 0])) Tryz.underlying151 rfl (by kernel_rfl)) rfl ?_
  exact ⟨rfl, rs_end HR2.out HXF.out.1 HNX.out _, chg_fresh HC2.out HSZ.out _⟩
theorem rs_end2 {k2 : Nat} (r : Rs w (fun j => (X j ∨ j = k) ∨ j = k2) h a p e C N L H m) (hF : ∀ j, Fr h a p e j → X j) (hk : ¬ X k) (cs : Array Value) : Rs (w.setRow k cs) X h a p e C N L H m := by
  refine (r.chg (chg_row w k cs) (fun j e => .inl (.inr e)) fun j e hf => hk ?_).less (fun j hj => .inl (.inl hj)) hF
  rw [← e]
  exact hF j hf
set_option maxRecDepth 10000 in
set_option maxHeartbeats 1000000 in
theorem rs_add_room (r : Rs w X h a p e C N L H m) (ok : Okm C N L H m) (ht : m.t ≤ 10000000) {b : Int} (hv : vb b) (hb : b ∉ m.al) (hfull : m.al.length < C) :
    Calls Tryz.prog 76 #[.pointer (some ⟨h, 0, none⟩), .int .i64 b] w fun en w' => en = .returned (.agg #[.int .i64 0, .bool false, .int .i64 0]) ∧ Rs w' X h a p e C N L H (m.us N L b) ∧ Chg w w' (Fr h a p e) (Fr h a p e) := by
  have hv2 : 0 ≤ b ∧ b < 64 := hv
  have v0 : ¬ b < 0 := by omega
  have v1 : ¬ (63 : Int) < b := by omega
  have HXF := hid r.xf
  have HR0 := hid (r.alloc (.cells #[.int .i64 0, .bool false, .int .i64 0] 151))
  have HB0 := hid (Bx.new w 151 #[.int .i64 0, .bool false, .int .i64 0])
  have HC0 := hid (Chg.of (below_alloc w (.cells #[.int .i64 0, .bool false, .int .i64 0] 151)) (Fr h a p e))
  have HNX := hid (show ¬ X w.heap.size from fun hx => by have := r.xf.2 _ hx; omega)
  have HUSE := hid (rs_use HR0.out ok ht b)
  rw [decide_eq_false hb, show m.useM N L b = m from if_neg hb] at HUSE
  obtain ⟨d, rfl⟩ : ∃ d : Nat, b = d := ⟨b.toNat, by omega⟩
  have hdl : d < 64 := by omega
  have hdd : (d : Int) < 64 := by omega
  have HOK := hid ok
  have HT200 := hid ht
  have HVB := hid hv2
  have HNB := hid hb
  obtain ⟨t, htt⟩ : ∃ t, m.t = t := ⟨_, rfl⟩
  have HT := hid htt
  have ht2 : t ≤ 10000000 := by omega
  obtain ⟨n, hn⟩ : ∃ n, m.al.length = n := ⟨_, rfl⟩
  have HN := hid hn
  have HF := hid hfull
  clear hv2 hv r ok hb htt ht hn hfull
  go_enter Tryz.func76, Tryz.ntmps76
  go_upto_region 3 with fail
  obtain ⟨W0, hW0⟩ : ∃ x, w.alloc (.cells #[.int .i64 0, .bool false, .int .i64 0] 151) = x := ⟨_, rfl⟩
  obtain ⟨r0, hr0⟩ : ∃ x, w.heap.size = x := ⟨_, rfl⟩
  rw [hW0] at HR0 HB0 HC0 HUSE ⊢
  rw [hr0] at HR0 HB0 HNX HUSE ⊢
  have HSZ := hid (Nat.le_of_eq hr0)
  clear hW0 hr0
  go_upto_region 5 with (go_at_call 75; refine HUSE.out.mono ?_; rintro e2 w2 ⟨rfl, hz, hc⟩; have HR2 := hid hz; have HB2 := hid (hc.bx HB0.out fun hf => HNX.out (HXF.out.1 _ hf)); have HC2 := hid (HC0.out.trans hc); clear hz hc)
  obtain ⟨o', ⟨cv, us, ug, hm⟩, ho⟩ := HR2.out
  have HM2 := hid hm
  have HAG0 := hid ho
  have c7 := hm.c7
  have fr := hm.fr
  rw [HT.out] at c7
  clear hm ho HR2 HR0 HB0 HC0 HUSE
  go_upto_region 6 with fail
  have HM3 := hid (HM2.out.setT (t + 1))
  rw [show ((t + 1 : Nat) : Int) = (t : Int) + 1 from by omega] at HM3
  have HC3 := hid (chg_in HC2.out (fr_h (a := a) (p := p) (e := e)) 7 (.int .i64 ((t : Int) + 1)))
  have HB3 := hid (HB2.out.far ⟨h, 7, none⟩ (.int .i64 ((t : Int) + 1)) fun e2 => HNX.out (HXF.out.1 _ (e2 ▸ fr_h)))
  generalize w2.setCell ⟨h, 7, none⟩ (.int .i64 ((t : Int) + 1)) = w3 at *
  clear c7 fr HM2 HC2 HB2
  have HM4 := hid (HM3.out.alloc (.cells #[.int .i64 0, .bool false, .int .i64 0] 151))
  have HB4 := hid (HB3.out.alloc (.cells #[.int .i64 0, .bool false, .int .i64 0] 151))
  have HW4 := hid (Bx.new w3 151 #[.int .i64 0, .bool false, .int .i64 0])
  have HC4 := hid (HC3.out.trans (Chg.of (below_alloc w3 (.cells #[.int .i64 0, .bool false, .int .i64 0] 151)) _))
  have HN5 := hid (show ¬ X w3.heap.size from fun hx => by have := HM3.out.xb _ (.inl hx); omega)
  have HR05 := hid (show r0 ≠ w3.heap.size from fun e2 => by have := HB3.out.lt; omega)
  have HX5 := hid (show ∀ j, Fr h a p e j → j ≠ w3.heap.size from fun j hj e2 => by have := HM3.out.xb _ (HM3.out.xf j hj); omega)
  go_upto_region 7 with fail
  obtain ⟨r5, hr5⟩ : ∃ x, w3.heap.size = x := ⟨_, rfl⟩
  obtain ⟨w4, hw4⟩ : ∃ x, w3.alloc (.cells #[.int .i64 0, .bool false, .int .i64 0] 151) = x := ⟨_, rfl⟩
  rw [hw4] at HM4 HB4 HW4 HC4 ⊢
  rw [hr5] at HM4 HW4 HN5 HR05 HX5 ⊢
  clear hr5 hw4 HM3 HC3 HB3
  have HLN := hid (fun k => rmq_len (w := w4.drewN k) ⟨_, _, _, HM4.out.draws k⟩)
  rw [show (alls (m.S.take N) N).length = n from by rw [alls_take (Nat.le_refl _), HOK.out.allsN]; exact HN.out] at HLN
  have c0 := HM4.out.c0
  have hne : ((n : Int) == (C : Int)) = false := by have := HF.out; have := HN.out; simp; omega
  have hne2 : decide ((n : Int) = (C : Int)) = false := by have := HF.out; have := HN.out; simp; omega
  have hne3 : decide (n = C) = false := by have := HF.out; have := HN.out; simp; omega
  go_quiet (first | (go_at_call 91; exact quietL (HLN.out _)))
  have HMt := hid (HM4.out.draws nq)
  have HBt := hid (HB4.out.draws nq)
  have HWt := hid (HW4.out.draws nq)
  have HCt := hid (Chg.draws HC4.out nq)
  have HAG := HAG0
  have HTM := HT
  have HUSED := hid (fun (y : World) (o1 : Int → Int) (hy : Rz y (fun j => (X j ∨ j = r0) ∨ j = r5) h a p e C N L H o1 { m with t := m.t + 1 }) (hob : o1 d = m.o d) => rz_used hy HOK.out HT200.out HVB.out hob (.inr HF.out))
  have HFIN := hid (fun (y : World) (o1 : Int → Int) (hy : Rz y (fun j => (X j ∨ j = r0) ∨ j = r5) h a p e C N L H (upd o1 d (m.o d + 1)) (m.us N L d)) (hag : ∀ c, inS m.S c → o1 c = m.o c) => rs_us hy HOK.out (HOK.out.us HVB.out (.inr HF.out)) hag)
  have HNO := hid (fun (hg : (d : Int) ∉ m.S.getD 8 []) => show m.o d = 0 ∧ ¬ inS m.S d from by
    have hn : ¬ inS m.S d := fun hs => by
      rcases HOK.out.split.1 hs with h1 | h1
      · exact HNB.out h1
      · exact hg h1
    exact ⟨HOK.out.o0 _ hn, hn⟩)
  generalize w4.drewN nq = w5 at *
  clear c0 HM4 HB4 HW4 HC4 HLN
  go_upto_region 17 with fail
  clear hne hne2 hne3
  obtain ⟨gA, gc, hug, hgr, hgc, hgm, -⟩ := HMt.out.gh
  have c4 := HMt.out.c4
  rw [hug] at c4
  clear hug
  have HH := hid (rhas_any gA _ gc (m.S.getD 8 []) d w5 _ rfl (by have := HMt.out.g64; unfold maxLen; omega) hgr.rd)
  by_cases hbg : (d : Int) ∈ m.S.getD 8 []
  · rw [dec_true hbg] at HH
    have HEQ := hid (HAG.out d (inS_gd.2 ⟨8, hbg⟩))
    have HZ := hid (show Rz w5 (fun j => (X j ∨ j = r0) ∨ j = r5) h a p e C N L H o' { m with t := m.t + 1 } from by have := HMt.out; rw [← HTM.out] at this; exact ⟨_, _, _, this⟩)
    clear hbg hgr hgc hgm
    generalize hng : (m.S.getD 8 []).length = ng at *
    clear hng
    go_upto_region 19 with (go_at_call 46; refine HH.out.mono ?_; rintro e2 w8 ⟨rfl, rfl⟩)
    go_upto_region 20 with (go_at_call 90; refine (HUSED.out _ o' HZ.out HEQ.out).mono ?_; rintro e2 w9 ⟨rfl, hz, hc⟩; have HR9 := hid (HFIN.out _ o' hz HAG.out); have HC9 := hid (HCt.out.trans hc); have HB9 := hid (hc.bx HBt.out fun hf => HNX.out (HXF.out.1 _ hf)); have HW9 := hid (hc.bx HWt.out fun hf => HN5.out (HXF.out.1 _ hf)); clear hz hc)
    go_wp2_with (first | (refine wpList_load_bx rfl 151 (.tmp 5) rfl r5 _ _ _ rfl HW9.out Tryz.underlying151 rfl (by kernel_rfl) ?_) | (refine wpList_store_bx rfl 151 (.tmp 4) (.tmp 128) rfl rfl r0 _ _ #[.int .i64 0, .bool false, .int .i64 0] rfl rfl HB9.out (by kernel_rfl) rfl (by simp [Value.oneCell']) ?_))
    refine bodyPost_ret (results_bx1 rfl _ rfl (HB9.out.row (cs' := #[.int .i64 0, .bool false, .int .i64 0])) Tryz.underlying151 rfl (by kernel_rfl)) rfl ?_
    exact ⟨rfl, rs_end2 HR9.out HXF.out.1 HNX.out _, chg_fresh HC9.out HSZ.out _⟩
  · rw [dec_false hbg] at HH
    have HZO := hid (HNO.out hbg)
    have c5 := HMt.out.c5
    have co := HMt.out.co hdl
    have fo := HMt.out.oft.free
    have HM8 := hid (HMt.out.setO (b := d) 0)
    clear hbg hgr hgc hgm
    generalize hng : (m.S.getD 8 []).length = ng at *
    clear hng
    go_upto_region 19 with (go_at_call 46; refine HH.out.mono ?_; rintro e2 w8 ⟨rfl, rfl⟩)
    have HC8 := hid (chg_in HCt.out (fr_p (h := h) (a := a) (e := e)) d (.int .i64 0))
    have HB8 := hid (HBt.out.far ⟨p, d, none⟩ (.int .i64 0) fun e2 => HNX.out (HXF.out.1 _ (e2 ▸ fr_p)))
    have HW8 := hid (HWt.out.far ⟨p, d, none⟩ (.int .i64 0) fun e2 => HN5.out (HXF.out.1 _ (e2 ▸ fr_p)))
    generalize w5.setCell ⟨p, d, none⟩ (.int .i64 0) = w8 at *
    have HZ := hid (show Rz w8 (fun j => (X j ∨ j = r0) ∨ j = r5) h a p e C N L H (upd o' d 0) { m with t := m.t + 1 } from by have := HM8.out; rw [← HTM.out] at this; exact ⟨_, _, _, this⟩)
    clear c5 co fo
    go_upto_region 20 with (go_at_call 90; refine (HUSED.out _ (upd o' d 0) HZ.out (by rw [upd_same]; exact HZO.out.1.symm)).mono ?_; rintro e2 w9 ⟨rfl, hz, hc⟩; have HR9 := hid (HFIN.out _ (upd o' d 0) hz (fun c hc => by have hne : c ≠ (d : Int) := (fun e2 => HZO.out.2 (by rw [← e2]; exact hc)); rw [upd_ne _ _ hne]; exact HAG.out c hc)); have HC9 := hid (HC8.out.trans hc); have HB9 := hid (hc.bx HB8.out fun hf => HNX.out (HXF.out.1 _ hf)); have HW9 := hid (hc.bx HW8.out fun hf => HN5.out (HXF.out.1 _ hf)); clear hz hc)
    go_wp2_with (first | (refine wpList_load_bx rfl 151 (.tmp 5) rfl r5 _ _ _ rfl HW9.out Tryz.underlying151 rfl (by kernel_rfl) ?_) | (refine wpList_store_bx rfl 151 (.tmp 4) (.tmp 128) rfl rfl r0 _ _ #[.int .i64 0, .bool false, .int .i64 0] rfl rfl HB9.out (by kernel_rfl) rfl (by simp [Value.oneCell']) ?_))
    refine bodyPost_ret (results_bx1 rfl _ rfl (HB9.out.row (cs' := #[.int .i64 0, .bool false, .int .i64 0])) Tryz.underlying151 rfl (by kernel_rfl)) rfl ?_
    exact ⟨rfl, rs_end2 HR9.out HXF.out.1 HNX.out _, chg_fresh HC9.out HSZ.out _⟩
set_option maxHeartbeats 8000000 in
theorem rs_add_full (r : Rs w X h a p e C N L H m) (ok : Okm C N L H m) (hH : H ≤ 16) (ht : m.t ≤ 10000000) {b : Int} (hv : vb b) (hb : b ∉ m.al) (hfull : m.al.length = C) :
    Calls Tryz.prog 76 #[.pointer (some ⟨h, 0, none⟩), .int .i64 b] w fun en w' => en = .returned (.agg #[.int .i64 m.vc, .bool true, .int .i64 0]) ∧ Rs w' X h a p e C N L H ((m.ha H m.vc).us N L b) ∧ Chg w w' (Fr h a p e) (Fr h a p e) := by
  have hpos : 0 < m.al.length := by have := ok.c; omega
  obtain ⟨v1, v2, v3, v4⟩ := ok.vic hpos
  obtain ⟨k1, k2⟩ := ok.ha hH v4
  have hvq : m.vc ∈ m.S.getD m.vi [] := last_mem v2
  have HRF := hid (ha_ref ok hH v1 hvq)
  have HAL := hid (fun (o1 : Int → Int) (ho : ∀ c, inS m.S c → o1 c = m.o c) => ha_ag ok k1 ho)
  have HK2 := hid (And.intro k1 (show (m.ha H m.vc).al.length < C from by omega))
  have HNB2 := hid (ha_notin (b := b) ok hH v4 hb)
  have HV3 := hid v3
  have HVN := hid v1
  have HN16 := hid (And.intro ok.n ok.gh)
  have hlast := v2
  have hq64 : (m.S.getD m.vi []).length ≤ 64 := ok.wf.len (gd_some (by rw [ok.len]; have := ok.n; omega))
  have hg16 : (m.S.getD 8 []).length ≤ 16 := by have := ok.gh; omega
  clear v1 v2 v3 v4 k1 k2 hpos hvq
  obtain ⟨M, hM⟩ : ∃ x, m.ha H m.vc = x := ⟨_, rfl⟩
  rw [hM] at HRF HAL HK2 HNB2 ⊢
  clear hM
  obtain ⟨v, hvv⟩ : ∃ x, m.vc = x := ⟨_, rfl⟩
  rw [hvv] at HRF hlast ⊢
  clear hvv
  obtain ⟨iv, hiv⟩ : ∃ x, m.vi = x := ⟨_, rfl⟩
  rw [hiv] at HRF hlast HV3 HVN hq64
  clear hiv
  have hv2 : 0 ≤ b ∧ b < 64 := hv
  have v0 : ¬ b < 0 := by omega
  have v1 : ¬ (63 : Int) < b := by omega
  have HXF := hid r.xf
  have HR0 := hid (r.alloc (.cells #[.int .i64 0, .bool false, .int .i64 0] 151))
  have HB0 := hid (Bx.new w 151 #[.int .i64 0, .bool false, .int .i64 0])
  have HC0 := hid (Chg.of (below_alloc w (.cells #[.int .i64 0, .bool false, .int .i64 0] 151)) (Fr h a p e))
  have HNX := hid (show ¬ X w.heap.size from fun hx => by have := r.xf.2 _ hx; omega)
  have HUSE := hid (rs_use HR0.out ok ht b)
  rw [decide_eq_false hb, show m.useM N L b = m from if_neg hb] at HUSE
  obtain ⟨d, rfl⟩ : ∃ d : Nat, b = d := ⟨b.toNat, by omega⟩
  have hdl : d < 64 := by omega
  have hdd : (d : Int) < 64 := by omega
  have HOK := hid ok
  have HT200 := hid ht
  have HVB := hid hv2
  have HNB := hid hb
  obtain ⟨t, htt⟩ : ∃ t, m.t = t := ⟨_, rfl⟩
  have HT := hid htt
  have ht2 : t ≤ 10000000 := by omega
  obtain ⟨n, hn⟩ : ∃ n, m.al.length = n := ⟨_, rfl⟩
  have HN := hid hn
  have HF := hid hfull
  clear hv2 hv r ok hb htt ht hn hfull
  go_enter Tryz.func76, Tryz.ntmps76
  go_upto_region 3 with fail
  obtain ⟨W0, hW0⟩ : ∃ x, w.alloc (.cells #[.int .i64 0, .bool false, .int .i64 0] 151) = x := ⟨_, rfl⟩
  obtain ⟨r0, hr0⟩ : ∃ x, w.heap.size = x := ⟨_, rfl⟩
  rw [hW0] at HR0 HB0 HC0 HUSE ⊢
  rw [hr0] at HR0 HB0 HNX HUSE ⊢
  have HSZ := hid (Nat.le_of_eq hr0)
  clear hW0 hr0
  go_upto_region 5 with (go_at_call 75; refine HUSE.out.mono ?_; rintro e2 w2 ⟨rfl, hz, hc⟩; have HR2 := hid hz; have HB2 := hid (hc.bx HB0.out fun hf => HNX.out (HXF.out.1 _ hf)); have HC2 := hid (HC0.out.trans hc); clear hz hc)
  obtain ⟨o', ⟨cv, us, ug, hm⟩, ho⟩ := HR2.out
  have HM2 := hid hm
  have HAG0 := hid ho
  have c7 := hm.c7
  have fr := hm.fr
  rw [HT.out] at c7
  clear hm ho HR2 HR0 HB0 HC0 HUSE
  go_upto_region 6 with fail
  have HM3 := hid (HM2.out.setT (t + 1))
  rw [show ((t + 1 : Nat) : Int) = (t : Int) + 1 from by omega] at HM3
  have HC3 := hid (chg_in HC2.out (fr_h (a := a) (p := p) (e := e)) 7 (.int .i64 ((t : Int) + 1)))
  have HB3 := hid (HB2.out.far ⟨h, 7, none⟩ (.int .i64 ((t : Int) + 1)) fun e2 => HNX.out (HXF.out.1 _ (e2 ▸ fr_h)))
  generalize w2.setCell ⟨h, 7, none⟩ (.int .i64 ((t : Int) + 1)) = w3 at *
  clear c7 fr HM2 HC2 HB2
  have HM4 := hid (HM3.out.alloc (.cells #[.int .i64 0, .bool false, .int .i64 0] 151))
  have HB4 := hid (HB3.out.alloc (.cells #[.int .i64 0, .bool false, .int .i64 0] 151))
  have HW4 := hid (Bx.new w3 151 #[.int .i64 0, .bool false, .int .i64 0])
  have HC4 := hid (HC3.out.trans (Chg.of (below_alloc w3 (.cells #[.int .i64 0, .bool false, .int .i64 0] 151)) _))
  have HN5 := hid (show ¬ X w3.heap.size from fun hx => by have := HM3.out.xb _ (.inl hx); omega)
  have HR05 := hid (show r0 ≠ w3.heap.size from fun e2 => by have := HB3.out.lt; omega)
  have HSZ50 := hid (show w.heap.size ≤ w3.heap.size from HC3.out.size)
  have HX5 := hid (show ∀ j, Fr h a p e j → j ≠ w3.heap.size from fun j hj e2 => by have := HM3.out.xb _ (HM3.out.xf j hj); omega)
  go_upto_region 7 with fail
  obtain ⟨r5, hr5⟩ : ∃ x, w3.heap.size = x := ⟨_, rfl⟩
  obtain ⟨w4, hw4⟩ : ∃ x, w3.alloc (.cells #[.int .i64 0, .bool false, .int .i64 0] 151) = x := ⟨_, rfl⟩
  rw [hw4] at HM4 HB4 HW4 HC4 ⊢
  rw [hr5] at HM4 HW4 HN5 HR05 HX5 HSZ50 ⊢
  clear hr5 hw4 HM3 HC3 HB3
  have HLN := hid (fun k => rmq_len (w := w4.drewN k) ⟨_, _, _, HM4.out.draws k⟩)
  rw [show (alls (m.S.take N) N).length = n from by rw [alls_take (Nat.le_refl _), HOK.out.allsN]; exact HN.out] at HLN
  have c0 := HM4.out.c0
  obtain rfl : C = n := by have := HF.out; have := HN.out; omega
  go_quiet (first | (go_at_call 91; exact quietL (HLN.out _)))
  have HM5 := hid (HM4.out.draws nq)
  have HB5 := hid (HB4.out.draws nq)
  have HW5 := hid (HW4.out.draws nq)
  have HC5 := hid (Chg.draws HC4.out nq)
  generalize w4.drewN nq = w5 at *
  clear c0 HM4 HB4 HW4 HC4 HLN
  have hN8 : N ≤ 8 := HN16.out.1.2
  go_wp2
  go_loopg [6] N (fun gk s6 wr => ∃ q : Nat, q + gk = N ∧ q ≤ iv ∧ s6 = .int .i64 q ∧ wr = w5)
  case atStart => exact ⟨0, by omega, Nat.zero_le _, rfl, rfl⟩
  case round =>
    obtain ⟨q, hq, hqi, rfl, rfl⟩ := hrel
    have c3 := HM5.out.c3
    have hivN := HVN.out
    by_cases hqv : q < iv
    · have hqN : (q : Int) < (N : Int) := by omega
      obtain ⟨A, c, -, q1, -, -, -, -⟩ := HM5.out.at_ (show q < N from by omega)
      rw [gd_take (show q < N from by omega), HV3.out q hqv] at q1
      rw [List.length_nil] at q1
      go_wp2
      go_roundg (gk - 1)
      case measure => omega
      case rel => exact ⟨q + 1, by omega, by omega, by go_num, rfl⟩
    · obtain rfl : iv = q := by omega
      have hqN : (iv : Int) < (N : Int) := by omega
      obtain ⟨A, c, hu, q1, -, hr, hcc, hcm⟩ := HM5.out.at_ hivN
      rw [gd_take hivN] at hu q1 hr hcc
      have HR5w := hid hr
      have HJL : Hid (iv < us.length) := hid (by rw [HM5.out.lu]; exact hivN)
      have hne : m.S.getD iv [] ≠ [] := fun e2 => by rw [e2] at hlast; cases hlast
      rw [List.getLast?_eq_some_getLast hne, List.getLast_eq_getElem] at hlast
      injection hlast with hlast
      have HTK := hid (show (m.S.take N).set iv (wo v (m.S.getD iv [])) = M.S.take N from HRF.out.1)
      generalize hlqe : m.S.getD iv [] = lq at *
      have HLQ := hid hlqe
      obtain ⟨nn, hnn⟩ : ∃ n, lq.length = n + 1 := ⟨lq.length - 1, by have := List.length_pos_iff.2 hne; omega⟩
      obtain ⟨ad, rfl, hbd, hcl⟩ := rv_at HR5w.out.rd (j := nn) (by omega)
      have el : lq[nn]'(by omega) = v := by rw [← hlast]; congr 1; omega
      rw [el] at hcl
      have hadr : ad.block ≠ r5 := fun e2 => by
        obtain ⟨A', c', e3, -, -, -, h3⟩ := HM5.out.way iv _ hu
        injection e3 with e4
        exact h3 ad e4.symm (.inr e2)
      rw [hnn] at hu q1 hcc hq64
      have HU := hid hu
      have HNQ := hid hnn
      have w1 : IntKind.i64.wrap (nn : Int) = (nn : Int) := by rw [IntKind.wrap_i64]; omega
      have n0 : (0 : Int) ≤ (nn : Int) := by omega
      have z0 : wr.cell? ⟨r5, 0, none⟩ = some (.int .i64 0) := HW5.out.cell 0
      have zf := HW5.out.free
      clear hlqe hr hne hlast hu hnn el hbd hqi hq hqv HV3
      go_upto_region 11 with fail
      go_region
      have HM6 := hid (HM5.out.chg (chg_set (Chg.refl wr (· = r5)) 0 (.int .i64 v)) (fun j e2 => .inr e2) (fun j e2 hf => HX5.out j hf e2))
      have HW6 := hid (HW5.out.set 0 (.int .i64 v))
      have HB6 := hid (HB5.out.far ⟨r5, 0, none⟩ (.int .i64 v) fun e2 => HR05.out e2.symm)
      have HSZ5 := hid (show w.heap.size ≤ r5 from HSZ50.out)
      have HC6 := hid (chg_far HC5.out HSZ5.out 0 (.int .i64 v))
      generalize wr.setCell ⟨r5, 0, none⟩ (.int .i64 v) = w6 at *
      clear c3 q1 hcl hadr w1 n0 z0 zf hcc hcm HM5 HB5 HW5 HC5 HR5w
      have z1 : w6.cell? ⟨r5, 1, none⟩ = some (.bool false) := HW6.out.cell 1
      have zf := HW6.out.free
      go_upto_region 13 with fail
      have HM7 := hid (HM6.out.chg (chg_set (Chg.refl w6 (· = r5)) 1 (.bool true)) (fun j e2 => .inr e2) (fun j e2 hf => HX5.out j hf e2))
      have HW7 := hid (show Bx (w6.setCell ⟨r5, 1, none⟩ (.bool true)) r5 151 #[.int .i64 v, .bool true, .int .i64 0] from HW6.out.set 1 (.bool true))
      have HB7 := hid (HB6.out.far ⟨r5, 1, none⟩ (.bool true) fun e2 => HR05.out e2.symm)
      have HC7 := hid (chg_far HC6.out HSZ5.out 1 (.bool true))
      generalize w6.setCell ⟨r5, 1, none⟩ (.bool true) = w7 at *
      clear z1 zf
      have HM8 := hid (show Rm w7.drew (fun j => (X j ∨ j = r0) ∨ j = r5) h a p e C N L H cv us ug (m.S.take N) (m.S.getD 8 []) o' m.x (t + 1) from HM7.out.draws 1)
      have HW8 := hid (show Bx w7.drew r5 151 #[.int .i64 v, .bool true, .int .i64 0] from HW7.out)
      have HB8 := hid (show Bx w7.drew r0 151 #[.int .i64 0, .bool false, .int .i64 0] from HB7.out)
      have HC8 := hid (show Chg w w7.drew (Fr h a p e) (Fr h a p e) from Chg.draws HC7.out 1)
      generalize w7.drew = w8 at *
      clear HM6 HW6 HB6 HC6 HM7 HW7 HB7 HC7
      have c3 := HM8.out.c3
      have q1 := (HM8.out.row.cellAt HJL.out).1.trans HU.out
      have z0 : w8.cell? ⟨r5, 0, none⟩ = some (.int .i64 v) := HW8.out.cell 0
      obtain ⟨A', c', e3, hr8, -, -, -⟩ := HM8.out.way iv _ HU.out
      rw [gd_take hivN] at e3 hr8
      have HD8 := hid (show Rm w8.drew (fun j => (X j ∨ j = r0) ∨ j = r5) h a p e C N L H cv us ug (m.S.take N) (m.S.getD 8 []) o' m.x (t + 1) from HM8.out.draws 1)
      have HQ8 : Hid (Rw w8.drew (some ad) lq) := hid (by injection e3 with e4; rw [e4]; rw [HLQ.out] at hr8; exact hr8.draws 1)
      have HF8 := hid (show Bx w8.drew r5 151 #[.int .i64 v, .bool true, .int .i64 0] from HW8.out)
      have HG8 := hid (show Bx w8.drew r0 151 #[.int .i64 0, .bool false, .int .i64 0] from HB8.out)
      have HE8 := hid (show Chg w w8.drew (Fr h a p e) (Fr h a p e) from Chg.draws HC8.out 1)
      clear e3 hr8
      refine wp_region_noPanic ?_
      refine wp_region_held_drew (S := fun w' => w'.cell? ⟨h, 3, none⟩ = some (.slice (some ⟨a, 0, none⟩) N cv) ∧ w'.cell? ⟨r5, 0, none⟩ = some (.int .i64 v)) (by kernel_rfl) ?_ (fun hHeld => ?_)
      · exact ⟨c3, z0⟩
      refine tkv 0 (some 64) rfl ?_
      refine tkv 1 (some 65) rfl ?_
      refine tkv 2 (some 66) rfl ?_
      refine tkv 3 (some 67) rfl ?_
      refine tkv 4 (some 68) rfl ?_
      refine tkv 5 (some 69) rfl ?_
      refine tkv 6 (some 70) rfl ?_
      refine tkv 7 (some 71) rfl ?_
      refine tkv 8 (some 72) rfl ?_
      refine tkv 9 (some 73) rfl ?_
      refine tkv 10 (some 74) rfl ?_
      refine tkv 12 (some 76) rfl ?_
      refine tkv 13 (some 77) rfl ?_
      refine tkc 11 (some 75) rfl fun K hK => ?_
      go_simp
      refine hK.out _ _ hHeld (fun hHeld => ?_)
      clear hK K
      (try simp only [Act.put, tkA, tk0, tk1])
      refine tkc 14 (some 78) rfl fun K hK => ?_
      go_simp
      refine (without_any _ (some ad) (nn + 1) c lq v HNQ.out (by omega) HQ8.out.rd).mono ?_
      rintro e2 w10 ⟨A2, c2, rfl, ho, hg⟩
      have HR2 := hid (HD8.out.below hg.nilBelow)
      have HU2 := hid (Rt.told HD8.out.xb ho hg)
      have HC2 := hid (HE8.out.trans (Chg.of hg.nilBelow _))
      have HW2 := hid (HF8.out.next hg.nilBelow)
      have HB2 := hid (HG8.out.next hg.nilBelow)
      have kp := And.intro HR2.out.c3 (HW2.out.cell 0)
      have f2 := (HR2.out.row.cellAt HJL.out).2
      have xc := (HR2.out.row.cellAt HJL.out).1.trans HU.out
      have HR3 := hid (HR2.out.setR HVN.out HU2.out (Nat.le_trans (wo_le _ _) (by rw [HNQ.out]; omega)))
      have HC3 := hid (chg_in HC2.out (fr_a (h := h) (p := p) (e := e)) iv (.slice A2 (wo v lq).length c2))
      have HW3 := hid (HW2.out.far ⟨a, iv, none⟩ (.slice A2 (wo v lq).length c2) fun e2 => HX5.out a fr_a e2)
      have HB3 := hid (HB2.out.far ⟨a, iv, none⟩ (.slice A2 (wo v lq).length c2) fun e2 => HNX.out (HXF.out.1 _ (e2 ▸ fr_a)))
      have kq := And.intro HR3.out.c3 (HW3.out.cell 0)
      clear ho hg
      go_simp
      refine hK.out _ _ kp (fun hHeld => ?_)
      clear hK K
      (try simp only [Act.put, tkA, tk0, tk1])
      refine tkv 15 (some 79) rfl ?_
      refine tkc 16 (none) rfl fun K hK => ?_
      go_simp
      refine hK.out _ _ kq (fun hHeld => ?_)
      clear hK K
      (try simp only [Act.put, tkA, tk0, tk1])
      refine wpAnyH_done (by kernel_rfl) ?_ _
      refine NoPanic.normal ?_
      rw [HTK.out] at HR3
      generalize w10.setCell ⟨a, iv, none⟩ (.slice A2 (wo v lq).length c2) = w9 at *
      clear c3 q1 z0 kp kq f2 xc HM8 HW8 HB8 HC8 HD8 HQ8 HF8 HG8 HE8
      generalize m.S.getD 8 [] = Gh at *
      obtain ⟨gA, gc, rfl, hgr, hgc, hgm, -⟩ := HR3.out.gh
      obtain ⟨ng, hng⟩ : ∃ n, Gh.length = n := ⟨_, rfl⟩
      have c4 := HR3.out.c4
      rw [hng] at c4 hgc hg16
      have HNG := hid hng
      have hg64 : ng ≤ 64 := by omega
      have z0 : w9.cell? ⟨r5, 0, none⟩ = some (.int .i64 v) := HW3.out.cell 0
      have HGD := hid (show Rw w9.drew gA Gh from hgr.draws 1)
      have HD9 := hid (HR3.out.draws 1)
      have HF9 := hid (show Bx w9.drew r5 151 #[.int .i64 v, .bool true, .int .i64 0] from HW3.out)
      have HG9 := hid (show Bx w9.drew r0 151 #[.int .i64 0, .bool false, .int .i64 0] from HB3.out)
      have HE9 := hid (Chg.draws HC3.out 1)
      clear hgr hng hgm hgc
      go_upto_region 14 with fail
      refine wp_region_noPanic ?_
      refine wp_region_held_drew (S := fun w' => w'.cell? ⟨r5, 0, none⟩ = some (.int .i64 v)) (by kernel_rfl) ?_ (fun hHeld => ?_)
      · exact z0
      refine tkv 0 (some 80) rfl ?_
      refine tkv 1 (some 81) rfl ?_
      refine tkv 2 (some 82) rfl ?_
      refine tkv 3 (some 83) rfl ?_
      refine tkv 5 (some 85) rfl ?_
      refine tkv 6 (some 86) rfl ?_
      refine tkc 4 (some 84) rfl fun K hK => ?_
      go_simp
      refine hK.out _ _ hHeld (fun hHeld => ?_)
      clear hK K
      (try simp only [Act.put, tkA, tk0, tk1])
      refine tkc 7 (some 87) rfl fun K hK => ?_
      go_simp
      refine (ahead_any _ gA ng gc Gh v HNG.out hg64 HGD.out.rd).mono ?_
      rintro e2 w10 ⟨A4, c4b, rfl, ho, hg⟩
      have HR4 := hid (HD9.out.below hg.nilBelow)
      have HU4 := hid (Rt.told HD9.out.xb ho hg)
      have HC4 := hid (HE9.out.trans (Chg.of hg.nilBelow _))
      have HW4 := hid (HF9.out.next hg.nilBelow)
      have HB4 := hid (HG9.out.next hg.nilBelow)
      have kp := HW4.out.cell 0
      have f4 := HR4.out.fr
      have xc := HR4.out.c4
      have HR5 := hid (HR4.out.setG HU4.out (by rw [List.length_cons, HNG.out]; omega))
      have HC5 := hid (chg_in HC4.out (fr_h (a := a) (p := p) (e := e)) 4 (.slice A4 (v :: Gh).length c4b))
      have HW5 := hid (HW4.out.far ⟨h, 4, none⟩ (.slice A4 (v :: Gh).length c4b) fun e2 => HX5.out h fr_h e2)
      have HB5 := hid (HB4.out.far ⟨h, 4, none⟩ (.slice A4 (v :: Gh).length c4b) fun e2 => HNX.out (HXF.out.1 _ (e2 ▸ fr_h)))
      have kq := HW5.out.cell 0
      clear ho hg
      go_simp
      refine hK.out _ _ kp (fun hHeld => ?_)
      clear hK K
      (try simp only [Act.put, tkA, tk0, tk1])
      refine tkv 8 (some 88) rfl ?_
      refine tkv 9 (some 89) rfl ?_
      refine tkc 10 (none) rfl fun K hK => ?_
      go_simp
      refine hK.out _ _ kq (fun hHeld => ?_)
      clear hK K
      (try simp only [Act.put, tkA, tk0, tk1])
      refine wpAnyH_done (by kernel_rfl) ?_ _
      refine NoPanic.normal ?_
      generalize w10.setCell ⟨h, 4, none⟩ (.slice A4 (v :: Gh).length c4b) = w11 at *
      clear c4 z0 kp kq f4 xc HD9 HF9 HG9 HE9 HR3 HW3 HB3 HC3 HR4 HW4 HB4 HC4
      have c4 := HR5.out.c4
      have d2 := HR5.out.c2
      obtain ⟨A', c', e3, hr5, hcp, hcm5, -⟩ := HR5.out.gh
      simp only [Value.slice.injEq] at e3
      obtain ⟨rfl, -, rfl⟩ := e3
      obtain ⟨a4, rfl, -, -⟩ := rv_at hr5.rd (j := 0) (by simp)
      have hl5 : (v :: Gh).length = ng + 1 := by rw [List.length_cons, HNG.out]
      rw [hl5] at c4 hcp
      have HL5 := hid hl5
      have HGE := hid HRF.out.2.1
      rw [hl5] at HGE
      have HMX := hid (And.intro HRF.out.2.2.1 (HRF.out.2.2.2.trans HT.out))
      have HTM := hid HMX.out.2
      have HAG := hid (HAL.out o' HAG0.out)
      have HUSED := hid (fun (y : World) (o1 : Int → Int) (hy : Rz y (fun j => (X j ∨ j = r0) ∨ j = r5) h a p e C N L H o1 { M with t := M.t + 1 }) (hob : o1 d = M.o d) => rz_used hy HK2.out.1 (by rw [HMX.out.2]; exact ht2) HVB.out hob (.inr HK2.out.2))
      have HFIN := hid (fun (y : World) (o1 : Int → Int) (hy : Rz y (fun j => (X j ∨ j = r0) ∨ j = r5) h a p e C N L H (upd o1 d (M.o d + 1)) (M.us N L d)) (hag : ∀ c, inS M.S c → o1 c = M.o c) => rs_us hy HK2.out.1 (HK2.out.1.us HVB.out (.inr HK2.out.2)) hag)
      have HNO := hid (fun (hg : (d : Int) ∉ M.S.getD 8 []) => show M.o d = 0 ∧ ¬ inS M.S d from by
        have hn : ¬ inS M.S d := fun hs => by
          rcases HK2.out.1.split.1 hs with h1 | h1
          · exact HNB2.out h1
          · exact hg h1
        exact ⟨HK2.out.1.o0 _ hn, hn⟩)
      by_cases hov : H < ng + 1
      · have hd1 : decide (H < ng + 1) = true := by simpa using hov
        have hd2 : decide ((H : Int) < ((ng : Int) + 1)) = true := by simp; omega
        go_upto_region 15 with fail
        go_quiet (fail)
        have HM12 := hid (HR5.out.draws nq)
        have HW12 := hid (HW5.out.draws nq)
        have HB12 := hid (HB5.out.draws nq)
        have HC12 := hid (Chg.draws HC5.out nq)
        generalize w11.drewN nq = w12 at *
        clear c4 d2
        have c4 := HM12.out.c4
        rw [HL5.out] at c4
        have d2 := HM12.out.c2
        have f4 := HM12.out.fr
        have hHc : H ≤ c4b := by omega
        have hH0 : (0 : Int) ≤ (H : Int) := by omega
        have hHi : (H : Int) ≤ (c4b : Int) := by omega
        have HCU := hid (HM12.out.gh)
        go_upto_region 16 with fail
        go_region
        have HM13 := hid (HM12.out.setG ((show Rt w12 (fun j => (X j ∨ j = r0) ∨ j = r5) (.slice (some a4) (v :: Gh).length c4b) (v :: Gh) from HCU.out).cut (k := H) (by rw [HL5.out]; omega)) (by rw [List.length_take]; omega))
        have HC13 := hid (chg_in HC12.out (fr_h (a := a) (p := p) (e := e)) 4 (.slice (some a4) H c4b))
        have HW13 := hid (HW12.out.far ⟨h, 4, none⟩ (.slice (some a4) H c4b) fun e2 => HX5.out h fr_h e2)
        have HB13 := hid (HB12.out.far ⟨h, 4, none⟩ (.slice (some a4) H c4b) fun e2 => HNX.out (HXF.out.1 _ (e2 ▸ fr_h)))
        generalize w12.setCell ⟨h, 4, none⟩ (.slice (some a4) H c4b) = w13 at *
        have hge := HGE.out
        rw [if_pos hov] at hge
        have HMt := hid (show Rm w13.drew (fun j => (X j ∨ j = r0) ∨ j = r5) h a p e C N L H cv _ _ (M.S.take N) (M.S.getD 8 []) o' M.x (t + 1) from by rw [hge, HMX.out.1]; exact HM13.out.draws 1)
        have HBt := hid (show Bx w13.drew r0 151 #[.int .i64 0, .bool false, .int .i64 0] from HB13.out)
        have HWt := hid (show Bx w13.drew r5 151 #[.int .i64 v, .bool true, .int .i64 0] from HW13.out)
        have HCt := hid (show Chg w w13.drew (Fr h a p e) (Fr h a p e) from Chg.draws HC13.out 1)
        generalize w13.drew = w14 at *
        clear c4 d2 f4 hge HM12 HW12 HB12 HC12 HM13 HW13 HB13 HC13 HCU HR5 HW5 HB5 HC5
        clear hd1 hd2
        go_upto_region 17 with fail
        obtain ⟨gA, gc, hug, hgr, hgc, hgm, -⟩ := HMt.out.gh
        have c4 := HMt.out.c4
        rw [hug] at c4
        clear hug
        have HH := hid (rhas_any gA _ gc (M.S.getD 8 []) d w14 _ rfl (by have := HMt.out.g64; unfold maxLen; omega) hgr.rd)
        by_cases hbg : (d : Int) ∈ M.S.getD 8 []
        · rw [dec_true hbg] at HH
          have HEQ := hid (HAG.out d (inS_gd.2 ⟨8, hbg⟩))
          have HZ := hid (show Rz w14 (fun j => (X j ∨ j = r0) ∨ j = r5) h a p e C N L H o' { M with t := M.t + 1 } from by have := HMt.out; rw [← HTM.out] at this; exact ⟨_, _, _, this⟩)
          clear hbg hgr hgc hgm
          generalize hng : (M.S.getD 8 []).length = ng at *
          clear hng
          go_upto_region 19 with (go_at_call 46; refine HH.out.mono ?_; rintro e2 w8 ⟨rfl, rfl⟩)
          go_upto_region 20 with (go_at_call 90; refine (HUSED.out _ o' HZ.out HEQ.out).mono ?_; rintro e2 w9 ⟨rfl, hz, hc⟩; have HR9 := hid (HFIN.out _ o' hz HAG.out); have HC9 := hid (HCt.out.trans hc); have HB9 := hid (hc.bx HBt.out fun hf => HNX.out (HXF.out.1 _ hf)); have HW9 := hid (hc.bx HWt.out fun hf => HN5.out (HXF.out.1 _ hf)); clear hz hc)
          go_wp2_with (first | (refine wpList_load_bx rfl 151 (.tmp 5) rfl r5 _ _ _ rfl HW9.out Tryz.underlying151 rfl (by kernel_rfl) ?_) | (refine wpList_store_bx rfl 151 (.tmp 4) (.tmp 128) rfl rfl r0 _ _ #[.int .i64 v, .bool true, .int .i64 0] rfl rfl HB9.out (by kernel_rfl) rfl (by simp [Value.oneCell']) ?_))
          refine bodyPost_ret (results_bx1 rfl _ rfl (HB9.out.row (cs' := #[.int .i64 v, .bool true, .int .i64 0])) Tryz.underlying151 rfl (by kernel_rfl)) rfl ?_
          exact ⟨rfl, rs_end2 HR9.out HXF.out.1 HNX.out _, chg_fresh HC9.out HSZ.out _⟩
        · rw [dec_false hbg] at HH
          have HZO := hid (HNO.out hbg)
          have c5 := HMt.out.c5
          have co := HMt.out.co hdl
          have fo := HMt.out.oft.free
          have HM8 := hid (HMt.out.setO (b := d) 0)
          clear hbg hgr hgc hgm
          generalize hng : (M.S.getD 8 []).length = ng at *
          clear hng
          go_upto_region 19 with (go_at_call 46; refine HH.out.mono ?_; rintro e2 w8 ⟨rfl, rfl⟩)
          have HC8 := hid (chg_in HCt.out (fr_p (h := h) (a := a) (e := e)) d (.int .i64 0))
          have HB8 := hid (HBt.out.far ⟨p, d, none⟩ (.int .i64 0) fun e2 => HNX.out (HXF.out.1 _ (e2 ▸ fr_p)))
          have HW8 := hid (HWt.out.far ⟨p, d, none⟩ (.int .i64 0) fun e2 => HN5.out (HXF.out.1 _ (e2 ▸ fr_p)))
          generalize w14.setCell ⟨p, d, none⟩ (.int .i64 0) = w8 at *
          have HZ := hid (show Rz w8 (fun j => (X j ∨ j = r0) ∨ j = r5) h a p e C N L H (upd o' d 0) { M with t := M.t + 1 } from by have := HM8.out; rw [← HTM.out] at this; exact ⟨_, _, _, this⟩)
          clear c5 co fo
          go_upto_region 20 with (go_at_call 90; refine (HUSED.out _ (upd o' d 0) HZ.out (by rw [upd_same]; exact HZO.out.1.symm)).mono ?_; rintro e2 w9 ⟨rfl, hz, hc⟩; have HR9 := hid (HFIN.out _ (upd o' d 0) hz (fun c hc => by have hne : c ≠ (d : Int) := (fun e2 => HZO.out.2 (by rw [← e2]; exact hc)); rw [upd_ne _ _ hne]; exact HAG.out c hc)); have HC9 := hid (HC8.out.trans hc); have HB9 := hid (hc.bx HB8.out fun hf => HNX.out (HXF.out.1 _ hf)); have HW9 := hid (hc.bx HW8.out fun hf => HN5.out (HXF.out.1 _ hf)); clear hz hc)
          go_wp2_with (first | (refine wpList_load_bx rfl 151 (.tmp 5) rfl r5 _ _ _ rfl HW9.out Tryz.underlying151 rfl (by kernel_rfl) ?_) | (refine wpList_store_bx rfl 151 (.tmp 4) (.tmp 128) rfl rfl r0 _ _ #[.int .i64 v, .bool true, .int .i64 0] rfl rfl HB9.out (by kernel_rfl) rfl (by simp [Value.oneCell']) ?_))
          refine bodyPost_ret (results_bx1 rfl _ rfl (HB9.out.row (cs' := #[.int .i64 v, .bool true, .int .i64 0])) Tryz.underlying151 rfl (by kernel_rfl)) rfl ?_
          exact ⟨rfl, rs_end2 HR9.out HXF.out.1 HNX.out _, chg_fresh HC9.out HSZ.out _⟩
      · have hd1 : decide (H < ng + 1) = false := by simpa using hov
        have hd2 : decide ((H : Int) < ((ng : Int) + 1)) = false := by simp; omega
        go_upto_region 15 with fail
        go_quiet (fail)
        have hge := HGE.out
        rw [if_neg hov] at hge
        have HMt := hid (show Rm (w11.drewN nq) (fun j => (X j ∨ j = r0) ∨ j = r5) h a p e C N L H cv _ _ (M.S.take N) (M.S.getD 8 []) o' M.x (t + 1) from by rw [hge, HMX.out.1]; exact HR5.out.draws nq)
        have HBt := hid (HB5.out.draws nq)
        have HWt := hid (HW5.out.draws nq)
        have HCt := hid (Chg.draws HC5.out nq)
        generalize w11.drewN nq = w14 at *
        clear c4 d2 hge HR5 HW5 HB5 HC5
        clear hd1 hd2
        go_upto_region 17 with fail
        obtain ⟨gA, gc, hug, hgr, hgc, hgm, -⟩ := HMt.out.gh
        have c4 := HMt.out.c4
        rw [hug] at c4
        clear hug
        have HH := hid (rhas_any gA _ gc (M.S.getD 8 []) d w14 _ rfl (by have := HMt.out.g64; unfold maxLen; omega) hgr.rd)
        by_cases hbg : (d : Int) ∈ M.S.getD 8 []
        · rw [dec_true hbg] at HH
          have HEQ := hid (HAG.out d (inS_gd.2 ⟨8, hbg⟩))
          have HZ := hid (show Rz w14 (fun j => (X j ∨ j = r0) ∨ j = r5) h a p e C N L H o' { M with t := M.t + 1 } from by have := HMt.out; rw [← HTM.out] at this; exact ⟨_, _, _, this⟩)
          clear hbg hgr hgc hgm
          generalize hng : (M.S.getD 8 []).length = ng at *
          clear hng
          go_upto_region 19 with (go_at_call 46; refine HH.out.mono ?_; rintro e2 w8 ⟨rfl, rfl⟩)
          go_upto_region 20 with (go_at_call 90; refine (HUSED.out _ o' HZ.out HEQ.out).mono ?_; rintro e2 w9 ⟨rfl, hz, hc⟩; have HR9 := hid (HFIN.out _ o' hz HAG.out); have HC9 := hid (HCt.out.trans hc); have HB9 := hid (hc.bx HBt.out fun hf => HNX.out (HXF.out.1 _ hf)); have HW9 := hid (hc.bx HWt.out fun hf => HN5.out (HXF.out.1 _ hf)); clear hz hc)
          go_wp2_with (first | (refine wpList_load_bx rfl 151 (.tmp 5) rfl r5 _ _ _ rfl HW9.out Tryz.underlying151 rfl (by kernel_rfl) ?_) | (refine wpList_store_bx rfl 151 (.tmp 4) (.tmp 128) rfl rfl r0 _ _ #[.int .i64 v, .bool true, .int .i64 0] rfl rfl HB9.out (by kernel_rfl) rfl (by simp [Value.oneCell']) ?_))
          refine bodyPost_ret (results_bx1 rfl _ rfl (HB9.out.row (cs' := #[.int .i64 v, .bool true, .int .i64 0])) Tryz.underlying151 rfl (by kernel_rfl)) rfl ?_
          exact ⟨rfl, rs_end2 HR9.out HXF.out.1 HNX.out _, chg_fresh HC9.out HSZ.out _⟩
        · rw [dec_false hbg] at HH
          have HZO := hid (HNO.out hbg)
          have c5 := HMt.out.c5
          have co := HMt.out.co hdl
          have fo := HMt.out.oft.free
          have HM8 := hid (HMt.out.setO (b := d) 0)
          clear hbg hgr hgc hgm
          generalize hng : (M.S.getD 8 []).length = ng at *
          clear hng
          go_upto_region 19 with (go_at_call 46; refine HH.out.mono ?_; rintro e2 w8 ⟨rfl, rfl⟩)
          have HC8 := hid (chg_in HCt.out (fr_p (h := h) (a := a) (e := e)) d (.int .i64 0))
          have HB8 := hid (HBt.out.far ⟨p, d, none⟩ (.int .i64 0) fun e2 => HNX.out (HXF.out.1 _ (e2 ▸ fr_p)))
          have HW8 := hid (HWt.out.far ⟨p, d, none⟩ (.int .i64 0) fun e2 => HN5.out (HXF.out.1 _ (e2 ▸ fr_p)))
          generalize w14.setCell ⟨p, d, none⟩ (.int .i64 0) = w8 at *
          have HZ := hid (show Rz w8 (fun j => (X j ∨ j = r0) ∨ j = r5) h a p e C N L H (upd o' d 0) { M with t := M.t + 1 } from by have := HM8.out; rw [← HTM.out] at this; exact ⟨_, _, _, this⟩)
          clear c5 co fo
          go_upto_region 20 with (go_at_call 90; refine (HUSED.out _ (upd o' d 0) HZ.out (by rw [upd_same]; exact HZO.out.1.symm)).mono ?_; rintro e2 w9 ⟨rfl, hz, hc⟩; have HR9 := hid (HFIN.out _ (upd o' d 0) hz (fun c hc => by have hne : c ≠ (d : Int) := (fun e2 => HZO.out.2 (by rw [← e2]; exact hc)); rw [upd_ne _ _ hne]; exact HAG.out c hc)); have HC9 := hid (HC8.out.trans hc); have HB9 := hid (hc.bx HB8.out fun hf => HNX.out (HXF.out.1 _ hf)); have HW9 := hid (hc.bx HW8.out fun hf => HN5.out (HXF.out.1 _ hf)); clear hz hc)
          go_wp2_with (first | (refine wpList_load_bx rfl 151 (.tmp 5) rfl r5 _ _ _ rfl HW9.out Tryz.underlying151 rfl (by kernel_rfl) ?_) | (refine wpList_store_bx rfl 151 (.tmp 4) (.tmp 128) rfl rfl r0 _ _ #[.int .i64 v, .bool true, .int .i64 0] rfl rfl HB9.out (by kernel_rfl) rfl (by simp [Value.oneCell']) ?_))
          refine bodyPost_ret (results_bx1 rfl _ rfl (HB9.out.row (cs' := #[.int .i64 v, .bool true, .int .i64 0])) Tryz.underlying151 rfl (by kernel_rfl)) rfl ?_
          exact ⟨rfl, rs_end2 HR9.out HXF.out.1 HNX.out _, chg_fresh HC9.out HSZ.out _⟩
end
end Go.Proofs.YtmfdlkkligjcbaaGreat
