/-
  What is proved: the reference's Do of Turn. Condition: the net lies in memory as one.
-/
import Derived.Test.YtcagochalnjagaaRd9
namespace Go.Proofs.Ytcagochalnjagaa
open Go.RowKit

section
variable {w : World} {k : Nat} {v : Value} {us : List Value} {S : List Wy} {l : Wy}
set_option maxRecDepth 100000 in
set_option maxHeartbeats 1600000 in
theorem rdo4 (h : NR w k v us S) (way i r : Int) (A : Option Addr) (n c : Nat) (hi : vld (wy S way) i) (hr : vld (wy S way) r) :
    Calls Try.prog 13 #[.pointer (some ⟨k, 0, none⟩), .agg #[.int .i64 (4), .int .i64 way, .int .i64 i, .int .i64 r, .slice A n c]] w (RoP k v us S 4 way i r l w) := by
  unfold RoP
  have e1 : doS 4 way i r l S = S.set way.toNat (((wy S way).set i.toNat ((wy S way).getD r.toNat [])).set r.toNat ((wy S way).getD i.toNat [])) := by
    show turnS S way i r = _
    exact if_pos ⟨hi, hr⟩
  have e2 : doN 4 way l S = 0 := rfl
  have e3 : doB 4 way i S = [] := rfl
  have e4 : doE 4 way i r S = 0 := by
    show turnE S way i r = _
    exact if_pos ⟨hi, hr⟩
  rw [e1, e2, e3, e4]
  clear e1 e2 e3 e4
  obtain ⟨g, hg⟩ : ∃ g, w.heap.size = g := ⟨_, rfl⟩
  obtain ⟨W, hW⟩ : ∃ W, w.alloc (.cells #[.int .i64 4, .int .i64 way, .int .i64 i, .int .i64 r, .slice A n c] 31) = W := ⟨_, rfl⟩
  have BW : Below w.heap.size w W := by rw [← hW]; exact below_alloc _ _
  have XW : Bx W g 31 #[.int .i64 4, .int .i64 way, .int .i64 i, .int .i64 r, .slice A n c] := by rw [← hW, ← hg]; exact Bx.new _ _ _
  have NW := hid (show NR W k v us S from Nt.below h stb_Eb BW)
  have CW := hid (Chg.of BW (Ft k v us))
  have LW := hid (show ∀ j, Ft k v us j → j ≠ g from fun j hj => by have := Nt.lt h hj; omega)
  have HX := hid XW
  have HG := hid hg
  have HW := hid hW
  have y1 : W.cell? ⟨g, 1, none⟩ = some (.int .i64 way) := XW.cell 1
  obtain ⟨A0, c0, e0, k0, -⟩ := Nt.cells h
  have k0 : W.cell? ⟨k, 0, none⟩ = some (.slice A0 S.length c0) := (BW.cell (World.block_lt_of_cell? w _ k0)).trans k0
  clear BW XW hg hW h e0
  go_enter Try.func13, Try.ntmps13
  go_upto_region 1 with fail
  rw [HG.out, HW.out]
  go_cut [7] from 14 to 26 (fun s7 wx => s7 = .bool (decide (isw S way)) ∧ wx = W.drew)
  case first =>
    obtain ⟨nn, hnn⟩ : ∃ nn, S.length = nn := ⟨_, rfl⟩
    rw [hnn] at k0
    by_cases h0 : way < 0
    · have hd : decide ((0 : Int) ≤ way) = false := by simpa using h0
      have HD := hid (show decide (isw S way) = false from decide_eq_false (by unfold isw; omega))
      clear hnn
      go_region
      go_wp2
      go_meet
      exact ⟨by rw [HD.out], rfl⟩
    · have h1 : 0 ≤ way := by omega
      by_cases h2 : way < (nn : Int)
      · have HD := hid (show decide (isw S way) = true from decide_eq_true (by unfold isw; omega))
        clear hnn h0
        go_region
        go_wp2
        go_meet
        exact ⟨by rw [HD.out], rfl⟩
      · have hd : decide (way < (nn : Int)) = false := by simpa using h2
        have HD := hid (show decide (isw S way) = false from decide_eq_false (by unfold isw; omega))
        clear hnn h0 h2
        go_region
        go_wp2
        go_meet
        exact ⟨by rw [HD.out], rfl⟩
  case rest =>
  obtain ⟨rfl, rfl⟩ := hcut
  clear y1 k0
  have N1 := hid (show NR W.drew k v us S from Nt.draws NW.out stb_Eb 1)
  have X1 := hid (show Bx W.drew g 31 #[.int .i64 4, .int .i64 way, .int .i64 i, .int .i64 r, .slice A n c] from HX.out)
  have C1 := hid (show Chg w W.drew (Ft k v us) (Ft k v us) from CW.out.draws 1)
  clear NW HX CW HG HW
  generalize W.drew = W at *
  have HZ := hid (rhas_yes N1.out hr)
  have HY := hid (rhas_yes N1.out hi)
  obtain ⟨p, fs, rfl, hp, hw⟩ := isw_at (vld_isw hi)
  rw [show decide (isw S p) = true from by simpa using vld_isw hi]
  rw [hw] at hi
  obtain ⟨q, lq, rfl, hq, hql⟩ := vld_at hi
  obtain ⟨gr, cg, u, B, d, cs, rfl, hu, hu2, q1, q2, ho, hcs, h400⟩ := Nt.at_ N1.out hp
  have c0 : W.cell? ⟨k, 0, none⟩ = some (.slice (some ⟨gr, 0, none⟩) S.length cg) := N1.out.box.cell 0
  have hpp : (p : Int) < (S.length : Int) := by have := (List.getElem?_eq_some_iff.1 hp).1; omega
  have y0 : W.cell? ⟨g, 0, none⟩ = some (.int .i64 4) := X1.out.cell 0
  have y1 : W.cell? ⟨g, 1, none⟩ = some (.int .i64 (p : Nat)) := X1.out.cell 1
  have y2 : W.cell? ⟨g, 2, none⟩ = some (.int .i64 (q : Nat)) := X1.out.cell 2
  obtain ⟨x, hx, hxl⟩ := hcs.get hq
  rw [hu2] at q1 ho hu
  have HQX : fs.getD q [] = lq := by rw [List.getD, hq]; rfl
  have hqc : q < cs.length := by rw [hcs.1]; exact hql
  obtain ⟨B2, d2, e2, hrv, hd1, hd2⟩ := ho.read
  rw [hcs.1] at e2 hd1
  simp only [Value.slice.injEq, true_and] at e2
  obtain ⟨rfl, rfl⟩ := e2
  obtain ⟨gA, dA, e4⟩ := ho.place (by omega)
  simp only [Value.slice.injEq] at e4
  obtain ⟨rfl, -, -⟩ := e4
  have f0 := (ho.cellAt hqc).1.trans hx
  have hqq : (q : Int) < (fs.length : Int) := by omega
  have hgk : k ≠ gr := fun e => N1.out.vk (congrArg some e.symm)
  have hgg : g ≠ gr := fun e => LW.out gr (.inr (.inl rfl)) e.symm
  rw [hw] at hr
  obtain ⟨s, ls, rfl, hs, hsl⟩ := vld_at hr
  have y3 : W.cell? ⟨g, 3, none⟩ = some (.int .i64 (s : Nat)) := X1.out.cell 3
  obtain ⟨y, hy, hyl⟩ := hcs.get hs
  have HSX : fs.getD s [] = ls := by rw [List.getD, hs]; rfl
  have hsc : s < cs.length := by rw [hcs.1]; exact hsl
  have f1 := (ho.cellAt hsc).1.trans hy
  have hss : (s : Int) < (fs.length : Int) := by omega
  have ND := hid (show NR W.drew k (.slice (some ⟨gr, 0, none⟩) S.length cg) us S from Nt.draws N1.out stb_Eb 1)
  have HU := hid hu
  have HCC := hid (show Cs Eb W.drew cs fs from hcs)
  have HRV := hid (show Rv W.drew W.drew.heap.size (some ⟨gA, 0, none⟩) cs from hrv)
  have HXL := hid (show Eb W.drew x lq from hxl)
  have HYL := hid (show Eb W.drew y ls from hyl)
  have HQC := hid (And.intro hqc hsc)
  have HLT := hid (show (k < W.heap.size ∧ g < W.heap.size) ∧ gr < W.heap.size ∧ gA < W.heap.size from ⟨⟨Nt.lt N1.out (.inl rfl), X1.out.lt⟩, Nt.lt N1.out (.inr (.inl rfl)), ho.lt rfl⟩)
  have H4 := hid (show ((fs.set q ls).set s lq).length ≤ 400 by rw [List.length_set, List.length_set]; exact h400)
  have HM := hid hcs.1
  have HXF := hid (show (NB x ∧ x.oneCell' = true) ∧ NB y ∧ y.oneCell' = true from ⟨⟨stb_Eb.nb _ _ _ hxl, stb_Eb.one _ _ _ hxl⟩, stb_Eb.nb _ _ _ hyl, stb_Eb.one _ _ _ hyl⟩)
  have HCE := hid (hcs.each (p := fun x => x.oneCell' = true ∧ NB x) (fun x l h => ⟨stb_Eb.one _ _ _ h, stb_Eb.nb _ _ _ h⟩))
  obtain ⟨Ax, cx, rfl, -⟩ := hxl
  obtain ⟨Ay, cy, rfl, -⟩ := hyl
  generalize hm : fs.length = m at *
  generalize hlx : List.length lq = lx at *
  generalize hly : List.length ls = ly at *
  clear hi hr hp hu hu2 ho hcs hql hsl hq hs hqc hsc hx hy hrv hd1 hd2 hm
  go_upto_region 18 with (go_at_call 23; (first | ((with_reducible refine HY.out.mono ?_); rintro e w' ⟨rfl, rfl⟩) | ((with_reducible refine HZ.out.mono ?_); rintro e w' ⟨rfl, rfl⟩)))
  clear HY HZ
  go_region
  all_goals
   go_upto_region 33 with (at_builtin; (refine wpList_appW elt_txt rfl (nb_slice _ _ _) rfl (.tmp 179) (.tmp 180) rfl _ _ (ownW_nil W.drew 32) rfl _ _ m d cs rfl HM.out HRV.out (fun x hx => (HCE.out x hx).1) (fun x hx => (HCE.out x hx).2) (by simp; unfold maxLen; omega) (by simp; omega) ?_); intro v1 w1 ho1 hg1; rw [List.nil_append] at ho1; have HO1 := hid ho1; have HG1 := hid hg1; clear ho1 hg1)
   obtain ⟨g1, d1, e1⟩ := HO1.out.place (by have := HQC.out.1; omega)
   rw [HM.out] at e1
   subst e1
   have B1 := HG1.out.nilBelow
   have hg1 : W.heap.size ≤ g1 := by
     rcases HG1.out.at_ with h | h
     · simp [Value.ownBlock] at h
     · exact (h g1 rfl).1
   have hl := HLT.out
   have old : ∀ b o x, W.cell? ⟨b, o, none⟩ = some x → w1.cell? ⟨b, o, none⟩ = some x := fun b o x e => (B1.cell (p := ⟨b, o, none⟩) (World.block_lt_of_cell? W.drew _ e)).trans e
   have z2 := old _ _ _ y2
   have z3 := old _ _ _ y3
   have zk := old _ _ _ c0
   have z1 := old _ _ _ y1
   have zl := old _ _ _ f1
   obtain ⟨P1, P2⟩ := HO1.out.set HQC.out.1 HXF.out.2.1
   have zo : w1.cell? ⟨g1, q, none⟩ = some (cs[q]'HQC.out.1) := (HO1.out.cellAt HQC.out.1).1.trans (List.getElem?_eq_getElem HQC.out.1)
   have zf := (HO1.out.cellAt HQC.out.1).2
   generalize cs[q]'HQC.out.1 = xo at zo
   have hqs : s < (cs.set q (.slice Ay ly cy)).length := by rw [List.length_set]; exact HQC.out.2
   obtain ⟨xo2, hxo2⟩ : ∃ x, (cs.set q (.slice Ay ly cy))[s]? = some x := ⟨_, List.getElem?_eq_getElem hqs⟩
   have Q3 : (w1.setCell ⟨g1, q, none⟩ (.slice Ay ly cy)).cell? ⟨g1, s, none⟩ = some xo2 := (P1.cellAt hqs).1.trans hxo2
   have Q4 := (P1.cellAt hqs).2
   obtain ⟨P3, P4⟩ := P1.set hqs HXF.out.1.1
   have hne : ∀ b, b < W.heap.size → b ≠ g1 := fun b hb e => by omega
   have far1 : ∀ b o x, b ≠ g1 → w1.cell? ⟨b, o, none⟩ = some x → (w1.setCell ⟨g1, q, none⟩ (.slice Ay ly cy)).cell? ⟨b, o, none⟩ = some x := fun b o x hb e => by
     rw [World.cell?_setCell_other _ _ _ _ (fun e => hb (by injection e with e; exact e.symm))]; exact e
   have Q5 := far1 _ _ _ (hne _ hl.1.2) z3
   have hGT := hid ((HG1.out.fresh (.slice (some ⟨gA, 0, none⟩) m d)).trans (P2.trans P4))
   have HP3 := hid P3
   have hst := hGT.out.stay
   have hsz := hGT.out.gr.size
   have HFC := hid ((((Cs.keep HCC.out stb_Eb hst hsz).set q (stb_Eb.stay _ _ _ _ hst hsz HYL.out)).set s (stb_Eb.stay _ _ _ _ hst hsz HXL.out)))
   obtain ⟨qk, qr, qf, XN, XC⟩ := ND.out.put stb_Eb (by rfl) HU.out hGT.out HP3.out HFC.out H4.out (nb_slice _ _ _)
   have HX9 := hid (And.intro XN XC)
   have Q6 := far1 _ _ _ (hne _ hl.1.2) z1
   have Q7 : ((w1.setCell ⟨g1, q, none⟩ (.slice Ay ly cy)).setCell ⟨g1, s, none⟩ (.slice Ax lx cx)).cell? ⟨g, 1, none⟩ = some (.int .i64 (p : Nat)) := by
     rw [World.cell?_setCell_other _ _ _ _ (fun e => hne _ hl.1.2 (by injection e with e; exact e.symm))]; exact Q6
   clear HO1 HG1 P1 P2 P3 P4 hGT HP3 HFC XN XC old far1 hst hsz hxo2 hqs c0 y0 y1 y2 y3 f0 f1 q1 q2 B1
   go_region
   all_goals
    clear z2 z3 zl zo zf
    go_upto_region 35 with fail
    clear Q3 Q4 Q5
    go_region
    all_goals
     go_wp2
     go_ret3
     refine ⟨_, us.set p (.slice (some ⟨g1, 0, none⟩) m d1), rfl, bs_nil _, ?_, ?_⟩
     · rw [hw, Int.toNat_natCast, Int.toNat_natCast, Int.toNat_natCast, HQX, HSX]
       exact Nt.kept HX9.out.1 stb_Eb (Nat.le_refl _) (fun _ _ e => e) (fun _ _ => rfl)
     · exact C1.out.trans ((Chg.of (below_draws (Below.refl _ W) 1) _).trans (HX9.out.2.draws 2))
end
end Go.Proofs.Ytcagochalnjagaa
