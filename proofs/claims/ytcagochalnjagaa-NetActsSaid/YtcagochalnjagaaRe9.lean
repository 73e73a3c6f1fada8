/-
  What is proved: the reference's Do of Lose, Twice. Condition: the net lies in memory as one.
-/
import Derived.Test.YtcagochalnjagaaRd9
namespace Go.Proofs.Ytcagochalnjagaa
open Go.RowKit

section
variable {w : World} {k : Nat} {v : Value} {us : List Value} {S : List Wy} {l : Wy}
set_option maxRecDepth 100000 in
set_option maxHeartbeats 1600000 in
theorem rdo3 (h : NR w k v us S) (way i r : Int) (A : Option Addr) (n c : Nat) (hi : vld (wy S way) i) :
    Calls Try.prog 13 #[.pointer (some ⟨k, 0, none⟩), .agg #[.int .i64 (3), .int .i64 way, .int .i64 i, .int .i64 r, .slice A n c]] w (RoP k v us S 3 way i r l w) := by
  unfold RoP
  have e1 : doS 3 way i r l S = S.set way.toNat ((wy S way).eraseIdx i.toNat) := if_pos hi
  have e2 : doN 3 way l S = 0 := rfl
  have e3 : doB 3 way i S = [] := rfl
  have e4 : doE 3 way i r S = 0 := if_pos hi
  rw [e1, e2, e3, e4]
  clear e1 e2 e3 e4
  obtain ⟨g, hg⟩ : ∃ g, w.heap.size = g := ⟨_, rfl⟩
  obtain ⟨W, hW⟩ : ∃ W, w.alloc (.cells #[.int .i64 3, .int .i64 way, .int .i64 i, .int .i64 r, .slice A n c] 31) = W := ⟨_, rfl⟩
  have BW : Below w.heap.size w W := by rw [← hW]; exact below_alloc _ _
  have XW : Bx W g 31 #[.int .i64 3, .int .i64 way, .int .i64 i, .int .i64 r, .slice A n c] := by rw [← hW, ← hg]; exact Bx.new _ _ _
  have NW := hid (show NR W k v us S from Nt.below h stb_Eb BW)
  have CW := hid (Chg.of BW (Ft k v us))
  have LW := hid (show ∀ j, Ft k v us j → j ≠ g from fun j hj => by have := Nt.lt h hj; omega)
  have HX := hid XW
  have HG := hid hg
  have HW := hid hW
  have y1 : W.cell? ⟨g, 1, none⟩ = some (.int .i64 way) := XW.cell 1
  obtain ⟨A0, c0, e0, k0, -⟩ := Nt.cells h
  have k0 : W.cell? ⟨k, 0, none⟩ = some (.slice A0 S.length c0) := (BW.cell (World.block_lt_of_cell? w _ k0)).trans k0
  clear BW XW hg hW h e0
  go_enter Try.func13, Try.ntmps13
  go_upto_region 1 with fail
  rw [HG.out, HW.out]
  go_cut [7] from 14 to 26 (fun s7 wx => s7 = .bool (decide (isw S way)) ∧ wx = W.drew)
  case first =>
    obtain ⟨nn, hnn⟩ : ∃ nn, S.length = nn := ⟨_, rfl⟩
    rw [hnn] at k0
    by_cases h0 : way < 0
    · have hd : decide ((0 : Int) ≤ way) = false := by simpa using h0
      have HD := hid (show decide (isw S way) = false from decide_eq_false (by unfold isw; omega))
      clear hnn
      go_region
      go_wp2
      go_meet
      exact ⟨by rw [HD.out], rfl⟩
    · have h1 : 0 ≤ way := by omega
      by_cases h2 : way < (nn : Int)
      · have HD := hid (show decide (isw S way) = true from decide_eq_true (by unfold isw; omega))
        clear hnn h0
        go_region
        go_wp2
        go_meet
        exact ⟨by rw [HD.out], rfl⟩
      · have hd : decide (way < (nn : Int)) = false := by simpa using h2
        have HD := hid (show decide (isw S way) = false from decide_eq_false (by unfold isw; omega))
        clear hnn h0 h2
        go_region
        go_wp2
        go_meet
        exact ⟨by rw [HD.out], rfl⟩
  case rest =>
  obtain ⟨rfl, rfl⟩ := hcut
  clear y1 k0
  have N1 := hid (show NR W.drew k v us S from Nt.draws NW.out stb_Eb 1)
  have X1 := hid (show Bx W.drew g 31 #[.int .i64 3, .int .i64 way, .int .i64 i, .int .i64 r, .slice A n c] from HX.out)
  have C1 := hid (show Chg w W.drew (Ft k v us) (Ft k v us) from CW.out.draws 1)
  clear NW HX CW HG HW
  generalize W.drew = W at *
  have HY := hid (rhas_yes N1.out hi)
  obtain ⟨p, fs, rfl, hp, hw⟩ := isw_at (vld_isw hi)
  rw [show decide (isw S p) = true from by simpa using vld_isw hi]
  rw [hw] at hi
  obtain ⟨q, lq, rfl, hq, hql⟩ := vld_at hi
  obtain ⟨gr, cg, u, B, d, cs, rfl, hu, hu2, q1, q2, ho, hcs, h400⟩ := Nt.at_ N1.out hp
  have c0 : W.cell? ⟨k, 0, none⟩ = some (.slice (some ⟨gr, 0, none⟩) S.length cg) := N1.out.box.cell 0
  have hpp : (p : Int) < (S.length : Int) := by have := (List.getElem?_eq_some_iff.1 hp).1; omega
  have y0 : W.cell? ⟨g, 0, none⟩ = some (.int .i64 3) := X1.out.cell 0
  have y1 : W.cell? ⟨g, 1, none⟩ = some (.int .i64 (p : Nat)) := X1.out.cell 1
  have y2 : W.cell? ⟨g, 2, none⟩ = some (.int .i64 (q : Nat)) := X1.out.cell 2
  obtain ⟨x, hx, hxl⟩ := hcs.get hq
  rw [hu2] at q1 ho hu
  have HQX : fs.getD q [] = lq := by rw [List.getD, hq]; rfl
  have hqc : q < cs.length := by rw [hcs.1]; exact hql
  obtain ⟨B2, d2, e2, hrv, hd1, hd2⟩ := ho.read
  rw [hcs.1] at e2 hd1
  simp only [Value.slice.injEq, true_and] at e2
  obtain ⟨rfl, rfl⟩ := e2
  obtain ⟨gA, dA, e4⟩ := ho.place (by omega)
  simp only [Value.slice.injEq] at e4
  obtain ⟨rfl, -, -⟩ := e4
  have f0 := (ho.cellAt hqc).1.trans hx
  have hqq : (q : Int) < (fs.length : Int) := by omega
  have hgk : k ≠ gr := fun e => N1.out.vk (congrArg some e.symm)
  have hgg : g ≠ gr := fun e => LW.out gr (.inr (.inl rfl)) e.symm

  have ND := hid (show NR W.drew.drew k (.slice (some ⟨gr, 0, none⟩) S.length cg) us S from Nt.draws N1.out stb_Eb 2)
  have HU := hid hu
  have HCC := hid hcs
  have HXL := hid hxl
  have H4 := hid (show (fs.eraseIdx q).length ≤ 400 by have := List.length_eraseIdx_le fs q; omega)
  obtain ⟨Ax, cx, rfl, -⟩ := hxl
  generalize hm : fs.length = m at *
  have HRW := hid (rwithout_any (w := W.drew.drew) (A := some ⟨gA, 0, none⟩) (n := m) (c := d) (cs := cs) hrv (hcs.1.trans hm) ⟨hd1, hd2⟩ q hql h400 (hcs.each fun x l => stb_Eb.one _ x l) (hcs.each fun x l => stb_Eb.nb _ x l))
  have HQL := hid hql
  generalize hlx : List.length lq = lx at *
  clear hi hp hu hu2 q2 ho hcs hql hq hqc hx hrv hd1 hd2 hm
  go_upto_region 18 with (go_at_call 23; (with_reducible refine HY.out.mono ?_); rintro e w' ⟨rfl, rfl⟩)
  clear HY
  go_region
  all_goals
   go_upto_region 29 with fail
   clear f0 q1 y0
   refine wp_region_noPanic ?_
   refine wp_region_held_drew (S := fun w' => w'.cell? ⟨k, 0, none⟩ = some (.slice (some ⟨gr, 0, none⟩) S.length cg) ∧ w'.cell? ⟨g, 1, none⟩ = some (.int .i64 (p : Nat)) ∧ w'.cell? ⟨g, 2, none⟩ = some (.int .i64 (q : Nat))) (by kernel_rfl) ?_ (fun hHeld => ?_)
   · exact ⟨c0, y1, y2⟩
   refine wpAnyH_take (i := 0) (oi := ⟨some 166, _, _, _, _, _⟩) (v := ?_) rfl (by kernel_rfl) (by kernel_rfl) (by kernel_rfl) (fun _ _ _ h => h) (Or.inl ⟨by rfl, ?_⟩) (by assumption) ?_
   rotate_left 1
   · intro w0 hSw
     (try dsimp only at hSw); obtain ⟨s1, s2, s3⟩ := hSw
     go_simp
     try with_reducible rfl
   (try simp only [Act.put, List.setIfInBounds_toArray, List.set_cons_zero, List.set_cons_succ])
   refine wpAnyH_take (i := 1) (oi := ⟨some 167, _, _, _, _, _⟩) (v := ?_) rfl (by kernel_rfl) (by kernel_rfl) (by kernel_rfl) (fun _ _ _ h => h) (Or.inl ⟨by rfl, ?_⟩) (by assumption) ?_
   rotate_left 1
   · intro w0 hSw
     (try dsimp only at hSw); obtain ⟨s1, s2, s3⟩ := hSw
     go_simp
     try with_reducible rfl
   (try simp only [Act.put, List.setIfInBounds_toArray, List.set_cons_zero, List.set_cons_succ])
   refine wpAnyH_take (i := 2) (oi := ⟨some 168, _, _, _, _, _⟩) (v := ?_) rfl (by kernel_rfl) (by kernel_rfl) (by kernel_rfl) (fun _ _ _ h => h) (Or.inl ⟨by rfl, ?_⟩) (by assumption) ?_
   rotate_left 1
   · intro w0 hSw
     (try dsimp only at hSw); obtain ⟨s1, s2, s3⟩ := hSw
     go_simp
     try with_reducible rfl
   (try simp only [Act.put, List.setIfInBounds_toArray, List.set_cons_zero, List.set_cons_succ])
   refine wpAnyH_take (i := 3) (oi := ⟨some 169, _, _, _, _, _⟩) (v := ?_) rfl (by kernel_rfl) (by kernel_rfl) (by kernel_rfl) (fun _ _ _ h => h) (Or.inl ⟨by rfl, ?_⟩) (by assumption) ?_
   rotate_left 1
   · intro w0 hSw
     (try dsimp only at hSw); obtain ⟨s1, s2, s3⟩ := hSw
     go_simp
     try with_reducible rfl
   (try simp only [Act.put, List.setIfInBounds_toArray, List.set_cons_zero, List.set_cons_succ])
   refine wpAnyH_take (i := 4) (oi := ⟨some 170, _, _, _, _, _⟩) (v := ?_) rfl (by kernel_rfl) (by kernel_rfl) (by kernel_rfl) (fun _ _ _ h => h) (Or.inl ⟨by rfl, ?_⟩) (by assumption) ?_
   rotate_left 1
   · intro w0 hSw
     (try dsimp only at hSw); obtain ⟨s1, s2, s3⟩ := hSw
     go_simp
     try with_reducible rfl
   (try simp only [Act.put, List.setIfInBounds_toArray, List.set_cons_zero, List.set_cons_succ])
   refine wpAnyH_take (i := 5) (oi := ⟨some 171, _, _, _, _, _⟩) (v := ?_) rfl (by kernel_rfl) (by kernel_rfl) (by kernel_rfl) (fun _ _ _ h => h) (Or.inl ⟨by rfl, ?_⟩) (by assumption) ?_
   rotate_left 1
   · intro w0 hSw
     (try dsimp only at hSw); obtain ⟨s1, s2, s3⟩ := hSw
     go_simp
     try with_reducible rfl
   (try simp only [Act.put, List.setIfInBounds_toArray, List.set_cons_zero, List.set_cons_succ])
   refine wpAnyH_take (i := 6) (oi := ⟨some 172, _, _, _, _, _⟩) (v := ?_) rfl (by kernel_rfl) (by kernel_rfl) (by kernel_rfl) (fun _ _ _ h => h) (Or.inl ⟨by rfl, ?_⟩) (by assumption) ?_
   rotate_left 1
   · intro w0 hSw
     (try dsimp only at hSw); obtain ⟨s1, s2, s3⟩ := hSw
     go_simp
     try with_reducible rfl
   (try simp only [Act.put, List.setIfInBounds_toArray, List.set_cons_zero, List.set_cons_succ])
   refine wpAnyH_take (i := 7) (oi := ⟨some 173, _, _, _, _, _⟩) (v := ?_) rfl (by kernel_rfl) (by kernel_rfl) (by kernel_rfl) (fun _ _ _ h => h) (Or.inl ⟨by rfl, ?_⟩) (by assumption) ?_
   rotate_left 1
   · intro w0 hSw
     (try dsimp only at hSw); obtain ⟨s1, s2, s3⟩ := hSw
     go_simp
     try with_reducible rfl
   (try simp only [Act.put, List.setIfInBounds_toArray, List.set_cons_zero, List.set_cons_succ])
   refine wpAnyH_take (i := 8) (oi := ⟨some 174, _, _, _, _, _⟩) (v := ?_) rfl (by kernel_rfl) (by kernel_rfl) (by kernel_rfl) (fun _ _ _ h => h) (Or.inl ⟨by rfl, ?_⟩) (by assumption) ?_
   rotate_left 1
   · intro w0 hSw
     (try dsimp only at hSw); obtain ⟨s1, s2, s3⟩ := hSw
     go_simp
     try with_reducible rfl
   (try simp only [Act.put, List.setIfInBounds_toArray, List.set_cons_zero, List.set_cons_succ])
   refine wpAnyH_ready (rs := [9]) (by kernel_rfl) (by simp) ?_
   refine AllReadyH.cons (o := ⟨some 175, _, _, _, _, _⟩) rfl (fun K hK => ?_) AllReadyH.nil
   rw [if_pos (by rfl)]
   go_simp
   refine HRW.out.mono ?_
   rintro e w2 ⟨A9, n9, c9, rfl, ho2, hg2, hB2⟩
   obtain ⟨kp, xc, xf, XN, XC⟩ := ND.out.put stb_Eb (by rfl) HU.out hg2 ho2 (Cs.keep (Cs.erase HCC.out q) stb_Eb hg2.stay hg2.gr.size) H4.out (nb_slice _ _ _)
   have HX9 := hid (And.intro XN XC)
   have kp1 : w2.cell? ⟨g, 1, none⟩ = some (.int .i64 (p : Nat)) := (hB2.cell (World.block_lt_of_cell? _ _ y1)).trans y1
   have kp2 : w2.cell? ⟨g, 2, none⟩ = some (.int .i64 (q : Nat)) := (hB2.cell (World.block_lt_of_cell? _ _ y2)).trans y2
   have kq : ∀ b : Nat, b ≠ gr → ∀ o x, w2.cell? ⟨b, o, none⟩ = some x → (w2.setCell ⟨gr, p, none⟩ (.slice A9 n9 c9)).cell? ⟨b, o, none⟩ = some x := fun b hb o x e => by rw [World.cell?_setCell_other _ _ _ _ (fun e => hb (by injection e with e; exact e.symm))]; exact e
   clear XN XC ho2 hg2 hB2
   go_simp
   refine hK.out _ _ ⟨kp, kp1, kp2⟩ (fun hHeld => ?_)
   clear hK K
   (try simp only [Act.put, List.setIfInBounds_toArray, List.set_cons_zero, List.set_cons_succ])
   refine wpAnyH_take (i := 10) (oi := ⟨some 176, _, _, _, _, _⟩) (v := ?_) rfl (by kernel_rfl) (by kernel_rfl) (by kernel_rfl) (fun _ _ _ h => h) (Or.inl ⟨by rfl, ?_⟩) (by assumption) ?_
   rotate_left 1
   · intro w0 hSw
     (try dsimp only at hSw); obtain ⟨s1, s2, s3⟩ := hSw
     go_simp
     try with_reducible rfl
   (try simp only [Act.put, List.setIfInBounds_toArray, List.set_cons_zero, List.set_cons_succ])
   refine wpAnyH_ready (rs := [11]) (by kernel_rfl) (by simp) ?_
   refine AllReadyH.cons (o := ⟨none, _, _, _, _, _⟩) rfl (fun K hK => ?_) AllReadyH.nil
   rw [if_pos (by rfl)]
   go_simp
   refine hK.out _ _ ⟨kq _ hgk _ _ kp, kq _ hgg _ _ kp1, kq _ hgg _ _ kp2⟩ (fun hHeld => ?_)
   clear hK K
   (try simp only [Act.put, List.setIfInBounds_toArray, List.set_cons_zero, List.set_cons_succ])
   refine wpAnyH_done (by kernel_rfl) ?_ _
   refine NoPanic.normal ?_
   go_wp2
   go_ret3
   refine ⟨_, _, rfl, ?_, by rw [hw, Int.toNat_natCast, Int.toNat_natCast]; exact HX9.out.1, C1.out.trans ((Chg.of (below_draws (Below.refl _ W) 2) _).trans HX9.out.2)⟩
   exact bs_nil _
set_option maxRecDepth 100000 in
set_option maxHeartbeats 1600000 in
theorem rdo2 (h : NR w k v us S) (way i r : Int) (A : Option Addr) (n c : Nat) (hi : vld (wy S way) i) :
    Calls Try.prog 13 #[.pointer (some ⟨k, 0, none⟩), .agg #[.int .i64 (2), .int .i64 way, .int .i64 i, .int .i64 r, .slice A n c]] w (RoP k v us S 2 way i r l w) := by
  unfold RoP
  have e2 : doN 2 way l S = 0 := rfl
  have e3 : doB 2 way i S = [] := rfl
  rw [e2, e3]
  clear e2 e3
  by_cases h4 : 400 ≤ (wy S way).length
  · have e1 : doS 2 way i r l S = S := (by unfold twiceS; rw [if_pos hi, if_pos h4] : twiceS S way i = S)
    have e4 : doE 2 way i r S = 4 := (by unfold twiceE; rw [if_pos hi, if_pos h4] : twiceE S way i = 4)
    rw [e1, e4]
    clear e1 e4
    obtain ⟨g, hg⟩ : ∃ g, w.heap.size = g := ⟨_, rfl⟩
    obtain ⟨W, hW⟩ : ∃ W, w.alloc (.cells #[.int .i64 2, .int .i64 way, .int .i64 i, .int .i64 r, .slice A n c] 31) = W := ⟨_, rfl⟩
    have BW : Below w.heap.size w W := by rw [← hW]; exact below_alloc _ _
    have XW : Bx W g 31 #[.int .i64 2, .int .i64 way, .int .i64 i, .int .i64 r, .slice A n c] := by rw [← hW, ← hg]; exact Bx.new _ _ _
    have NW := hid (show NR W k v us S from Nt.below h stb_Eb BW)
    have CW := hid (Chg.of BW (Ft k v us))
    have LW := hid (show ∀ j, Ft k v us j → j ≠ g from fun j hj => by have := Nt.lt h hj; omega)
    have HX := hid XW
    have HG := hid hg
    have HW := hid hW
    have y1 : W.cell? ⟨g, 1, none⟩ = some (.int .i64 way) := XW.cell 1
    obtain ⟨A0, c0, e0, k0, -⟩ := Nt.cells h
    have k0 : W.cell? ⟨k, 0, none⟩ = some (.slice A0 S.length c0) := (BW.cell (World.block_lt_of_cell? w _ k0)).trans k0
    clear BW XW hg hW h e0
    go_enter Try.func13, Try.ntmps13
    go_upto_region 1 with fail
    rw [HG.out, HW.out]
    go_cut [7] from 14 to 26 (fun s7 wx => s7 = .bool (decide (isw S way)) ∧ wx = W.drew)
    case first =>
      obtain ⟨nn, hnn⟩ : ∃ nn, S.length = nn := ⟨_, rfl⟩
      rw [hnn] at k0
      by_cases h0 : way < 0
      · have hd : decide ((0 : Int) ≤ way) = false := by simpa using h0
        have HD := hid (show decide (isw S way) = false from decide_eq_false (by unfold isw; omega))
        clear hnn
        go_region
        go_wp2
        go_meet
        exact ⟨by rw [HD.out], rfl⟩
      · have h1 : 0 ≤ way := by omega
        by_cases h2 : way < (nn : Int)
        · have HD := hid (show decide (isw S way) = true from decide_eq_true (by unfold isw; omega))
          clear hnn h0
          go_region
          go_wp2
          go_meet
          exact ⟨by rw [HD.out], rfl⟩
        · have hd : decide (way < (nn : Int)) = false := by simpa using h2
          have HD := hid (show decide (isw S way) = false from decide_eq_false (by unfold isw; omega))
          clear hnn h0 h2
          go_region
          go_wp2
          go_meet
          exact ⟨by rw [HD.out], rfl⟩
    case rest =>
    obtain ⟨rfl, rfl⟩ := hcut
    clear y1 k0
    have N1 := hid (show NR W.drew k v us S from Nt.draws NW.out stb_Eb 1)
    have X1 := hid (show Bx W.drew g 31 #[.int .i64 2, .int .i64 way, .int .i64 i, .int .i64 r, .slice A n c] from HX.out)
    have C1 := hid (show Chg w W.drew (Ft k v us) (Ft k v us) from CW.out.draws 1)
    clear NW HX CW HG HW
    generalize W.drew = W at *
    have HY := hid (rhas_yes N1.out hi)
    obtain ⟨p, fs, rfl, hp, hw⟩ := isw_at (vld_isw hi)
    rw [show decide (isw S p) = true from by simpa using vld_isw hi]
    rw [hw] at hi
    obtain ⟨q, lq, rfl, hq, hql⟩ := vld_at hi
    obtain ⟨gr, cg, u, B, d, cs, rfl, hu, hu2, q1, q2, ho, hcs, h400⟩ := Nt.at_ N1.out hp
    have c0 : W.cell? ⟨k, 0, none⟩ = some (.slice (some ⟨gr, 0, none⟩) S.length cg) := N1.out.box.cell 0
    have hpp : (p : Int) < (S.length : Int) := by have := (List.getElem?_eq_some_iff.1 hp).1; omega
    have y0 : W.cell? ⟨g, 0, none⟩ = some (.int .i64 2) := X1.out.cell 0
    have y1 : W.cell? ⟨g, 1, none⟩ = some (.int .i64 (p : Nat)) := X1.out.cell 1
    have y2 : W.cell? ⟨g, 2, none⟩ = some (.int .i64 (q : Nat)) := X1.out.cell 2
    obtain ⟨x, hx, hxl⟩ := hcs.get hq
    rw [hu2] at q1 ho hu
    have HQX : fs.getD q [] = lq := by rw [List.getD, hq]; rfl
    have hqc : q < cs.length := by rw [hcs.1]; exact hql
    obtain ⟨B2, d2, e2, hrv, hd1, hd2⟩ := ho.read
    rw [hcs.1] at e2 hd1
    simp only [Value.slice.injEq, true_and] at e2
    obtain ⟨rfl, rfl⟩ := e2
    obtain ⟨gA, dA, e4⟩ := ho.place (by omega)
    simp only [Value.slice.injEq] at e4
    obtain ⟨rfl, -, -⟩ := e4
    have f0 := (ho.cellAt hqc).1.trans hx
    have hqq : (q : Int) < (fs.length : Int) := by omega
    have hgk : k ≠ gr := fun e => N1.out.vk (congrArg some e.symm)
    have hgg : g ≠ gr := fun e => LW.out gr (.inr (.inl rfl)) e.symm
    rw [hw] at h4
    have hd : decide ((400 : Int) ≤ (fs.length : Int)) = true := by simp; omega
    obtain ⟨Ax, cx, rfl, -⟩ := hxl
    generalize hm : fs.length = m at *
    clear hi hp hu hu2 q2 ho hcs hql hq hqc hx hrv hd1 hd2 hm HQX
    go_upto_region 18 with (go_at_call 23; (with_reducible refine HY.out.mono ?_); rintro e w' ⟨rfl, rfl⟩)
    clear HY
    go_region
    all_goals
      go_wp2
      go_ret3
      exact ⟨_, _, rfl, bs_nil _, Nt.draws N1.out stb_Eb 1, C1.out.draws 1⟩
  · have e1 : doS 2 way i r l S = S.set way.toNat (wy S way ++ [(wy S way).getD i.toNat []]) := (by unfold twiceS; rw [if_pos hi, if_neg h4] : twiceS S way i = _)
    have e4 : doE 2 way i r S = 0 := (by unfold twiceE; rw [if_pos hi, if_neg h4] : twiceE S way i = 0)
    rw [e1, e4]
    clear e1 e4
    obtain ⟨g, hg⟩ : ∃ g, w.heap.size = g := ⟨_, rfl⟩
    obtain ⟨W, hW⟩ : ∃ W, w.alloc (.cells #[.int .i64 2, .int .i64 way, .int .i64 i, .int .i64 r, .slice A n c] 31) = W := ⟨_, rfl⟩
    have BW : Below w.heap.size w W := by rw [← hW]; exact below_alloc _ _
    have XW : Bx W g 31 #[.int .i64 2, .int .i64 way, .int .i64 i, .int .i64 r, .slice A n c] := by rw [← hW, ← hg]; exact Bx.new _ _ _
    have NW := hid (show NR W k v us S from Nt.below h stb_Eb BW)
    have CW := hid (Chg.of BW (Ft k v us))
    have LW := hid (show ∀ j, Ft k v us j → j ≠ g from fun j hj => by have := Nt.lt h hj; omega)
    have HX := hid XW
    have HG := hid hg
    have HW := hid hW
    have y1 : W.cell? ⟨g, 1, none⟩ = some (.int .i64 way) := XW.cell 1
    obtain ⟨A0, c0, e0, k0, -⟩ := Nt.cells h
    have k0 : W.cell? ⟨k, 0, none⟩ = some (.slice A0 S.length c0) := (BW.cell (World.block_lt_of_cell? w _ k0)).trans k0
    clear BW XW hg hW h e0
    go_enter Try.func13, Try.ntmps13
    go_upto_region 1 with fail
    rw [HG.out, HW.out]
    go_cut [7] from 14 to 26 (fun s7 wx => s7 = .bool (decide (isw S way)) ∧ wx = W.drew)
    case first =>
      obtain ⟨nn, hnn⟩ : ∃ nn, S.length = nn := ⟨_, rfl⟩
      rw [hnn] at k0
      by_cases h0 : way < 0
      · have hd : decide ((0 : Int) ≤ way) = false := by simpa using h0
        have HD := hid (show decide (isw S way) = false from decide_eq_false (by unfold isw; omega))
        clear hnn
        go_region
        go_wp2
        go_meet
        exact ⟨by rw [HD.out], rfl⟩
      · have h1 : 0 ≤ way := by omega
        by_cases h2 : way < (nn : Int)
        · have HD := hid (show decide (isw S way) = true from decide_eq_true (by unfold isw; omega))
          clear hnn h0
          go_region
          go_wp2
          go_meet
          exact ⟨by rw [HD.out], rfl⟩
        · have hd : decide (way < (nn : Int)) = false := by simpa using h2
          have HD := hid (show decide (isw S way) = false from decide_eq_false (by unfold isw; omega))
          clear hnn h0 h2
          go_region
          go_wp2
          go_meet
          exact ⟨by rw [HD.out], rfl⟩
    case rest =>
    obtain ⟨rfl, rfl⟩ := hcut
    clear y1 k0
    have N1 := hid (show NR W.drew k v us S from Nt.draws NW.out stb_Eb 1)
    have X1 := hid (show Bx W.drew g 31 #[.int .i64 2, .int .i64 way, .int .i64 i, .int .i64 r, .slice A n c] from HX.out)
    have C1 := hid (show Chg w W.drew (Ft k v us) (Ft k v us) from CW.out.draws 1)
    clear NW HX CW HG HW
    generalize W.drew = W at *
    have HY := hid (rhas_yes N1.out hi)
    obtain ⟨p, fs, rfl, hp, hw⟩ := isw_at (vld_isw hi)
    rw [show decide (isw S p) = true from by simpa using vld_isw hi]
    rw [hw] at hi
    obtain ⟨q, lq, rfl, hq, hql⟩ := vld_at hi
    obtain ⟨gr, cg, u, B, d, cs, rfl, hu, hu2, q1, q2, ho, hcs, h400⟩ := Nt.at_ N1.out hp
    have c0 : W.cell? ⟨k, 0, none⟩ = some (.slice (some ⟨gr, 0, none⟩) S.length cg) := N1.out.box.cell 0
    have hpp : (p : Int) < (S.length : Int) := by have := (List.getElem?_eq_some_iff.1 hp).1; omega
    have y0 : W.cell? ⟨g, 0, none⟩ = some (.int .i64 2) := X1.out.cell 0
    have y1 : W.cell? ⟨g, 1, none⟩ = some (.int .i64 (p : Nat)) := X1.out.cell 1
    have y2 : W.cell? ⟨g, 2, none⟩ = some (.int .i64 (q : Nat)) := X1.out.cell 2
    obtain ⟨x, hx, hxl⟩ := hcs.get hq
    rw [hu2] at q1 ho hu
    have HQX : fs.getD q [] = lq := by rw [List.getD, hq]; rfl
    have hqc : q < cs.length := by rw [hcs.1]; exact hql
    obtain ⟨B2, d2, e2, hrv, hd1, hd2⟩ := ho.read
    rw [hcs.1] at e2 hd1
    simp only [Value.slice.injEq, true_and] at e2
    obtain ⟨rfl, rfl⟩ := e2
    obtain ⟨gA, dA, e4⟩ := ho.place (by omega)
    simp only [Value.slice.injEq] at e4
    obtain ⟨rfl, -, -⟩ := e4
    have f0 := (ho.cellAt hqc).1.trans hx
    have hqq : (q : Int) < (fs.length : Int) := by omega
    have hgk : k ≠ gr := fun e => N1.out.vk (congrArg some e.symm)
    have hgg : g ≠ gr := fun e => LW.out gr (.inr (.inl rfl)) e.symm
    rw [hw] at h4
    have hd : decide ((400 : Int) ≤ (fs.length : Int)) = false := by simp; omega
    obtain ⟨Ax, cx, rfl, hxr⟩ := hxl
    have B3 : Below W.heap.size W (W.alloc (.cells #[.slice Ax (List.length lq) cx] 32)).drew.drew := below_draws (below_alloc W _) 2
    have H2 := hid (show NR (W.alloc (.cells #[.slice Ax (List.length lq) cx] 32)).drew.drew k (.slice (some ⟨gr, 0, none⟩) S.length cg) us S from Nt.below N1.out stb_Eb B3)
    have HO2 := hid (ho.below B3)
    have HCC := hid (hcs.below stb_Eb B3)
    have HE := hid (show Eb (W.alloc (.cells #[.slice Ax (List.length lq) cx] 32)).drew.drew (.slice Ax (List.length lq) cx) lq from Bs.below (⟨Ax, cx, rfl, hxr⟩ : Bs W _ lq) B3)
    have HR2 := hid (show Rv (W.alloc (.cells #[.slice Ax (List.length lq) cx] 32)).drew.drew (W.heap.size + 1) (some ⟨W.heap.size, 0, none⟩) [.slice Ax (List.length lq) cx] from rv_new W 32 #[.slice Ax (List.length lq) cx])
    have HL := hid (And.intro hcs.1 h400)
    have H4 := hid (show (fs ++ [lq]).length ≤ 400 by rw [List.length_append]; simp; omega)
    have HU := hid hu
    have HB3 := hid B3
    have HGA := hid (show (Value.slice (some (⟨gA, 0, none⟩ : Addr)) fs.length d).ownBlock ≠ some g from fun e => LW.out g (.inr (.inr ⟨_, List.mem_of_getElem? hu, e⟩)) rfl)
    have z0 : (W.alloc (.cells #[.slice Ax (List.length lq) cx] 32)).cell? ⟨k, 0, none⟩ = some (.slice (some ⟨gr, 0, none⟩) S.length cg) := H2.out.box.cell 0
    have z1 : (W.alloc (.cells #[.slice Ax (List.length lq) cx] 32)).cell? ⟨g, 1, none⟩ = some (.int .i64 (p : Nat)) := (B3.cell (World.block_lt_of_cell? W _ y1)).trans y1
    have z3 : (W.alloc (.cells #[.slice Ax (List.length lq) cx] 32)).cell? ⟨gr, p, none⟩ = some (.slice (some ⟨gA, 0, none⟩) fs.length d) := (B3.cell (World.block_lt_of_cell? W _ q1)).trans q1
    generalize hm : fs.length = m at *
    generalize hlx : List.length lq = lx at *
    clear hi hp hu hu2 q2 ho hcs hql hq hqc hx hrv hd1 hd2 hm h4 B3 hxr
    go_upto_region 18 with (go_at_call 23; (with_reducible refine HY.out.mono ?_); rintro e w' ⟨rfl, rfl⟩)
    clear HY
    go_region
    all_goals
     go_upto_region 27 with fail
     clear f0 y0 y2
     refine wp_region_noPanic ?_
     refine wp_region_held_drew (S := fun w' => w'.cell? ⟨k, 0, none⟩ = some (.slice (some ⟨gr, 0, none⟩) S.length cg) ∧ w'.cell? ⟨g, 1, none⟩ = some (.int .i64 (p : Nat))) (by kernel_rfl) ?_ (fun hHeld => ?_)
     · exact ⟨c0, y1⟩
     refine wpAnyH_take (i := 0) (oi := ⟨some 146, _, _, _, _, _⟩) (v := ?_) rfl (by kernel_rfl) (by kernel_rfl) (by kernel_rfl) (fun _ _ _ h => h) (Or.inl ⟨by rfl, ?_⟩) (by assumption) ?_
     rotate_left 1
     · intro w0 hSw
       (try dsimp only at hSw); obtain ⟨s1, s2⟩ := hSw
       go_simp
       try with_reducible rfl
     (try simp only [Act.put, List.setIfInBounds_toArray, List.set_cons_zero, List.set_cons_succ])
     refine wpAnyH_take (i := 1) (oi := ⟨some 147, _, _, _, _, _⟩) (v := ?_) rfl (by kernel_rfl) (by kernel_rfl) (by kernel_rfl) (fun _ _ _ h => h) (Or.inl ⟨by rfl, ?_⟩) (by assumption) ?_
     rotate_left 1
     · intro w0 hSw
       (try dsimp only at hSw); obtain ⟨s1, s2⟩ := hSw
       go_simp
       try with_reducible rfl
     (try simp only [Act.put, List.setIfInBounds_toArray, List.set_cons_zero, List.set_cons_succ])
     refine wpAnyH_take (i := 2) (oi := ⟨some 148, _, _, _, _, _⟩) (v := ?_) rfl (by kernel_rfl) (by kernel_rfl) (by kernel_rfl) (fun _ _ _ h => h) (Or.inl ⟨by rfl, ?_⟩) (by assumption) ?_
     rotate_left 1
     · intro w0 hSw
       (try dsimp only at hSw); obtain ⟨s1, s2⟩ := hSw
       go_simp
       try with_reducible rfl
     (try simp only [Act.put, List.setIfInBounds_toArray, List.set_cons_zero, List.set_cons_succ])
     refine wpAnyH_take (i := 3) (oi := ⟨some 149, _, _, _, _, _⟩) (v := ?_) rfl (by kernel_rfl) (by kernel_rfl) (by kernel_rfl) (fun _ _ _ h => h) (Or.inl ⟨by rfl, ?_⟩) (by assumption) ?_
     rotate_left 1
     · intro w0 hSw
       (try dsimp only at hSw); obtain ⟨s1, s2⟩ := hSw
       go_simp
       try with_reducible rfl
     (try simp only [Act.put, List.setIfInBounds_toArray, List.set_cons_zero, List.set_cons_succ])
     refine wpAnyH_take (i := 4) (oi := ⟨some 150, _, _, _, _, _⟩) (v := ?_) rfl (by kernel_rfl) (by kernel_rfl) (by kernel_rfl) (fun _ _ _ h => h) (Or.inl ⟨by rfl, ?_⟩) (by assumption) ?_
     rotate_left 1
     · intro w0 hSw
       (try dsimp only at hSw); obtain ⟨s1, s2⟩ := hSw
       go_simp
       try with_reducible rfl
     (try simp only [Act.put, List.setIfInBounds_toArray, List.set_cons_zero, List.set_cons_succ])
     refine wpAnyH_take (i := 5) (oi := ⟨some 151, _, _, _, _, _⟩) (v := ?_) rfl (by kernel_rfl) (by kernel_rfl) (by kernel_rfl) (fun _ _ _ h => h) (Or.inl ⟨by rfl, ?_⟩) (by assumption) ?_
     rotate_left 1
     · intro w0 hSw
       (try dsimp only at hSw); obtain ⟨s1, s2⟩ := hSw
       go_simp
       try with_reducible rfl
     (try simp only [Act.put, List.setIfInBounds_toArray, List.set_cons_zero, List.set_cons_succ])
     refine wpAnyH_take (i := 6) (oi := ⟨some 152, _, _, _, _, _⟩) (v := ?_) rfl (by kernel_rfl) (by kernel_rfl) (by kernel_rfl) (fun _ _ _ h => h) (Or.inl ⟨by rfl, ?_⟩) (by assumption) ?_
     rotate_left 1
     · intro w0 hSw
       (try dsimp only at hSw); obtain ⟨s1, s2⟩ := hSw
       go_simp
       try with_reducible rfl
     (try simp only [Act.put, List.setIfInBounds_toArray, List.set_cons_zero, List.set_cons_succ])
     refine wpAnyH_take (i := 7) (oi := ⟨some 153, _, _, _, _, _⟩) (v := ?_) rfl (by kernel_rfl) (by kernel_rfl) (by kernel_rfl) (fun _ _ _ h => h) (Or.inl ⟨by rfl, ?_⟩) (by assumption) ?_
     rotate_left 1
     · intro w0 hSw
       (try dsimp only at hSw); obtain ⟨s1, s2⟩ := hSw
       go_simp
       try with_reducible rfl
     (try simp only [Act.put, List.setIfInBounds_toArray, List.set_cons_zero, List.set_cons_succ])
     refine wpAnyH_take (i := 8) (oi := ⟨some 154, _, _, _, _, _⟩) (v := ?_) rfl (by kernel_rfl) (by kernel_rfl) (by kernel_rfl) (fun _ _ _ h => h) (Or.inl ⟨by rfl, ?_⟩) (by assumption) ?_
     rotate_left 1
     · intro w0 hSw
       (try dsimp only at hSw); obtain ⟨s1, s2⟩ := hSw
       go_simp
       try with_reducible rfl
     (try simp only [Act.put, List.setIfInBounds_toArray, List.set_cons_zero, List.set_cons_succ])
     refine wpAnyH_take (i := 9) (oi := ⟨some 155, _, _, _, _, _⟩) (v := ?_) rfl (by kernel_rfl) (by kernel_rfl) (by kernel_rfl) (fun _ _ _ h => h) (Or.inl ⟨by rfl, ?_⟩) (by assumption) ?_
     rotate_left 1
     · intro w0 hSw
       (try dsimp only at hSw); obtain ⟨s1, s2⟩ := hSw
       go_simp
       try with_reducible rfl
     (try simp only [Act.put, List.setIfInBounds_toArray, List.set_cons_zero, List.set_cons_succ])
     refine wpAnyH_take (i := 10) (oi := ⟨some 156, _, _, _, _, _⟩) (v := ?_) rfl (by kernel_rfl) (by kernel_rfl) (by kernel_rfl) (fun _ _ _ h => h) (Or.inl ⟨by rfl, ?_⟩) (by assumption) ?_
     rotate_left 1
     · intro w0 hSw
       (try dsimp only at hSw); obtain ⟨s1, s2⟩ := hSw
       go_simp
       try with_reducible rfl
     (try simp only [Act.put, List.setIfInBounds_toArray, List.set_cons_zero, List.set_cons_succ])
     refine wpAnyH_take (i := 11) (oi := ⟨some 157, _, _, _, _, _⟩) (v := ?_) rfl (by kernel_rfl) (by kernel_rfl) (by kernel_rfl) (fun _ _ _ h => h) (Or.inl ⟨by rfl, ?_⟩) (by assumption) ?_
     rotate_left 1
     · intro w0 hSw
       (try dsimp only at hSw); obtain ⟨s1, s2⟩ := hSw
       go_simp
       try with_reducible rfl
     (try simp only [Act.put, List.setIfInBounds_toArray, List.set_cons_zero, List.set_cons_succ])
     refine wpAnyH_take (i := 12) (oi := ⟨some 158, _, _, _, _, _⟩) (v := ?_) rfl (by kernel_rfl) (by kernel_rfl) (by kernel_rfl) (fun _ _ _ h => h) (Or.inl ⟨by rfl, ?_⟩) (by assumption) ?_
     rotate_left 1
     · intro w0 hSw
       (try dsimp only at hSw); obtain ⟨s1, s2⟩ := hSw
       go_simp
       try with_reducible rfl
     (try simp only [Act.put, List.setIfInBounds_toArray, List.set_cons_zero, List.set_cons_succ])
     refine wpAnyH_take (i := 14) (oi := ⟨some 160, _, _, _, _, _⟩) (v := ?_) rfl (by kernel_rfl) (by kernel_rfl) (by kernel_rfl) (fun _ _ _ h => h) (Or.inl ⟨by rfl, ?_⟩) (by assumption) ?_
     rotate_left 1
     · intro w0 hSw
       (try dsimp only at hSw); obtain ⟨s1, s2⟩ := hSw
       go_simp
       try with_reducible rfl
     (try simp only [Act.put, List.setIfInBounds_toArray, List.set_cons_zero, List.set_cons_succ])
     refine wpAnyH_ready (rs := [13, 15]) (by kernel_rfl) (by simp) ?_
     refine (AllReadyH.cons (o := ⟨some 159, _, _, _, _, _⟩) rfl (fun K hK => ?_) (AllReadyH.cons (o := ⟨some 161, _, _, _, _, _⟩) rfl (fun K hK => ?_) AllReadyH.nil))
     · rw [if_pos (by rfl)]
       go_simp
       refine hK.out _ _ hHeld (fun hHeld => ?_)
       clear hK K
       (try simp only [Act.put, List.setIfInBounds_toArray, List.set_cons_zero, List.set_cons_succ])
       refine wpAnyH_ready (rs := [15]) (by kernel_rfl) (by simp) ?_
       refine AllReadyH.cons (o := ⟨some 161, _, _, _, _, _⟩) rfl (fun K hK => ?_) AllReadyH.nil
       rw [if_pos (by rfl)]
       go_simp
       refine hK.out _ _ ⟨z0, z1⟩ (fun hHeld => ?_)
       clear hK K
       (try simp only [Act.put, List.setIfInBounds_toArray, List.set_cons_zero, List.set_cons_succ])
       refine wpAnyH_ready (rs := [16]) (by kernel_rfl) (by simp) ?_
       refine AllReadyH.cons (o := ⟨some 162, _, _, _, _, _⟩) rfl (fun K hK => ?_) AllReadyH.nil
       rw [if_pos (by rfl)]
       refine wp_appW elt_txt rfl (nb_slice _ _ _) (.tmp 159) (.tmp 161) rfl _ _ HO2.out rfl _ _ 1 1 [.slice Ax lx cx] rfl rfl HR2.out (fun u hu => by simp at hu; subst hu; rfl) (fun u hu => by simp at hu; subst hu; exact nb_slice _ _ _) (by rw [HL.out.1]; unfold maxLen; omega) (by rw [HL.out.1]; omega) ?_
       intro v9 w9 ho9 hg9
       obtain ⟨A9, n9, c9, rfl⟩ : ∃ A n c, v9 = .slice A n c := by obtain ⟨A, c, e, -⟩ := ho9.read; exact ⟨A, _, c, e⟩
       obtain ⟨kp, xc, xf, XN, XC⟩ := H2.out.put stb_Eb (by rfl) HU.out hg9 ho9 ((Cs.keep HCC.out stb_Eb hg9.stay hg9.gr.size).append (Cs.one (stb_Eb.stay _ _ _ _ hg9.stay hg9.gr.size HE.out))) H4.out (nb_slice _ _ _)
       have HX9 := hid (And.intro XN XC)
       have kg : w9.cell? ⟨g, 1, none⟩ = some (.int .i64 (p : Nat)) := (World.cell?_of_block (hg9.other (World.block_lt_of_cell? _ _ z1) (fun e => HGA.out e))).trans z1
       have kq : ∀ b : Nat, b ≠ gr → ∀ o x, w9.cell? ⟨b, o, none⟩ = some x → (w9.setCell ⟨gr, p, none⟩ (.slice A9 n9 c9)).cell? ⟨b, o, none⟩ = some x := fun b hb o x e => by rw [World.cell?_setCell_other _ _ _ _ (fun e => hb (by injection e with e; exact e.symm))]; exact e
       clear XN XC ho9 hg9
       refine hK.out _ _ ⟨kp, kg⟩ (fun hHeld => ?_)
       clear hK K
       (try simp only [Act.put, List.setIfInBounds_toArray, List.set_cons_zero, List.set_cons_succ])
       refine wpAnyH_take (i := 17) (oi := ⟨some 163, _, _, _, _, _⟩) (v := ?_) rfl (by kernel_rfl) (by kernel_rfl) (by kernel_rfl) (fun _ _ _ h => h) (Or.inl ⟨by rfl, ?_⟩) (by assumption) ?_
       rotate_left 1
       · intro w0 hSw
         (try dsimp only at hSw); obtain ⟨s1, s2⟩ := hSw
         go_simp
         try with_reducible rfl
       (try simp only [Act.put, List.setIfInBounds_toArray, List.set_cons_zero, List.set_cons_succ])
       refine wpAnyH_ready (rs := [18]) (by kernel_rfl) (by simp) ?_
       refine AllReadyH.cons (o := ⟨none, _, _, _, _, _⟩) rfl (fun K hK => ?_) AllReadyH.nil
       rw [if_pos (by rfl)]
       go_simp
       refine hK.out _ _ ⟨kq _ hgk _ _ kp, kq _ hgg _ _ kg⟩ (fun hHeld => ?_)
       clear hK K
       (try simp only [Act.put, List.setIfInBounds_toArray, List.set_cons_zero, List.set_cons_succ])
       refine wpAnyH_done (by kernel_rfl) ?_ _
       refine NoPanic.normal ?_
       go_wp2
       go_ret3
       exact ⟨_, _, rfl, bs_nil _, by rw [hw, Int.toNat_natCast, Int.toNat_natCast, HQX]; exact HX9.out.1, C1.out.trans ((Chg.of HB3.out _).trans HX9.out.2)⟩
     · rw [if_pos (by rfl)]
       go_simp
       refine hK.out _ _ ⟨z0, z1⟩ (fun hHeld => ?_)
       clear hK K
       (try simp only [Act.put, List.setIfInBounds_toArray, List.set_cons_zero, List.set_cons_succ])
       refine wpAnyH_ready (rs := [13]) (by kernel_rfl) (by simp) ?_
       refine AllReadyH.cons (o := ⟨some 159, _, _, _, _, _⟩) rfl (fun K hK => ?_) AllReadyH.nil
       rw [if_pos (by rfl)]
       go_simp
       refine hK.out _ _ hHeld (fun hHeld => ?_)
       clear hK K
       (try simp only [Act.put, List.setIfInBounds_toArray, List.set_cons_zero, List.set_cons_succ])
       refine wpAnyH_ready (rs := [16]) (by kernel_rfl) (by simp) ?_
       refine AllReadyH.cons (o := ⟨some 162, _, _, _, _, _⟩) rfl (fun K hK => ?_) AllReadyH.nil
       rw [if_pos (by rfl)]
       refine wp_appW elt_txt rfl (nb_slice _ _ _) (.tmp 159) (.tmp 161) rfl _ _ HO2.out rfl _ _ 1 1 [.slice Ax lx cx] rfl rfl HR2.out (fun u hu => by simp at hu; subst hu; rfl) (fun u hu => by simp at hu; subst hu; exact nb_slice _ _ _) (by rw [HL.out.1]; unfold maxLen; omega) (by rw [HL.out.1]; omega) ?_
       intro v9 w9 ho9 hg9
       obtain ⟨A9, n9, c9, rfl⟩ : ∃ A n c, v9 = .slice A n c := by obtain ⟨A, c, e, -⟩ := ho9.read; exact ⟨A, _, c, e⟩
       obtain ⟨kp, xc, xf, XN, XC⟩ := H2.out.put stb_Eb (by rfl) HU.out hg9 ho9 ((Cs.keep HCC.out stb_Eb hg9.stay hg9.gr.size).append (Cs.one (stb_Eb.stay _ _ _ _ hg9.stay hg9.gr.size HE.out))) H4.out (nb_slice _ _ _)
       have HX9 := hid (And.intro XN XC)
       have kg : w9.cell? ⟨g, 1, none⟩ = some (.int .i64 (p : Nat)) := (World.cell?_of_block (hg9.other (World.block_lt_of_cell? _ _ z1) (fun e => HGA.out e))).trans z1
       have kq : ∀ b : Nat, b ≠ gr → ∀ o x, w9.cell? ⟨b, o, none⟩ = some x → (w9.setCell ⟨gr, p, none⟩ (.slice A9 n9 c9)).cell? ⟨b, o, none⟩ = some x := fun b hb o x e => by rw [World.cell?_setCell_other _ _ _ _ (fun e => hb (by injection e with e; exact e.symm))]; exact e
       clear XN XC ho9 hg9
       refine hK.out _ _ ⟨kp, kg⟩ (fun hHeld => ?_)
       clear hK K
       (try simp only [Act.put, List.setIfInBounds_toArray, List.set_cons_zero, List.set_cons_succ])
       refine wpAnyH_take (i := 17) (oi := ⟨some 163, _, _, _, _, _⟩) (v := ?_) rfl (by kernel_rfl) (by kernel_rfl) (by kernel_rfl) (fun _ _ _ h => h) (Or.inl ⟨by rfl, ?_⟩) (by assumption) ?_
       rotate_left 1
       · intro w0 hSw
         (try dsimp only at hSw); obtain ⟨s1, s2⟩ := hSw
         go_simp
         try with_reducible rfl
       (try simp only [Act.put, List.setIfInBounds_toArray, List.set_cons_zero, List.set_cons_succ])
       refine wpAnyH_ready (rs := [18]) (by kernel_rfl) (by simp) ?_
       refine AllReadyH.cons (o := ⟨none, _, _, _, _, _⟩) rfl (fun K hK => ?_) AllReadyH.nil
       rw [if_pos (by rfl)]
       go_simp
       refine hK.out _ _ ⟨kq _ hgk _ _ kp, kq _ hgg _ _ kg⟩ (fun hHeld => ?_)
       clear hK K
       (try simp only [Act.put, List.setIfInBounds_toArray, List.set_cons_zero, List.set_cons_succ])
       refine wpAnyH_done (by kernel_rfl) ?_ _
       refine NoPanic.normal ?_
       go_wp2
       go_ret3
       exact ⟨_, _, rfl, bs_nil _, by rw [hw, Int.toNat_natCast, Int.toNat_natCast, HQX]; exact HX9.out.1, C1.out.trans ((Chg.of HB3.out _).trans HX9.out.2)⟩
end
end Go.Proofs.Ytcagochalnjagaa
