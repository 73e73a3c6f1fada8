/-
  What is proved: the walk of ListActs: whatever is put and removed, one behind the other, all lists, their ends and lengths are what the document says. Condition: the acts are read as such.
-/
import Derived.Test.YtoiikjpeceolpaaWk10
import Derived.Test.YtoiikjpeceolpaaAr10
import Derived.Test.YtoiikjpeceolpaaEn10
namespace Go.Proofs.Ytoiikjpeceolpaa
open Go.RowKit

theorem Tw.old {w0 w : World} {k q : Nat} {u : Value} {vs : List Value} {S : List (List Int)} (h : Tw w0 w k q u vs S) : Wf S := h.a.wf.1
set_option maxRecDepth 100000 in
set_option maxHeartbeats 4000000 in
theorem acts_walk (m : Int) (A : Option Addr) (n c : Nat) (f : Nat → A3) (w : World) (hn : n ≤ maxLen) (h : Acts w A n f) :
    Calls Try.prog 3 #[.int .i64 m, .slice A n c] w fun e w' => e = .returned (.bool true) ∧ Below w.heap.size w w' := by
  have HA := hid h
  unfold maxLen at hn
  clear h
  go_enter Try.func3, Try.ntmps3
  go_upto_region 3 with (go_at_call 8; refine (wakes_any _).mono ?_; rintro e w1 ⟨rfl, hb⟩; have HB := hid hb; clear hb)
  by_cases h100 : 100 < n
  · have hd : decide ((100 : Int) < (n : Int)) = true := by simp; omega
    clear h100
    go_wp2
    go_ret
    exact ⟨rfl, HB.out⟩
  have hd : decide ((100 : Int) < (n : Int)) = false := by simp; omega
  have hw1 : w.heap.size ≤ w1.heap.size := HB.out.size
  have HLE := hid (show (empt (cl m)).length = cl m from by simp [empt])
  go_upto_region 6 with (first
    | (go_at_call 9; refine (lnew_any m _).mono ?_; rintro e w2 ⟨k, rfl, hs, hb, hk⟩; have HS := hid hs; have HB2 := hid hb; have HK := hid hk; clear hs hb hk)
    | (go_at_call 10; refine (rnew_any m _).mono ?_; rintro e w3 ⟨q, u, vs, rfl, hq, hb3, hF3⟩; have HT0 := hid (show Tw w w3 k q u vs (empt (cl m)) from ⟨HS.out.below hb3, hq, fun hf => by have := HS.out.lt; have := hF3 _ hf; omega, Nat.le_trans hw1 HK.out, fun j h1 => Nat.le_trans (Nat.le_trans hw1 HB2.out.size) (hF3 j h1), on (on HB.out HB2.out) hb3⟩); clear hq hb3 hF3))
  clear HS HB2 HK hw1 HB
  go_wp2_with fail
  go_loopg [24] n (fun gk t wr => ∃ p : Nat, p + gk = n ∧ t = .int .i64 p ∧ ∃ vs S, Tw w wr k q u vs S)
  case atStart => exact ⟨0, by omega, rfl, _, _, HT0.out⟩
  case round =>
    obtain ⟨p, hp, rfl, vs1, S, hT⟩ := hrel
    have HT := hid hT
    clear hT HT0 HLE
    by_cases hlt : p < n
    · obtain ⟨ad, rfl, hat⟩ := (HA.out.below HT.out.bel) p hlt
      obtain ⟨⟨κ, z, b⟩, hH⟩ : ∃ y, f p = y := ⟨_, rfl⟩
      rw [hH] at hat
      obtain ⟨alt, c0, c1, c2⟩ := hat
      dsimp only at c0 c1 c2
      obtain ⟨g, hg⟩ : ∃ g, wr.heap.size = g := ⟨_, rfl⟩
      obtain ⟨W, hW⟩ : ∃ W, wr.alloc (.cells #[.int .i64 κ, .int .i64 z, .int .i64 b] 29) = W := ⟨_, rfl⟩
      have BW : Below wr.heap.size wr W := by rw [← hW]; exact below_alloc _ _
      have HXW := hid (show Bx W g 29 #[.int .i64 κ, .int .i64 z, .int .i64 b] from by rw [← hW, ← hg]; exact Bx.new _ _ _)
      have HTW := hid (HT.out.below BW)
      have HGF := hid (show k < g ∧ ∀ j, Ft q u vs1 j → j < g from ⟨by rw [← hg]; exact HT.out.a.lt, fun j hj => by rw [← hg]; exact Lr.lt HT.out.r hj⟩)
      have HWW := hid hW
      have HGG := hid hg
      clear BW hH hW hg
      go_upto_region 9 with fail
      rw [HGG.out, HWW.out]
      clear c0 c1 c2 HGG HWW alt
      have y0 : W.cell? ⟨g, 0, none⟩ = some (.int .i64 κ) := HXW.out.cell 0
      by_cases hneg : κ < 0
      · have d1 : decide (κ < (0 : Int)) = true := by simpa using hneg
        clear hneg
        go_wp2_with fail
        go_roundg (gk - 1)
        case measure => omega
        case rel => exact ⟨p + 1, by omega, by go_num, _, _, HTW.out⟩
      by_cases hbig : 2 < κ
      · have d1 : decide (κ < (0 : Int)) = false := by simpa using hneg
        have d2 : decide ((2 : Int) < κ) = true := by simpa using hbig
        clear hneg hbig
        go_wp2_with fail
        go_roundg (gk - 1)
        case measure => omega
        case rel => exact ⟨p + 1, by omega, by go_num, _, _, HTW.out⟩
      have d1 : decide (κ < (0 : Int)) = false := by simpa using hneg
      have d2 : decide ((2 : Int) < κ) = false := by simpa using hbig
      have HKK := hid (show 0 ≤ κ ∧ κ ≤ 2 from by omega)
      clear hneg hbig
      obtain ⟨z3, hz3⟩ : ∃ x, doE κ z b S = x := ⟨_, rfl⟩
      obtain ⟨S2, hS2⟩ : ∃ x, doS κ z b S = x := ⟨_, rfl⟩
      have HZ := hid (And.intro hz3 hS2)
      clear hz3 hS2
      have y1 : W.cell? ⟨g, 1, none⟩ = some (.int .i64 z) := HXW.out.cell 1
      have y2 : W.cell? ⟨g, 2, none⟩ = some (.int .i64 b) := HXW.out.cell 2
      have HTD := hid (show Tw w W.drew k q u vs1 S from HTW.out.draws 1)
      have HXD := hid (show Bx W.drew g 29 #[.int .i64 κ, .int .i64 z, .int .i64 b] from HXW.out)
      go_upto_region 10 with fail
      go_region_held3 (fun w' => w'.cell? ⟨g, 0, none⟩ = some (.int .i64 κ) ∧ w'.cell? ⟨g, 1, none⟩ = some (.int .i64 z) ∧ w'.cell? ⟨g, 2, none⟩ = some (.int .i64 b)) (first | exact kp | exact ⟨y0, y1, y2⟩) (first
        | (go_at_call 11; (with_reducible refine (ndo_any HTD.out.a κ z b HKK.out).mono ?_); rintro e w4 ⟨rfl, hN, hC⟩; rw [HZ.out.2] at hN; rw [HZ.out.1]; have HN4 := hid hN; have HC4 := hid hC; have HX4 := hid (hC.bx HXD.out (fun e => by have := HGF.out.1; omega)); have HR4 := hid (HTD.out.mid hC); have kp := And.intro (HX4.out.cell 0) (And.intro (HX4.out.cell 1) (HX4.out.cell 2)); clear hN hC)
        | (go_at_call 12; (with_reducible refine (rdo_any HR4.out HTD.out.old κ z b HKK.out).mono ?_); rintro e w5 ⟨rfl, vs5, hN, hC⟩; rw [HZ.out.2] at hN; rw [HZ.out.1]; have HT5 := hid (HTD.out.step HN4.out HC4.out hN hC); have HX5 := hid (hC.bx HX4.out (fun e => by have := HGF.out.2 g e; omega)); have kp := And.intro (HX5.out.cell 0) (And.intro (HX5.out.cell 1) (HX5.out.cell 2)); clear hN hC))
      clear y0 y1 y2 d1 d2 kp HTD HXD HTW HXW HT HN4 HC4 HX4 HR4 HGF HKK HZ
      obtain ⟨Aq, cq, hq, q0, -⟩ := Lr.cells HT5.out.r
      obtain ⟨nw, hnw⟩ : ∃ x, S2.length = x := ⟨_, rfl⟩
      rw [hnw] at q0 hq
      have hn40 : nw ≤ 40 := by have := HT5.out.a.wf.2.2; omega
      have HNW := hid hnw
      have HQ := hid hq
      clear hnw hq
      go_wp2_with fail
      clear q0
      generalize gk = K0 at *
      go_loopg [53] nw (fun gk t wr => ∃ j : Nat, j + gk = nw ∧ t = .int .i64 j ∧ Tw w wr k q u vs5 S2 ∧ Bx wr g 29 #[.int .i64 κ, .int .i64 z, .int .i64 b])
      case atStart => exact ⟨0, by omega, rfl, HT5.out, HX5.out⟩
      case round =>
        obtain ⟨j, hj, rfl, hTi, hXi⟩ := hrel
        have HTI := hid hTi
        have HXI := hid hXi
        clear hTi hXi HT5 HX5
        by_cases hjl : j < nw
        · obtain ⟨l, hl⟩ : ∃ x, S2[j]? = some x := ⟨_, List.getElem?_eq_getElem (by rw [HNW.out]; exact hjl)⟩
          obtain ⟨gr, cg, B, d, hv, _, q1, _, ho, h64, _, _⟩ := Lr.at_ HTI.out.r hl
          rw [HNW.out] at hv
          have c0 : wr.cell? ⟨q, 0, none⟩ = some (.slice (some ⟨gr, 0, none⟩) nw cg) := by rw [← hv]; exact HTI.out.r.box.cell 0
          obtain ⟨B', c', e', hr, -⟩ := ho.read
          simp only [Value.slice.injEq] at e'
          obtain ⟨rfl, -, -⟩ := e'
          have hjj : (j : Int) < (nw : Int) := by omega
          have j0 : (0 : Int) ≤ (j : Int) := by omega
          obtain ⟨ln, hln⟩ : ∃ x, l.length = x := ⟨_, rfl⟩
          rw [hln] at q1 h64
          have HLN := hid hln
          have HL := hid hl
          have HB0 := hid hr
          have HTD := hid (show Tw w wr.drew k q u vs5 S2 from HTI.out.draws 1)
          have lnn : ((ln : Int) != (ln : Int)) = false := by simp
          have qlt : q < wr.heap.size := Lr.lt HTI.out.r (.inl rfl)
          have rlt := World.block_lt_of_cell? wr _ q1
          have HKP := hid (fun (y : World) (hb : Below wr.heap.size wr y) => show y.cell? ⟨q, 0, none⟩ = some (.slice (some ⟨gr, 0, none⟩) nw cg) ∧ y.cell? ⟨gr, j, none⟩ = some (.slice B ln d) from ⟨(hb.cell (p := ⟨q, 0, none⟩) qlt).trans c0, (hb.cell (p := ⟨gr, j, none⟩) rlt).trans q1⟩)
          have HD1 := hid (show Below wr.heap.size wr wr.drew from below_draws (Below.refl _ _) 1)
          clear hl hv ho hr hln qlt rlt
          go_upto_region 15 with fail
          go_region_held3 (fun w' => w'.cell? ⟨q, 0, none⟩ = some (.slice (some ⟨gr, 0, none⟩) nw cg) ∧ w'.cell? ⟨gr, j, none⟩ = some (.slice B ln d)) (first | exact kp | exact ⟨c0, q1⟩) (first
            | (go_at_call 14; (refine (all_in HTD.out.a HL.out).mono ?_); rintro e w7 ⟨A7, c7, rfl, ho, hg⟩; rw [HLN.out] at ho hg ⊢; have B7 := hid (on HD1.out hg.nilBelow); have HT7 := hid (HTD.out.below hg.nilBelow); have kp := HKP.out _ B7.out; have HO7 := hid ho; clear ho hg)
            | (go_at_call 13; obtain ⟨A', c', e', hr, -⟩ := HO7.out.read; rw [ints_length, HLN.out] at e'; simp only [Value.slice.injEq] at e'; obtain ⟨rfl, -, rfl⟩ := e'; refine (sameints_yes A7 B ln ln _ _ l _ _ _ HLN.out HLN.out (by unfold maxLen; omega) hr (HB0.out.now B7.out)).mono ?_; rintro e w8 ⟨rfl, d8, rfl⟩; have B8 := hid (below_draws B7.out d8); have HT8 := hid (HT7.out.draws d8); have kp := HKP.out _ B8.out; clear hr)
            | (go_at_call 15; refine (len_in HT8.out.a HL.out).mono ?_; rintro e w9 ⟨rfl, hb⟩; rw [HLN.out]; have B9 := hid (on B8.out hb); have HT9 := hid (HT8.out.below hb); have kp := HKP.out _ B9.out; clear hb)
            | (go_at_call 16; refine (ends_yes HT9.out.a HL.out B ln _ HLN.out (HB0.out.now B9.out)).mono ?_; rintro e w10 ⟨rfl, d10, rfl⟩; have B10 := hid (below_draws B9.out d10); have HT10 := hid (HT9.out.draws d10); have kp := HKP.out _ B10.out))
          go_wp2_with fail
          go_roundg (gk - 1)
          case measure => omega
          case rel => exact ⟨j + 1, by omega, by go_num, HT10.out, HXI.out.next B10.out⟩
        · obtain rfl : j = nw := by omega
          have y2 : wr.cell? ⟨g, 2, none⟩ = some (.int .i64 b) := HXI.out.cell 2
          clear hjl hj
          by_cases hin : inS S2 b
          · obtain ⟨i, l, hi, hm⟩ := hin
            have HO1 := hid (of_yes HTI.out.a hi hm)
            have HO2 := hid (rof_yes HTI.out.r HTI.out.old hi hm)
            have i0 : decide ((0 : Int) ≤ (i : Int)) = true := by simp
            have ii : ((i : Int) != (i : Int)) = false := by simp
            clear hi hm
            go_wp2_with (first | (go_at_call 17; refine HO1.out.mono ?_; rintro e w' ⟨rfl, rfl⟩) | (go_at_call 18; refine HO2.out.mono ?_; rintro e w' ⟨rfl, rfl⟩))
            go_roundg (K0 - 1)
            case measure => omega
            case rel => exact ⟨p + 1, by omega, by go_num, _, _, HTI.out⟩
          · have HO1 := hid (of_no HTI.out.a hin)
            have HO2 := hid (rof_no HTI.out.r hin)
            clear hin
            go_wp2_with (first | (go_at_call 17; refine HO1.out.mono ?_; rintro e w' ⟨rfl, rfl⟩) | (go_at_call 18; refine HO2.out.mono ?_; rintro e w' ⟨rfl, rfl⟩))
            go_roundg (K0 - 1)
            case measure => omega
            case rel => exact ⟨p + 1, by omega, by go_num, _, _, HTI.out⟩
    · obtain rfl : p = n := by omega
      obtain ⟨Aq, cq, hq, q0, -⟩ := Lr.cells HT.out.r
      have HX1 := hid (show ¬ isl S (S.length : Int) from fun h => by have := h.2; omega)
      have HX2 := hid (show ¬ isl S (-1) from fun h => by have := h.1; omega)
      have HL1 := hid (len_out HT.out.a HX1.out)
      obtain ⟨nw, hnw⟩ : ∃ x, S.length = x := ⟨_, rfl⟩
      rw [hnw] at q0 HL1
      clear hq hnw hlt hp
      go_wp2_with (first
        | (go_at_call 15; (with_reducible refine HL1.out.mono ?_); rintro e w7 ⟨rfl, hb⟩; have HT7 := hid (HT.out.below hb); clear hb)
        | (go_at_call 15; (refine (len_out HT7.out.a HX2.out).mono ?_); rintro e w8 ⟨rfl, hb⟩; have HT8 := hid (HT7.out.below hb); clear hb)
        | (go_at_call 14; (refine (all_out HT8.out.a HX2.out).mono ?_); rintro e w9 ⟨A9, c9, rfl, ho, hg⟩; have HT9 := hid (HT8.out.below hg.nilBelow); clear ho hg))
      go_ret
      exact ⟨rfl, HT9.out.bel⟩
end Go.Proofs.Ytoiikjpeceolpaa
