/-
  What is proved: the walk of ListAhead: any two blocks stand, one ahead of the other, just as they do in the document's list. Condition: the acts are read as such.
-/
import Derived.Test.YtoiikjpeceolpaaWk10
import Derived.Test.YtoiikjpeceolpaaAr10
namespace Go.Proofs.Ytoiikjpeceolpaa
open Go.RowKit

set_option maxRecDepth 100000 in
set_option maxHeartbeats 2000000 in
theorem ahead_walk (A : Option Addr) (n c : Nat) (f : Nat → A3) (x y : Int) (w : World) (hn : n ≤ maxLen) (h : Acts w A n f) :
    Calls Try.prog 4 #[.slice A n c, .int .i64 x, .int .i64 y] w fun e w' => e = .returned (.bool true) ∧ Below w.heap.size w w' := by
  have HA := hid h
  unfold maxLen at hn
  clear h
  go_enter Try.func4, Try.ntmps4
  go_upto_region 3 with (go_at_call 8; refine (wakes_any _).mono ?_; rintro e w1 ⟨rfl, hb⟩; have HB := hid hb; clear hb)
  by_cases h100 : 100 < n
  · have hd : decide ((100 : Int) < (n : Int)) = true := by simp; omega
    clear h100
    go_wp2
    go_ret
    exact ⟨rfl, HB.out⟩
  have hd : decide ((100 : Int) < (n : Int)) = false := by simp; omega
  have hw1 : w.heap.size ≤ w1.heap.size := HB.out.size
  go_upto_region 6 with (first
    | (go_at_call 9; refine (lnew_any 3 _).mono ?_; rintro e w2 ⟨k, rfl, hs, hb, hk⟩; have HS := hid hs; have HB2 := hid hb; have HK := hid hk; clear hs hb hk)
    | (go_at_call 10; refine (rnew_any 3 _).mono ?_; rintro e w3 ⟨q, u, vs, rfl, hq, hb3, hF3⟩; have HT0 := hid (show Tw w w3 k q u vs (empt (cl 3)) from ⟨HS.out.below hb3, hq, fun hf => by have := HS.out.lt; have := hF3 _ hf; omega, Nat.le_trans hw1 HK.out, fun j h1 => Nat.le_trans (Nat.le_trans hw1 HB2.out.size) (hF3 j h1), on (on HB.out HB2.out) hb3⟩); clear hq hb3 hF3))
  have HS0 := hid (show Wf (empt (cl 3)) from HS.out.wf.1)
  clear HS HB2 HK hw1 HB
  go_wp2_with fail
  go_loopg [22] n (fun gk t wr => ∃ p : Nat, p + gk = n ∧ t = .int .i64 p ∧ ∃ vs S, Tw w wr k q u vs S)
  case atStart => exact ⟨0, by omega, rfl, _, _, HT0.out⟩
  case round =>
    obtain ⟨p, hp, rfl, vs1, S, hT⟩ := hrel
    have HT := hid hT
    clear hT HT0 HS0
    by_cases hlt : p < n
    · obtain ⟨ad, rfl, hat⟩ := (HA.out.below HT.out.bel) p hlt
      obtain ⟨⟨κ, z, b⟩, hH⟩ : ∃ y, f p = y := ⟨_, rfl⟩
      rw [hH] at hat
      obtain ⟨alt, c0, c1, c2⟩ := hat
      dsimp only at c0 c1 c2
      obtain ⟨g, hg⟩ : ∃ g, wr.heap.size = g := ⟨_, rfl⟩
      obtain ⟨W, hW⟩ : ∃ W, wr.alloc (.cells #[.int .i64 κ, .int .i64 z, .int .i64 b] 29) = W := ⟨_, rfl⟩
      have BW : Below wr.heap.size wr W := by rw [← hW]; exact below_alloc _ _
      have HXW := hid (show Bx W g 29 #[.int .i64 κ, .int .i64 z, .int .i64 b] from by rw [← hW, ← hg]; exact Bx.new _ _ _)
      have HTW := hid (HT.out.below BW)
      have HGF := hid (show k < g ∧ ∀ j, Ft q u vs1 j → j < g from ⟨by rw [← hg]; exact HT.out.a.lt, fun j hj => by rw [← hg]; exact Lr.lt HT.out.r hj⟩)
      have HWW := hid hW
      have HGG := hid hg
      clear BW hH hW hg
      go_upto_region 9 with fail
      rw [HGG.out, HWW.out]
      clear c0 c1 c2 HGG HWW alt
      have y0 : W.cell? ⟨g, 0, none⟩ = some (.int .i64 κ) := HXW.out.cell 0
      by_cases hneg : κ < 0
      · have d1 : decide ((0 : Int) ≤ κ) = false := by simpa using hneg
        clear hneg
        go_wp2_with fail
        go_roundg (gk - 1)
        case measure => omega
        case rel => exact ⟨p + 1, by omega, by go_num, _, _, HTW.out⟩
      by_cases hbig : 2 < κ
      · have d1 : decide ((0 : Int) ≤ κ) = true := by simp; omega
        have d2 : decide (κ ≤ (2 : Int)) = false := by simpa using hbig
        clear hneg hbig
        go_wp2_with fail
        go_roundg (gk - 1)
        case measure => omega
        case rel => exact ⟨p + 1, by omega, by go_num, _, _, HTW.out⟩
      have d1 : decide ((0 : Int) ≤ κ) = true := by simp; omega
      have d2 : decide (κ ≤ (2 : Int)) = true := by simp; omega
      have HKK := hid (show 0 ≤ κ ∧ κ ≤ 2 from by omega)
      clear hneg hbig
      go_wp2_with (first
        | (with_reducible refine wpList_load_bx rfl 29 (.tmp 10) rfl g _ _ _ rfl HXW.out Try.underlying29 rfl (by kernel_rfl) ?_)
        | (go_at_call 11; refine (ndo_any HTW.out.a κ z b HKK.out).mono ?_; rintro e w4 ⟨rfl, hN, hC⟩; have HN4 := hid hN; have HC4 := hid hC; have HX4 := hid (hC.bx HXW.out (fun e => by have := HGF.out.1; omega)); have HR4 := hid (HTW.out.mid hC); have z0 : w4.cell? ⟨g, 0, none⟩ = some (.int .i64 κ) := HX4.out.cell 0; have z1 : w4.cell? ⟨g, 1, none⟩ = some (.int .i64 z) := HX4.out.cell 1; have z2 : w4.cell? ⟨g, 2, none⟩ = some (.int .i64 b) := HX4.out.cell 2; clear hN hC)
        | (go_at_call 12; refine (rdo_any HR4.out HTW.out.a.wf.1 κ z b HKK.out).mono ?_; rintro e w5 ⟨rfl, vs5, hN, hC⟩; have HT5 := hid (HTW.out.step HN4.out HC4.out hN hC); clear hN hC))
      go_roundg (gk - 1)
      case measure => omega
      case rel => exact ⟨p + 1, by omega, by go_num, _, _, HT5.out⟩
    · obtain rfl : p = n := by omega
      have hwf := HT.out.a.wf.1
      clear hlt hp
      by_cases hx : inS S x
      · obtain ⟨i, l, hi, hxl⟩ := hx
        obtain ⟨j0, hj0, hf0⟩ := place_of hxl
        have hil := (List.getElem?_eq_some_iff.1 hi).1
        have hi40 : i < 40 := by have := HT.out.a.wf.2.2; omega
        have HO := hid (rof_yes HT.out.r hwf hi hxl)
        have hnd := hwf.nd i l hi
        have h64 := hwf.len hi
        have hself : dec (behind l j0 x) = false := dec_false fun ⟨r, h1, h2⟩ => by have := nd_inj hnd hj0 h2; omega
        have HS := hid (fun m => ahead_in (show Sq (wr.drewN m) k S from HT.out.a) hi hj0 x)
        rw [hself] at HS
        have i0 : decide ((0 : Int) ≤ (i : Int)) = true := by simp
        by_cases hy : y ∈ l
        · obtain ⟨j1, hj1, hf1⟩ := place_of hy
          have HOY := hid (rof_yes HT.out.r hwf hi hy)
          have hb : dec (behind l j0 y) = decide (j0 < j1) := by
            by_cases hlt : j0 < j1
            · rw [dec_true ⟨j1, hlt, hj1⟩]; simp; omega
            · rw [dec_false fun ⟨r, h1, h2⟩ => by have := nd_inj hnd hj1 h2; omega]; simp; omega
          have HAH := hid (fun m => ahead_in (show Sq (wr.drewN m) k S from HT.out.a) hi hj0 y)
          rw [hb] at HAH
          obtain ⟨g, c', B, d, hv, _, q1, _, ho, _, _, _⟩ := Lr.at_ HT.out.r hi
          obtain ⟨B', c'', e', hr, -⟩ := ho.read
          simp only [Value.slice.injEq] at e'
          obtain ⟨rfl, -, -⟩ := e'
          have c0 : wr.cell? ⟨q, 0, none⟩ = some (.slice (some ⟨g, 0, none⟩) S.length c') := by rw [← hv]; exact HT.out.r.box.cell 0
          have HP0 := hid (fun m => quietL (place_at (wr.drewN m) B l.length d l x rfl h64 hr hj0 hf0))
          have HP1 := hid (fun m => quietL (place_at (wr.drewN m) B l.length d l y rfl h64 hr hj1 hf1))
          have hii : (i : Int) < (S.length : Int) := by omega
          have hin : (0 : Int) ≤ (i : Int) := by omega
          clear hi hxl hj0 hf0 hnd hself hy hj1 hf1 hv ho hr hwf hil h64
          generalize S.length = ns at *
          generalize l.length = ln at *
          have HBL := hid (HT.out.bel)
          have HQ := hid HT.out.a
          go_upto_region 16 with (first | (go_at_call 18; (with_reducible refine HO.out.mono ?_); rintro e w' ⟨rfl, rfl⟩) | (go_at_call 18; (with_reducible refine HOY.out.mono ?_); rintro e w' ⟨rfl, rfl⟩))
          go_quiet (first | (go_at_call 19; with_reducible exact HP0.out _) | (go_at_call 19; with_reducible exact HP1.out _))
          go_wp2_with (first | (go_at_call 20; (with_reducible refine (HAH.out _).mono ?_); rintro e w' ⟨rfl, rfl⟩) | (go_at_call 20; (with_reducible refine (HS.out _).mono ?_); rintro e w' ⟨rfl, rfl⟩))
          go_ret
          exact ⟨rfl, below_draws HBL.out _⟩
        · obtain ⟨t, hOY, ht⟩ : ∃ t : Int, (Calls Try.prog 18 #[.pointer (some ⟨q, 0, none⟩), .int .i64 y] wr fun e w' => e = .returned (.int .i64 t) ∧ wr = w') ∧ t ≠ i := by
            by_cases hin : inS S y
            · obtain ⟨j, m, hj, hm⟩ := hin
              exact ⟨_, rof_yes HT.out.r hwf hj hm, fun e => by
                have : j = i := by omega
                subst this
                rw [hi] at hj
                injection hj with hj
                exact hy (hj ▸ hm)⟩
            · exact ⟨_, rof_no HT.out.r hin, by omega⟩
          have HOY := hid hOY
          have HAH := hid (ahead_in HT.out.a hi hj0 y)
          rw [dec_false (fun ⟨r, _, h2⟩ => hy (List.mem_of_getElem? h2))] at HAH
          have HS0 := hid (ahead_in HT.out.a hi hj0 x)
          rw [hself] at HS0
          have HBL := hid HT.out.bel
          have e1 : ((i : Int) == t) = false := by simp; exact fun e => ht e.symm
          have e2 : decide ((i : Int) = t) = false := by simp; exact fun e => ht e.symm
          clear hi hxl hj0 hf0 hnd hself hy hwf hil h64 hOY ht HS
          go_wp2_with (first | (go_at_call 18; (with_reducible refine HO.out.mono ?_); rintro e w' ⟨rfl, rfl⟩) | (go_at_call 18; (with_reducible refine HOY.out.mono ?_); rintro e w' ⟨rfl, rfl⟩) | (go_at_call 20; (with_reducible refine HAH.out.mono ?_); rintro e w' ⟨rfl, rfl⟩) | (go_at_call 20; (with_reducible refine HS0.out.mono ?_); rintro e w' ⟨rfl, rfl⟩))
          go_ret
          exact ⟨rfl, HBL.out⟩
      · have HO := hid (rof_no HT.out.r hx)
        have HAH := hid (ahead_no HT.out.a hx y)
        have HS0 := hid (ahead_no HT.out.a hx x)
        have HBL := hid HT.out.bel
        clear hx hwf
        go_wp2_with (first | (go_at_call 18; (with_reducible refine HO.out.mono ?_); rintro e w' ⟨rfl, rfl⟩) | (go_at_call 20; (with_reducible refine HAH.out.mono ?_); rintro e w' ⟨rfl, rfl⟩) | (go_at_call 20; (with_reducible refine HS0.out.mono ?_); rintro e w' ⟨rfl, rfl⟩))
        go_ret
        exact ⟨rfl, HBL.out⟩
end Go.Proofs.Ytoiikjpeceolpaa
