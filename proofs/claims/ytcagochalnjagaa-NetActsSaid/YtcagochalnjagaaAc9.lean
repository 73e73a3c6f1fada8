/-
  What is proved: the walk of NetActs: whatever is sent, taken, doubled, lost and turned about, one behind the other, is what the document says. Condition: the acts are read as such.
-/
import Derived.Test.YtcagochalnjagaaTw9
import Derived.Deep.DeepCutAuto
import Derived.Deep.CutBlock
namespace Go.Proofs.Ytcagochalnjagaa
open Go.RowKit

set_option maxRecDepth 100000 in
set_option maxHeartbeats 1600000 in
theorem acts_walk (m : Int) (A : Option Addr) (n c : Nat) (f : Nat → A9) (w : World) (hn : n ≤ maxLen) (h : Acts w A n f) :
    Calls Try.prog 3 #[.int .i64 m, .slice A n c] w fun e w' => e = .returned (.bool true) ∧ Below w.heap.size w w' := by
  have HNN := hid hn
  have HA := hid h
  unfold maxLen at hn
  clear h
  go_enter Try.func3, Try.ntmps3
  go_upto_region 3 with (go_at_call 8; refine (wakes_any _).mono ?_; rintro e w1 ⟨rfl, hb⟩; have HB := hid hb; clear hb)
  have HA1 := hid (HA.out.below HB.out)
  have hw1 : w.heap.size ≤ w1.heap.size := HB.out.size
  by_cases h20 : 10 < m ∧ m ≤ 32
  · obtain ⟨h20, h256⟩ := h20
    go_wp2_with fail
    refine (long_any A n c f _ HNN.out HA1.out).mono ?_
    rintro e w' ⟨b, rfl, rfl, hb⟩
    clear hb
    cases b
    all_goals
      go_wp2
      go_ret
      exact ⟨rfl, HB.out⟩
  have HC := hid (show (decide (10 < m) = true → decide (m ≤ 32) = false) from fun e1 => by simp at e1 ⊢; omega)
  clear h20
  go_cut [28] (fun s wx => (s = .bool true ∨ s = .bool false ∧ n ≤ 100 ∧ Hid (∀ i, i < n → (f i).l.length ≤ 500)) ∧ wx = w1)
  case first =>
    by_cases h20 : 10 < m
    · have h256 : decide (m ≤ 32) = false := HC.out (by simpa using h20)
      go_wp2_with fail
      refine (long_any A n c f _ HNN.out HA1.out).mono ?_
      rintro e w' ⟨b, rfl, rfl, hb⟩
      cases b
      · obtain ⟨hn1, hl2⟩ := hb rfl
        have HL2 := hid hl2
        clear hb hl2
        go_wp2_with fail
        go_meet
        exact ⟨.inr ⟨rfl, hn1, HL2⟩, rfl⟩
      · clear hb
        go_wp2_with fail
        go_meet
        exact ⟨.inl rfl, rfl⟩
    · go_wp2_with fail
      refine (long_any A n c f _ HNN.out HA1.out).mono ?_
      rintro e w' ⟨b, rfl, rfl, hb⟩
      cases b
      · obtain ⟨hn1, hl2⟩ := hb rfl
        have HL2 := hid hl2
        clear hb hl2
        go_wp2_with fail
        go_meet
        exact ⟨.inr ⟨rfl, hn1, HL2⟩, rfl⟩
      · clear hb
        go_wp2_with fail
        go_meet
        exact ⟨.inl rfl, rfl⟩
  case rest =>
    obtain ⟨hs, rfl⟩ := hcut
    rcases hs with rfl | ⟨rfl, hn100, HL2⟩
    · go_wp2
      go_ret
      exact ⟨rfl, HB.out⟩
    go_wp2_with fail
    refine (nnew_any m _).mono ?_
    rintro e w2 ⟨k, v, us, rfl, hk, hb2, hF2⟩
    have HK := hid hk
    have HB2 := hid hb2
    have HF2 := hid hF2
    clear hk hb2 hF2
    go_wp2_with fail
    refine (rnew_any m _).mono ?_
    rintro e w3 ⟨q, u, vs, rfl, hq, hb3, hF3⟩
    have HT0 := hid (show Tw w w3 k v us q u vs (empt (cl m)) (empt (cl m)) from
      ⟨Nt.below HK.out stb_Es hb3, hq, fun j h1 h2 => by have := Nt.lt HK.out h1; have := hF3 j h2; omega, fun j h1 => Nat.le_trans hw1 (HF2.out j h1), fun j h1 => Nat.le_trans (Nat.le_trans hw1 HB2.out.size) (hF3 j h1), on (on HB.out HB2.out) hb3⟩)
    clear hq hb3 hF3 HK HB2 HF2 HA1 HC HB hw1
    go_wp2_with fail
    go_loopg [35] n (fun gk t wr => ∃ p : Nat, p + gk = n ∧ t = .int .i64 p ∧ ∃ us vs S, Tw w wr k v us q u vs S S)
    case atStart => exact ⟨0, by omega, rfl, _, _, _, HT0.out⟩
    case round =>
      obtain ⟨p, hp, rfl, us1, vs1, S, hT⟩ := hrel
      have HT := hid hT
      clear hT HT0
      by_cases hlt : p < n
      · obtain ⟨ad0, e0, hat0⟩ := HA.out p hlt
        obtain ⟨ad, rfl, hat⟩ := (HA.out.below HT.out.bel) p hlt
        have h500 := HL2.out p hlt
        have hgood := hat0.g
        clear hat0 e0
        obtain ⟨⟨κ, way, i, r, B, cb, bs, l⟩, hH⟩ : ∃ y, f p = y := ⟨_, rfl⟩
        rw [hH] at hat h500 hgood
        obtain ⟨alt, c0, c1, c2, c3, c4, -⟩ := hat
        obtain ⟨hfr, hle, -⟩ := hgood
        dsimp only at c0 c1 c2 c3 c4 h500 hfr hle
        have HFR := hid hfr
        obtain ⟨ln, hln⟩ : ∃ x, l.length = x := ⟨_, rfl⟩
        rw [hln] at c4 h500 hle
        have HLN := hid hln
        have HLE := hid hle
        obtain ⟨g, hg⟩ : ∃ g, wr.heap.size = g := ⟨_, rfl⟩
        obtain ⟨W, hW⟩ : ∃ W, wr.alloc (.cells #[.int .i64 κ, .int .i64 way, .int .i64 i, .int .i64 r, .slice B ln cb] 31) = W := ⟨_, rfl⟩
        have BW : Below wr.heap.size wr W := by rw [← hW]; exact below_alloc _ _
        have XW : Bx W g 31 #[.int .i64 κ, .int .i64 way, .int .i64 i, .int .i64 r, .slice B ln cb] := by rw [← hW, ← hg]; exact Bx.new _ _ _
        have HTW := hid (HT.out.below BW)
        have HXW := hid XW
        have HGF := hid (show (∀ j, Ft k v us1 j → j < g) ∧ ∀ j, Ft q u vs1 j → j < g from ⟨fun j hj => by rw [← hg]; exact Nt.lt HT.out.a hj, fun j hj => by rw [← hg]; exact Nt.lt HT.out.r hj⟩)
        have HWW := hid hW
        have HGG := hid hg
        clear BW XW hH hW hg hln hfr hle
        go_upto_region 9 with fail
        rw [HGG.out, HWW.out]
        clear c0 c1 c2 c3 c4 HGG HWW alt
        have y0 : W.cell? ⟨g, 0, none⟩ = some (.int .i64 κ) := HXW.out.cell 0
        by_cases hneg : κ < 0
        · have d1 : decide (κ < (0 : Int)) = true := by simpa using hneg
          clear hneg
          go_wp2_with fail
          go_roundg (gk - 1)
          case measure => omega
          case rel => exact ⟨p + 1, by omega, by go_num, _, _, _, HTW.out⟩
        by_cases hbig : 5 < κ
        · have d1 : decide (κ < (0 : Int)) = false := by simpa using hneg
          have d2 : decide ((5 : Int) < κ) = true := by simpa using hbig
          clear hneg hbig
          go_wp2_with fail
          go_roundg (gk - 1)
          case measure => omega
          case rel => exact ⟨p + 1, by omega, by go_num, _, _, _, HTW.out⟩
        have d1 : decide (κ < (0 : Int)) = false := by simpa using hneg
        have d2 : decide ((5 : Int) < κ) = false := by simpa using hbig
        have HKK := hid (show 0 ≤ κ ∧ κ ≤ 5 from by omega)
        obtain ⟨z1, hz1⟩ : ∃ z, doN κ way l S = z := ⟨_, rfl⟩
        obtain ⟨z2, hz2⟩ : ∃ z, doB κ way i S = z := ⟨_, rfl⟩
        obtain ⟨z3, hz3⟩ : ∃ z, doE κ way i r S = z := ⟨_, rfl⟩
        obtain ⟨S2, hS2⟩ : ∃ z, doS κ way i r l S = z := ⟨_, rfl⟩
        have HZ := hid (And.intro hz1 (And.intro hz2 (And.intro hz3 hS2)))
        clear hz1 hz2 hz3 hS2 hneg hbig
        go_upto_region 11 with (first | (with_reducible refine wpList_load_bx rfl 31 (.tmp 8) rfl g _ _ _ rfl HXW.out Try.underlying31 rfl (by kernel_rfl) ?_) | (go_at_call 12; refine (ndo_any HTW.out.a κ way i r B ln cb bs l HLN.out HLE.out (HFR.out.fin HTW.out.bel HTW.out.la)).mono ?_; rintro e w4 ⟨u4, us4, rfl, hB, hN, hC⟩; rw [HZ.out.2.2.2] at hN; rw [HZ.out.2.1] at hB; rw [HZ.out.1, HZ.out.2.2.1]; have HT4 := hid (HTW.out.first hN hC); have HX4 := hid (hC.bx HXW.out (fun e => by have := HGF.out.1 g e; omega)); obtain ⟨A4, x4, rfl, hr4, hle4, hm4⟩ := hB; have HR4 := hid hr4; have HG4 := hid (Nat.le_trans hle4 hm4); clear hN hC hr4 hle4 hm4))
        clear y0 d1 d2
        go_upto_region 12 with (first | (with_reducible refine wpList_load_bx rfl 31 (.tmp 8) rfl g _ _ _ rfl HX4.out Try.underlying31 rfl (by kernel_rfl) ?_) | (go_at_call 13; refine (rdo_any HT4.out.r κ way i r HKK.out B ln cb bs l HLN.out HLE.out (HFR.out.fin HT4.out.bel HT4.out.lr)).mono ?_; rintro e w5 ⟨u5, vs5, rfl, hB, hN, hC⟩; rw [HZ.out.2.2.2] at hN; rw [HZ.out.2.1] at hB; rw [HZ.out.1, HZ.out.2.2.1]; have HT5 := hid (HT4.out.second hN hC); obtain ⟨A5, x5, rfl, hr5, -, -⟩ := hB; have HR5 := hid hr5; have HR6 := hid (show Rn w5 A4 z2 from fun j x hx => by obtain ⟨ad, e, h1, h2⟩ := HR4.out j x hx; exact ⟨ad, e, Nat.lt_of_lt_of_le h1 hC.size, hC.stay _ _ h2⟩); clear hN hC hr5))
        clear HT4 HX4 HR4 HTW HXW HGF HFR HLN HLE HZ HKK HT
        generalize hz : z2.length = lz at *
        have HLZ := hid hz
        clear hz
        have hz1 : (z1 != z1) = false := by simp
        have hz3 : (z3 != z3) = false := by simp
        go_upto_region 14 with (go_at_call 14; refine (same_yes A4 A5 lz lz x4 x5 z2 _ _ _ HLZ.out HLZ.out HG4.out HR6.out HR5.out).mono ?_; rintro e w6 ⟨rfl, d6, rfl⟩)
        clear hz1 hz3 HR5 HR6 HG4 HLZ
        have HT6 := hid (HT5.out.draws d6)
        obtain ⟨W6, hW6⟩ : ∃ x, w5.drewN d6 = x := ⟨_, rfl⟩
        rw [hW6] at HT6 ⊢
        clear hW6 HT5
        obtain ⟨Aq, cq, hq, q0, -⟩ := Nt.cells HT6.out.r
        obtain ⟨nw, hnw⟩ : ∃ x, S2.length = x := ⟨_, rfl⟩
        rw [hnw] at q0 hq
        have hn32 : nw ≤ 32 := by have := HT6.out.a.w32; omega
        have HNW := hid hnw
        have HQ := hid hq
        have HTT := hid (tot_le HT6.out.a.cap)
        clear hnw hq
        go_wp2_with fail
        clear q0
        generalize gk = K0 at *
        go_loopg [15, 80] nw (fun gk s t wr => ∃ j : Nat, j + gk = nw ∧ s = .int .i64 (tot S2 j) ∧ t = .int .i64 j ∧ Tw w wr k v us4 q u vs5 S2 S2)
        case atStart => exact ⟨0, by omega, rfl, rfl, HT6.out⟩
        case round =>
          obtain ⟨j, hj, rfl, rfl, hTi⟩ := hrel
          have HTI := hid hTi
          obtain ⟨Aq', cq', hq', q0, -⟩ := Nt.cells hTi.r
          rw [HNW.out, HQ.out] at hq'
          simp only [Value.slice.injEq, true_and] at hq'
          obtain ⟨rfl, rfl⟩ := hq'
          rw [HNW.out] at q0
          have htj := HTT.out j (by rw [HNW.out]; omega)
          clear hTi
          by_cases hjl : j < nw
          · obtain ⟨fs, hfs⟩ : ∃ x, S2[j]? = some x := ⟨_, List.getElem?_eq_getElem (by rw [HNW.out]; exact hjl)⟩
            obtain ⟨gr, cg, u7, A7, d7, cs7, hv7, _, hu7, q1, _, _, _, h400⟩ := Nt.at_ HTI.out.r hfs
            rw [hu7] at q1
            rw [HQ.out] at hv7
            simp only [Value.slice.injEq] at hv7
            obtain ⟨rfl, -, -⟩ := hv7
            have HCL := hid (fun n => nlen_any (Nt.draws HTI.out.a stb_Es n) j)
            have e1 := tot_succ hfs
            have e2 := wy_at hfs
            rw [e2] at HCL
            have hjj : (j : Int) < (nw : Int) := by omega
            obtain ⟨s0, hs0⟩ : ∃ x, tot S2 j = x := ⟨_, rfl⟩
            obtain ⟨m0, hm0⟩ : ∃ x, fs.length = x := ⟨_, rfl⟩
            rw [hs0] at e1 htj ⊢
            rw [hm0] at e1 q1 h400 HCL
            have E1 := hid e1
            have hmm : ((m0 : Int) != (m0 : Int)) = false := by simp
            clear hfs hu7 e1 e2 hs0 hm0
            go_upto_region 18 with fail
            go_quiet (first | (go_at_call 15; exact quietL (HCL.out _)))
            go_wp2_with fail
            go_roundg (gk - 1)
            case measure => omega
            case rel => exact ⟨j + 1, by omega, by rw [E1.out]; go_num, by go_num, HTI.out.draws _⟩
          · obtain rfl : j = nw := by omega
            have HCA := hid (nall_any HTI.out.a)
            have L1 : wy S2 (j : Int) = [] := wy_out (fun h => by have := h.2; rw [HNW.out] at this; omega)
            have L2 : wy S2 (-1 : Int) = [] := wy_out (fun h => by have := h.1; omega)
            have HC1 := hid (show Calls Try.prog 15 #[.pointer (some ⟨k, 0, none⟩), .int .i64 j] wr fun e w' => e = .returned (.int .i64 0) ∧ wr = w' from by have := nlen_any HTI.out.a j; rw [L1] at this; exact this)
            have HC2 := hid (show Calls Try.prog 15 #[.pointer (some ⟨k, 0, none⟩), .int .i64 (-1)] wr fun e w' => e = .returned (.int .i64 0) ∧ wr = w' from by have := nlen_any HTI.out.a (-1); rw [L2] at this; exact this)
            rw [HNW.out] at HCA
            obtain ⟨s0, hs0⟩ : ∃ x, tot S2 j = x := ⟨_, rfl⟩
            rw [hs0] at HCA htj ⊢
            have hss : ((s0 : Int) != (s0 : Int)) = false := by simp
            clear hs0 L1 L2 hjl
            go_wp2_with (first | (go_at_call 16; refine HCA.out.mono ?_; rintro e w' ⟨rfl, rfl⟩) | (go_at_call 15; (first | ((with_reducible refine HC1.out.mono ?_); rintro e w' ⟨rfl, rfl⟩) | ((with_reducible refine HC2.out.mono ?_); rintro e w' ⟨rfl, rfl⟩))))
            go_roundg (K0 - 1)
            case measure => omega
            case rel => exact ⟨p + 1, by omega, by go_num, _, _, _, HTI.out⟩
      · obtain rfl : p = n := by omega
        go_wp2
        go_ret
        exact ⟨rfl, HT.out.bel⟩
end Go.Proofs.Ytcagochalnjagaa
