/-
  What is proved: the walk of DirPairs: as many pairs are told by blocks as by clients, and in all. Condition: the numbers and the acts are read as such.
-/
import Derived.Test.YtdpniggabidmbaaAc17
namespace Go.Proofs.Ytdpniggabidmbaa
open Go.RowKit

set_option maxRecDepth 100000 in
set_option maxHeartbeats 8000000 in
theorem pairs_walk (x y : Int) (A : Option Addr) (n cp : Nat) (f : Nat → D3) (w : World) (hm : n ≤ maxLen) (h : DActs w A n f) :
    Calls Try.prog 6 #[.agg #[.int .i64 x, .int .i64 y], .slice A n cp] w fun e w' => e = .returned (.bool true) ∧ Below w.heap.size w w' := by
  have HA := hid h
  unfold maxLen at hm
  have HX0 := hid (Bx.new w 22 #[.int .i64 x, .int .i64 y])
  have HB0 := hid (below_alloc w (.cells #[.int .i64 x, .int .i64 y] 22))
  obtain ⟨q, hq⟩ : ∃ q, w.heap.size = q := ⟨_, rfl⟩
  rw [hq] at HX0
  have HQ := hid hq
  have HN1 := hid (fun w => dnew_any x y w)
  have HN2 := hid (fun w => rnew_any x y w)
  have HCB := hid (And.intro (drHeld_le x (m := 4) (by omega)) (drHeld_le y (m := 32) (by omega)))
  unfold DirNew at HN1
  unfold RefNew at HN2
  generalize drHeld x 4 = C at *
  generalize drHeld y 32 = B at *
  clear h hq
  go_enter Try.func6, Try.ntmps6
  go_upto_region 3 with (go_at_call 7; refine (wakes_any _).mono ?_; rintro e w1 ⟨rfl, hb⟩; have HX1 := hid (HX0.out.next hb); have HB := hid (on HB0.out hb); clear hb)
  rw [HQ.out]
  by_cases h100 : 100 < n
  · have hd : decide ((100 : Int) < (n : Int)) = true := by simp; omega
    clear h100
    go_wp2
    go_ret
    exact ⟨rfl, HB.out⟩
  have hd : decide ((100 : Int) < (n : Int)) = false := by simp; omega
  obtain ⟨a0, a1⟩ := HX1.out.all2
  go_upto_region 5 with fail
  have HXD := hid (show Bx w1.drew q 22 #[.int .i64 x, .int .i64 y] from HX1.out)
  have HBD := hid (show Below w.heap.size w w1.drew from below_draws HB.out 1)
  go_region_held3 (fun w' => w'.cell? ⟨q, 0, none⟩ = some (.int .i64 x) ∧ w'.cell? ⟨q, 1, none⟩ = some (.int .i64 y)) (first | exact kp | exact ⟨a0, a1⟩) (first
    | (go_at_call 8; (with_reducible refine (HN1.out _).mono ?_); rintro e2 w2 ⟨g, rfl, hd2, hb, hg, -⟩; have HD2 := hid hd2; have HB2 := hid hb; have HG := hid hg; have HX2 := hid (HXD.out.next hb); have kp := HX2.out.all2; clear hd2 hb hg)
    | (go_at_call 9; (with_reducible refine (HN2.out _).mono ?_); rintro e3 w3 ⟨h, k, rfl, hr, hb, hh, hk⟩; have HT0 := hid (Dtw.new HBD.out HD2.out HB2.out HG.out hr hb hh hk HCB.out.1 HCB.out.2); have HX3 := hid (HX2.out.next hb); have kp := HX3.out.all2; clear hr hb hh hk))
  clear a0 a1
  go_wp2
  go_loopg [30] n (fun gk t wr => ∃ p : Nat, p + gk = n ∧ t = .int .i64 p ∧ ∃ s, Dtw w wr g h k C B s s)
  case atStart => exact ⟨0, by omega, rfl, _, HT0.out⟩
  case round =>
    obtain ⟨p, hp, rfl, s, hT⟩ := hrel
    have HT := hid hT
    clear hT
    by_cases hlt : p < n
    · obtain ⟨ad, rfl, hat⟩ := (HA.out.below HT.out.bel) p hlt
      obtain ⟨⟨κ, a, b⟩, hH⟩ : ∃ y, f p = y := ⟨_, rfl⟩
      rw [hH] at hat
      obtain ⟨alt, c0, c1, c2⟩ := hat
      dsimp only at c0 c1 c2
      obtain ⟨r, hr⟩ : ∃ g, wr.heap.size = g := ⟨_, rfl⟩
      obtain ⟨W, hW⟩ : ∃ W, wr.alloc (.cells #[.int .i64 κ, .int .i64 a, .int .i64 b] 30) = W := ⟨_, rfl⟩
      have BW : Below wr.heap.size wr W := by rw [← hW]; exact below_alloc _ _
      have HXW := hid (show Bx W r 30 #[.int .i64 κ, .int .i64 a, .int .i64 b] from by rw [← hW, ← hr]; exact Bx.new _ _ _)
      have HTW := hid (HT.out.below BW)
      have HWW := hid (And.intro hr hW)
      have hpn : (p : Int) < (n : Int) := by omega
      have HDO := hid (ddo_any HTW.out κ a b)
      unfold DoQ at HDO
      generalize drDo C B s κ a b = s9 at *
      clear BW hH hW hr HT
      go_upto_region 9 with fail
      rw [HWW.out.1, HWW.out.2]
      clear c0 c1 c2 HWW alt
      have y0 : W.cell? ⟨r, 0, none⟩ = some (.int .i64 κ) := HXW.out.cell 0
      have y1 : W.cell? ⟨r, 1, none⟩ = some (.int .i64 a) := HXW.out.cell 1
      have y2 : W.cell? ⟨r, 2, none⟩ = some (.int .i64 b) := HXW.out.cell 2
      go_wp2_with (go_at_call 10; (with_reducible refine HDO.out.mono ?_); rintro e w5 ⟨rfl, ht, hc⟩; have HT5 := hid ht; clear ht hc)
      go_roundg (gk - 1)
      case measure => omega
      case rel => exact ⟨p + 1, by omega, by go_num, _, HT5.out⟩
    · obtain rfl : p = n := by omega
      clear hlt hp hd h100 hm HT0 HCB HN1 HN2
      have HK := hid HT.out.ok
      have c1 := HT.out.r.c1
      have hC4 := HT.out.ok.c.2
      have hB32 := HT.out.ok.b.2
      have HSB := hid (drLen_by HT.out.ok)
      have HSO := hid (drLen_of HT.out.ok)
      have HST := hid (fun (j : Nat) => show drSum (fun y : Nat => (drSh s y).length) (j + 1) = drSum (fun y : Nat => (drSh s y).length) j + (drSh s j).length from rfl)
      have HSU := hid (fun (j : Nat) => show drSum (fun y : Nat => (drOf s y).length) (j + 1) = drSum (fun y : Nat => (drOf s y).length) j + (drOf s j).length from rfl)
      have HLT := hid (fun (j : Nat) => drSum_le (f := fun y : Nat => (drSh s y).length) (k := 4) (fun i => drSh_le s i) j)
      have HLU := hid (fun (j : Nat) => drSum_le (f := fun y : Nat => (drOf s y).length) (k := 32) (fun i => drOf_le s i) j)
      have HLE := hid (And.intro hC4 hB32)
      clear hC4 hB32
      go_wp2
      clear c1
      go_loopg [9, 43] B (fun gk t9 t wr => ∃ j : Nat, j + gk = B ∧ t9 = .int .i64 (drSum (fun y : Nat => (drSh s y).length) j) ∧ t = .int .i64 j ∧ Dtw w wr g h k C B s s)
      case atStart => exact ⟨0, by omega, rfl, rfl, HT.out⟩
      case round =>
        obtain ⟨j, hj, rfl, rfl, hT⟩ := hrel
        have HTJ := hid hT
        clear hT
        by_cases hlt : j < B
        · have hjn : (j : Int) < (B : Int) := by omega
          have HO := hid (dsh_any HTJ.out.d HTJ.out.ok (j : Int))
          have HS := hid (HST.out j)
          have hle := HLT.out j
          have hle2 := HLT.out (j + 1)
          have hB32 := HLE.out.2
          unfold Told at HO
          rw [HS.out] at hle2
          generalize drSum (fun y : Nat => (drSh s y).length) j = v at *
          generalize drSh s (j : Int) = l at *
          obtain ⟨m, hm⟩ : ∃ m, l.length = m := ⟨_, rfl⟩
          rw [hm] at HO HS hle2
          clear hm
          go_wp2_with (go_at_call 12; refine HO.out.mono ?_; rintro e w2 ⟨A1, c1, rfl, ho, hg⟩; have HT2 := hid (HTJ.out.below hg.nilBelow); clear ho hg)
          go_roundg (gk - 1)
          case measure => omega
          case rel => exact ⟨j + 1, by omega, by rw [HS.out]; go_num, by go_num, HT2.out⟩
        · obtain rfl : j = B := by omega
          rw [HSB.out]
          have c0 := HTJ.out.r.c0
          have hm128 := drLen_lt s
          have HLN := hid (fun (v : World) (u : Dtw w v g h k C j s s) => dlen_any u.d)
          generalize drLen s = m9 at *
          clear hlt hj
          go_wp2
          clear c0
          go_loopg [10, 57] C (fun gk t9 t wr => ∃ i : Nat, i + gk = C ∧ t9 = .int .i64 (drSum (fun y : Nat => (drOf s y).length) i) ∧ t = .int .i64 i ∧ Dtw w wr g h k C j s s)
          case atStart => exact ⟨0, by omega, rfl, rfl, HTJ.out⟩
          case round =>
            obtain ⟨i, hi, rfl, rfl, hT⟩ := hrel
            have HTI := hid hT
            clear hT
            by_cases hlt : i < C
            · have hjn : (i : Int) < (C : Int) := by omega
              have HO := hid (dof_any HTI.out.d HTI.out.ok (i : Int))
              have HS := hid (HSU.out i)
              have hle := HLU.out i
              have hle2 := HLU.out (i + 1)
              have hC4 := HLE.out.1
              unfold Told at HO
              rw [HS.out] at hle2
              generalize drSum (fun y : Nat => (drOf s y).length) i = v at *
              generalize drOf s (i : Int) = l at *
              obtain ⟨m, hm⟩ : ∃ m, l.length = m := ⟨_, rfl⟩
              rw [hm] at HO HS hle2
              clear hm
              go_wp2_with (go_at_call 14; refine HO.out.mono ?_; rintro e w2 ⟨A1, c1, rfl, ho, hg⟩; have HT2 := hid (HTI.out.below hg.nilBelow); clear ho hg)
              go_roundg (gk - 1)
              case measure => omega
              case rel => exact ⟨i + 1, by omega, by rw [HS.out]; go_num, by go_num, HT2.out⟩
            · obtain rfl : i = C := by omega
              rw [HSO.out]
              have ee : ((m9 : Int) == (m9 : Int)) = true := by simp
              clear hlt hi
              go_wp2_with (go_at_call 18; refine (HLN.out _ HTI.out).mono ?_; rintro e w' ⟨rfl, rfl⟩)
              go_ret
              exact ⟨rfl, HTI.out.bel⟩
end Go.Proofs.Ytdpniggabidmbaa
