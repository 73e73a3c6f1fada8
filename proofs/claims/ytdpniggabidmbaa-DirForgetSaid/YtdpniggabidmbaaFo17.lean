/-
  What is proved: the walk of DirForget: who is forgotten shares nothing, and all others what they did. Condition: the acts are read as such; the client is a byte.
-/
import Derived.Test.YtdpniggabidmbaaAc17
namespace Go.Proofs.Ytdpniggabidmbaa
open Go.RowKit

set_option maxRecDepth 100000 in
set_option maxHeartbeats 8000000 in
theorem forget_walk (A : Option Addr) (n cp : Nat) (f : Nat → D3) (z : Int) (w : World) (hm : n ≤ maxLen) (h : DActs w A n f) (hz : 0 ≤ z ∧ z ≤ 255) :
    Calls Try.prog 4 #[.slice A n cp, .int .u8 z] w fun e w' => e = .returned (.bool true) ∧ Below w.heap.size w w' := by
  have HA := hid h
  unfold maxLen at hm
  have HN1 := hid (fun w => show Calls Try.prog 8 #[.int .i64 4, .int .i64 32] w (DirNew w 4 32) from dnew_any 4 32 w)
  have HN2 := hid (fun w => show Calls Try.prog 9 #[.int .i64 4, .int .i64 32] w (RefNew w 4 32) from rnew_any 4 32 w)
  have e4 : drHeld 4 4 = 4 := by decide
  have e32 : drHeld 32 32 = 32 := by decide
  unfold DirNew at HN1
  unfold RefNew at HN2
  rw [e4, e32] at HN1 HN2
  obtain ⟨c, hc⟩ : ∃ c : Nat, z % 4 = c := ⟨(z % 4).toNat, by omega⟩
  have hc4 : c < 4 := by omega
  obtain ⟨hz0, hz1⟩ := hz
  clear h e4 e32
  go_enter Try.func4, Try.ntmps4
  go_upto_region 3 with (go_at_call 7; refine (wakes_any _).mono ?_; rintro e w1 ⟨rfl, hb⟩; have HB := hid hb; clear hb)
  by_cases h100 : 100 < n
  · have hd : decide ((100 : Int) < (n : Int)) = true := by simp; omega
    clear h100
    go_wp2
    go_ret
    exact ⟨rfl, HB.out⟩
  have hd : decide ((100 : Int) < (n : Int)) = false := by simp; omega
  go_upto_region 6 with (first
    | (go_at_call 8; (with_reducible refine (HN1.out _).mono ?_); rintro e2 w2 ⟨g, rfl, hd2, hb, hg, -⟩; have HD2 := hid hd2; have HB2 := hid hb; have HG := hid hg; clear hd2 hb hg)
    | (go_at_call 9; (with_reducible refine (HN2.out _).mono ?_); rintro e3 w3 ⟨h, k, rfl, hr, hb, hh, hk⟩; have HT0 := hid (Dtw.new HB.out HD2.out HB2.out HG.out hr hb hh hk ⟨by omega, by omega⟩ ⟨by omega, by omega⟩); clear hr hb hh hk))
  go_wp2
  go_loopg [21] n (fun gk t wr => ∃ p : Nat, p + gk = n ∧ t = .int .i64 p ∧ ∃ s, Dtw w wr g h k 4 32 s s)
  case atStart => exact ⟨0, by omega, rfl, _, HT0.out⟩
  case round =>
    obtain ⟨p, hp, rfl, s, hT⟩ := hrel
    have HT := hid hT
    clear hT
    by_cases hlt : p < n
    · obtain ⟨ad, rfl, hat⟩ := (HA.out.below HT.out.bel) p hlt
      obtain ⟨⟨κ, a, b⟩, hH⟩ : ∃ y, f p = y := ⟨_, rfl⟩
      rw [hH] at hat
      obtain ⟨alt, c0, c1, c2⟩ := hat
      dsimp only at c0 c1 c2
      obtain ⟨r, hr⟩ : ∃ g, wr.heap.size = g := ⟨_, rfl⟩
      obtain ⟨W, hW⟩ : ∃ W, wr.alloc (.cells #[.int .i64 κ, .int .i64 a, .int .i64 b] 30) = W := ⟨_, rfl⟩
      have BW : Below wr.heap.size wr W := by rw [← hW]; exact below_alloc _ _
      have HXW := hid (show Bx W r 30 #[.int .i64 κ, .int .i64 a, .int .i64 b] from by rw [← hW, ← hr]; exact Bx.new _ _ _)
      have HTW := hid (HT.out.below BW)
      have HWW := hid (And.intro hr hW)
      have hpn : (p : Int) < (n : Int) := by omega
      have HDO := hid (ddo_any HTW.out κ a b)
      unfold DoQ at HDO
      generalize drDo 4 32 s κ a b = s9 at *
      clear BW hH hW hr HT
      go_upto_region 9 with fail
      rw [HWW.out.1, HWW.out.2]
      clear c0 c1 c2 HWW alt
      have y0 : W.cell? ⟨r, 0, none⟩ = some (.int .i64 κ) := HXW.out.cell 0
      have y1 : W.cell? ⟨r, 1, none⟩ = some (.int .i64 a) := HXW.out.cell 1
      have y2 : W.cell? ⟨r, 2, none⟩ = some (.int .i64 b) := HXW.out.cell 2
      go_wp2_with (go_at_call 10; (with_reducible refine HDO.out.mono ?_); rintro e w5 ⟨rfl, ht, hc⟩; have HT5 := hid ht; clear ht hc)
      go_roundg (gk - 1)
      case measure => omega
      case rel => exact ⟨p + 1, by omega, by go_num, _, HT5.out⟩
    · obtain rfl : p = n := by omega
      clear hlt hp hd h100 hm HT0
      have HO := hid (dof_any HT.out.d HT.out.ok (c : Int))
      have HF := hid (fun (v : World) (u : Dtw w v g h k 4 32 s s) => dfg_any u.d u.ok (c : Int))
      have HNO := hid (HT.out.ok.no (c : Int))
      have HOZ := hid (fun (v : World) (u : Dtw w v g h k 4 32 (drNo s c) s) => dof_any u.d u.ok (c : Int))
      rw [drOf_no] at HOZ
      unfold Told at HO HOZ
      rw [List.length_nil] at HOZ
      have hl := drOf_le s (c : Int)
      generalize drOf s (c : Int) = l at *
      obtain ⟨m, hm⟩ : ∃ m, l.length = m := ⟨_, rfl⟩
      rw [hm] at HO HF hl
      have nm : ((m : Int) != (m : Int)) = false := by simp
      clear hm
      go_upto_region 15 with (first
        | (go_at_call 14; (with_reducible refine HO.out.mono ?_); rintro e w2 ⟨A1, c1, rfl, ho, hg⟩; have HT2 := hid (HT.out.below hg.nilBelow); clear ho hg)
        | (go_at_call 20; refine (HF.out _ HT2.out).mono ?_; rintro e w3 ⟨rfl, hd, hc⟩; have HT3 := hid (HT2.out.stepD hd hc HNO.out); clear hd hc)
        | (go_at_call 14; refine (HOZ.out _ HT3.out).mono ?_; rintro e w4 ⟨A2, c2, rfl, ho, hg⟩; have HT4 := hid (HT3.out.below hg.nilBelow); clear ho hg))
      clear HO HF HOZ nm hl
      go_wp2
      go_loopg [49] 4 (fun gk t wr => ∃ j : Nat, j + gk = 4 ∧ t = .int .i64 j ∧ Dtw w wr g h k 4 32 (drNo s c) s)
      case atStart => exact ⟨0, by omega, rfl, HT4.out⟩
      case round =>
        obtain ⟨j, hj, rfl, hT⟩ := hrel
        have HTJ := hid hT
        clear hT HT4
        by_cases hlt : j < 4
        · have hj4 : (j : Int) < 4 := by omega
          by_cases hjc : j = c
          · subst hjc
            have nj : ((j : Int) != (j : Int)) = false := by simp
            go_wp2
            go_roundg (gk - 1)
            case measure => omega
            case rel => exact ⟨j + 1, by omega, by go_num, HTJ.out⟩
          · have nj : ((j : Int) != (c : Int)) = true := by simp; omega
            have HOA := hid (dof_any HTJ.out.d HTJ.out.ok (j : Int))
            rw [drOf_far s (show (j : Int) ≠ (c : Int) from by omega)] at HOA
            have HOB := hid (fun (v : World) (u : Dtw w v g h k 4 32 (drNo s c) s) => rof_any u.r u.ok2 (j : Int))
            have hl := drOf_le s (j : Int)
            generalize drOf s (j : Int) = l at *
            obtain ⟨m, hm⟩ : ∃ m, l.length = m := ⟨_, rfl⟩
            unfold Told at HOA HOB
            rw [hm] at HOA HOB hl
            have HM := hid (And.intro hm hl)
            clear hm hl hjc
            go_wp2_with (first
              | (go_at_call 14; (with_reducible refine HOA.out.mono ?_); rintro e w2 ⟨A1, c1, rfl, ho, hg⟩; have HT2 := hid (HTJ.out.below hg.nilBelow); have HRA := hid (rw_told (HM.out.1 ▸ ho) (HM.out.1 ▸ hg)).1; clear ho hg)
              | (go_at_call 15; refine (HOB.out _ HT2.out).mono ?_; rintro e w3 ⟨A2, c2, rfl, ho, hg⟩; have HT3 := hid (HT2.out.below hg.nilBelow); have HRA3 := hid (HRA.out.below hg.nilBelow); have HRB := hid (rw_told (HM.out.1 ▸ ho) (HM.out.1 ▸ hg)).1; clear ho hg)
              | (go_at_call 11; (with_reducible refine (sameints_yes A1 A2 m m c1 c2 l w3 w3.heap.size w3.heap.size HM.out.1 HM.out.1 (by unfold maxLen; have := HM.out.2; omega) HRA3.out.rd HRB.out.rd).mono ?_); rintro e w' ⟨rfl, d8, rfl⟩; have HT8 := hid (HT3.out.draws d8)))
            go_roundg (gk - 1)
            case measure => omega
            case rel => exact ⟨j + 1, by omega, by go_num, HT8.out⟩
        · obtain rfl : j = 4 := by omega
          go_wp2
          go_ret
          exact ⟨rfl, HTJ.out.bel⟩
end Go.Proofs.Ytdpniggabidmbaa
