/-
  What is proved: the walk of DirActs: whatever is added, removed and forgotten, one behind the other, who shares what is the reference's, asked either way. Condition: the numbers and the acts are read as such.
-/
import Derived.Test.YtdpniggabidmbaaWk17
import Derived.Test.YtdpniggabidmbaaAr17
namespace Go.Proofs.Ytdpniggabidmbaa
open Go.RowKit

theorem Bx.all2 {w : World} {g : Nat} {t : TypeId} {a0 a1 : Value} (h : Bx w g t #[a0, a1]) : w.cell? ⟨g, 0, none⟩ = some a0 ∧ w.cell? ⟨g, 1, none⟩ = some a1 := ⟨h.cell 0, h.cell 1⟩
theorem Bx.all3 {w : World} {g : Nat} {t : TypeId} {a0 a1 a2 : Value} (h : Bx w g t #[a0, a1, a2]) : w.cell? ⟨g, 0, none⟩ = some a0 ∧ w.cell? ⟨g, 1, none⟩ = some a1 ∧ w.cell? ⟨g, 2, none⟩ = some a2 := ⟨h.cell 0, h.cell 1, h.cell 2⟩
theorem Dtw.new {w0 w1 w2 w3 : World} {g h k C B : Nat} (hb1 : Below w0.heap.size w0 w1) (hd : Dm w2 g C B dr0) (hb2 : Below w1.heap.size w1 w2) (hg : w1.heap.size ≤ g) (hr : Rm w3 h k C B dr0) (hb3 : Below w2.heap.size w2 w3) (hh : w2.heap.size ≤ h) (hk : w2.heap.size ≤ k) (hc : 1 ≤ C ∧ C ≤ 4) (hbb : 1 ≤ B ∧ B ≤ 32) : Dtw w0 w3 g h k C B dr0 dr0 :=
  ⟨hd.below hb3, hr, Dok.new hc hbb, Dok.new hc hbb, fun e => by have := hd.box.lt; omega, fun e => by have := hd.box.lt; omega, Nat.le_trans hb1.size hg, Nat.le_trans hb1.size (Nat.le_trans hb2.size hh), Nat.le_trans hb1.size (Nat.le_trans hb2.size hk), on (on hb1 hb2) hb3⟩
set_option maxRecDepth 100000 in
set_option maxHeartbeats 8000000 in
theorem acts_walk (x y : Int) (A : Option Addr) (n cp : Nat) (f : Nat → D3) (w : World) (hm : n ≤ maxLen) (h : DActs w A n f) :
    Calls Try.prog 3 #[.agg #[.int .i64 x, .int .i64 y], .slice A n cp] w fun e w' => e = .returned (.bool true) ∧ Below w.heap.size w w' := by
  have HA := hid h
  unfold maxLen at hm
  have HX0 := hid (Bx.new w 22 #[.int .i64 x, .int .i64 y])
  have HB0 := hid (below_alloc w (.cells #[.int .i64 x, .int .i64 y] 22))
  obtain ⟨q, hq⟩ : ∃ q, w.heap.size = q := ⟨_, rfl⟩
  rw [hq] at HX0
  have HQ := hid hq
  have HN1 := hid (fun w => dnew_any x y w)
  have HN2 := hid (fun w => rnew_any x y w)
  have HCB := hid (And.intro (drHeld_le x (m := 4) (by omega)) (drHeld_le y (m := 32) (by omega)))
  unfold DirNew at HN1
  unfold RefNew at HN2
  generalize drHeld x 4 = C at *
  generalize drHeld y 32 = B at *
  clear h hq
  go_enter Try.func3, Try.ntmps3
  go_upto_region 3 with (go_at_call 7; refine (wakes_any _).mono ?_; rintro e w1 ⟨rfl, hb⟩; have HX1 := hid (HX0.out.next hb); have HB := hid (on HB0.out hb); clear hb)
  rw [HQ.out]
  by_cases h100 : 100 < n
  · have hd : decide ((100 : Int) < (n : Int)) = true := by simp; omega
    clear h100
    go_wp2
    go_ret
    exact ⟨rfl, HB.out⟩
  have hd : decide ((100 : Int) < (n : Int)) = false := by simp; omega
  obtain ⟨a0, a1⟩ := HX1.out.all2
  go_upto_region 5 with fail
  have HXD := hid (show Bx w1.drew q 22 #[.int .i64 x, .int .i64 y] from HX1.out)
  have HBD := hid (show Below w.heap.size w w1.drew from below_draws HB.out 1)
  go_region_held3 (fun w' => w'.cell? ⟨q, 0, none⟩ = some (.int .i64 x) ∧ w'.cell? ⟨q, 1, none⟩ = some (.int .i64 y)) (first | exact kp | exact ⟨a0, a1⟩) (first
    | (go_at_call 8; (with_reducible refine (HN1.out _).mono ?_); rintro e2 w2 ⟨g, rfl, hd2, hb, hg, -⟩; have HD2 := hid hd2; have HB2 := hid hb; have HG := hid hg; have HX2 := hid (HXD.out.next hb); have kp := HX2.out.all2; clear hd2 hb hg)
    | (go_at_call 9; (with_reducible refine (HN2.out _).mono ?_); rintro e3 w3 ⟨h, k, rfl, hr, hb, hh, hk⟩; have HT0 := hid (Dtw.new HBD.out HD2.out HB2.out HG.out hr hb hh hk HCB.out.1 HCB.out.2); have HX3 := hid (HX2.out.next hb); have kp := HX3.out.all2; clear hr hb hh hk))
  clear a0 a1
  go_wp2
  go_loopg [26] n (fun gk t wr => ∃ p : Nat, p + gk = n ∧ t = .int .i64 p ∧ ∃ s, Dtw w wr g h k C B s s)
  case atStart => exact ⟨0, by omega, rfl, _, HT0.out⟩
  case round =>
    obtain ⟨p, hp, rfl, s, hT⟩ := hrel
    have HT := hid hT
    clear hT
    by_cases hlt : p < n
    · obtain ⟨ad, rfl, hat⟩ := (HA.out.below HT.out.bel) p hlt
      obtain ⟨⟨κ, a, b⟩, hH⟩ : ∃ y, f p = y := ⟨_, rfl⟩
      rw [hH] at hat
      obtain ⟨alt, c0, c1, c2⟩ := hat
      dsimp only at c0 c1 c2
      obtain ⟨r, hr⟩ : ∃ g, wr.heap.size = g := ⟨_, rfl⟩
      obtain ⟨W, hW⟩ : ∃ W, wr.alloc (.cells #[.int .i64 κ, .int .i64 a, .int .i64 b] 30) = W := ⟨_, rfl⟩
      have BW : Below wr.heap.size wr W := by rw [← hW]; exact below_alloc _ _
      have HXW := hid (show Bx W.drew r 30 #[.int .i64 κ, .int .i64 a, .int .i64 b] from by rw [← hW, ← hr]; exact Bx.new _ _ _)
      have HTW := hid (show Dtw w W.drew g h k C B s s from (HT.out.below BW).draws 1)
      have HRM := hid (show ¬ Gk g k r from fun e => e.elim (fun e => by have := HT.out.lt.1; omega) (fun e => by have := HT.out.lt.2.2; omega))
      have HWW := hid (And.intro hr hW)
      have hpn : (p : Int) < (n : Int) := by omega
      have HDO := hid (ddo_any HTW.out κ a b)
      unfold DoQ at HDO
      generalize drDo C B s κ a b = s9 at *
      clear BW hH hW hr HT
      go_upto_region 9 with fail
      rw [HWW.out.1, HWW.out.2]
      clear c0 c1 c2 HWW alt
      have y0 : W.cell? ⟨r, 0, none⟩ = some (.int .i64 κ) := HXW.out.cell 0
      have y1 : W.cell? ⟨r, 1, none⟩ = some (.int .i64 a) := HXW.out.cell 1
      have y2 : W.cell? ⟨r, 2, none⟩ = some (.int .i64 b) := HXW.out.cell 2
      generalize gk = K0 at *
      have HSA := hid (fun (v : World) (u : Dtw w v g h k C B s9 s9) => dsh_any u.d u.ok b)
      have HSB := hid (fun (v : World) (u : Dtw w v g h k C B s9 s9) => rsh_any u.r u.ok b)
      have HOA := hid (fun (v : World) (u : Dtw w v g h k C B s9 s9) => dof_any u.d u.ok a)
      have HOB := hid (fun (v : World) (u : Dtw w v g h k C B s9 s9) => rof_any u.r u.ok a)
      have HHA := hid (fun (v : World) (u : Dtw w v g h k C B s9 s9) => dhas_any u.d u.ok a b)
      have HHB := hid (fun (v : World) (u : Dtw w v g h k C B s9 s9) => rhas_any u.r u.ok a b)
      have HLA := hid (fun (v : World) (u : Dtw w v g h k C B s9 s9) => dlen_any u.d)
      have HLB := hid (fun (v : World) (u : Dtw w v g h k C B s9 s9) => rlen_any u.r u.ok)
      have hl1 := drSh_le s9 b
      have hl2 := drOf_le s9 a
      generalize drSh s9 b = l1 at *
      generalize drOf s9 a = l2 at *
      generalize s9 a b = t9 at *
      generalize drLen s9 = m9 at *
      obtain ⟨n1, hn1⟩ : ∃ x, l1.length = x := ⟨_, rfl⟩
      obtain ⟨n2, hn2⟩ : ∃ x, l2.length = x := ⟨_, rfl⟩
      have HN := hid (And.intro hn1 hn2)
      have HLE := hid (show n1 ≤ 4 ∧ n2 ≤ 32 from by omega)
      unfold Told at HSA HSB HOA HOB
      rw [hn1] at HSA HSB
      rw [hn2] at HOA HOB
      clear hn1 hn2 hl1 hl2
      have nt : (t9 != t9) = false := by simp
      have nm : ((m9 : Int) != (m9 : Int)) = false := by simp
      go_region_held3 (fun w' => w'.cell? ⟨r, 0, none⟩ = some (.int .i64 κ) ∧ w'.cell? ⟨r, 1, none⟩ = some (.int .i64 a) ∧ w'.cell? ⟨r, 2, none⟩ = some (.int .i64 b)) (first | exact kp | exact ⟨y0, y1, y2⟩) (first
        | (go_at_call 10; (with_reducible refine HDO.out.mono ?_); rintro e w5 ⟨rfl, ht, hc⟩; have HT5 := hid ht; have HX5 := hid (hc.bx HXW.out HRM.out); have kp := HX5.out.all3; clear ht hc)
        | (go_at_call 12; refine (HSA.out _ HT5.out).mono ?_; rintro e w6 ⟨A1, c1, rfl, ho, hg⟩; have HT6 := hid (HT5.out.below hg.nilBelow); have HX6 := hid (HX5.out.next hg.nilBelow); have HRA := hid (rw_told (HN.out.1 ▸ ho) (HN.out.1 ▸ hg)).1; have kp := HX6.out.all3; clear ho hg)
        | (go_at_call 13; refine (HSB.out _ HT6.out).mono ?_; rintro e w7 ⟨A2, c2, rfl, ho, hg⟩; have HT7 := hid (HT6.out.below hg.nilBelow); have HX7 := hid (HX6.out.next hg.nilBelow); have HRA7 := hid (HRA.out.below hg.nilBelow); have HRB := hid (rw_told (HN.out.1 ▸ ho) (HN.out.1 ▸ hg)).1; have kp := HX7.out.all3; clear ho hg)
        | (go_at_call 11; (with_reducible refine (sameints_yes A1 A2 n1 n1 c1 c2 l1 w7 w7.heap.size w7.heap.size HN.out.1 HN.out.1 (by unfold maxLen; have := HLE.out.1; omega) HRA7.out.rd HRB.out.rd).mono ?_); rintro e w' ⟨rfl, d8, rfl⟩; have HT8 := hid (HT7.out.draws d8); have HX8 := hid (HX7.out.draws d8); have kp := HX8.out.all3)
        | (go_at_call 14; refine (HOA.out _ HT8.out).mono ?_; rintro e w9 ⟨A3, c3, rfl, ho, hg⟩; have HT9 := hid (HT8.out.below hg.nilBelow); have HX9 := hid (HX8.out.next hg.nilBelow); have HRC := hid (rw_told (HN.out.2 ▸ ho) (HN.out.2 ▸ hg)).1; have kp := HX9.out.all3; clear ho hg)
        | (go_at_call 15; refine (HOB.out _ HT9.out).mono ?_; rintro e w10 ⟨A4, c4, rfl, ho, hg⟩; have HT10 := hid (HT9.out.below hg.nilBelow); have HX10 := hid (HX9.out.next hg.nilBelow); have HRC10 := hid (HRC.out.below hg.nilBelow); have HRD := hid (rw_told (HN.out.2 ▸ ho) (HN.out.2 ▸ hg)).1; have kp := HX10.out.all3; clear ho hg)
        | (go_at_call 11; (with_reducible refine (sameints_yes A3 A4 n2 n2 c3 c4 l2 w10 w10.heap.size w10.heap.size HN.out.2 HN.out.2 (by unfold maxLen; have := HLE.out.2; omega) HRC10.out.rd HRD.out.rd).mono ?_); rintro e w' ⟨rfl, d11, rfl⟩; have HT11 := hid (HT10.out.draws d11); have HX11 := hid (HX10.out.draws d11); have kp := HX11.out.all3)
        | (go_at_call 16; refine (HHA.out _ HT11.out).mono ?_; rintro e w' ⟨rfl, d12, rfl⟩; have HT12 := hid (HT10.out.draws (d11 + d12)); have HX12 := hid (HX10.out.draws (d11 + d12)); have kp := HX12.out.all3)
        | (go_at_call 17; refine (HHB.out _ HT12.out).mono ?_; rintro e w' ⟨rfl, d13, rfl⟩; have HT13 := hid (HT10.out.draws (d11 + d12 + d13)); have HX13 := hid (HX10.out.draws (d11 + d12 + d13)); have kp := HX13.out.all3)
        | (go_at_call 18; refine (HLA.out _ HT13.out).mono ?_; rintro e w' ⟨rfl, rfl⟩; have kp := HX13.out.all3)
        | (go_at_call 19; refine (HLB.out _ HT13.out).mono ?_; rintro e w' ⟨rfl, rfl⟩; have kp := HX13.out.all3))
      have HTE := hid HT13.out
      go_wp2
      go_roundg (K0 - 1)
      case measure => omega
      case rel => exact ⟨p + 1, by omega, by go_num, _, HTE.out⟩
    · obtain rfl : p = n := by omega
      clear hlt hp
      go_wp2
      go_ret
      exact ⟨rfl, HT.out.bel⟩
end Go.Proofs.Ytdpniggabidmbaa
