/-
  What is proved: both directories side by side, and what an act makes of both: the law's do answers true. Condition: both lie in memory, one off the other.
-/
import Derived.Test.YtdpniggabidmbaaRm17
namespace Go.Proofs.Ytdpniggabidmbaa
open Go.RowKit

/-- the program's directory at s, the reference's at s2, one off the other, both made since w0 -/
structure Dtw (w0 w : World) (g h k C B : Nat) (s s2 : DrS) : Prop where
  d : Dm w g C B s
  r : Rm w h k C B s2
  ok : Dok C B s
  ok2 : Dok C B s2
  gh : g ≠ h
  gk : g ≠ k
  lg : w0.heap.size ≤ g
  lh : w0.heap.size ≤ h
  lk : w0.heap.size ≤ k
  bel : Below w0.heap.size w0 w
section
variable {w0 w w' : World} {g h k C B : Nat} {s s2 s' : DrS}
theorem Dtw.below (t : Dtw w0 w g h k C B s s2) (hb : Below w.heap.size w w') : Dtw w0 w' g h k C B s s2 := ⟨t.d.below hb, t.r.below hb, t.ok, t.ok2, t.gh, t.gk, t.lg, t.lh, t.lk, on t.bel hb⟩
theorem Dtw.draws (t : Dtw w0 w g h k C B s s2) (n : Nat) : Dtw w0 (w.drewN n) g h k C B s s2 := t.below (below_draws (Below.refl _ _) n)
theorem Dtw.stepD (t : Dtw w0 w g h k C B s s2) (hd : Dm w' g C B s') (hc : Chg w w' (· = g) (· = g)) (ok : Dok C B s') : Dtw w0 w' g h k C B s' s2 :=
  ⟨hd, t.r.chg hc (fun e => t.gh e.symm) (fun e => t.gk e.symm), ok, t.ok2, t.gh, t.gk, t.lg, t.lh, t.lk, t.bel.trans (hc.bel t.bel.size fun j e => by rw [e]; exact t.lg)⟩
theorem Dtw.stepR (t : Dtw w0 w g h k C B s s2) (hr : Rm w' h k C B s') (hc : Chg w w' (· = k) (· = k)) (ok : Dok C B s') : Dtw w0 w' g h k C B s s' :=
  ⟨t.d.chg hc t.gk, hr, t.ok, ok, t.gh, t.gk, t.lg, t.lh, t.lk, t.bel.trans (hc.bel t.bel.size fun j e => by rw [e]; exact t.lk)⟩
theorem Dtw.lt (t : Dtw w0 w g h k C B s s2) : g < w.heap.size ∧ h < w.heap.size ∧ k < w.heap.size := ⟨t.d.box.lt, t.r.box.lt, t.r.row.lt⟩
end
/-- what an act makes of who shares what -/
def drDo (C B : Nat) (s : DrS) (κ x y : Int) : DrS :=
  if κ = 0 then (if drIn C B x y then drSet s x y true else s) else if κ = 1 then (if s x y = true then drSet s x y false else s) else if κ = 2 then drNo s x else s
section
variable {w0 w : World} {g h k C B : Nat} {s : DrS}
theorem Dok.do_ (ok : Dok C B s) (κ x y : Int) : Dok C B (drDo C B s κ x y) := by
  unfold drDo
  split
  · split
    · rename_i hin; exact ok.set hin true
    · exact ok
  · split
    · split
      · rename_i hs; exact ok.set (drIn_of ok hs) false
      · exact ok
    · split
      · exact ok.no x
      · exact ok
/-- the blocks that acts change -/
def Gk (g k : Nat) (j : Nat) : Prop := j = g ∨ j = k
theorem gk_d {w w1 w2 : World} {g k : Nat} (h : Chg w w1 (Gk g k) (Gk g k)) (hc : Chg w1 w2 (· = g) (· = g)) : Chg w w2 (Gk g k) (Gk g k) :=
  h.trans ⟨hc.os, hc.tape, hc.output, hc.size, fun j h1 h2 => hc.block j h1 fun e => h2 (.inl e), fun _ e => .inl e⟩
theorem gk_r {w w1 w2 : World} {g k : Nat} (h : Chg w w1 (Gk g k) (Gk g k)) (hc : Chg w1 w2 (· = k) (· = k)) : Chg w w2 (Gk g k) (Gk g k) :=
  h.trans ⟨hc.os, hc.tape, hc.output, hc.size, fun j h1 h2 => hc.block j h1 fun e => h2 (.inr e), fun _ e => .inl e⟩
theorem gk_b {w w1 w2 : World} {g k : Nat} (h : Chg w w1 (Gk g k) (Gk g k)) (hb : Below w1.heap.size w1 w2) : Chg w w2 (Gk g k) (Gk g k) := h.trans (Chg.of hb _)
/-- what the law's do answers -/
def DoQ (w0 w : World) (g h k C B : Nat) (s : DrS) (e : Ending) (w' : World) : Prop := e = .returned (.bool true) ∧ Dtw w0 w' g h k C B s s ∧ Chg w w' (Gk g k) (Gk g k)
set_option maxRecDepth 10000 in
set_option maxHeartbeats 4000000 in
theorem ddo_any (t : Dtw w0 w g h k C B s s) (κ x y : Int) : Calls Try.prog 10 #[.pointer (some ⟨g, 0, none⟩), .pointer (some ⟨h, 0, none⟩), .agg #[.int .i64 κ, .int .i64 x, .int .i64 y]] w (DoQ w0 w g h k C B (drDo C B s κ x y)) := by
  unfold DoQ
  obtain ⟨q, hq⟩ : ∃ q, w.heap.size = q := ⟨_, rfl⟩
  obtain ⟨W, hW⟩ : ∃ W, w.alloc (.cells #[.int .i64 κ, .int .i64 x, .int .i64 y] 30) = W := ⟨_, rfl⟩
  have HX := hid (show Bx W q 30 #[.int .i64 κ, .int .i64 x, .int .i64 y] from by rw [← hW, ← hq]; exact Bx.new _ _ _)
  have HT := hid (show Dtw w0 W g h k C B s s from by rw [← hW]; exact t.below (below_alloc _ _))
  have HC := hid (show Chg w W (Gk g k) (Gk g k) from by rw [← hW]; exact Chg.of (below_alloc _ _) _)
  have HNE := hid (show q ≠ g ∧ q ≠ k from ⟨fun e => by have := t.lt.1; omega, fun e => by have := t.lt.2.2; omega⟩)
  have HWW := hid (And.intro hq hW)
  have HK := hid t.ok
  have y0 : W.cell? ⟨q, 0, none⟩ = some (.int .i64 κ) := HX.out.cell 0
  have y1 : W.cell? ⟨q, 1, none⟩ = some (.int .i64 x) := HX.out.cell 1
  have y2 : W.cell? ⟨q, 2, none⟩ = some (.int .i64 y) := HX.out.cell 2
  have HTH := hid (fun (v : World) (u : Dtw w0 v g h k C B s s) => rthere_any u.r x y)
  clear t hq hW
  by_cases k0 : κ = 0
  · subst k0
    by_cases hin : drIn C B x y
    · rw [show drDo C B s 0 x y = drSet s x y true from by unfold drDo; rw [if_pos rfl, if_pos hin]]
      have HA := hid (dadd_yes HT.out.d HT.out.ok hin)
      have HTH := hid (fun (v : World) (s' : DrS) (u : Dtw w0 v g h k C B s' s) => rthere_any u.r x y)
      rw [decide_eq_true hin] at HTH
      have HS := hid (fun (v : World) (s' : DrS) (u : Dtw w0 v g h k C B s' s) => rset_any u.r u.ok2 hin true)
      have HOK := hid (HK.out.set hin true)
      clear hin
      go_enter Try.func10, Try.ntmps10
      go_upto_region 1 with fail
      rw [HWW.out.1, HWW.out.2]
      go_upto_region 4 with (go_at_call 21; refine HA.out.mono ?_; rintro e w2 ⟨rfl, hd, hc⟩; have HT2 := hid (HT.out.stepD hd hc HOK.out); have HC2 := hid (gk_d HC.out hc); have HX2 := hid (hc.bx HX.out HNE.out.1); clear hd hc)
      clear y0 y1 y2
      have y1 : w2.cell? ⟨q, 1, none⟩ = some (.int .i64 x) := HX2.out.cell 1
      have y2 : w2.cell? ⟨q, 2, none⟩ = some (.int .i64 y) := HX2.out.cell 2
      go_wp2_with (first
        | (go_at_call 24; refine (HTH.out _ _ HT2.out).mono ?_; rintro e w' ⟨rfl, rfl⟩)
        | (go_at_call 25; refine (HS.out _ _ HT2.out).mono ?_; rintro e w3 ⟨rfl, hr, hc⟩; have HT3 := hid (HT2.out.stepR hr hc HOK.out); have HC3 := hid (gk_r HC2.out hc); clear hr hc))
      go_ret
      exact ⟨rfl, HT3.out, HC3.out⟩
    · rw [show drDo C B s 0 x y = s from by unfold drDo; rw [if_pos rfl, if_neg hin]]
      have HA := hid (dadd_no HT.out.d hin)
      rw [decide_eq_false hin] at HTH
      clear hin
      go_enter Try.func10, Try.ntmps10
      go_upto_region 1 with fail
      rw [HWW.out.1, HWW.out.2]
      go_wp2_with (first
        | (go_at_call 21; refine HA.out.mono ?_; rintro e w2 ⟨rfl, rfl⟩)
        | (go_at_call 24; refine (HTH.out _ HT.out).mono ?_; rintro e w' ⟨rfl, rfl⟩))
      go_ret
      exact ⟨rfl, HT.out, HC.out⟩
  have z0 : (κ == 0) = false := by simpa using k0
  have d0 : decide (κ = 0) = false := by simpa using k0
  by_cases k1 : κ = 1
  · subst k1
    cases hs : s x y with
    | true =>
      rw [show drDo C B s 1 x y = drSet s x y false from by unfold drDo; rw [if_neg (by omega), if_pos rfl, if_pos hs]]
      have hin := drIn_of HK.out hs
      have HH := hid (rhas_any HT.out.r HT.out.ok2 x y)
      have HS := hid (fun (d : Nat) => rset_any (HT.out.draws d).r HK.out hin false)
      have HR := hid (fun (v : World) (s' : DrS) (u : Dtw w0 v g h k C B s s') => drem_yes u.d HK.out hs)
      have HOK := hid (HK.out.set hin false)
      rw [hs] at HH
      clear hin hs z0 d0 k0
      go_enter Try.func10, Try.ntmps10
      go_upto_region 1 with fail
      rw [HWW.out.1, HWW.out.2]
      go_upto_region 12 with (first
        | (go_at_call 17; refine HH.out.mono ?_; rintro e w2 ⟨rfl, d, rfl⟩)
        | (go_at_call 25; refine (HS.out _).mono ?_; rintro e w3 ⟨rfl, hr, hc⟩; have HT3 := hid ((HT.out.draws d).stepR hr hc HOK.out); have HC3 := hid (gk_r (HC.out.draws d) hc); have HX3 := hid (hc.bx (HX.out.draws d) HNE.out.2); clear hr hc))
      clear y0 y1 y2
      have y1 : w3.cell? ⟨q, 1, none⟩ = some (.int .i64 x) := HX3.out.cell 1
      have y2 : w3.cell? ⟨q, 2, none⟩ = some (.int .i64 y) := HX3.out.cell 2
      go_wp2_with (go_at_call 22; refine (HR.out _ _ HT3.out).mono ?_; rintro e w4 ⟨rfl, hd, hc⟩; have HT4 := hid (HT3.out.stepD hd hc HOK.out); have HC4 := hid (gk_d HC3.out hc); clear hd hc)
      go_ret
      exact ⟨rfl, HT4.out, HC4.out⟩
    | false =>
      rw [show drDo C B s 1 x y = s from by unfold drDo; rw [if_neg (by omega), if_pos rfl, if_neg (by rw [hs]; simp)]]
      have HH := hid (rhas_any HT.out.r HT.out.ok2 x y)
      have HR := hid (fun (d : Nat) => drem_no (HT.out.draws d).d HK.out hs)
      rw [hs] at HH
      clear hs z0 d0 k0
      go_enter Try.func10, Try.ntmps10
      go_upto_region 1 with fail
      rw [HWW.out.1, HWW.out.2]
      go_wp2_with (first
        | (go_at_call 17; refine HH.out.mono ?_; rintro e w2 ⟨rfl, d, rfl⟩)
        | (go_at_call 22; refine (HR.out _).mono ?_; rintro e w4 ⟨rfl, d2, rfl⟩))
      go_ret
      exact ⟨rfl, HT.out.draws (d + d2), HC.out.draws (d + d2)⟩
  have z1 : (κ == 1) = false := by simpa using k1
  have d1 : decide (κ = 1) = false := by simpa using k1
  by_cases k2 : κ = 2
  · subst k2
    rw [show drDo C B s 2 x y = drNo s x from by unfold drDo; rw [if_neg (by omega), if_neg (by omega), if_pos rfl]]
    have HO := hid (rof_any HT.out.r HT.out.ok2 x)
    have HNO := hid (HK.out.no x)
    have hle := drOf_le s x
    obtain ⟨l, hl⟩ : ∃ l, drOf s x = l := ⟨_, rfl⟩
    rw [hl] at HO hle
    have HIN := hid (fun b (hb : b ∈ l) => drOf_at HK.out (x := x) (b := b) (by rw [hl]; exact hb))
    have HEND := hid (show drCl s x l = drNo s x from by rw [← hl]; exact drCl_end HK.out x)
    have HFG := hid (fun (v : World) (s' : DrS) (u : Dtw w0 v g h k C B s s') => dfg_any u.d HK.out x)
    rw [hl] at HFG
    obtain ⟨n, hn⟩ : ∃ n, l.length = n := ⟨_, rfl⟩
    have HN := hid hn
    rw [hn] at hle HFG
    clear hl hn z0 d0 z1 d1 k0 k1 HTH
    go_enter Try.func10, Try.ntmps10
    go_upto_region 1 with fail
    rw [HWW.out.1, HWW.out.2]
    go_upto_region 15 with (go_at_call 15; refine HO.out.mono ?_; rintro e w2 ⟨A, c, rfl, ho, hg⟩; have HA := hid (rw_told ho hg); have HB2 := hid hg.nilBelow; clear ho hg)
    rw [HN.out]
    have HT2 := hid (HT.out.below HB2.out)
    have HX2 := hid (HX.out.next HB2.out)
    have HC2 := hid (gk_b HC.out HB2.out)
    have HRW := hid HA.out.1
    have HAK := hid (show ∀ ad, A = some ad → ad.block ≠ k from fun ad e e2 => by have := HA.out.2.1 ad e; have := HT.out.lt.2.2; omega)
    clear y0 y1 y2
    go_wp2
    go_loopg [70] n (fun gk t wr => ∃ j : Nat, j + gk = n ∧ t = .int .i64 j ∧ Dtw w0 wr g h k C B s (drCl s x (l.take j)) ∧ Chg w wr (Gk g k) (Gk g k) ∧ Rw wr A l ∧ Bx wr q 30 #[.int .i64 2, .int .i64 x, .int .i64 y])
    case atStart => exact ⟨0, by omega, rfl, by rw [List.take_zero, drCl_nil]; exact HT2.out, HC2.out, HRW.out, HX2.out⟩
    case round =>
      obtain ⟨j, hj, rfl, ht, hcc, hr, hx⟩ := hrel
      have HT3 := hid ht
      have HC3 := hid hcc
      have HR3 := hid hr
      have HX3 := hid hx
      have y1 : wr.cell? ⟨q, 1, none⟩ = some (.int .i64 x) := hx.cell 1
      clear ht hr hx hcc
      by_cases hlt : j < n
      · have hjn : (j : Int) < (n : Int) := by omega
        have hjl : j < l.length := by rw [HN.out]; exact hlt
        have HCL := hid (drCl_step s x hjl)
        obtain ⟨ad, rfl, ca⟩ := row_at HR3.out hjl
        have hin := HIN.out l[j] (List.getElem_mem hjl)
        have HS := hid (rset_any HT3.out.r HT3.out.ok2 hin false)
        have HOK := hid (HT3.out.ok2.set hin false)
        generalize l[j] = b at *
        clear hin hjl
        go_wp2_with (go_at_call 25; refine HS.out.mono ?_; rintro e w3 ⟨rfl, hr, hc⟩; have HT4 := hid (HT3.out.stepR hr hc HOK.out); have HC4 := hid (gk_r HC3.out hc); have HX4 := hid (hc.bx HX3.out HNE.out.2); have HR4 := hid (HR3.out.chg hc HAK.out); clear hr hc)
        go_roundg (gk - 1)
        case measure => omega
        case rel => exact ⟨j + 1, by omega, by go_num, by rw [HCL.out]; exact HT4.out, HC4.out, HR4.out, HX4.out⟩
      · obtain rfl : j = n := by omega
        rw [← HN.out, List.take_length, HEND.out] at HT3
        have nn : ((j : Int) == (j : Int)) = true := by simp
        go_wp2_with (go_at_call 20; refine (HFG.out _ _ HT3.out).mono ?_; rintro e w4 ⟨rfl, hd, hc⟩; have HT4 := hid (HT3.out.stepD hd hc HNO.out); have HC4 := hid (gk_d HC3.out hc); clear hd hc)
        go_ret
        exact ⟨rfl, HT4.out, HC4.out⟩
  have z2 : (κ == 2) = false := by simpa using k2
  have d2 : decide (κ = 2) = false := by simpa using k2
  rw [show drDo C B s κ x y = s from by unfold drDo; rw [if_neg k0, if_neg k1, if_neg k2]]
  clear k0 k1 k2
  go_enter Try.func10, Try.ntmps10
  go_upto_region 1 with fail
  rw [HWW.out.1, HWW.out.2]
  go_wp2
  go_ret
  exact ⟨rfl, HT.out, HC.out⟩
end
end Go.Proofs.Ytdpniggabidmbaa
