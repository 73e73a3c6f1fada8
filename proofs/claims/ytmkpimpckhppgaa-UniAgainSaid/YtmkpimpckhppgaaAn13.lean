/-
  What is proved: the walk of UniAgain: a block that is used twice, one behind the other, is on top, with no greater level. Condition: the capacities and the numbers are read as such.
-/
import Derived.Test.YtmkpimpckhppgaaBo13
namespace Go.Proofs.Ytmkpimpckhppgaa
open Go.RowKit

theorem row_top {w : World} {A : Option Addr} {l t : List Int} {b : Int} (h : Rw w A l) (e : l = b :: t) : ∃ ad, A = some ad ∧ w.cell? ad = some (.int .i64 b) := by
  subst e
  obtain ⟨ad, ea, hc⟩ := row_at h (j := 0) (by simp)
  exact ⟨ad, ea, by simpa [Addr.add] using hc⟩
set_option maxRecDepth 100000 in
set_option maxHeartbeats 4000000 in
theorem again_walk (x y z : Int) (A : Option Addr) (n cp : Nat) (L : List Int) (w : World) (hn : L.length = n) (hm : n ≤ maxLen) (h : Ns w .i64 A L) (u : Int) (hu0 : 0 ≤ u ∧ u ≤ 255) :
    Calls Try.prog 7 #[.agg #[.int .i64 x, .int .i64 y, .int .i64 z], .slice A n cp, .int .u8 u] w fun e w' => e = .returned (.bool true) ∧ Below w.heap.size w w' := by
  have HA := hid h
  have HLN := hid hn
  unfold maxLen at hm
  have HX0 := hid (Bx.new w 22 #[.int .i64 x, .int .i64 y, .int .i64 z])
  have HB0 := hid (below_alloc w (.cells #[.int .i64 x, .int .i64 y, .int .i64 z] 22))
  obtain ⟨q, hq⟩ : ∃ q, w.heap.size = q := ⟨_, rfl⟩
  rw [hq] at HX0
  have HQ := hid hq
  have HNEW := hid (fun w => un_new x y z w)
  obtain ⟨b, hub⟩ : ∃ b : Nat, u % 64 = b := ⟨(u % 64).toNat, by omega⟩
  have HV := hid (show vb (b : Int) from ⟨by omega, by omega⟩)
  have hu1 : (0 : Int) ≤ u := hu0.1
  have hu2 : u ≤ 255 := hu0.2
  clear h hq hn hu0
  go_enter Try.func7, Try.ntmps7
  go_upto_region 3 with (go_at_call 8; refine (wakes_any _).mono ?_; rintro e w1 ⟨rfl, hb⟩; have HX1 := hid (HX0.out.next hb); have HB := hid (on HB0.out hb); clear hb)
  rw [HQ.out]
  by_cases h120 : 120 < n
  · have hd : decide ((120 : Int) < (n : Int)) = true := by simp; omega
    clear h120
    go_wp2
    go_ret
    exact ⟨rfl, HB.out⟩
  have hd : decide ((120 : Int) < (n : Int)) = false := by simp; omega
  obtain ⟨a0, a1, a2⟩ := HX1.out.all3
  by_cases hR : capR [x, y, z]
  · obtain ⟨C1, C2, C3, rfl, rfl, rfl, e1, e2, e3⟩ := caps_nat hR
    obtain ⟨c, hcf⟩ : ∃ c, capf [(C1 : Int), (C2 : Int), (C3 : Int)] = c := ⟨_, rfl⟩
    unfold NewR at HNEW
    rw [hcf] at e1 e2 e3 HNEW
    have HCE := hid (And.intro e1 (And.intro e2 e3))
    have HR := hid hR
    clear e1 e2 e3 hcf hR
    go_upto_region 6 with (go_at_call 9; refine (HNEW.out _).mono ?_; intro e w2 hq; rw [if_pos HR.out] at hq; obtain ⟨g, k, rfl, hu, hb, hg, hk⟩ := hq; have HL0 := hid (show Lc w w2 g k c s00 q C1 C2 C3 from ⟨Ls.new HB.out hu hb hg hk, Okc.new c, HX1.out.next hb, fun e => by have := HX1.out.lt; omega, fun e => by have := HX1.out.lt; omega⟩); clear hu hb hg hk)
    clear a0 a1 a2
    go_wp2
    go_loopg [34] n (fun gk t wr => ∃ p : Nat, p + gk = n ∧ t = .int .i64 p ∧ ∃ s, Lc w wr g k c s q C1 C2 C3)
    case atStart => exact ⟨0, by omega, rfl, _, HL0.out⟩
    case round =>
      obtain ⟨p, hp, rfl, s, hT⟩ := hrel
      have HT := hid hT
      clear hT HL0
      by_cases hlt : p < n
      · have hpl : p < L.length := by rw [HLN.out]; exact hlt
        obtain ⟨ad, rfl, hab, hca⟩ := (HA.out.below HT.out.l.bel) p _ (List.getElem?_eq_getElem hpl)
        generalize L[p] = x0 at *
        have hpn : (p : Int) < (n : Int) := by omega
        clear hpl hab
        have HU := hid (lc_use HT.out x0)
        go_wp2_with (go_at_call 14; refine HU.out.mono ?_; rintro e w3 ⟨l3, A3, n3, c3, f3, rfl, s3, ht⟩; have HT3 := hid ht; clear ht)
        go_roundg (gk - 1)
        case measure => omega
        case rel => exact ⟨p + 1, by omega, by go_num, _, HT3.out⟩
      · obtain rfl : p = n := by omega
        clear hlt hp
        have HAG := hid (again HT.out.oc HT.out.l.ok (fun l l1 l3 => (HT.out.l.u.cap l l1 l3).1) HV.out)
        have HU1 := hid (un_use HT.out.l.u HT.out.l.ok HV.out)
        have HT1 := hid (fun (w' : World) => HT.out.use (w' := w') HV.out)
        have HU2 := hid (fun (y : World) (hy : Lc w y g k c (s.us c b) q C1 C2 C3) => un_use hy.l.u hy.l.ok HV.out)
        have HT2 := hid (fun (y w' : World) (hy : Lc w y g k c (s.us c b) q C1 C2 C3) => hy.use (w' := w') HV.out)
        unfold UseQ at HU1 HU2
        generalize (s.us c b).ust c b = um at *
        generalize s.nx c b = X at *
        generalize (s.us c b).nx c b = Y at *
        obtain ⟨h1, h2, ⟨t, h3⟩, h4⟩ := HAG.out
        obtain ⟨nL, hnL⟩ : ∃ x, ((s.us c b).us c b).L.length = x := ⟨_, rfl⟩
        have hnp : 0 < nL := by rw [← hnL, h3]; simp
        have HNL := hid hnL
        have H3 := hid h3
        clear h3 hnL HAG
        go_upto_region 16 with (first
          | (go_at_call 14; (with_reducible refine HU1.out.mono ?_); rintro e w4 ⟨v4, rfl, ho, hu, hc⟩; have HT4 := hid (HT1.out _ hu hc); obtain ⟨A4, c4, rfl⟩ := mvs_val ho; clear ho hu hc)
          | (go_at_call 14; (with_reducible refine (HU2.out _ HT4.out).mono ?_); rintro e w5 ⟨v5, rfl, ho, hu, hc⟩; have HT5 := hid (HT2.out _ _ HT4.out hu hc); obtain ⟨A5, c5, rfl⟩ := mvs_val ho; clear ho hu hc))
        have HALL := hid (un_all HT5.out.l.u)
        have HB5 := hid HT5.out.l.bel
        have hyx : (Y : Int) ≤ (X : Int) := by omega
        have hnL0 : (0 : Int) < (nL : Int) := by omega
        have key : Hid (X = 4 ∨ (X ≠ 4 ∧ X = Y ∧ um.2 = []) ∨ (X ≠ 4 ∧ X ≠ Y ∧ Y < X)) := hid (by
          by_cases e4 : X = 4
          · exact .inl e4
          · rcases h4 with h4 | ⟨h4, h5⟩ | h4
            · exact absurd h4 e4
            · exact .inr (.inl ⟨e4, h4, h5⟩)
            · exact .inr (.inr ⟨e4, by omega, h4⟩))
        clear h4
        rcases key.out with rfl | ⟨hx4, rfl, hmv⟩ | ⟨hx4, hxy, hlt⟩
        · go_wp2_with (go_at_call 22; refine HALL.out.mono ?_; rintro e w6 ⟨A6, c6, rfl, ho, hg⟩; obtain ⟨ad6, rfl, hca6⟩ := row_top (rw_told ho hg).1 H3.out; rw [HNL.out]; have HB6 := hid (on HB5.out hg.nilBelow); clear ho hg)
          go_ret
          exact ⟨rfl, HB6.out⟩
        · have n4 : ((X : Int) == 4) = false := by simp; omega
          have d4 : decide ((X : Int) = 4) = false := by simp; omega
          rw [hmv]
          go_wp2_with (go_at_call 22; refine HALL.out.mono ?_; rintro e w6 ⟨A6, c6, rfl, ho, hg⟩; obtain ⟨ad6, rfl, hca6⟩ := row_top (rw_told ho hg).1 H3.out; rw [HNL.out]; have HB6 := hid (on HB5.out hg.nilBelow); clear ho hg)
          go_ret
          exact ⟨rfl, HB6.out⟩
        · have n4 : ((X : Int) == 4) = false := by simp; omega
          have d4 : decide ((X : Int) = 4) = false := by simp; omega
          have nxy : ((X : Int) == (Y : Int)) = false := by simp; omega
          have dxy : decide ((X : Int) = (Y : Int)) = false := by simp; omega
          have hlt2 : (Y : Int) < (X : Int) := by omega
          go_wp2_with (go_at_call 22; refine HALL.out.mono ?_; rintro e w6 ⟨A6, c6, rfl, ho, hg⟩; obtain ⟨ad6, rfl, hca6⟩ := row_top (rw_told ho hg).1 H3.out; rw [HNL.out]; have HB6 := hid (on HB5.out hg.nilBelow); clear ho hg)
          go_ret
          exact ⟨rfl, HB6.out⟩
  · unfold NewR at HNEW
    have HR := hid hR
    clear hR
    go_wp2_with (go_at_call 9; refine (HNEW.out _).mono ?_; intro e w2 hq; rw [if_neg HR.out] at hq; obtain ⟨rfl, hb⟩ := hq; have HB2 := hid (on HB.out hb); clear hb)
    go_ret
    exact ⟨rfl, HB2.out⟩
end Go.Proofs.Ytmkpimpckhppgaa
