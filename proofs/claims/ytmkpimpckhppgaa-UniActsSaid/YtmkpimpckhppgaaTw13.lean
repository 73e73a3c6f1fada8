/-
  What is proved: both stacks side by side look the same to the law; what is true of both. Condition: both lie in memory, one off the other.
-/
import Derived.Test.YtmkpimpckhppgaaRj13
import Derived.Test.YtmkpimpckhppgaaWk13
namespace Go.Proofs.Ytmkpimpckhppgaa
open Go.RowKit

/-- both stacks side by side -/
structure Tw (w0 w : World) (X : Nat → Prop) (g k : Nat) (c : Nat → Nat) (s : Us) (h : Nat) (A : Option Addr) (cp : Nat) (E : Option Addr) (ce : Nat) : Prop where
  l : Ls w0 w g k c s
  r : Ur w X h A cp E ce c s
  hx : ∀ j, Uf g k j → X j
  lh : w0.heap.size ≤ h
section
variable {w0 w w' : World} {X : Nat → Prop} {g k : Nat} {c : Nat → Nat} {s s' : Us} {h : Nat} {A A' E : Option Addr} {cp cp' ce : Nat}
theorem Tw.below (t : Tw w0 w X g k c s h A cp E ce) (hb : Below w.heap.size w w') : Tw w0 w' X g k c s h A cp E ce := ⟨t.l.below hb, t.r.below hb, t.hx, t.lh⟩
theorem Tw.draws (t : Tw w0 w X g k c s h A cp E ce) (n : Nat) : Tw w0 (w.drewN n) X g k c s h A cp E ce := t.below (below_draws (Below.refl _ _) n)
theorem ct_none (ok : Oku s) {l : Int} (hl : l < 1 ∨ 4 < l) : s.ct l = 0 := by
  unfold Us.ct
  rw [List.countP_eq_zero]
  intro b hb
  have := ok.inn b hb
  simp
  omega
set_option maxRecDepth 10000 in
set_option maxHeartbeats 4000000 in
theorem same_any (t : Tw w0 w X g k c s h A cp E ce) : Calls Try.prog 17 #[.pointer (some ⟨g, 0, none⟩), .pointer (some ⟨h, 0, none⟩)] w fun e w' => e = .returned (.bool true) ∧ Below w.heap.size w w' := by
  have HT := hid t
  have HK := hid t.l.ok
  have h64 := t.l.ok.len
  obtain ⟨n, hn⟩ : ∃ n, s.L.length = n := ⟨_, rfl⟩
  rw [hn] at h64
  have HN := hid hn
  have HALL := hid (un_all t.l.u)
  clear t hn
  go_enter Try.func17, Try.ntmps17
  go_upto_region 2 with (go_at_call 22; refine HALL.out.mono ?_; rintro e w1 ⟨A1, c1, rfl, ho, hg⟩; have HR1 := hid (rw_told ho hg).1; have HT1 := hid (HT.out.below hg.nilBelow); have HB1 := hid hg.nilBelow; rw [HN.out]; clear ho hg)
  have x0 := HT1.out.r.c0
  rw [HN.out] at x0
  have nn : ((n : Int) != (n : Int)) = false := by simp
  go_wp2
  clear x0
  go_loopg [23] n (fun gk t wr => ∃ j : Nat, j + gk = n ∧ t = .int .i64 j ∧ Tw w0 wr X g k c s h A cp E ce ∧ Rw wr A1 s.L ∧ Below w.heap.size w wr)
  case atStart => exact ⟨0, by omega, rfl, HT1.out, HR1.out, HB1.out⟩
  case round =>
    obtain ⟨j, hj, rfl, ht, hr, hb⟩ := hrel
    have HT2 := hid ht
    have HR2 := hid hr
    have HB2 := hid hb
    clear ht hr hb HT1 HR1 HB1
    by_cases hlt : j < n
    · have hjl : j < s.L.length := by rw [HN.out]; exact hlt
      have hat := List.getElem?_eq_getElem hjl
      obtain ⟨a1, rfl, hca⟩ := row_at HR2.out hjl
      obtain ⟨ad, rfl, alt, d0, d1⟩ := it_at (Nat.le_refl _) HT2.out.r.row hat
      generalize s.L[j] = b at *
      have x0 := HT2.out.r.c0
      rw [HN.out] at x0
      have HLV := hid (fun (m : Nat) => un_level (HT2.out.l.u.draws m) HK.out b)
      generalize s.v b = v at *
      have nb : (b != b) = false := by simp
      have nv : (v != v) = false := by simp
      have hjn : (j : Int) < (n : Int) := by omega
      clear hat hjl nn
      go_upto_region 7 with fail
      go_quiet (first | (go_at_call 19; exact quietL (HLV.out _)))
      go_wp2
      go_roundg (gk - 1)
      case measure => omega
      case rel => exact ⟨j + 1, by omega, by go_num, HT2.out.draws _, HR2.out.draws _, below_draws HB2.out _⟩
    · obtain rfl : j = n := by omega
      clear hlt hj
      go_wp2
      go_loopg [7] 4 (fun gk t wr => ∃ l : Nat, l + gk = 5 ∧ 1 ≤ l ∧ t = .int .i64 l ∧ Tw w0 wr X g k c s h A cp E ce ∧ Below w.heap.size w wr)
      case atStart => exact ⟨1, by omega, by omega, rfl, HT2.out, HB2.out⟩
      case round =>
        obtain ⟨l, hl, hl1, rfl, ht, hb⟩ := hrel
        have HT3 := hid ht
        have HB3 := hid hb
        clear ht hb HT2 HR2 HB2
        have HYD := hid (fun (y : World) (hy : Tw w0 y X g k c s h A cp E ce) => r_yard hy.r HK.out l)
        have HCA := hid (fun (y : World) (hy : Tw w0 y X g k c s h A cp E ce) => un_count hy.l.u HK.out l)
        have HCB := hid (fun (y : World) (hy : Tw w0 y X g k c s h A cp E ce) => r_count hy.r HK.out l)
        generalize s.ct l = nc at *
        have ncc : ((nc : Int) != (nc : Int)) = false := by simp
        by_cases h4 : l ≤ 3
        · have hl4 : (l : Int) ≤ 4 := by omega
          have hl3 : (l : Int) < 4 := by omega
          have nl4 : ((l : Int) == 4) = false := by simp; omega
          have dl4 : decide ((l : Int) = 4) = false := by simp; omega
          have HYA := hid (un_yard HT3.out.l.u HK.out l ⟨by omega, by omega⟩)
          by_cases hy : 0 ≤ s.yp l
          · obtain ⟨p, ep, hpl, hat, -⟩ := Us.yp_some hy
            rw [show yv s l = .tuple #[.int .i64 (s.yb l), .bool true] from by unfold yv; rw [if_pos hy]] at HYA
            rw [ep] at HYD
            rw [HN.out] at hpl
            have HAT := hid hat
            generalize s.yb l = yb at *
            have hpn : (p : Int) < (j : Int) := by omega
            have hp0 : (0 : Int) ≤ (p : Int) := by omega
            have dp0 : decide ((0 : Int) ≤ (p : Int)) = true := by simp
            have nyb : (yb != yb) = false := by simp
            clear hy ep hat
            go_upto_region 15 with (first
              | (go_at_call 21; refine HYA.out.mono ?_; rintro e w4 ⟨rfl, hb⟩; have HT4 := hid (HT3.out.below hb); have HB4 := hid (on HB3.out hb); clear hb)
              | (go_at_call 34; refine (HYD.out _ HT4.out).mono ?_; rintro e w' ⟨rfl, rfl⟩))
            go_wp2_with (first
              | (go_at_call 20; refine (HCA.out _ HT4.out).mono ?_; rintro e w5 ⟨rfl, hb⟩; have HT5 := hid (HT4.out.below hb); have HB5 := hid (on HB4.out hb); have x0 := HT5.out.r.c0; rw [HN.out] at x0; obtain ⟨ad, rfl, alt, d0, d1⟩ := it_at (Nat.le_refl _) HT5.out.r.row HAT.out; clear hb)
              | (go_at_call 33; refine (HCB.out _ HT5.out).mono ?_; rintro e w' ⟨rfl, rfl⟩))
            go_roundg (gk - 1)
            case measure => omega
            case rel => exact ⟨l + 1, by omega, by omega, by go_num, HT5.out, HB5.out⟩
          · rw [show yv s l = .tuple #[.int .i64 0, .bool false] from by unfold yv; rw [if_neg hy]] at HYA
            generalize s.yp l = y at *
            have dp0 : decide ((0 : Int) ≤ y) = false := by simpa using hy
            have dp1 : y < 0 := by omega
            go_upto_region 15 with (first
              | (go_at_call 21; refine HYA.out.mono ?_; rintro e w4 ⟨rfl, hb⟩; have HT4 := hid (HT3.out.below hb); have HB4 := hid (on HB3.out hb); clear hb)
              | (go_at_call 34; refine (HYD.out _ HT4.out).mono ?_; rintro e w' ⟨rfl, rfl⟩))
            go_wp2_with (first
              | (go_at_call 20; refine (HCA.out _ HT4.out).mono ?_; rintro e w5 ⟨rfl, hb⟩; have HT5 := hid (HT4.out.below hb); have HB5 := hid (on HB4.out hb); clear hb)
              | (go_at_call 33; refine (HCB.out _ HT5.out).mono ?_; rintro e w' ⟨rfl, rfl⟩))
            go_roundg (gk - 1)
            case measure => omega
            case rel => exact ⟨l + 1, by omega, by omega, by go_num, HT5.out, HB5.out⟩
        · by_cases h5 : l = 4
          · subst h5
            have HYA := hid (un_yard_out wr (some ⟨g, 0, none⟩) ((4 : Nat) : Int) (fun e => by have := e.2; omega))
            go_upto_region 15 with (first
              | (go_at_call 21; refine HYA.out.mono ?_; rintro e w4 ⟨rfl, hb⟩; have HT4 := hid (HT3.out.below hb); have HB4 := hid (on HB3.out hb); clear hb)
              | (go_at_call 34; refine (HYD.out _ HT4.out).mono ?_; rintro e w' ⟨rfl, rfl⟩))
            go_wp2_with (first
              | (go_at_call 20; refine (HCA.out _ HT4.out).mono ?_; rintro e w5 ⟨rfl, hb⟩; have HT5 := hid (HT4.out.below hb); have HB5 := hid (on HB4.out hb); clear hb)
              | (go_at_call 33; refine (HCB.out _ HT5.out).mono ?_; rintro e w' ⟨rfl, rfl⟩))
            go_roundg (gk - 1)
            case measure => omega
            case rel => exact ⟨5, by omega, by omega, rfl, HT5.out, HB5.out⟩
          · obtain rfl : l = 5 := by omega
            have HC0 := hid (un_count HT3.out.l.u HK.out 0)
            have HC5 := hid (fun (y : World) (hy : Tw w0 y X g k c s h A cp E ce) => un_count hy.l.u HK.out 5)
            rw [ct_none HK.out (by omega)] at HC0 HC5
            clear HCA HCB HYD
            go_wp2_with (first
              | (go_at_call 20; (with_reducible refine HC0.out.mono ?_); rintro e w5 ⟨rfl, hb⟩; have HT5 := hid (HT3.out.below hb); have HB5 := hid (on HB3.out hb); clear hb)
              | (go_at_call 20; (with_reducible refine (HC5.out _ HT5.out).mono ?_); rintro e w6 ⟨rfl, hb⟩; have HB6 := hid (on HB5.out hb); clear hb))
            go_ret
            exact ⟨rfl, HB6.out⟩
end
end Go.Proofs.Ytmkpimpckhppgaa
