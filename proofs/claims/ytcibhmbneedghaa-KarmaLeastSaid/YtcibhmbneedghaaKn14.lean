/-
  What is proved: the reference's Common answers the least common multiple of all sizes. Condition: the hints are right, and read as such.
-/
import Derived.Test.YtcibhmbneedghaaPm14
import Derived.Test.YtcibhmbneedghaaKm14
import Derived.Test.YtcibhmbneedghaaKq14
namespace Go.Proofs.Ytcibhmbneedghaa
open Go.RowKit

set_option maxHeartbeats 400000 in
theorem common_any (A : Option Addr) (n c : Nat) (hh : Nat → Hn) (b : Int) (w : World) (hP : HintsP hh n b) (hr : Rv w w.heap.size A (hvs hh n)) :
    Calls Try.prog 24 #[.slice A n c] w fun e w' => e = .returned (.int .i64 (cml (szs hh n) : Nat)) ∧ w = w' := by
  have hn8 := hP.1
  have HR := hid hr
  have HP := hid hP
  clear hr hP
  go_enter Try.func24, Try.ntmps24
  go_wp2
  go_loopg [3, 4] n (fun gk t3 t4 wr => ∃ j : Nat, j + gk = n ∧ t3 = .int .i64 (cml (szs hh j) : Nat) ∧ t4 = .int .i64 j ∧ wr = w)
  case atStart => exact ⟨0, by omega, rfl, rfl, rfl⟩
  case round =>
    obtain ⟨j, hj, rfl, rfl, rfl⟩ := hrel
    by_cases hlt : j < n
    · have hlt' : (j : Int) < (n : Int) := by omega
      obtain ⟨ad, rfl, hat⟩ := HR.out.hint hlt
      have ho := HP.out.2.1 j hlt
      have hle := szs_cml (HP.out.less (show j ≤ n by omega))
      have hpos := cml_pos (szs_pos (HP.out.less (show j ≤ n by omega)))
      have HNX := hid (show cml (szs hh (j + 1)) = Nat.lcm (cml (szs hh j)) (sz hh j) from by rw [szs_succ, cml_app])
      obtain ⟨⟨f, s, o, l⟩, hH⟩ : ∃ x, hh j = x := ⟨_, rfl⟩
      rw [hH] at hat ho
      obtain ⟨_, c0, c1, c2, c3⟩ := hat
      dsimp only at c0 c1 c2 c3
      unfold okH at ho
      dsimp only at ho
      obtain ⟨S, rfl⟩ : ∃ S : Nat, s = S := ⟨s.toNat, by omega⟩
      have HNX2 := hid (show cml (szs hh (j + 1)) = Nat.lcm (cml (szs hh j)) S from by rw [HNX.out]; unfold sz; rw [hH]; rfl)
      obtain ⟨m', hm'⟩ : ∃ x, cml (szs hh (j + 1)) = x := ⟨_, rfl⟩
      have HM' := hid hm'
      rw [hm'] at HNX2
      clear hm'
      generalize gk = K0 at *
      generalize cml (szs hh j) = m at *
      have hS0 : 0 < S := by omega
      have hS : S ≤ 32 := by omega
      have HW := hid (lcm_within (m := m) (s := S) hpos hS0)
      clear hH HNX ho
      go_wp2
      go_loopg [3] (S - 1) (fun gi t3 wi => ∃ k : Nat, k + gi = S ∧ 0 < k ∧ t3 = .int .i64 (m * k : Nat) ∧ (∀ i, 0 < i → i < k → ¬ S ∣ m * i) ∧ wi = wr)
      case atStart => exact ⟨1, by omega, by omega, by rw [Nat.mul_one], fun i h1 h2 => by omega, rfl⟩
      case round =>
        obtain ⟨k, hk, hk0, rfl, hno, rfl⟩ := hrel
        have HNO := hid hno
        clear hno
        have hlim : m * k ≤ 1048576 * 32 := Nat.mul_le_mul hle (by omega)
        have HMK := hid (show m * k + m = m * (k + 1) from (Nat.mul_succ m k).symm)
        obtain ⟨x, hx⟩ : ∃ x, m * k = x := ⟨_, rfl⟩
        rw [hx] at hlim HMK ⊢
        have HX := hid hx
        clear hx
        by_cases hd : x % S = 0
        · have d1 : ((x : Int) % (S : Int) != 0) = false := by simp; omega
          have d2 : (x % S != 0) = false := by simp; omega
          have HE := hid (show x = m' from by
            rw [HNX2.out, ← HX.out]
            exact lcm_step hpos (by rw [HX.out]; exact Nat.dvd_of_mod_eq_zero hd) HNO.out hk0)
          clear hd hlim HMK
          go_wp2
          go_roundg (K0 - 1)
          case measure => omega
          case rel => exact ⟨j + 1, by omega, by rw [HM'.out, HE.out], by go_num, rfl⟩
        · have d1 : ((x : Int) % (S : Int) != 0) = true := by simp; omega
          have d2 : (x % S != 0) = true := by simp; omega
          have HE := hid (show k + 1 ≤ S from by
            obtain ⟨j0, h1, h2, h3⟩ := HW.out
            have h4 : S ∣ m * j0 := by rw [← h3]; exact Nat.dvd_lcm_right m S
            have h5 : ¬ j0 < k := fun h => HNO.out j0 h1 h h4
            have h6 : j0 ≠ k := fun h => by
              rw [h, HX.out] at h4
              exact hd (Nat.mod_eq_zero_of_dvd h4)
            omega)
          have HN2 := hid (show ∀ i, 0 < i → i < k + 1 → ¬ S ∣ m * i from fun i h1 h2 h3 => by
            by_cases e : i = k
            · rw [e, HX.out] at h3
              exact hd (Nat.mod_eq_zero_of_dvd h3)
            · exact HNO.out i h1 (by omega) h3)
          clear hd
          go_wp2
          go_roundg (gk - 1)
          case measure => have := HE.out; omega
          case rel => exact ⟨k + 1, by have := HE.out; omega, by omega, by rw [← HMK.out]; go_num, HN2.out, rfl⟩
    · have hlt' : ¬ (j : Int) < (n : Int) := by omega
      obtain rfl : j = n := by omega
      go_wp2
      go_ret
      exact ⟨rfl, rfl⟩
end Go.Proofs.Ytcibhmbneedghaa
