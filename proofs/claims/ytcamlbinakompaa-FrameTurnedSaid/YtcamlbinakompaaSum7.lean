/-
  What is proved: frame's sum, and the reference's, answer the sum of bytes, each times its place, as one byte; nothing is written. Condition: the bytes are no more than a thousand.
-/
import Derived.Test.YtcamlbinakompaaMath7
import Derived.Test.YtcamlbinakompaaRawB7
import Derived.Test.YtcamlbinakompaaPut
namespace Go.Proofs.Ytcamlbinakompaa
open Go.RowKit

set_option maxRecDepth 100000 in
set_option maxHeartbeats 400000 in
theorem sum_any (A : Option Addr) (n c : Nat) (l : List Int) (w : World) (C : Nat) (hn : l.length = n) (hlen : n ≤ 1000) (hb : Hid (∀ x ∈ l, 0 ≤ x ∧ x ≤ 255)) (ra : Rd w C A l) :
    Calls Try.prog 17 #[.slice A n c] w fun e w' => e = .returned (.int .u8 (sm l)) ∧ w = w' := by
  have HR := hid ra
  have HN := hid hn
  clear ra hn
  go_enter Try.func17, Try.ntmps17
  go_wp2
  go_loop [3, 8] (fun s i => ∃ k m : Nat, k ≤ n ∧ i = .int .i64 k ∧ s = .int .i64 m ∧ Hid (m = ws (l.take k) % 251) ∧ m < 251) (fun _ i => n - (intOf i).toNat)
  case atStart => exact ⟨0, 0, Nat.zero_le _, rfl, rfl, hid rfl, by omega⟩
  case round =>
    obtain ⟨k, m, hk, rfl, rfl, hm, hm2⟩ := hrel
    by_cases hlt : k < n
    · obtain ⟨a, rfl, _, hc⟩ := HR.out.get (show k < l.length by rw [HN.out]; exact hlt)
      obtain ⟨x, hx⟩ : ∃ x, l[k]'(by rw [HN.out]; exact hlt) = x := ⟨_, rfl⟩
      have hxb : 0 ≤ x ∧ x ≤ 255 := by rw [← hx]; exact hb.out _ (List.getElem_mem _)
      obtain ⟨y, rfl⟩ : ∃ y : Nat, x = y := ⟨x.toNat, by omega⟩
      have HW := hid (ws_take l k _ y hx)
      rw [hx] at hc
      have hp := mul_le7 k y n hlt (by omega)
      have hq : (y : Int) * ((k : Int) + 1) = (((k + 1) * y : Nat) : Int) := by rw [Nat.mul_comm]; simp
      have hq0 : 0 ≤ (y : Int) * ((k : Int) + 1) := by omega
      have hq1 : (y : Int) * ((k : Int) + 1) ≤ 255000 := by omega
      have HS := hid (show ((m : Int) + (y : Int) * ((k : Int) + 1)) % 251 = ((ws (l.take (k + 1)) % 251 : Nat) : Int) by rw [HW.out, ← sm_step, hm.out])
      clear hx hq hp
      go_wp2
      rw [HS.out]
      go_round
      case rel => exact ⟨k + 1, _, by omega, by go_num, rfl, hid rfl, by omega⟩
      case measure => simp [intOf]; omega
    · obtain rfl : k = n := by omega
      have hm' := hm.out
      rw [← HN.out, List.take_length] at hm'
      have HM := hid hm'
      clear hm hm'
      go_wp2
      go_ret
      refine ⟨?_, rfl⟩
      unfold sm
      rw [← HM.out]
      rfl

set_option maxRecDepth 100000 in
set_option maxHeartbeats 400000 in
theorem rsum_any (A : Option Addr) (n c : Nat) (l : List Int) (w : World) (C : Nat) (hn : l.length = n) (hlen : n ≤ 1000) (hb : Hid (∀ x ∈ l, 0 ≤ x ∧ x ≤ 255)) (ra : Rd w C A l) :
    Calls Try.prog 14 #[.slice A n c] w fun e w' => e = .returned (.int .u8 (sm l)) ∧ w = w' := by
  have HR := hid ra
  have HN := hid hn
  clear ra hn
  have hle := hid (show ∀ k, k ≤ n → ws (l.take k) ≤ 255000000 from fun k hk => by
    have h1 := ws_le l hb.out k (by rw [HN.out]; exact hk)
    rw [HN.out] at h1
    exact Nat.le_trans h1 (Nat.le_trans (Nat.mul_le_mul (show k ≤ 1000 by omega) (show n * 255 ≤ 255000 by omega)) (by decide)))
  go_enter Try.func14, Try.ntmps14
  go_wp2
  go_loop [3, 4] (fun s i => ∃ k m : Nat, k ≤ n ∧ i = .int .i64 k ∧ s = .int .i64 m ∧ Hid (m = ws (l.take k)) ∧ m ≤ 255000000) (fun _ i => n - (intOf i).toNat)
  case atStart => exact ⟨0, 0, Nat.zero_le _, rfl, rfl, hid rfl, by omega⟩
  case round =>
    obtain ⟨k, m, hk, rfl, rfl, hm, hm2⟩ := hrel
    by_cases hlt : k < n
    · obtain ⟨a, rfl, _, hc⟩ := HR.out.get (show k < l.length by rw [HN.out]; exact hlt)
      obtain ⟨x, hx⟩ : ∃ x, l[k]'(by rw [HN.out]; exact hlt) = x := ⟨_, rfl⟩
      have hxb : 0 ≤ x ∧ x ≤ 255 := by rw [← hx]; exact hb.out _ (List.getElem_mem _)
      obtain ⟨y, rfl⟩ : ∃ y : Nat, x = y := ⟨x.toNat, by omega⟩
      have HW := hid (ws_take l k _ y hx)
      rw [hx] at hc
      have hp := mul_le7 k y n hlt (by omega)
      have hq : ((k : Int) + 1) * (y : Int) = (((k + 1) * y : Nat) : Int) := by simp
      have hq0 : 0 ≤ ((k : Int) + 1) * (y : Int) := by omega
      have hq1 : ((k : Int) + 1) * (y : Int) ≤ 255000 := by omega
      have HS := hid (show (m : Int) + ((k : Int) + 1) * (y : Int) = ((ws (l.take (k + 1)) : Nat) : Int) by rw [HW.out, ← rs_step, hm.out])
      have HL := hid (hle.out (k + 1) hlt)
      clear hx hq hp
      go_wp2
      rw [HS.out]
      go_round
      case rel => exact ⟨k + 1, _, by omega, by go_num, rfl, hid rfl, HL.out⟩
      case measure => simp [intOf]; omega
    · obtain rfl : k = n := by omega
      have hm' := hm.out
      rw [← HN.out, List.take_length] at hm'
      have HM := hid hm'
      clear hm hm'
      go_wp2
      go_ret
      refine ⟨?_, rfl⟩
      unfold sm
      rw [← HM.out]
      congr 1
end Go.Proofs.Ytcamlbinakompaa
