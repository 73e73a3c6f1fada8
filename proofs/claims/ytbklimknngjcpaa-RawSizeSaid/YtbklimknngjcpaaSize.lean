/-
  What is proved: the walk of RawSize: a number has as many bytes as its bits need, seven a byte, at least one. No condition but that the number fits its kind.
-/
import Derived.Test.YtbklimknngjcpaaWakes
namespace Go.Proofs.Ytbklimknngjcpaa
open Go.RowKit

/-- how many bytes more a number's bits need, when it is 0 none -/
def more (n : Nat) : Nat := if n = 0 then 0 else (enc n).length
theorem more_zero : more 0 = 0 := rfl
theorem more_step (n : Nat) : 1 + more (n / 128) = (enc n).length := by
  unfold more
  by_cases h : n < 128
  · rw [enc_small n h, if_pos (by omega)]; rfl
  · rw [enc_big n h, if_neg (by omega), List.length_cons]; omega
theorem more_pos (n : Nat) (h : 0 < n) : more n = 1 + more (n / 128) := by
  rw [more_step]; unfold more; rw [if_neg (by omega)]

set_option maxRecDepth 100000 in
set_option maxHeartbeats 400000 in
theorem size_walk (x : Int) (h0 : 0 ≤ x) (h1 : x ≤ 4294967295) (w : World) :
    Calls Try.prog 6 #[.int .u32 x] w fun e w' => e = .returned (.bool true) ∧ Below w.heap.size w w' := by
  obtain ⟨n, rfl⟩ := Int.eq_ofNat_of_zero_le h0
  go_enter Try.func6, Try.ntmps6
  go_wp2_with fail
  refine (wakes_any _).mono ?_
  rintro e w1 ⟨rfl, hbel⟩
  go_wp2
  have H := hid (more_step n)
  have H9 := hid (enc_len9 n (by omega))
  go_loop [3, 4] (fun c x => ∃ k m : Nat, c = .int .i64 k ∧ x = .int .u32 m ∧ m ≤ 4294967295 ∧ k + more m = (enc n).length) (fun _ x => (intOf x).toNat)
  case atStart => exact ⟨1, n / 128, rfl, by go_num, by omega, H.out⟩
  case round =>
    obtain ⟨k, m, rfl, rfl, hm, hk⟩ := hrel
    have hk9 : k ≤ 9 := by have := H9.out; omega
    have HK := hid hk
    clear hk
    by_cases hlt : 0 < m
    · have HM := hid (more_pos m hlt)
      go_wp2
      go_round
      case rel => exact ⟨k + 1, m / 128, by go_num, by go_num, by omega, by rw [← HK.out, HM.out]; omega⟩
      case measure => simp [intOf]; omega
    · have h00 : m = 0 := by omega
      subst h00
      have hk0 := HK.out
      rw [more_zero, Nat.add_zero] at hk0
      have HK0 := hid hk0
      clear hk0
      go_wp2_with fail
      refine (put_any none 0 0 n [] _ 0 rfl (by omega) (by omega) (Rd.nil _ _ _) (by omega)).mono ?_
      rintro e w2 ⟨v, rfl, hown, hbel2⟩
      rw [show ([] : List Int) ++ enc (n : Int).toNat = enc n from rfl] at hown
      obtain ⟨A, c, rfl, _⟩ := hown.shape
      rw [← HK0.out]
      go_wp2
      go_ret
      exact ⟨by simp, hbel.trans (hbel2.mono hbel.size)⟩
end Go.Proofs.Ytbklimknngjcpaa
