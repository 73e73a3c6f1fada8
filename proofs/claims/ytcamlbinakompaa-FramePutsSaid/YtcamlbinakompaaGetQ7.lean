/-
  What is proved: Get over bytes that are the beginning of a number's bytes and more: the number and where it ends, or the error that the bytes end within. Conditions: the place lies in the list; the list is no longer than 2^45.
-/
import Derived.Test.YtcamlbinakompaaGetP
namespace Go.Proofs.Ytcamlbinakompaa
open Go.RowKit

theorem scan_short : ∀ (j k m : Nat), k < (enc m).length → scan j ((enc m).take k) = none := by
  intro j
  induction j with
  | zero => intro k m _; rfl
  | succ j ih =>
    intro k m h
    cases k with
    | zero => rfl
    | succ k =>
      by_cases hm : m < 128
      · rw [enc_small m hm] at h; simp at h
      · rw [enc_big m hm] at h ⊢
        have h3 : ¬ (((m % 128 + 128 : Nat) : Int) < 128) := by omega
        simp only [List.take_succ_cons, scan, h3, if_false]
        rw [ih k (m / 128) (by simpa using h)]
        rfl

set_option maxRecDepth 100000 in
theorem get_cut (A : Option Addr) (c : Nat) (x : Int) (m k : Nat) (l r : List Int) (w : World) (C : Nat) (hlen : l.length ≤ 70368744177000) (h0 : 0 ≤ x) (hx : x ≤ l.length) (hb : Hid (∀ x ∈ l, 0 ≤ x ∧ x ≤ 255)) (ra : Rd w C A l)
    (hm : m ≤ 9223372036854775807) (hr : Hid (l.drop x.toNat = (enc m ++ r).take k)) :
    Calls Try.prog 22 #[.slice A l.length c, .int .i64 x] w fun e w' =>
      (((enc m).length ≤ k ∧ e = .returned (.tuple #[.int .i64 (m : Nat), .int .i64 (x.toNat + (enc m).length : Nat), .int .i64 0])) ∨
       (k < (enc m).length ∧ e = .returned (.tuple #[.int .i64 0, .int .i64 0, .int .i64 1]))) ∧ ∃ d, w' = w.drewN d := by
  obtain ⟨p, rfl⟩ := Int.eq_ofNat_of_zero_le h0
  rw [Int.toNat_natCast] at hr ⊢
  have h9 := enc_len9 m (by omega)
  have hl := congrArg List.length hr.out
  rw [List.length_drop, List.length_take, List.length_append] at hl
  refine (get_any A c p l w C hlen (by omega) hb.out ra).mono ?_
  by_cases hk : (enc m).length ≤ k
  · have hs : scan 9 (l.drop p) = some (enc m) := by
      rw [hr.out, List.take_append, List.take_of_length_le hk]
      exact scan_enc 9 m _ (by simp only [Nat.reducePow]; omega) (by omega)
    rintro e w' ⟨⟨t, ht, _, rfl⟩ | ⟨ht, _⟩ | ⟨ht, _⟩ | ⟨t, ht, hg, _⟩, hd⟩
    · rw [hs] at ht
      cases ht
      rw [val_enc]
      exact ⟨.inl ⟨hk, rfl⟩, hd⟩
    · rw [hs] at ht; cases ht
    · rw [hs] at ht; cases ht
    · rw [hs] at ht
      cases ht
      exact absurd (enc_good m) hg
  · have hs : scan 9 (l.drop p) = none := by
      rw [hr.out, List.take_append_of_le_length (by omega)]
      exact scan_short 9 k m (by omega)
    rintro e w' ⟨⟨t, ht, _, rfl⟩ | ⟨ht, _, rfl⟩ | ⟨ht, hh, _⟩ | ⟨t, ht, hg, _⟩, hd⟩
    · rw [hs] at ht; cases ht
    · exact ⟨.inr ⟨by omega, rfl⟩, hd⟩
    · omega
    · rw [hs] at ht; cases ht

end Go.Proofs.Ytcamlbinakompaa
