/-
  What is proved: raw's GetText over bytes that are the beginning of a text's bytes and more: the text and where it ends, or the error that the bytes end within. Conditions: the text is no longer than 64; the list is no longer than a million.
-/
import Derived.Test.YtihldenljddmoaaDoorRawY
namespace Go.Proofs.YtihldenljddmoaaDoor
open Go.RowKit

set_option maxRecDepth 100000 in
set_option maxHeartbeats 800000 in
theorem gettext_yes (A : Option Addr) (c p m k L : Nat) (l ys r : List Int) (w : World) (C : Nat) (hL : Hid (l.length = L)) (hLc : L ≤ c) (hlen : L ≤ 1000000) (hx : p ≤ L) (hb : Hid (∀ x ∈ l, 0 ≤ x ∧ x ≤ 255)) (ra : Rd w C A l) (hC : C ≤ w.heap.size)
    (hy : Hid (ys.length = m)) (hm : m ≤ 64) (hr : Hid (l.drop ((p : Int)).toNat = (enc m ++ (ys ++ r)).take k)) (hk : (enc m).length + m ≤ k) :
    Calls Tryd.prog 35 #[.slice A L c, .int .i64 p, .int .i64 64] w fun e w' => ∃ v, e = .returned (.tuple #[v, .int .i64 (p + (enc m).length + m : Nat), .int .i64 0]) ∧ Own w' w.heap.size v ys ∧ Below w.heap.size w w' := by
  have hl : p + (enc m).length + m ≤ L := by
    have h := congrArg List.length hr.out
    rw [List.length_drop, List.length_take, List.length_append, List.length_append, hy.out, hL.out] at h
    simp only [Int.toNat_natCast] at h
    omega
  have ry : ∀ B, (m ≠ 0 → B = A.map (·.add (p + (enc m).length))) → Rd w C B ys := by
    intro B hB
    have h := ra.cut (p + (enc m).length) m B hB
    have hd := hr.out
    rw [Int.toNat_natCast] at hd
    rw [← List.drop_drop, hd, List.drop_take, List.drop_left, List.take_take, Nat.min_eq_left (by omega)] at h
    rw [List.take_append_of_le_length (by rw [hy.out]; exact Nat.le_refl _), ← hy.out, List.take_length] at h
    exact h
  have RY := hid ry
  have HR := hid ra
  clear ry ra
  go_enter Tryd.func35, Tryd.ntmps35
  go_wp2_with fail
  refine (get_cut_yes A c p m k L l (ys ++ r) _ C hL (by omega) (by omega) hx hb HR.out (by omega) hr (by omega)).mono ?_
  rintro e w1 ⟨rfl, d, rfl⟩
  obtain ⟨q, hq⟩ : ∃ q, p + (enc m).length = q := ⟨_, rfl⟩
  rw [hq] at hl RY ⊢
  have HQ := hid hq
  clear hq hk
  go_wp2_with fail
  all_goals
    refine (room_any _ _ _ 0 ys _ C hy.out (by omega) (by omega) (by omega) ((RY.out _ (by intro h; first | rfl | omega)).drewN d) hC).mono ?_
    rintro e w2 ⟨v, rfl, hown, hbel⟩
    go_wp2
    go_ret3
    exact ⟨v, by have := HQ.out; simp; omega, hown, (below_drewN (Below.refl w.heap.size w) d).trans hbel⟩

set_option maxRecDepth 100000 in
set_option maxHeartbeats 800000 in
theorem gettext_no (A : Option Addr) (c p m k L : Nat) (l r : List Int) (w : World) (C : Nat) (hL : Hid (l.length = L)) (hlen : L ≤ 1000000) (hx : p ≤ L) (hb : Hid (∀ x ∈ l, 0 ≤ x ∧ x ≤ 255)) (ra : Rd w C A l)
    (hm : m ≤ 64) (hr : Hid (l.drop ((p : Int)).toNat = (enc m ++ r).take k)) (hk : ¬ (enc m).length + m ≤ k) :
    Calls Tryd.prog 35 #[.slice A L c, .int .i64 p, .int .i64 64] w fun e w' => e = .returned (.tuple #[.slice none 0 0, .int .i64 0, .int .i64 1]) ∧ ∃ d, w' = w.drewN d := by
  have hl : L ≤ p + k := by
    have h := congrArg List.length hr.out
    rw [List.length_drop, List.length_take, hL.out] at h
    simp only [Int.toNat_natCast] at h
    omega
  have HR := hid ra
  clear ra
  by_cases hk1 : (enc m).length ≤ k
  · have hl2 : p + (enc m).length ≤ L := by
      have h := congrArg List.length hr.out
      rw [List.length_drop, List.length_take, List.length_append, hL.out] at h
      simp only [Int.toNat_natCast] at h
      omega
    go_enter Tryd.func35, Tryd.ntmps35
    go_wp2_with fail
    refine (get_cut_yes A c p m k L l r _ C hL (by omega) (by omega) hx hb HR.out (by omega) hr hk1).mono ?_
    rintro e w1 ⟨rfl, d, rfl⟩
    obtain ⟨q, hq⟩ : ∃ q, p + (enc m).length = q := ⟨_, rfl⟩
    rw [hq] at hl2 ⊢
    have hq2 : L < q + m := by omega
    clear hq hk hk1
    go_wp2_with fail
    all_goals
      go_ret3
      exact ⟨rfl, d, rfl⟩
  · go_enter Tryd.func35, Tryd.ntmps35
    go_wp2_with fail
    refine (get_cut_no A c p m k L l r _ C hL (by omega) (by omega) hx hb HR.out (by omega) hr hk1).mono ?_
    rintro e w1 ⟨rfl, d, rfl⟩
    go_wp2_with fail
    go_ret3
    exact ⟨rfl, d, rfl⟩
end Go.Proofs.YtihldenljddmoaaDoor
