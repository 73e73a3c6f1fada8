/-
  What is proved: raw's GetText over bytes that are the beginning of a text's bytes and more: the text and where it ends. Conditions: the text is no longer than 128; the list is no longer than a million.
-/
import Derived.Test.YtcamlbinakompaaRawY7
import Derived.Test.YtcamlbinakompaaRoom
namespace Go.Proofs.Ytcamlbinakompaa
open Go.RowKit

set_option maxRecDepth 100000 in
set_option maxHeartbeats 800000 in
theorem gettext_yes (A : Option Addr) (c p m k L : Nat) (l ys r : List Int) (w : World) (C : Nat) (hL : Hid (l.length = L)) (hLc : L ≤ c) (hlen : L ≤ 1000000) (hx : p ≤ L) (hb : Hid (∀ x ∈ l, 0 ≤ x ∧ x ≤ 255)) (ra : Rd w C A l) (hC : C ≤ w.heap.size)
    (hy : Hid (ys.length = m)) (hm : m ≤ 128) (hr : Hid (l.drop ((p : Int)).toNat = (enc m ++ (ys ++ r)).take k)) (hk : (enc m).length + m ≤ k) :
    Calls Try.prog 23 #[.slice A L c, .int .i64 p, .int .i64 128] w fun e w' => ∃ v, e = .returned (.tuple #[v, .int .i64 (p + (enc m).length + m : Nat), .int .i64 0]) ∧ Own w' w.heap.size v ys ∧ Below w.heap.size w w' := by
  have hl : p + (enc m).length + m ≤ L := by
    have h := congrArg List.length hr.out
    rw [List.length_drop, List.length_take, List.length_append, List.length_append, hy.out, hL.out] at h
    simp only [Int.toNat_natCast] at h
    omega
  have ry : ∀ B, (m ≠ 0 → B = A.map (·.add (p + (enc m).length))) → Rd w C B ys := by
    intro B hB
    have h := ra.cut (p + (enc m).length) m B hB
    have hd := hr.out
    rw [Int.toNat_natCast] at hd
    rw [← List.drop_drop, hd, List.drop_take, List.drop_left, List.take_take, Nat.min_eq_left (by omega)] at h
    rw [List.take_append_of_le_length (by rw [hy.out]; exact Nat.le_refl _), ← hy.out, List.take_length] at h
    exact h
  have RY := hid ry
  have HR := hid ra
  clear ry ra
  go_enter Try.func23, Try.ntmps23
  go_wp2_with fail
  refine (get_cut_yes A c p m k L l (ys ++ r) _ C hL (by omega) (by omega) hx hb HR.out (by omega) hr (by omega)).mono ?_
  rintro e w1 ⟨rfl, d, rfl⟩
  obtain ⟨q, hq⟩ : ∃ q, p + (enc m).length = q := ⟨_, rfl⟩
  rw [hq] at hl RY ⊢
  have HQ := hid hq
  clear hq hk
  go_wp2_with fail
  all_goals
    refine (room_any _ _ _ 0 ys _ C hy.out (by omega) (by omega) (by omega) ((RY.out _ (by intro h; first | rfl | omega)).drewN d) hC).mono ?_
    rintro e w2 ⟨v, rfl, hown, hbel⟩
    go_wp2
    go_ret3
    exact ⟨v, by have := HQ.out; simp; omega, hown, (below_drewN (Below.refl w.heap.size w) d).trans hbel⟩

end Go.Proofs.Ytcamlbinakompaa
