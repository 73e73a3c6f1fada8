/-
  What is proved: the function that makes room answers the bytes that it was handed, in new memory, and leaves all that was there alone. Conditions: the bytes, and the room asked for, are no more than 2^47.
-/
import Derived.Test.YtcamlbinakompaaApp
namespace Go.Proofs.Ytcamlbinakompaa
open Go.RowKit

set_option maxHeartbeats 400000 in
theorem room_any (A : Option Addr) (n c : Nat) (more : Int) (l : List Int) (w : World) (C : Nat) (hn : l.length = n) (hlen : n ≤ 70368744177664) (h0 : 0 ≤ more) (hmore : more ≤ 70368744177664) (ra : Rd w C A l) (hC : C ≤ w.heap.size) :
    Calls Try.prog 24 #[.slice A n c, .int .i64 more] w fun e w' => ∃ v, e = .returned v ∧ Own w' w.heap.size v l ∧ Below w.heap.size w w' := by
  obtain ⟨i, hi, hz, hs, hb⟩ := info_parts infoByte
  obtain ⟨k, rfl⟩ := Int.eq_ofNat_of_zero_le h0
  have hbk : i.bytes * (n + k) ≤ 281474976710656 := by rw [hb]; omega
  have hmk : n + k ≤ maxLen := by unfold maxLen; omega
  clear hb
  go_enter Try.func24, Try.ntmps24
  go_wp2_with (first
    | (at_make; refine wpList_make_own w rfl _ _ 22 rfl w.heap.size 5 i (.int .u8 0) 1 Try.underlying22 hi hz hs .i64 .i64 _ (n + k) rfl rfl (by omega) hbk hmk (Nat.le_refl _) ?_; intro w1 hown1 hg1)
    | (at_builtin; refine wpList_app rfl _ _ rfl w.heap.size _ [] hown1 rfl C _ _ _ l rfl hn (ra.keep fun p hp => World.cell?_of_block (hg1.block p.block (by omega) (by simp))) (by simp; omega) (by have := hg1.size; omega) ?_; intro v' w2 hown2 hg2))
  go_ret
  refine ⟨v', rfl, hown2, ?_⟩
  have hb1 : Below w.heap.size w w1 := (Below.refl _ w).grown hg1 (Nat.le_refl _) (fun k hk => by simp at hk)
  exact hb1.trans (hg2.below (l := []) hown1 hg1.size)
end Go.Proofs.Ytcamlbinakompaa
