/-
  What is proved: the reference's Join and Text, and PutText and PutTruth, answer what was handed in and what is put behind it, in new memory. Conditions: no list is longer than 2^45.
-/
import Derived.Test.YtbklimknngjcpaaRef
import Derived.Test.YtbklimknngjcpaaPut
namespace Go.Proofs.Ytbklimknngjcpaa
open Go.RowKit

set_option maxHeartbeats 400000 in
theorem join_any (A B : Option Addr) (n ca m cb : Nat) (xs ys : List Int) (w : World) (C D : Nat) (hn : xs.length = n) (hm : ys.length = m) (hln : n ≤ 35184372088832) (hlm : m ≤ 35184372088832)
    (rx : Rd w C A xs) (ry : Rd w D B ys) (hD : D ≤ w.heap.size) :
    Calls Try.prog 10 #[.slice A n ca, .slice B m cb] w fun e w' => ∃ v, e = .returned v ∧ Own w' w.heap.size v (xs ++ ys) ∧ Below w.heap.size w w' := by
  go_enter Try.func10, Try.ntmps10
  go_wp2_with (first
    | (at_builtin; refine wpList_app rfl (.tmp 6) (.tmp 7) rfl w.heap.size _ [] (own_nil _ _) rfl C A n ca xs rfl hn rx (by simp; omega) (Nat.le_refl _) ?_; intro v1 w1 hown1 hg1)
    | (at_builtin; refine wpList_app rfl (.tmp 9) (.tmp 10) rfl w.heap.size _ xs hown1 rfl D B m cb ys rfl hm (ry.below (hg1.below (own_nil w w.heap.size) (Nat.le_refl _)) hD) (by omega) (hg1.below (own_nil w w.heap.size) (Nat.le_refl _)).size ?_; intro v2 w2 hown2 hg2))
  go_ret
  exact ⟨_, rfl, hown2, (hg1.below (own_nil w w.heap.size) (Nat.le_refl _)).trans (hg2.below (l := xs) hown1 (hg1.below (own_nil w w.heap.size) (Nat.le_refl _)).size)⟩

set_option maxHeartbeats 400000 in
theorem reftext_any (A : Option Addr) (n ca : Nat) (xs : List Int) (w : World) (C : Nat) (hn : xs.length = n) (hln : n ≤ 35184372088832) (rx : Rd w C A xs) (hC : C ≤ w.heap.size) :
    Calls Try.prog 13 #[.slice A n ca] w fun e w' => ∃ v, e = .returned v ∧ Own w' w.heap.size v (enc n ++ xs) ∧ Below w.heap.size w w' := by
  have H9 := enc_len9 n (by omega)
  go_enter Try.func13, Try.ntmps13
  go_wp2_with fail
  refine (refput_any n _ (by omega)).mono ?_
  rintro e w1 ⟨v, rfl, hown, hbel⟩
  rw [Int.toNat_natCast] at hown
  go_wp2_with (at_builtin; refine wpList_app rfl (.tmp 7) (.tmp 8) rfl w.heap.size _ (enc n) hown rfl C A n ca xs rfl hn (rx.below hbel hC) (by omega) hbel.size ?_; intro v2 w2 hown2 hg2)
  go_ret
  exact ⟨_, rfl, hown2, hbel.trans (hg2.below hown hbel.size)⟩

set_option maxHeartbeats 400000 in
theorem puttext_any (A B : Option Addr) (n ca m cb : Nat) (xs ys : List Int) (w : World) (C D : Nat) (hn : xs.length = n) (hm : ys.length = m) (hln : n ≤ 35184372088832) (hlm : m ≤ 35184372088832)
    (rx : Rd w C A xs) (hC : C ≤ w.heap.size) (ry : Rd w D B ys) (hD : D ≤ w.heap.size) :
    Calls Try.prog 12 #[.slice A n ca, .slice B m cb] w fun e w' => ∃ v, e = .returned v ∧ Own w' w.heap.size v (xs ++ enc m ++ ys) ∧ Below w.heap.size w w' := by
  have H9 := enc_len9 m (by omega)
  go_enter Try.func12, Try.ntmps12
  go_wp2_with fail
  refine (put_any A n ca m xs _ C hn (by omega) (by omega) rx hC).mono ?_
  rintro e w1 ⟨v, rfl, hown, hbel⟩
  rw [Int.toNat_natCast] at hown
  go_wp2_with (at_builtin; refine wpList_app rfl (.tmp 8) (.tmp 9) rfl w.heap.size _ (xs ++ enc m) hown rfl D B m cb ys rfl hm (ry.below hbel hD) (by rw [List.length_append]; omega) hbel.size ?_; intro v2 w2 hown2 hg2)
  go_ret
  exact ⟨_, rfl, hown2, hbel.trans (hg2.below hown hbel.size)⟩

def bit (t : Bool) : Int := if t then 1 else 0

set_option maxHeartbeats 400000 in
theorem puttruth_any (A : Option Addr) (n ca : Nat) (t : Bool) (xs : List Int) (w : World) (C : Nat) (hn : xs.length = n) (hln : n ≤ 35184372088832) (rx : Rd w C A xs) (hC : C ≤ w.heap.size) :
    Calls Try.prog 14 #[.slice A n ca, .bool t] w fun e w' => ∃ v, e = .returned v ∧ Own w' w.heap.size v (xs ++ [bit t]) ∧ Below w.heap.size w w' := by
  cases t
  all_goals
    go_enter Try.func14, Try.ntmps14
    go_wp2_with fail
    refine (room_any A n ca 1 xs _ C hn (by omega) (by omega) (by omega) rx hC).mono ?_
    rintro e w1 ⟨v, rfl, hown, hbel⟩
    go_wp2_with (at_builtin; refine wpList_app rfl _ _ rfl w.heap.size _ xs (hown.alloc _) rfl _ _ _ _ [_] rfl rfl (rd_one _ _) (by omega) (by have := hbel.size; simp; omega) ?_; intro v' w2 hown2 hg2)
    go_ret
    exact ⟨_, rfl, hown2, hbel.trans ((((Below.refl w1.heap.size w1).alloc (Nat.le_refl _) _).mono hbel.size).trans (hg2.below (hown.alloc _) (by have := hbel.size; simp; omega)))⟩
end Go.Proofs.Ytbklimknngjcpaa
