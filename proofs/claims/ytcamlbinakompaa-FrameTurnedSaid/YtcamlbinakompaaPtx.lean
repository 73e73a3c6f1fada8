/-
  What is proved: PutText answers what was handed in and what is put behind it, in new memory. Conditions: no list is longer than 2^45.
-/
import Derived.Test.YtcamlbinakompaaPut
namespace Go.Proofs.Ytcamlbinakompaa
open Go.RowKit

set_option maxHeartbeats 400000 in
theorem puttext_any (A B : Option Addr) (n ca m cb : Nat) (xs ys : List Int) (w : World) (C D : Nat) (hn : xs.length = n) (hm : ys.length = m) (hln : n ≤ 35184372088832) (hlm : m ≤ 35184372088832)
    (rx : Rd w C A xs) (hC : C ≤ w.heap.size) (ry : Rd w D B ys) (hD : D ≤ w.heap.size) :
    Calls Try.prog 16 #[.slice A n ca, .slice B m cb] w fun e w' => ∃ v, e = .returned v ∧ Own w' w.heap.size v (xs ++ enc m ++ ys) ∧ Below w.heap.size w w' := by
  have H9 := enc_len9 m (by omega)
  go_enter Try.func16, Try.ntmps16
  go_wp2_with fail
  refine (put_any A n ca m xs _ C hn (by omega) (by omega) rx hC).mono ?_
  rintro e w1 ⟨v, rfl, hown, hbel⟩
  rw [Int.toNat_natCast] at hown
  go_wp2_with (at_builtin; refine wpList_app rfl (.tmp 8) (.tmp 9) rfl w.heap.size _ (xs ++ enc m) hown rfl D B m cb ys rfl hm (ry.below hbel hD) (by rw [List.length_append]; omega) hbel.size ?_; intro v2 w2 hown2 hg2)
  go_ret
  exact ⟨_, rfl, hown2, hbel.trans (hg2.below hown hbel.size)⟩

end Go.Proofs.Ytcamlbinakompaa
