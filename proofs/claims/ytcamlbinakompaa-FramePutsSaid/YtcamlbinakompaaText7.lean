/-
  What is proved: the reference's Text answers what was handed in and what is put behind it, in new memory. Conditions: no list is longer than 2^45.
-/
import Derived.Test.YtcamlbinakompaaRef
import Derived.Test.YtcamlbinakompaaPtx
namespace Go.Proofs.Ytcamlbinakompaa
open Go.RowKit

set_option maxHeartbeats 400000 in
theorem reftext_any (A : Option Addr) (n ca : Nat) (xs : List Int) (w : World) (C : Nat) (hn : xs.length = n) (hln : n ≤ 35184372088832) (rx : Rd w C A xs) (hC : C ≤ w.heap.size) :
    Calls Try.prog 26 #[.slice A n ca] w fun e w' => ∃ v, e = .returned v ∧ Own w' w.heap.size v (enc n ++ xs) ∧ Below w.heap.size w w' := by
  have H9 := enc_len9 n (by omega)
  go_enter Try.func26, Try.ntmps26
  go_wp2_with fail
  refine (refput_any n _ (by omega)).mono ?_
  rintro e w1 ⟨v, rfl, hown, hbel⟩
  rw [Int.toNat_natCast] at hown
  go_wp2_with (at_builtin; refine wpList_app rfl (.tmp 7) (.tmp 8) rfl w.heap.size _ (enc n) hown rfl C A n ca xs rfl hn (rx.below hbel hC) (by omega) hbel.size ?_; intro v2 w2 hown2 hg2)
  go_ret
  exact ⟨_, rfl, hown2, hbel.trans (hg2.below hown hbel.size)⟩

end Go.Proofs.Ytcamlbinakompaa
