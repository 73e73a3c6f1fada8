/-
  What is proved: the reference's Put, Text and Join answer the number's bytes, a text's, and two lists one behind the other, in new memory. Conditions: no list is longer than 2^46.
-/
import Derived.Test.YtcamlbinakompaaApp
import Derived.Test.YtcamlbinakompaaNum
namespace Go.Proofs.Ytcamlbinakompaa
open Go.RowKit

set_option maxRecDepth 100000 in
set_option maxHeartbeats 400000 in
theorem refput_any (x : Int) (w : World) (hx : x ≤ 9223372036854775807) :
    Calls Try.prog 25 #[.int .i64 x] w fun e w' => ∃ v, e = .returned v ∧ Own w' w.heap.size v (enc x.toNat) ∧ Below w.heap.size w w' := by
  have H9 := hid (enc_len9 x.toNat (by omega))
  have hd : decide (x < 0) = true ∨ decide (x < 0) = false := by cases decide (x < 0) <;> simp
  rcases hd with hd | hd
  all_goals
    have hx0 := hd
    simp only [decide_eq_true_eq, decide_eq_false_iff_not] at hx0
    go_enter Try.func25, Try.ntmps25
    go_wp2
    go_loopw [0, 3] (fun i v wr => ∃ (m : Nat) (r : List Int), i = .int .i64 m ∧ m ≤ 9223372036854775807 ∧ Own wr w.heap.size v r ∧ Below w.heap.size w wr ∧ r ++ enc m = enc x.toNat) (fun i _ _ => (intOf i).toNat)
    case atStart => exact ⟨x.toNat, [], by congr 1; omega, by omega, own_nil _ _, Below.refl _ _, rfl⟩
    case round =>
      obtain ⟨m, r, rfl, hm, hown, hbel, heq⟩ := hrel
      have HQ := hid heq
      clear heq
      have hlr : r.length ≤ 9 := by
        have h1 := congrArg List.length HQ.out
        rw [List.length_append] at h1
        have := H9.out
        omega
      by_cases hlt : m < 128
      · go_wp2_with (at_builtin; refine wpList_app rfl _ _ rfl w.heap.size _ r (hown.alloc _) rfl _ _ _ _ [_] rfl rfl (rd_one _ _) (by omega) (by have := hbel.size; simp; omega) ?_; intro v' w2 hown2 hg2)
        go_ret
        refine ⟨_, rfl, ?_, hbel.trans ((((Below.refl wr.heap.size wr).alloc (Nat.le_refl _) _).mono hbel.size).trans (hg2.below (hown.alloc _) (by have := hbel.size; simp; omega)))⟩
        rw [← HQ.out, enc_small m hlt]
        exact hown2
      · go_wp2_with (at_builtin; refine wpList_app rfl _ _ rfl w.heap.size _ r (hown.alloc _) rfl _ _ _ _ [_] rfl rfl (rd_one _ _) (by omega) (by have := hbel.size; simp; omega) ?_; intro v' w2 hown2 hg2)
        have hb2 := hbel.trans ((((Below.refl wr.heap.size wr).alloc (Nat.le_refl _) _).mono hbel.size).trans (hg2.below (hown.alloc _) (by have := hbel.size; simp; omega)))
        go_roundw
        case rel => exact ⟨m / 128, _, by go_num, by omega, hown2, hb2, by rw [← HQ.out, enc_big m hlt]; simp; omega⟩
        case measure => simp [intOf]; omega
end Go.Proofs.Ytcamlbinakompaa
