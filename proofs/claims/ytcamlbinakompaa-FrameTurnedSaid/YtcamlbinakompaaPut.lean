/-
  What is proved: Put answers the bytes that it was handed, and the number's own behind them, in new memory. Conditions: the bytes are no more than 2^46; a negative number counts as 0.
-/
import Derived.Test.YtcamlbinakompaaRoom
import Derived.Test.YtcamlbinakompaaNum
import Derived.ScopeJumps
namespace Go.Proofs.Ytcamlbinakompaa
open Go.RowKit

set_option maxRecDepth 100000 in
set_option maxHeartbeats 400000 in
theorem put_any (A : Option Addr) (n c : Nat) (x : Int) (l : List Int) (w : World) (C : Nat) (hn : l.length = n) (hlen : n ≤ 70368744177000) (hx : x ≤ 9223372036854775807) (ra : Rd w C A l) (hC : C ≤ w.heap.size) :
    Calls Try.prog 15 #[.slice A n c, .int .i64 x] w fun e w' => ∃ v, e = .returned v ∧ Own w' w.heap.size v (l ++ enc x.toNat) ∧ Below w.heap.size w w' := by
  go_enter Try.func15, Try.ntmps15
  go_wp2
  refine wp_scope_jumps 0 (fun a' w' => ∃ (m : Nat) (v : Value) (r : List Int) (u2 u3 u4 u6 u7 u8 u9 u10 u11 u12 u13 u14 u15 u16 u17 u18 u19 u20 u21 u22 u23 u24 : Value), a' = { tmps := #[.slice A n c, .int .i64 m, u2, u3, u4, v, u6, u7, u8, u9, u10, u11, u12, u13, u14, u15, u16, u17, u18, u19, u20, u21, u22, u23, u24], defers := [] } ∧
    Own w' w.heap.size v r ∧ Below w.heap.size w w' ∧ r ++ [(m : Int)] = l ++ enc x.toNat ∧ m < 128) (fun _ _ => 0) rfl ?_ ?_
  · go_wp2_with (go_at_call 24; refine (room_any A n c 9 l _ C hn (by omega) (by omega) (by omega) ra hC).mono ?_; rintro e w1 ⟨v, rfl, hown, hbel⟩)
    all_goals
      have H9 := hid (enc_len9 x.toNat (by omega))
      go_loopw [1, 5] (fun i v wr => ∃ (m : Nat) (r : List Int), i = .int .i64 m ∧ m ≤ 9223372036854775807 ∧ Own wr w.heap.size v r ∧ Below w.heap.size w wr ∧ r ++ enc m = l ++ enc x.toNat) (fun i _ _ => (intOf i).toNat)
      case atStart => exact ⟨x.toNat, l, by congr 1; omega, by omega, hown, hbel, rfl⟩
      case round =>
        obtain ⟨m, r, rfl, hm, hown, hbel, heq⟩ := hrel
        have HQ := hid heq
        clear heq
        have hlr : r.length ≤ n + 9 := by
          have h1 := congrArg List.length HQ.out
          rw [List.length_append, List.length_append] at h1
          have := H9.out
          omega
        by_cases hlt : m < 128
        · go_wp2
          go_step3
          exact ⟨rfl, m, _, r, _, _, _, _, _, _, _, _, _, _, _, _, _, _, _, _, _, _, _, _, _, _, rfl, hown, hbel, by rw [← HQ.out, enc_small m hlt], hlt⟩
        · go_wp2_with (at_builtin; refine wpList_app rfl _ _ rfl w.heap.size _ r (hown.alloc _) rfl _ _ _ _ [_] rfl rfl (rd_one _ _) (by omega) (by have := hbel.size; simp; omega) ?_; intro v' w2 hown2 hg2)
          rw [or128 m] at hown2
          have hb2 := hbel.trans ((((Below.refl wr.heap.size wr).alloc (Nat.le_refl _) _).mono hbel.size).trans (hg2.below (hown.alloc _) (by have := hbel.size; simp; omega)))
          go_roundw
          case rel => exact ⟨m / 128, _, by go_num, by omega, hown2, hb2, by rw [← HQ.out, enc_big m hlt]; simp⟩
          case measure => simp [intOf]; omega
  · rintro a' w' ⟨m, v, r, u2, u3, u4, u6, u7, u8, u9, u10, u11, u12, u13, u14, u15, u16, u17, u18, u19, u20, u21, u22, u23, u24, rfl, hown, hbel, heq, hm⟩
    have HQ := hid heq
    clear heq
    have H9 := hid (enc_len9 x.toNat (by omega))
    have hlr : r.length ≤ n + 9 := by
      have h1 := congrArg List.length HQ.out
      rw [List.length_append, List.length_append] at h1
      have := H9.out
      simp at h1
      omega
    go_wp2_with (at_builtin; refine wpList_app rfl _ _ rfl w.heap.size _ r (hown.alloc _) rfl _ _ _ _ [_] rfl rfl (rd_one _ _) (by omega) (by have := hbel.size; simp; omega) ?_; intro v' w2 hown2 hg2)
    simp only [Exit.jump]
    rw [HQ.out] at hown2
    go_ret
    exact ⟨_, rfl, hown2, hbel.trans ((((Below.refl w'.heap.size w').alloc (Nat.le_refl _) _).mono hbel.size).trans (hg2.below (hown.alloc _) (by have := hbel.size; simp; omega)))⟩
end Go.Proofs.Ytcamlbinakompaa
