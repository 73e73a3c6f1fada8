/-
  What is proved: the fixed fact that each statement of this layer asks first holds: with a fuse of 1 the second write tells that the disk is down. No condition.
-/
import Derived.Test.YtfhejadlkooklaaDIo
import Derived.Test.YtfhejadlkooklaaSame
namespace Go.Proofs.Ytfhejadlkooklaa
open Go.RowKit

theorem rn_one (w : World) (x : Int) : Rn (w.alloc (.cells #[.int .u8 x] 5)) (some ⟨w.heap.size, 0, none⟩) [x] := by
  intro j u hu
  have hj : j = 0 := by
    rcases Nat.lt_or_ge j 1 with h | h
    · omega
    · rw [List.getElem?_eq_none (by simpa using h)] at hu; cases hu
  subst hj
  refine ⟨_, rfl, by rw [World.size_alloc]; exact Nat.lt_succ_self _, ?_⟩
  simp only [List.getElem?_cons_zero, Option.some.injEq] at hu
  subst hu
  exact World.cell?_alloc_new _ _ _ 0

set_option maxHeartbeats 400000 in
theorem wakes_any (w : World) : Calls Try.prog 7 #[] w fun e w' => e = .returned (.bool true) ∧ Below w.heap.size w w' := by
  go_enter Try.func7, Try.ntmps7
  go_wp2_with fail
  refine (new_any 2 _).mono ?_
  rintro e w1 ⟨k, v, rfl, hk, hb⟩
  have K1 := hid hk
  have B1 := hid hb
  clear hk hb
  go_wp2_with fail
  refine (fuse_any K1.out 1 ⟨by omega, by omega⟩).mono ?_
  rintro e w2 ⟨rfl, hk, ho⟩
  have hk' : Dk w2 49 w.heap.size k v ⟨[[], []], 1, false⟩ := hk
  have K2 := hid hk'
  have B2 := hid (B1.out.trans (K1.out.onlyBel ho B1.out.size))
  clear hk hk' ho K1 B1
  have R1 := hid (rn_one w2 1)
  have K3 := hid (K2.out.below (below_alloc w2 (.cells #[.int .u8 1] 5)))
  have B3 := hid (on B2.out (below_alloc w2 (.cells #[.int .u8 1] 5)))
  clear K2 B2
  go_wp2_with fail
  refine (write_any K3.out 0 _ 1 1 [1] rfl (by omega) R1.out).mono ?_
  rintro e w3 ⟨rfl, hk, ho⟩
  have hk' : Dk w3 49 w.heap.size k v ⟨[[1], []], 0, false⟩ := hk
  have ht : St.told (⟨[[], []], 1, false⟩ : St) 0 [1] = 0 := rfl
  rw [ht]
  have K2 := hid hk'
  have B2 := hid (B3.out.trans (K3.out.onlyBel ho B3.out.size))
  have R1 := hid (rn_one w3 1)
  have K3 := hid (K2.out.below (below_alloc w3 (.cells #[.int .u8 1] 5)))
  have B3 := hid (on B2.out (below_alloc w3 (.cells #[.int .u8 1] 5)))
  clear hk hk' ho K2 B2 ht
  go_wp2_with fail
  refine (write_any K3.out 1 _ 1 1 [1] rfl (by omega) R1.out).mono ?_
  rintro e w4 ⟨rfl, hk, ho⟩
  have hk' : Dk w4 49 w.heap.size k v ⟨[[1], []], 0, true⟩ := hk
  have ht : St.told (⟨[[1], []], 0, false⟩ : St) 1 [1] = 8 := rfl
  rw [ht]
  have K2 := hid hk'
  have B2 := hid (B3.out.trans (K3.out.onlyBel ho B3.out.size))
  clear hk hk' ho K3 B3 ht
  go_wp2_with (go_at_call 16; refine (down_any K2.out).mono ?_; rintro e w5 ⟨rfl, rfl⟩)
  go_ret
  exact ⟨rfl, B2.out⟩

set_option maxHeartbeats 400000 in
theorem nil_walk (i : Int) (A : Option Addr) (n c : Nat) (w : World) :
    Calls Try.prog 5 #[.int .i64 i, .slice A n c] w fun e w' => e = .returned (.bool true) ∧ Below w.heap.size w w' := by
  have N1 : ∀ W : World, Calls Try.prog 14 #[.pointer none, .int .i64 i] W fun e w' => e = .returned (.tuple #[]) ∧ W = w' := fun W => by
    go_enter Try.func14, Try.ntmps14
    go_wp2
    exact bodyPost_ret (results_none rfl _ _ _) rfl ⟨rfl, rfl⟩
  have N2 : ∀ W : World, Calls Try.prog 15 #[.pointer none] W fun e w' => e = .returned (.tuple #[]) ∧ W = w' := fun W => by
    go_enter Try.func15, Try.ntmps15
    go_wp2
    exact bodyPost_ret (results_none rfl _ _ _) rfl ⟨rfl, rfl⟩
  have N3 : ∀ W : World, Calls Try.prog 18 #[.pointer none, .int .i64 i] W fun e w' => e = .returned (.tuple #[.slice none 0 0, .int .i64 7]) ∧ W = w' := fun W => by
    go_enter Try.func18, Try.ntmps18
    go_wp2
    go_ret2
    exact ⟨rfl, rfl⟩
  have N4 : ∀ W : World, Calls Try.prog 11 #[.pointer none, .int .i64 i, .slice A n c] W fun e w' => e = .returned (.int .i64 7) ∧ W = w' := fun W => by
    go_enter Try.func11, Try.ntmps11
    go_wp2
    go_ret
    exact ⟨rfl, rfl⟩
  have N5 : ∀ W : World, Calls Try.prog 17 #[.pointer none] W fun e w' => e = .returned (.int .i64 0) ∧ W = w' := fun W => by
    go_enter Try.func17, Try.ntmps17
    go_wp2
    go_ret
    exact ⟨rfl, rfl⟩
  have N6 : ∀ W : World, Calls Try.prog 16 #[.pointer none] W fun e w' => e = .returned (.bool false) ∧ W = w' := fun W => by
    go_enter Try.func16, Try.ntmps16
    go_wp2
    go_ret
    exact ⟨rfl, rfl⟩
  have M1 := hid N1
  have M2 := hid N2
  have M3 := hid N3
  have M4 := hid N4
  have M5 := hid N5
  have M6 := hid N6
  clear N1 N2 N3 N4 N5 N6
  go_enter Try.func5, Try.ntmps5
  go_wp2_with (first
    | (go_at_call 7; refine (wakes_any _).mono ?_; rintro e w1 ⟨rfl, hb⟩; have HB := hid hb; clear hb)
    | (go_at_call 14; refine (M1.out _).mono ?_; rintro e w' ⟨rfl, rfl⟩)
    | (go_at_call 15; refine (M2.out _).mono ?_; rintro e w' ⟨rfl, rfl⟩)
    | (go_at_call 18; refine (M3.out _).mono ?_; rintro e w' ⟨rfl, rfl⟩)
    | (go_at_call 11; refine (M4.out _).mono ?_; rintro e w' ⟨rfl, rfl⟩)
    | (go_at_call 17; refine (M5.out _).mono ?_; rintro e w' ⟨rfl, rfl⟩)
    | (go_at_call 16; refine (M6.out _).mono ?_; rintro e w' ⟨rfl, rfl⟩))
  go_ret
  exact ⟨rfl, HB.out⟩
end Go.Proofs.Ytfhejadlkooklaa
