/-
  What is proved: wide's Right, Compare and compare answer on two fractions what the whole numbers' products across say; what they write lies in new memory. No condition.
  (Left out here, as nothing of this law reaches it: compare_no, compare_yes.) -/
import Derived.Test.YtcibhmbneedghaaParts
import Derived.Test.YtcibhmbneedghaaMem
import Derived.Deep.RegionWith
namespace Go.Proofs.Ytcibhmbneedghaa
open Go.RowKit

/-- a number that a fraction may have -/
def plain (x : Int) : Prop := 0 ≤ x ∧ x ≤ 2147483647
instance (x : Int) : Decidable (plain x) := inferInstanceAs (Decidable (_ ∧ _))
/-- a fraction that may be -/
def okF (t b : Int) : Prop := plain t ∧ plain b ∧ 0 < b
instance (t b : Int) : Decidable (okF t b) := inferInstanceAs (Decidable (_ ∧ _))

/-- two structs of two cells, each in a new block -/
def two (w : World) (t : TypeId) (a b c d : Value) : World := (w.alloc (.cells #[a, b] t)).alloc (.cells #[c, d] t)
theorem two_size (w : World) (t : TypeId) (a b c d : Value) : (two w t a b c d).heap.size = w.heap.size + 1 + 1 := by
  unfold two; rw [World.size_alloc, World.size_alloc]
theorem two_below (w : World) (t : TypeId) (a b c d : Value) : Below w.heap.size w (two w t a b c d) :=
  ((Below.refl w.heap.size w).alloc (Nat.le_refl _) _).alloc (by rw [World.size_alloc]; omega) _
theorem two_kept {w w1 : World} {t : TypeId} {a b c d : Value} (h : Below (two w t a b c d).heap.size (two w t a b c d) w1) :
    (w1.cell? ⟨w.heap.size, 0, none⟩ = some a ∧ w1.cell? ⟨w.heap.size, 1, none⟩ = some b) ∧ (w1.cell? ⟨w.heap.size + 1, 0, none⟩ = some c ∧ w1.cell? ⟨w.heap.size + 1, 1, none⟩ = some d) ∧ Below w.heap.size w w1 ∧ w.heap.size + 2 ≤ w1.heap.size := by
  have hs := two_size w t a b c d
  have k0 : ∀ i, w1.cell? ⟨w.heap.size, i, none⟩ = #[a, b][i]? := fun i => by
    rw [h.cell (p := ⟨w.heap.size, i, none⟩) (by rw [hs]; show w.heap.size < _; omega)]
    unfold two
    rw [World.cell?_alloc2_first]
  have k1 : ∀ i, w1.cell? ⟨w.heap.size + 1, i, none⟩ = #[c, d][i]? := fun i => by
    rw [h.cell (p := ⟨w.heap.size + 1, i, none⟩) (by rw [hs]; show w.heap.size + 1 < _; omega)]
    unfold two
    rw [World.cell?_alloc2_new]
  exact ⟨⟨k0 0, k0 1⟩, ⟨k1 0, k1 1⟩, (two_below w t a b c d).trans (h.mono (by rw [hs]; omega)), by have := h.size; omega⟩

theorem right_any (w : World) (t b : Int) :
    Calls Try.prog 50 #[.agg #[.int .i64 t, .int .i64 b]] w fun e w' => e = .returned (.bool (decide (okF t b))) ∧ Below w.heap.size w w' := by
  have hbel := fun o => (Below.refl w.heap.size w).alloc (Nat.le_refl _) o
  by_cases ht : 0 ≤ t ∧ t ≤ 2147483647
  · by_cases hb : 0 ≤ b ∧ b ≤ 2147483647
    · by_cases h0 : b > 0
      · go_enter Try.func50, Try.ntmps50
        go_wp2_with fail
        refine (factor_any _ t).mono ?_
        rintro e w1 ⟨rfl, rfl⟩
        rw [decide_eq_true ht]
        go_wp2_with fail
        refine (factor_any _ b).mono ?_
        rintro e w1 ⟨rfl, rfl⟩
        rw [decide_eq_true hb]
        go_wp2
        go_ret
        exact ⟨(decide_eq_true (show okF t b from ⟨ht, hb, h0⟩)).symm ▸ rfl, hbel _⟩
      · have hd : decide (b > 0) = false := decide_eq_false h0
        go_enter Try.func50, Try.ntmps50
        go_wp2_with fail
        refine (factor_any _ t).mono ?_
        rintro e w1 ⟨rfl, rfl⟩
        rw [decide_eq_true ht]
        go_wp2_with fail
        refine (factor_any _ b).mono ?_
        rintro e w1 ⟨rfl, rfl⟩
        rw [decide_eq_true hb]
        go_wp2
        go_ret
        exact ⟨(decide_eq_false (show ¬ okF t b from fun h => absurd h.2.2 (by omega))).symm ▸ rfl, hbel _⟩
    · go_enter Try.func50, Try.ntmps50
      go_wp2_with fail
      refine (factor_any _ t).mono ?_
      rintro e w1 ⟨rfl, rfl⟩
      rw [decide_eq_true ht]
      go_wp2_with fail
      refine (factor_any _ b).mono ?_
      rintro e w1 ⟨rfl, rfl⟩
      rw [decide_eq_false hb]
      go_wp2
      go_ret
      exact ⟨(decide_eq_false (show ¬ okF t b from fun h => hb h.2.1)).symm ▸ rfl, hbel _⟩
  · go_enter Try.func50, Try.ntmps50
    go_wp2_with fail
    refine (factor_any _ t).mono ?_
    rintro e w1 ⟨rfl, rfl⟩
    rw [decide_eq_false ht]
    go_wp2
    go_ret
    exact ⟨(decide_eq_false (show ¬ okF t b from fun h => ht h.1)).symm ▸ rfl, hbel _⟩

/-- how two numbers compare: -1, 0, 1 -/
def cmpI (x y : Nat) : Int := if x < y then -1 else if y < x then 1 else 0

theorem cmpcmp_any (w : World) (x y : Nat) :
    Calls Try.prog 57 #[.int .i64 x, .int .i64 y] w fun e w' => e = .returned (.int .i64 (cmpI x y)) ∧ w' = w := by
  have hn : ∀ (w : World) (z : Int), Calls Try.prog 61 #[.int .i64 z] w fun e w' => e = .returned (.bool false) ∧ w' = w := by
    intro w z
    go_enter Try.func61, Try.ntmps61
    go_wp2
    go_ret
    exact ⟨rfl, rfl⟩
  unfold cmpI
  by_cases h : x < y
  · rw [if_pos h]
    have h' : (x : Int) < (y : Int) := by omega
    go_enter Try.func57, Try.ntmps57
    go_wp2_with fail
    refine (hn _ _).mono ?_
    rintro e w1 ⟨rfl, rfl⟩
    go_wp2_with fail
    refine (hn _ _).mono ?_
    rintro e w1 ⟨rfl, rfl⟩
    go_wp2
    go_ret
    exact ⟨rfl, rfl⟩
  · rw [if_neg h]
    have h' : ¬ (x : Int) < (y : Int) := by omega
    by_cases g : y < x
    · rw [if_pos g]
      have g' : (x : Int) > (y : Int) := by omega
      go_enter Try.func57, Try.ntmps57
      go_wp2_with fail
      refine (hn _ _).mono ?_
      rintro e w1 ⟨rfl, rfl⟩
      go_wp2_with fail
      refine (hn _ _).mono ?_
      rintro e w1 ⟨rfl, rfl⟩
      go_wp2
      go_ret
      exact ⟨rfl, rfl⟩
    · rw [if_neg g]
      have g' : ¬ (x : Int) > (y : Int) := by omega
      go_enter Try.func57, Try.ntmps57
      go_wp2_with fail
      refine (hn _ _).mono ?_
      rintro e w1 ⟨rfl, rfl⟩
      go_wp2_with fail
      refine (hn _ _).mono ?_
      rintro e w1 ⟨rfl, rfl⟩
      go_wp2
      go_ret
      exact ⟨rfl, rfl⟩

theorem lcompare_any (w : World) (t b s c : Nat) (ht : t ≤ 2147483647) (hb : b ≤ 2147483647) (hs : s ≤ 2147483647) (hc : c ≤ 2147483647) :
    Calls Try.prog 53 #[.agg #[.int .i64 t, .int .i64 b], .agg #[.int .i64 s, .int .i64 c]] w fun e w' => e = .returned (.int .i64 (cmpI (t * c) (s * b))) ∧ Below w.heap.size w w' := by
  go_enter Try.func53, Try.ntmps53
  go_wp2_with fail
  refine (mul_yes _ t c ht hc).mono ?_
  rintro e w1 ⟨rfl, rfl⟩
  go_wp2_with fail
  refine (mul_yes _ s b hs hb).mono ?_
  rintro e w1 ⟨rfl, rfl⟩
  go_wp2_with fail
  refine (cmpcmp_any _ (t * c) (s * b)).mono ?_
  rintro e w1 ⟨rfl, rfl⟩
  go_wp2
  go_ret
  exact ⟨rfl, two_below _ _ _ _ _ _⟩

























































end Go.Proofs.Ytcibhmbneedghaa
