/-
  What is proved: small facts on hints: a slice of hints as cells, when hints may be; a row of cells of the call's own that is written to. No condition on a program.
-/
import Derived.Test.YtibppolcchhmaaaK03
import Derived.Test.YtibppolcchhmaaaK02
import Derived.Test.YtibppolcchhmaaaRows
namespace Go.Proofs.Ytibppolcchhmaaa
open Go.RowKit


structure Hn where
  f : Int
  s : Int
  o : Int
  l : Bool

/-- a hint's cells -/
def hv (h : Hn) : List Value := [.int .i64 h.f, .int .i64 h.s, .int .i64 h.o, .bool h.l]
/-- the hints' cells, one behind the other -/
def hvs (h : Nat → Hn) : Nat → List Value
  | 0 => []
  | n + 1 => hvs h n ++ hv (h n)
theorem hvs_length (h : Nat → Hn) : ∀ n, (hvs h n).length = n * 4
  | 0 => rfl
  | n + 1 => by rw [hvs, List.length_append, hvs_length h n]; simp [hv]; omega
theorem hvs_one (h : Nat → Hn) : ∀ n, ∀ u ∈ hvs h n, u.oneCell' = true
  | 0 => fun u hu => by simp [hvs] at hu
  | n + 1 => fun u hu => by
    rw [hvs, List.mem_append] at hu
    rcases hu with hu | hu
    · exact hvs_one h n u hu
    · simp [hv] at hu
      rcases hu with rfl | rfl | rfl | rfl <;> rfl
theorem hvs_at (h : Nat → Hn) : ∀ n i, i < n → (hvs h n)[i * 4]? = some (.int .i64 (h i).f) ∧ (hvs h n)[i * 4 + 1]? = some (.int .i64 (h i).s) ∧ (hvs h n)[i * 4 + 2]? = some (.int .i64 (h i).o) ∧ (hvs h n)[i * 4 + 3]? = some (.bool (h i).l)
  | 0, i, hi => absurd hi (Nat.not_lt_zero i)
  | n + 1, i, hi => by
    rw [hvs]
    have hl := hvs_length h n
    by_cases e : i = n
    · subst e
      rw [List.getElem?_append_right (by omega), List.getElem?_append_right (by omega), List.getElem?_append_right (by omega), List.getElem?_append_right (by omega), hl, Nat.sub_self, show i * 4 + 1 - i * 4 = 1 by omega, show i * 4 + 2 - i * 4 = 2 by omega, show i * 4 + 3 - i * 4 = 3 by omega]
      exact ⟨rfl, rfl, rfl, rfl⟩
    · rw [List.getElem?_append_left (by omega), List.getElem?_append_left (by omega), List.getElem?_append_left (by omega), List.getElem?_append_left (by omega)]
      exact hvs_at h n i (by omega)
theorem hvs_congr {h k : Nat → Hn} : ∀ n, (∀ i, i < n → h i = k i) → hvs h n = hvs k n
  | 0, _ => rfl
  | n + 1, e => by rw [hvs, hvs, hvs_congr n fun i hi => e i (by omega), e n (by omega)]

/-- a hint may be, of so many blocks -/
def okH (h : Hn) (b : Int) : Prop := 0 ≤ h.f ∧ 1 ≤ h.s ∧ h.f + h.s ≤ b ∧ h.f + h.s ≤ 32 ∧ 0 ≤ h.o ∧ h.o ≤ 2147483647
/-- a block that two hints have -/
def Has (h : Hn) (x : Nat) : Prop := h.f ≤ (x : Int) ∧ (x : Int) < h.f + h.s
/-- hints may be, of so many blocks -/
def HintsP (h : Nat → Hn) (n : Nat) (b : Int) : Prop :=
  n ≤ 8 ∧ (∀ i, i < n → okH (h i) b) ∧ ∀ i, i < n → ∀ k, k < i → ∀ x, ¬ (Has (h i) x ∧ Has (h k) x)

/-- the cells of block k, n of them, hold f's values and may be written to -/
structure Arr (w : World) (k n : Nat) (f : Nat → Value) : Prop where
  lt : k < w.heap.size
  cell : ∀ i, i < n → w.cell? ⟨k, i, none⟩ = some (f i)
  free : ∀ i, i < n → w.frozen? ⟨k, i, none⟩ = false
section
variable {w w' : World} {k n : Nat} {f g : Nat → Value}
theorem Arr.below (h : Arr w k n f) (hb : Below w.heap.size w w') : Arr w' k n f where
  lt := Nat.lt_of_lt_of_le h.lt hb.size
  cell := fun i hi => (hb.cell (p := ⟨k, i, none⟩) h.lt).trans (h.cell i hi)
  free := fun i hi => (hb.frozen (p := ⟨k, i, none⟩) h.lt).trans (h.free i hi)
theorem Arr.alloc (h : Arr w k n f) (o : Obj) : Arr (w.alloc o) k n f := h.below (below_alloc w o)
theorem Arr.alike (h : Arr w k n f) (e : ∀ i, i < n → g i = f i) : Arr w k n g := ⟨h.lt, fun i hi => by rw [e i hi]; exact h.cell i hi, h.free⟩
theorem Arr.set (h : Arr w k n f) {i : Nat} (hi : i < n) (u : Value) : Arr (w.setCell ⟨k, i, none⟩ u) k n (fun t => if t = i then u else f t) where
  lt := by have := h.lt; unfold World.setCell; split <;> simpa using this
  cell := fun t ht => by
    by_cases e : t = i
    · subst e
      rw [World.cell?_setCell_same _ _ _ (h.cell t ht), if_pos rfl]
    · rw [World.cell?_setCell_other _ _ _ _ (by intro q; injection q with _ q; exact e q.symm), if_neg e]
      exact h.cell t ht
  free := fun t ht => by rw [World.frozen?_setCell]; exact h.free t ht
theorem Arr.far (h : Arr w k n f) (a : Addr) (u : Value) (ha : a.block ≠ k) : Arr (w.setCell a u) k n f where
  lt := by have := h.lt; unfold World.setCell; split <;> simpa using this
  cell := fun t ht => by rw [World.cell?_setCell_other _ _ _ _ (by intro q; rw [q] at ha; exact ha rfl)]; exact h.cell t ht
  free := fun t ht => by rw [World.frozen?_setCell]; exact h.free t ht
/-- cells in a new block may be written to -/
theorem arr_new (w : World) (cs : Array Value) (t : TypeId) (n : Nat) (hf : ∀ i, i < n → cs[i]? = some (f i)) : Arr (w.alloc (.cells cs t)) w.heap.size n f where
  lt := by rw [World.size_alloc]; omega
  cell := fun i hi => by rw [World.cell?_alloc_new]; exact hf i hi
  free := fun i hi => World.frozen?_alloc_new w cs t i
end
end Go.Proofs.Ytibppolcchhmaaa
/-
  What is proved: fits tells whether a hint's numbers may be, where there is room for so many blocks. No condition but that the room is at most 32.
-/
namespace Go.Proofs.Ytibppolcchhmaaa
open Go.RowKit

def fitP (h : Hn) (r : Int) : Prop := 0 ≤ h.f ∧ 1 ≤ h.s ∧ h.s ≤ r ∧ h.f ≤ r - h.s ∧ 0 ≤ h.o ∧ h.o ≤ 2147483647

set_option maxHeartbeats 400000 in
theorem fits_any (f s o : Int) (l : Bool) (r : Int) (hr : r ≤ 32) (hs0 : -9223372036854775808 ≤ r) (w : World) :
    Calls Try.prog 60 #[.agg #[.int .i64 f, .int .i64 s, .int .i64 o, .bool l], .int .i64 r] w fun e w' => e = .returned (.bool (dec (fitP ⟨f, s, o, l⟩ r))) ∧ Below w.heap.size w w' := by
  go_enter Try.func60, Try.ntmps60
  go_wp2
  all_goals
    go_ret
    refine ⟨ret_dec ?_, below_alloc w _⟩
    show _ ↔ 0 ≤ f ∧ 1 ≤ s ∧ s ≤ r ∧ f ≤ r - s ∧ 0 ≤ o ∧ o ≤ 2147483647
    first
      | (simp only [decide_eq_true_eq]; omega)
      | exact ⟨(fun h => by cases h), (fun h => by omega)⟩
end Go.Proofs.Ytibppolcchhmaaa
