/-
  What is proved: what a space of lists in memory is (one block: how many lists, three rows of numbers), what it becomes when a number is stored; list's small functions. Condition: the space lies in memory as one.
  (Left out here, as nothing of this law reaches it: Sb, Sb.cN, Sb.cA, Sb.cB, Sb.cC, Sb.draws, Sb.free, Sb.next, Sb.setA, Sb.setB, Sb.setC, Sq, Sq.lt, Sq.below, Sq.same, Sq.wf, closing_any, closing_z, isblock_any, blockat_yes, blockat_no, has_any, has_nil, inS_vb, holds_any, holds_nil, refuses_nil, refuses_any.) -/
import Derived.Test.YtdpniggabidmbaaRows
import Derived.Test.YtdpniggabidmbaaOwnA
import Derived.Test.YtdpniggabidmbaaPur10
import Derived.BigRegion
import Derived.Deep.DeepCutAuto
import Derived.Deep.CutBlock
import Derived.Deep.DeepMust
import Derived.Deep.QuietTactic
namespace Go.Proofs.Ytdpniggabidmbaa
open Go.RowKit

/-- the cells of a space -/
def scf (n : Nat) (a b c : Int → Int) (i : Nat) : Int := if i = 0 then (n : Int) else if i < 105 then a ((i - 1 : Nat) : Int) else if i < 209 then b ((i - 105 : Nat) : Int) else c ((i - 209 : Nat) : Int)
def sc (n : Nat) (a b c : Int → Int) : Array Value := Array.ofFn (n := 273) fun i => .int .i64 (scf n a b c i)
section
variable (n : Nat) (a b c : Int → Int)
theorem sc_size : (sc n a b c).size = 273 := by simp [sc]
theorem sc_at {i : Nat} (h : i < 273) : (sc n a b c)[i]? = some (.int .i64 (scf n a b c i)) := by simp [sc, h]
theorem sc_n : (sc n a b c)[0]? = some (.int .i64 n) := by rw [sc_at _ _ _ _ (by omega)]; rfl
theorem sc_a {p : Nat} (h : p < 104) : (sc n a b c)[1 + p]? = some (.int .i64 (a p)) := by
  rw [sc_at _ _ _ _ (by omega)]; unfold scf; rw [if_neg (by omega), if_pos (by omega), show 1 + p - 1 = p from by omega]
theorem sc_b {p : Nat} (h : p < 104) : (sc n a b c)[105 + p]? = some (.int .i64 (b p)) := by
  rw [sc_at _ _ _ _ (by omega)]; unfold scf; rw [if_neg (by omega), if_neg (by omega), if_pos (by omega), show 105 + p - 105 = p from by omega]
theorem sc_c {p : Nat} (h : p < 64) : (sc n a b c)[209 + p]? = some (.int .i64 (c p)) := by
  rw [sc_at _ _ _ _ (by omega)]; unfold scf; rw [if_neg (by omega), if_neg (by omega), if_neg (by omega), show 209 + p - 209 = p from by omega]
theorem sc_set {a' b' c' : Int → Int} {i : Nat} {v : Int} (h : ∀ j, j < 273 → scf n a' b' c' j = if i = j then v else scf n a b c j) : (sc n a b c).setIfInBounds i (.int .i64 v) = sc n a' b' c' := by
  refine Array.ext (by simp [sc]) fun j h1 h2 => ?_
  have hj : j < 273 := by rw [sc_size] at h2; exact h2
  rw [Array.getElem_setIfInBounds (by simpa using h1)]
  simp only [sc, Array.getElem_ofFn]
  rw [h j hj]
  split <;> rfl
theorem sc_setA {p : Nat} (h : p < 104) (v : Int) : (sc n a b c).setIfInBounds (1 + p) (.int .i64 v) = sc n (upd a p v) b c := sc_set _ _ _ _ fun j hj => by
  unfold scf upd
  by_cases h0 : j = 0
  · rw [if_pos h0, if_neg (by omega), if_pos h0]
  · rw [if_neg h0, if_neg h0]
    by_cases h1 : j < 105
    · rw [if_pos h1, if_pos h1]
      by_cases h2 : 1 + p = j
      · rw [if_pos h2, if_pos (by omega)]
      · rw [if_neg h2, if_neg (by omega)]
    · rw [if_neg h1, if_neg h1, if_neg (show ¬ 1 + p = j from by omega)]
theorem sc_setB {p : Nat} (h : p < 104) (v : Int) : (sc n a b c).setIfInBounds (105 + p) (.int .i64 v) = sc n a (upd b p v) c := sc_set _ _ _ _ fun j hj => by
  unfold scf upd
  by_cases h0 : j = 0
  · rw [if_pos h0, if_neg (by omega), if_pos h0]
  · rw [if_neg h0, if_neg h0]
    by_cases h1 : j < 105
    · rw [if_pos h1, if_neg (by omega), if_pos h1]
    · rw [if_neg h1, if_neg h1]
      by_cases h3 : j < 209
      · rw [if_pos h3, if_pos h3]
        by_cases h2 : 105 + p = j
        · rw [if_pos h2, if_pos (by omega)]
        · rw [if_neg h2, if_neg (by omega)]
      · rw [if_neg h3, if_neg (by omega), if_neg h3]
theorem sc_setC {p : Nat} (v : Int) : (sc n a b c).setIfInBounds (209 + p) (.int .i64 v) = sc n a b (upd c p v) := sc_set _ _ _ _ fun j hj => by
  unfold scf upd
  by_cases h0 : j = 0
  · rw [if_pos h0, if_neg (by omega), if_pos h0]
  · rw [if_neg h0, if_neg h0]
    by_cases h1 : j < 105
    · rw [if_pos h1, if_neg (by omega), if_pos h1]
    · rw [if_neg h1, if_neg h1]
      by_cases h3 : j < 209
      · rw [if_pos h3, if_neg (by omega), if_pos h3]
      · rw [if_neg h3, if_neg h3]
        by_cases h2 : 209 + p = j
        · rw [if_pos h2, if_pos (by omega)]
        · rw [if_neg h2, if_neg (by omega)]
end



section
variable {w w' : World} {k n : Nat} {a b c : Int → Int}



















end







/-- a block's number -/
def vb (x : Int) : Prop := 0 ≤ x ∧ x < 64
instance (x : Int) : Decidable (vb x) := inferInstanceAs (Decidable (_ ∧ _))















































/-- a list's number -/
def isl (S : List (List Int)) (x : Int) : Prop := 0 ≤ x ∧ x < S.length
instance (S : List (List Int)) (x : Int) : Decidable (isl S x) := inferInstanceAs (Decidable (_ ∧ _))
theorem isl_at {S : List (List Int)} {x : Int} (h : isl S x) : ∃ (i : Nat) (l : List Int), x = i ∧ S[i]? = some l := by
  obtain ⟨h0, h1⟩ := h
  have hi : x.toNat < S.length := by omega
  exact ⟨x.toNat, _, by omega, List.getElem?_eq_getElem hi⟩
section
variable {w : World} {k : Nat} {S : List (List Int)}






































































































end
end Go.Proofs.Ytdpniggabidmbaa
