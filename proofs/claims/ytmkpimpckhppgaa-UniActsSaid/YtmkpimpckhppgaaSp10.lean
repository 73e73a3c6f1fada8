/-
  What is proved: what a space of lists in memory is (one block: how many lists, three rows of numbers), what it becomes when a number is stored; list's small functions. Condition: the space lies in memory as one.
-/
import Derived.Test.YtmkpimpckhppgaaRows
import Derived.Test.YtmkpimpckhppgaaOwnA
import Derived.Test.YtmkpimpckhppgaaPur10
import Derived.BigRegion
import Derived.Deep.DeepCutAuto
import Derived.Deep.CutBlock
import Derived.Deep.DeepMust
import Derived.Deep.QuietTactic
namespace Go.Proofs.Ytmkpimpckhppgaa
open Go.RowKit

/-- the cells of a space -/
def scf (n : Nat) (a b c : Int → Int) (i : Nat) : Int := if i = 0 then (n : Int) else if i < 105 then a ((i - 1 : Nat) : Int) else if i < 209 then b ((i - 105 : Nat) : Int) else c ((i - 209 : Nat) : Int)
def sc (n : Nat) (a b c : Int → Int) : Array Value := Array.ofFn (n := 273) fun i => .int .i64 (scf n a b c i)
section
variable (n : Nat) (a b c : Int → Int)
theorem sc_size : (sc n a b c).size = 273 := by simp [sc]
theorem sc_at {i : Nat} (h : i < 273) : (sc n a b c)[i]? = some (.int .i64 (scf n a b c i)) := by simp [sc, h]
theorem sc_n : (sc n a b c)[0]? = some (.int .i64 n) := by rw [sc_at _ _ _ _ (by omega)]; rfl
theorem sc_a {p : Nat} (h : p < 104) : (sc n a b c)[1 + p]? = some (.int .i64 (a p)) := by
  rw [sc_at _ _ _ _ (by omega)]; unfold scf; rw [if_neg (by omega), if_pos (by omega), show 1 + p - 1 = p from by omega]
theorem sc_b {p : Nat} (h : p < 104) : (sc n a b c)[105 + p]? = some (.int .i64 (b p)) := by
  rw [sc_at _ _ _ _ (by omega)]; unfold scf; rw [if_neg (by omega), if_neg (by omega), if_pos (by omega), show 105 + p - 105 = p from by omega]
theorem sc_c {p : Nat} (h : p < 64) : (sc n a b c)[209 + p]? = some (.int .i64 (c p)) := by
  rw [sc_at _ _ _ _ (by omega)]; unfold scf; rw [if_neg (by omega), if_neg (by omega), if_neg (by omega), show 209 + p - 209 = p from by omega]
theorem sc_set {a' b' c' : Int → Int} {i : Nat} {v : Int} (h : ∀ j, j < 273 → scf n a' b' c' j = if i = j then v else scf n a b c j) : (sc n a b c).setIfInBounds i (.int .i64 v) = sc n a' b' c' := by
  refine Array.ext (by simp [sc]) fun j h1 h2 => ?_
  have hj : j < 273 := by rw [sc_size] at h2; exact h2
  rw [Array.getElem_setIfInBounds (by simpa using h1)]
  simp only [sc, Array.getElem_ofFn]
  rw [h j hj]
  split <;> rfl
theorem sc_setA {p : Nat} (h : p < 104) (v : Int) : (sc n a b c).setIfInBounds (1 + p) (.int .i64 v) = sc n (upd a p v) b c := sc_set _ _ _ _ fun j hj => by
  unfold scf upd
  by_cases h0 : j = 0
  · rw [if_pos h0, if_neg (by omega), if_pos h0]
  · rw [if_neg h0, if_neg h0]
    by_cases h1 : j < 105
    · rw [if_pos h1, if_pos h1]
      by_cases h2 : 1 + p = j
      · rw [if_pos h2, if_pos (by omega)]
      · rw [if_neg h2, if_neg (by omega)]
    · rw [if_neg h1, if_neg h1, if_neg (show ¬ 1 + p = j from by omega)]
theorem sc_setB {p : Nat} (h : p < 104) (v : Int) : (sc n a b c).setIfInBounds (105 + p) (.int .i64 v) = sc n a (upd b p v) c := sc_set _ _ _ _ fun j hj => by
  unfold scf upd
  by_cases h0 : j = 0
  · rw [if_pos h0, if_neg (by omega), if_pos h0]
  · rw [if_neg h0, if_neg h0]
    by_cases h1 : j < 105
    · rw [if_pos h1, if_neg (by omega), if_pos h1]
    · rw [if_neg h1, if_neg h1]
      by_cases h3 : j < 209
      · rw [if_pos h3, if_pos h3]
        by_cases h2 : 105 + p = j
        · rw [if_pos h2, if_pos (by omega)]
        · rw [if_neg h2, if_neg (by omega)]
      · rw [if_neg h3, if_neg (by omega), if_neg h3]
theorem sc_setC {p : Nat} (v : Int) : (sc n a b c).setIfInBounds (209 + p) (.int .i64 v) = sc n a b (upd c p v) := sc_set _ _ _ _ fun j hj => by
  unfold scf upd
  by_cases h0 : j = 0
  · rw [if_pos h0, if_neg (by omega), if_pos h0]
  · rw [if_neg h0, if_neg h0]
    by_cases h1 : j < 105
    · rw [if_pos h1, if_neg (by omega), if_pos h1]
    · rw [if_neg h1, if_neg h1]
      by_cases h3 : j < 209
      · rw [if_pos h3, if_neg (by omega), if_pos h3]
      · rw [if_neg h3, if_neg h3]
        by_cases h2 : 209 + p = j
        · rw [if_pos h2, if_pos (by omega)]
        · rw [if_neg h2, if_neg (by omega)]
end

/-- block k is a space's, with these rows -/
def Sb (w : World) (k n : Nat) (a b c : Int → Int) : Prop := Bx w k 73 (sc n a b c)
section
variable {w w' : World} {k n : Nat} {a b c : Int → Int}
theorem Sb.cN (h : Sb w k n a b c) : w.cell? ⟨k, 0, none⟩ = some (.int .i64 n) := (Bx.cell h 0).trans (sc_n _ _ _ _)
theorem Sb.cA (h : Sb w k n a b c) {p : Nat} (hp : p < 104) : w.cell? ⟨k, 1 + p, none⟩ = some (.int .i64 (a p)) := (Bx.cell h _).trans (sc_a _ _ _ _ hp)
theorem Sb.cB (h : Sb w k n a b c) {p : Nat} (hp : p < 104) : w.cell? ⟨k, 105 + p, none⟩ = some (.int .i64 (b p)) := (Bx.cell h _).trans (sc_b _ _ _ _ hp)
theorem Sb.cC (h : Sb w k n a b c) {p : Nat} (hp : p < 64) : w.cell? ⟨k, 209 + p, none⟩ = some (.int .i64 (c p)) := (Bx.cell h _).trans (sc_c _ _ _ _ hp)
theorem Sb.draws (h : Sb w k n a b c) (m : Nat) : Sb (w.drewN m) k n a b c := Bx.draws h m
theorem Sb.free (h : Sb w k n a b c) (i : Nat) : w.frozen? ⟨k, i, none⟩ = false := Bx.free h i
theorem Sb.next (h : Sb w k n a b c) (hb : Below w.heap.size w w') : Sb w' k n a b c := Bx.next h hb
theorem Sb.setA (h : Sb w k n a b c) {p : Nat} (hp : p < 104) (v : Int) : Sb (w.setCell ⟨k, 1 + p, none⟩ (.int .i64 v)) k n (upd a p v) b c := by
  have := Bx.set h (1 + p) (.int .i64 v)
  rw [sc_setA _ _ _ _ hp] at this
  exact this
theorem Sb.setB (h : Sb w k n a b c) {p : Nat} (hp : p < 104) (v : Int) : Sb (w.setCell ⟨k, 105 + p, none⟩ (.int .i64 v)) k n a (upd b p v) c := by
  have := Bx.set h (105 + p) (.int .i64 v)
  rw [sc_setB _ _ _ _ hp] at this
  exact this
theorem Sb.setC (h : Sb w k n a b c) {p : Nat} (v : Int) : Sb (w.setCell ⟨k, 209 + p, none⟩ (.int .i64 v)) k n a b (upd c p v) := by
  have := Bx.set h (209 + p) (.int .i64 v)
  rw [sc_setC] at this
  exact this
end
/-- block k is the space of these lists -/
def Sq (w : World) (k : Nat) (S : List (List Int)) : Prop := ∃ a b c, Sb w k S.length a b c ∧ Inv a b c S
theorem Sq.lt {w : World} {k : Nat} {S : List (List Int)} (h : Sq w k S) : k < w.heap.size := by obtain ⟨a, b, c, h, _⟩ := h; exact Bx.lt h
theorem Sq.below {w w' : World} {k : Nat} {S : List (List Int)} (h : Sq w k S) (hb : Below w.heap.size w w') : Sq w' k S := by obtain ⟨a, b, c, h, hi⟩ := h; exact ⟨a, b, c, Bx.next h hb, hi⟩
theorem Sq.same {w w' : World} {k : Nat} {S : List (List Int)} (h : Sq w k S) (hb : w'.heap[k]? = w.heap[k]?) : Sq w' k S := by obtain ⟨a, b, c, h, hi⟩ := h; exact ⟨a, b, c, hb.trans h, hi⟩
theorem Sq.wf {w : World} {k : Nat} {S : List (List Int)} (h : Sq w k S) : Wf S ∧ 1 ≤ S.length ∧ S.length ≤ 40 := by obtain ⟨a, b, c, _, hi⟩ := h; exact ⟨hi.wf, hi.sz⟩

/-- a block's number -/
def vb (x : Int) : Prop := 0 ≤ x ∧ x < 64
instance (x : Int) : Decidable (vb x) := inferInstanceAs (Decidable (_ ∧ _))

set_option maxHeartbeats 400000 in
theorem closing_any (w : World) (p : Nat) (hp : p < 40) : Calls Try.prog 38 #[.int .i64 p] w fun e w' => e = .returned (.int .i64 ((64 + p : Nat))) ∧ w = w' := by
  go_enter Try.func38, Try.ntmps38
  go_wp2
  go_ret
  refine ⟨?_, rfl⟩
  go_num
theorem closing_z (w : World) (p z : Nat) (hp : p < 40) (hz : 64 + p = z) : Calls Try.prog 38 #[.int .i64 p] w fun e w' => e = .returned (.int .i64 z) ∧ w = w' := by
  subst hz
  exact closing_any w p hp
set_option maxHeartbeats 400000 in
theorem isblock_any (w : World) (x : Int) : Calls Try.prog 48 #[.int .i64 x] w fun e w' => e = .returned (.bool (decide (vb x))) ∧ w = w' := by
  by_cases h0 : x < 0
  · have hd : decide ((0 : Int) ≤ x) = false := by simpa using h0
    have e : decide (vb x) = false := decide_eq_false fun h => by have := h.1; omega
    rw [e]
    go_enter Try.func48, Try.ntmps48
    go_wp2
    go_ret
    exact ⟨rfl, rfl⟩
  · have h1 : 0 ≤ x := by omega
    have e : decide (vb x) = decide (x < 64) := decide_eq_decide.2 ⟨fun h => h.2, fun h => ⟨h1, h⟩⟩
    rw [e]
    clear h0 e
    go_enter Try.func48, Try.ntmps48
    go_wp2
    go_ret
    exact ⟨rfl, rfl⟩
set_option maxHeartbeats 400000 in
theorem blockat_yes (w : World) (x : Int) (h : vb x) : Calls Try.prog 50 #[.int .i64 x] w fun e w' => e = .returned (.tuple #[.int .i64 x, .bool true]) ∧ w = w' := by
  have HI := hid (isblock_any w x)
  rw [decide_eq_true h] at HI
  clear h
  go_enter Try.func50, Try.ntmps50
  go_wp2_with (go_at_call 48; refine HI.out.mono ?_; rintro e w' ⟨rfl, rfl⟩)
  go_ret2
  exact ⟨rfl, rfl⟩
set_option maxHeartbeats 400000 in
theorem blockat_no (w : World) (x : Int) (h : ¬ vb x) : Calls Try.prog 50 #[.int .i64 x] w fun e w' => e = .returned (.tuple #[.int .i64 0, .bool false]) ∧ w = w' := by
  have HI := hid (isblock_any w x)
  rw [decide_eq_false h] at HI
  clear h
  go_enter Try.func50, Try.ntmps50
  go_wp2_with (go_at_call 48; refine HI.out.mono ?_; rintro e w' ⟨rfl, rfl⟩)
  go_ret2
  exact ⟨rfl, rfl⟩
/-- a list's number -/
def isl (S : List (List Int)) (x : Int) : Prop := 0 ≤ x ∧ x < S.length
instance (S : List (List Int)) (x : Int) : Decidable (isl S x) := inferInstanceAs (Decidable (_ ∧ _))
theorem isl_at {S : List (List Int)} {x : Int} (h : isl S x) : ∃ (i : Nat) (l : List Int), x = i ∧ S[i]? = some l := by
  obtain ⟨h0, h1⟩ := h
  have hi : x.toNat < S.length := by omega
  exact ⟨x.toNat, _, by omega, List.getElem?_eq_getElem hi⟩
section
variable {w : World} {k : Nat} {S : List (List Int)}
set_option maxHeartbeats 400000 in
theorem has_any (h : Sq w k S) (x : Int) : Calls Try.prog 47 #[.pointer (some ⟨k, 0, none⟩), .int .i64 x] w fun e w' => e = .returned (.bool (decide (isl S x))) ∧ w = w' := by
  obtain ⟨a, b, c, hs, hi⟩ := h
  have c0 := hs.cN
  by_cases h0 : x < 0
  · have hd : decide ((0 : Int) ≤ x) = false := by simpa using h0
    have e : decide (isl S x) = false := decide_eq_false fun h => by have := h.1; omega
    rw [e]
    clear hs hi e
    generalize S.length = n at *
    go_enter Try.func47, Try.ntmps47
    go_wp2
    go_ret
    exact ⟨rfl, rfl⟩
  · have h1 : 0 ≤ x := by omega
    have e : decide (isl S x) = decide (x < (S.length : Int)) := decide_eq_decide.2 ⟨fun h => h.2, fun h => ⟨h1, h⟩⟩
    rw [e]
    clear hs hi e h0
    generalize S.length = n at *
    go_enter Try.func47, Try.ntmps47
    go_wp2
    go_ret
    exact ⟨rfl, rfl⟩
set_option maxHeartbeats 400000 in
theorem has_nil (w : World) (x : Int) : Calls Try.prog 47 #[.pointer none, .int .i64 x] w fun e w' => e = .returned (.bool false) ∧ w = w' := by
  go_enter Try.func47, Try.ntmps47
  go_wp2
  go_ret
  exact ⟨rfl, rfl⟩
theorem inS_vb (h : Sq w k S) {x : Int} (hx : inS S x) : vb x := by
  obtain ⟨i, l, hi, hm⟩ := hx
  exact h.wf.1.lt i l x hi hm
set_option maxHeartbeats 400000 in
theorem holds_any (h : Sq w k S) (x : Int) : Calls Try.prog 49 #[.pointer (some ⟨k, 0, none⟩), .int .i64 x] w fun e w' => e = .returned (.bool (dec (inS S x))) ∧ w = w' := by
  have HI := hid (isblock_any w x)
  by_cases hx : vb x
  · obtain ⟨a, b, c, hs, hi⟩ := h
    obtain ⟨p, rfl⟩ : ∃ p : Nat, x = p := ⟨x.toNat, by have := hx.1; omega⟩
    have hp : p < 64 := by have := hx.2; omega
    have c0 := hs.cC hp
    have hz := hi.c_zero hx.1 hx.2
    have hpp : (p : Int) < 64 := hx.2
    have e : (c p != 0) = dec (inS S p) := by
      by_cases hc : c p = 0
      · rw [dec_false (hz.1 hc)]; simpa using hc
      · rw [dec_true (Classical.not_not.1 fun hn => hc (hz.2 hn))]; simpa using hc
    rw [← e]
    rw [decide_eq_true hx] at HI
    clear hs hi hx hz e
    generalize c p = cp at *
    go_enter Try.func49, Try.ntmps49
    go_wp2_with (go_at_call 48; refine HI.out.mono ?_; rintro e w' ⟨rfl, rfl⟩)
    go_ret
    exact ⟨rfl, rfl⟩
  · rw [dec_false fun hm => hx (inS_vb h hm)]
    rw [decide_eq_false hx] at HI
    clear h hx
    go_enter Try.func49, Try.ntmps49
    go_wp2_with (go_at_call 48; refine HI.out.mono ?_; rintro e w' ⟨rfl, rfl⟩)
    go_ret
    exact ⟨rfl, rfl⟩
set_option maxHeartbeats 400000 in
theorem holds_nil (w : World) (x : Int) : Calls Try.prog 49 #[.pointer none, .int .i64 x] w fun e w' => e = .returned (.bool false) ∧ w = w' := by
  go_enter Try.func49, Try.ntmps49
  go_wp2
  go_ret
  exact ⟨rfl, rfl⟩
set_option maxHeartbeats 400000 in
theorem refuses_nil (w : World) (x y : Int) : Calls Try.prog 42 #[.pointer none, .int .i64 x, .int .i64 y] w fun e w' => e = .returned (.int .i64 7) ∧ w = w' := by
  go_enter Try.func42, Try.ntmps42
  go_wp2
  go_ret
  exact ⟨rfl, rfl⟩
set_option maxHeartbeats 400000 in
theorem refuses_any (h : Sq w k S) (x y : Int) : Calls Try.prog 42 #[.pointer (some ⟨k, 0, none⟩), .int .i64 x, .int .i64 y] w fun e w' => e = .returned (.int .i64 (if isl S x ∧ vb y then 0 else 3)) ∧ w = w' := by
  have HI := hid (isblock_any w y)
  have HH := hid (has_any h x)
  clear h
  by_cases hx : isl S x
  · rw [decide_eq_true hx] at HH
    by_cases hy : vb y
    · rw [decide_eq_true hy] at HI
      rw [if_pos ⟨hx, hy⟩]
      clear hx hy
      go_enter Try.func42, Try.ntmps42
      go_wp2_with (first | (go_at_call 48; refine HI.out.mono ?_; rintro e w' ⟨rfl, rfl⟩) | (go_at_call 47; refine HH.out.mono ?_; rintro e w' ⟨rfl, rfl⟩))
      go_ret
      exact ⟨rfl, rfl⟩
    · rw [decide_eq_false hy] at HI
      rw [if_neg fun hh => hy hh.2]
      clear hx hy
      go_enter Try.func42, Try.ntmps42
      go_wp2_with (first | (go_at_call 48; refine HI.out.mono ?_; rintro e w' ⟨rfl, rfl⟩) | (go_at_call 47; refine HH.out.mono ?_; rintro e w' ⟨rfl, rfl⟩))
      go_ret
      exact ⟨rfl, rfl⟩
  · rw [decide_eq_false hx] at HH
    rw [if_neg fun hh => hx hh.1]
    clear hx HI
    go_enter Try.func42, Try.ntmps42
    go_wp2_with (go_at_call 47; refine HH.out.mono ?_; rintro e w' ⟨rfl, rfl⟩)
    go_ret
    exact ⟨rfl, rfl⟩
end
end Go.Proofs.Ytmkpimpckhppgaa
