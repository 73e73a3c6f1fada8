/-
  What is proved: a message's cells; msg's known and measure: whether there is a kind, what stands at a place of a message. Conditions: the message's block is known whole; the place is one of its ten.
-/
import Derived.Test.YtihldenljddmoaaDoorPlc4
import Derived.Test.YtihldenljddmoaaDoorRawB
namespace Go.Proofs.YtihldenljddmoaaDoor
open Go.RowKit

/-- a message's cells: its kind and eight numbers, the grant, the bytes -/
def msgC (c : Nat → Int) (gr : Bool) (A : Option Addr) (n cp : Nat) : Array Value := #[.int .i64 (c 0), .int .i64 (c 1), .int .i64 (c 2), .int .i64 (c 3), .int .i64 (c 4), .int .i64 (c 5), .int .i64 (c 6), .int .i64 (c 7), .int .i64 (c 8), .bool gr, .slice A n cp]
theorem msgC_size (c : Nat → Int) (gr : Bool) (A : Option Addr) (n cp : Nat) : (msgC c gr A n cp).size = 11 := rfl
theorem msgC_one (c : Nat → Int) (gr : Bool) (A : Option Addr) (n cp : Nat) : (msgC c gr A n cp).all (·.oneCell') = true := by simp [msgC, Value.oneCell']
/-- what is held against the most of a field -/
def me (c : Nat → Int) (gr : Bool) (n : Nat) : Nat → Int
  | 9 => if gr then 1 else 0
  | 10 => n
  | f => c f
/-- the parts of a place's cells that are pointers -/
theorem pcl_lit (g : Nat) (m : Int) : pcl g 1 m = #[.int .i64 1, .pointer (some ⟨g, 1, none⟩), .pointer none, .pointer none, .pointer none, .int .i64 m] ∧
    pcl g 2 m = #[.int .i64 2, .pointer (some ⟨g, 2, none⟩), .pointer none, .pointer none, .pointer none, .int .i64 m] ∧
    pcl g 3 m = #[.int .i64 3, .pointer (some ⟨g, 3, none⟩), .pointer none, .pointer none, .pointer none, .int .i64 m] ∧
    pcl g 4 m = #[.int .i64 4, .pointer (some ⟨g, 4, none⟩), .pointer none, .pointer none, .pointer none, .int .i64 m] ∧
    pcl g 5 m = #[.int .i64 5, .pointer (some ⟨g, 5, none⟩), .pointer none, .pointer none, .pointer none, .int .i64 m] ∧
    pcl g 6 m = #[.int .i64 6, .pointer (some ⟨g, 6, none⟩), .pointer none, .pointer none, .pointer none, .int .i64 m] ∧
    pcl g 7 m = #[.int .i64 7, .pointer (some ⟨g, 7, none⟩), .pointer none, .pointer none, .pointer none, .int .i64 m] ∧
    pcl g 8 m = #[.int .i64 8, .pointer none, .pointer (some ⟨g, 8, none⟩), .pointer none, .pointer none, .int .i64 m] ∧
    pcl g 9 m = #[.int .i64 9, .pointer none, .pointer none, .pointer (some ⟨g, 9, none⟩), .pointer none, .int .i64 m] ∧
    pcl g 10 m = #[.int .i64 10, .pointer none, .pointer none, .pointer none, .pointer (some ⟨g, 10, none⟩), .int .i64 m] := ⟨rfl, rfl, rfl, rfl, rfl, rfl, rfl, rfl, rfl, rfl⟩

theorem ret_bool {a b : Bool} (h : a = b) : Ending.returned (.bool a) = .returned (.bool b) := by rw [h]
def kn (k : Int) : Bool := decide (1 ≤ k ∧ k ≤ 14)
theorem known_any (k : Int) (w : World) : Calls Tryd.prog 25 #[.int .i64 k] w fun e w' => e = .returned (.bool (kn k)) ∧ w = w' := by
  go_enter Tryd.func25, Tryd.ntmps25
  go_wp2
  all_goals
    go_ret
    refine ⟨ret_bool ?_, rfl⟩
    unfold kn
    rw [Bool.eq_iff_iff]
    simp only [decide_eq_true_eq, Bool.false_eq_true, false_iff]
    omega

set_option maxRecDepth 100000 in
set_option maxHeartbeats 1000000 in
theorem measure_any (c : Nat → Int) (gr : Bool) (A : Option Addr) (n cp g f : Nat) (m : Int) (w : World) (hf : 1 ≤ f ∧ f ≤ 10) (hX : Bx w g 25 (msgC c gr A n cp)) :
    Calls Tryd.prog 26 #[.agg (pcl g f m)] w fun e w' => e = .returned (.int .i64 (me c gr n f)) ∧ Below w.heap.size w w' := by
  have X := hX.alloc (.cells (pcl g f m) 55)
  have hc : (w.alloc (.cells (pcl g f m) 55)).cell? ⟨g, f, none⟩ = (msgC c gr A n cp)[f]? := X.cell f
  clear X hX
  obtain ⟨h1, h2⟩ := hf
  cases gr
  all_goals
   match f, h1, h2 with
   | 1, _, _ | 2, _, _ | 3, _, _ | 4, _, _ | 5, _, _ | 6, _, _ | 7, _, _ | 8, _, _ | 9, _, _ | 10, _, _ =>
    obtain ⟨q1, q2, q3, q4, q5, q6, q7, q8, q9, q10⟩ := pcl_lit g m
    simp only [q1, q2, q3, q4, q5, q6, q7, q8, q9, q10, msgC, List.getElem?_toArray, List.getElem?_cons_zero, List.getElem?_cons_succ] at hc ⊢
    clear q1 q2 q3 q4 q5 q6 q7 q8 q9 q10
    go_enter Tryd.func26, Tryd.ntmps26
    go_wp2
    all_goals
      go_ret
      exact ⟨rfl, below_alloc w _⟩
   | n + 11, _, h => omega
end Go.Proofs.YtihldenljddmoaaDoor
