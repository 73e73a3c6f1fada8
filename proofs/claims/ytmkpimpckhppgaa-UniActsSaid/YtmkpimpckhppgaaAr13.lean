/-
  What is proved: arguments that came in, opened: three capacities; acts of a truth and a number: their cells hold what their types say. No program's function is in it.
-/
import Derived.Test.YtmkpimpckhppgaaAr11
import Derived.Laws.IdiomArrays
namespace Go.Proofs.Ytmkpimpckhppgaa
open Go.RowKit Go.ChangeShapes Go.WideShapes Go.Deep

/-- an act: Drop or not, the block -/
structure UA where
  d : Bool
  b : Int
instance : Inhabited UA := ⟨⟨false, 0⟩⟩
def UA.cells (x : UA) : List Value := [.bool x.d, .int .i64 x.b]
structure UActAt (w : World) (p : Addr) (x : UA) : Prop where
  lt : p.block < w.heap.size
  c0 : w.cell? p = some (.bool x.d)
  c1 : w.cell? ⟨p.block, p.off + 1, none⟩ = some (.int .i64 x.b)
theorem UActAt.below {w w' : World} {p : Addr} {x : UA} (h : UActAt w p x) (hb : Below w.heap.size w w') : UActAt w' p x :=
  ⟨Nat.lt_of_lt_of_le h.lt hb.size, (hb.cell h.lt).trans h.c0, (hb.cell (p := ⟨p.block, p.off + 1, none⟩) h.lt).trans h.c1⟩
/-- acts that are read -/
def UActs (w : World) (A : Option Addr) (n : Nat) (f : Nat → UA) : Prop := ∀ i, i < n → ∃ ad, A = some ad ∧ UActAt w (ad.add (i * 2)) (f i)
theorem UActs.below {w w' : World} {A : Option Addr} {n : Nat} {f : Nat → UA} (h : UActs w A n f) (hb : Below w.heap.size w w') : UActs w' A n f := fun i hi => by
  obtain ⟨ad, e, h1⟩ := h i hi
  exact ⟨ad, e, h1.below hb⟩

section
variable {H : Type} {enc : TypeId × Value → H} {w : World} {base : Nat} {spare : Nat → Bool} {held : Bool}
/-- one cell of more, a truth -/
theorem bool_at {P : Program} {t : TypeId} {m off : Nat} {cs : List Value} {y : Option (DataW H × List MemPlace)} (hk : P.underlying t = some .bool) (hy : y.isSome = true)
    (h : DataW.trod enc P w base spare held m t ((cs.drop off).take 1) = y) : ∃ a, cs[off]? = some (.bool a) := by
  obtain ⟨y, rfl⟩ := Option.isSome_iff_exists.1 hy
  obtain ⟨a, e, _⟩ := DataW.trod_bool hk h
  refine ⟨a, ?_⟩
  have := congrArg (·[0]?) e
  simpa using this
set_option maxRecDepth 100000 in
theorem uact_of {n : Nat} {cs : List Value} {x : DataW H × List MemPlace} (h : DataW.trod enc Try.prog w base spare held n 33 cs = some x) : ∃ y : UA, cs = y.cells := by
  obtain ⟨xs, m, _, rfl, hl, hxl, hg⟩ := DataW.trod_struct Try.underlying33 h
  have hl2 : cs.length = 2 := hl.trans (by kernel_rfl)
  have hx2 : xs.length = 2 := hxl
  obtain ⟨d, hd⟩ := bool_at (off := 0) Try.underlying4 (by simp; omega) (hg 0 _ rfl)
  obtain ⟨a, ha, _⟩ := int_at (off := 1) Try.underlying3 (by simp; omega) (hg 1 _ rfl)
  match cs, hl2 with
  | [c0, c1], _ =>
    simp at hd ha
    exact ⟨⟨d, a⟩, by rw [hd, ha]; rfl⟩
theorem uacts_of {fuel : Nat} {cs : List Value} {x : DataW H × List MemPlace} (h : DataW.trod enc Try.prog w base spare held fuel 23 cs = some x) :
    ∃ A n c f, cs = [.slice A n c] ∧ n ≤ maxLen ∧ UActs w A n f := by
  rcases open_slice Try.underlying23 h with ⟨h0, _⟩ | ⟨a, len, cap, m, n, D, Pl, hcs, hb, hl, hm, hmm, hx, hi⟩
  · exact ⟨none, 0, 0, fun _ => default, h0, by unfold maxLen; omega, fun i hi => absurd hi (Nat.not_lt_zero i)⟩
  · have key : ∀ i, i < len → ∃ y : UA, UActAt w (a.add (i * 2)) y := fun i hil => by
      have him : i < m := by rw [hmm]; split <;> omega
      obtain ⟨cs', hc, ht'⟩ := hi i him
      rw [show Try.prog.cellsOf 33 = 2 by kernel_rfl] at hc
      obtain ⟨y, rfl⟩ := uact_of ht'
      obtain ⟨_, _, hat⟩ := World.cells?_some hc
      have a0 := hat 0 (by omega)
      have a1 := hat 1 (by omega)
      have e : ∀ q : Addr, q.add 0 = q := fun q => by simp [Addr.add]
      have e' : ∀ (q : Addr) (i : Nat), 0 < i → q.add i = ⟨q.block, q.off + i, none⟩ := fun q i hi => by unfold Addr.add; rw [if_neg (by omega)]
      rw [e] at a0
      rw [e' _ 1 (by omega)] at a1
      exact ⟨y, World.block_lt_of_cell? w _ a0, a0, a1⟩
    obtain ⟨f, hf⟩ := choose_lt key
    exact ⟨some a, len, cap, f, hcs, by omega, fun i hi => ⟨a, rfl, hf i hi⟩⟩
theorem open_uacts {v : Value} {d : DataW H} {p : List MemPlace} {r : Reach} {b0 : Nat} (hv : Value.okWide Try.prog w r b0 23 v) (h : DataW.Trod enc Try.prog w base spare held 23 v d p) :
    ∃ A n c f, v = .slice A n c ∧ n ≤ maxLen ∧ UActs w A n f := by
  obtain ⟨a0, len0, cap0, rfl⟩ := okWide_slice Try.underlying23 hv
  obtain ⟨fuel, hf⟩ := h
  obtain ⟨A, n, c, f, e, h1⟩ := uacts_of hf
  simp [Value.cells] at e
  obtain ⟨rfl, rfl, rfl⟩ := e
  exact ⟨_, _, _, f, rfl, h1⟩
theorem okWide_arr3 {v : Value} {r : Reach} {b0 : Nat} (hv : Value.okWide Try.prog w r b0 22 v) : ∃ xs : Array Value, v = .agg xs ∧ xs.size = 3 := by
  simp only [Value.okWide, Try.underlying22] at hv
  obtain ⟨cs, h1, h2, _⟩ := hv
  exact ⟨cs, h1, h2.trans (by kernel_rfl)⟩
theorem open_caps {v : Value} {d : DataW H} {p : List MemPlace} {r : Reach} {b0 : Nat} (hv : Value.okWide Try.prog w r b0 22 v) (h : DataW.Trod enc Try.prog w base spare held 22 v d p) :
    ∃ x y z : Int, v = .agg #[.int .i64 x, .int .i64 y, .int .i64 z] := by
  obtain ⟨xs, rfl, h3⟩ := okWide_arr3 hv
  obtain ⟨fuel, hf⟩ := h
  have e : xs = #[xs[0], xs[1], xs[2]] := by
    refine Array.ext (by simp [h3]) fun j h1 h2 => ?_
    have hj : j = 0 ∨ j = 1 ∨ j = 2 := by omega
    rcases hj with rfl | rfl | rfl <;> rfl
  have hc : (Value.agg xs).cells.toList = [xs[0], xs[1], xs[2]] := by
    show xs.toList = _
    conv => lhs; rw [e]
  rw [hc] at hf
  obtain ⟨y0, y1, y2, n, _, t0, t1, t2⟩ := trod_array3 Try.underlying22 (by kernel_rfl) hf
  obtain ⟨a, e0, _⟩ := DataW.trod_int Try.underlying3 t0
  obtain ⟨b, e1, _⟩ := DataW.trod_int Try.underlying3 t1
  obtain ⟨c, e2, _⟩ := DataW.trod_int Try.underlying3 t2
  simp only [List.cons.injEq, and_true] at e0 e1 e2
  exact ⟨a, b, c, by rw [e, e0, e1, e2]⟩
end
end Go.Proofs.Ytmkpimpckhppgaa
