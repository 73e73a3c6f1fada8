/-
  What is proved: a slice of structs of two integers that came in: its cells hold integers. No program's function is in it.
-/
import Derived.Test.YtlkaoobdppnebaaOrdL
import Derived.Deep.Slices
import Derived.Deep.Fields
import Derived.ChangeSame
import Derived.SizedLaws
namespace Go.Proofs.Ytlkaoobdppnebaa
open Go.RowKit Go.ChangeShapes Go.WideShapes Go.Deep

section
variable {H : Type} {enc : TypeId × Value → H} {P : Program} {w : World} {base : Nat} {spare : Nat → Bool} {held : Bool}
theorem pair_of {e : TypeId} {f0 f1 : Field} {n : Nat} {cs : List Value} {x : DataW H × List MemPlace} (he : P.underlying e = some (.struct #[f0, f1])) (hone : oneCellFields P #[f0, f1] = true) (hC : P.cellsOf e = 2)
    (k0 : P.underlying f0.type = some (.int .i64)) (k1 : P.underlying f1.type = some (.int .i64)) (h : DataW.trod enc P w base spare held n e cs = some x) : ∃ a b, cs = [.int .i64 a, .int .i64 b] := by
  obtain ⟨xs, m, _, _, hl, hxl, hg⟩ := DataW.trod_struct he h
  rw [hC] at hl
  match cs, hl with
  | [c0, c1], _ =>
    obtain ⟨o0, l0⟩ := hone_of hone 0 f0 rfl
    obtain ⟨o1, l1⟩ := hone_of hone 1 f1 rfl
    have g0 := hg 0 f0 rfl
    have g1 := hg 1 f1 rfl
    rw [o0, l0] at g0
    rw [o1, l1] at g1
    match xs, hxl with
    | [y0, y1], _ =>
      obtain ⟨a, ea, _⟩ := DataW.trod_int k0 (x := y0) g0
      obtain ⟨b, eb, _⟩ := DataW.trod_int k1 (x := y1) g1
      simp at ea eb
      exact ⟨a, b, by rw [ea, eb]⟩

theorem pairs_of {t e : TypeId} {f0 f1 : Field} {fuel : Nat} {cs : List Value} {x : DataW H × List MemPlace} (ht : P.underlying t = some (.slice e)) (he : P.underlying e = some (.struct #[f0, f1])) (hone : oneCellFields P #[f0, f1] = true) (hC : P.cellsOf e = 2)
    (k0 : P.underlying f0.type = some (.int .i64)) (k1 : P.underlying f1.type = some (.int .i64)) (h : DataW.trod enc P w base spare held fuel t cs = some x) :
    (cs = [.slice none 0 0] ∧ x = (.nil, [])) ∨
    ∃ (a : Addr) (len cap : Nat) (D D' : List (DataW H)) (top bot : Nat → Int), cs = [.slice (some a) len cap] ∧ x.1 = .slice D D' ∧ D.length = len ∧
      ∀ i, i < len → w.cell? (a.add (i * 2)) = some (.int .i64 (top i)) ∧ w.cell? (a.add (i * 2 + 1)) = some (.int .i64 (bot i)) := by
  rcases open_slice ht h with h0 | ⟨a, len, cap, m, n, D, Pl, hcs, hb, hl, hm, hmm, hx, hi⟩
  · exact .inl h0
  · refine .inr ⟨a, len, cap, _, _, fun i => intOf ((w.cell? (a.add (i * 2))).getD undef), fun i => intOf ((w.cell? (a.add (i * 2 + 1))).getD undef), hcs, by rw [hx], by rw [List.length_map, List.length_range], fun i hil => ?_⟩
    have him : i < m := by rw [hmm]; split <;> omega
    obtain ⟨cs', hc, ht'⟩ := hi i him
    rw [hC] at hc
    obtain ⟨p, q, rfl⟩ := pair_of he hone hC k0 k1 ht'
    obtain ⟨_, _, hat⟩ := World.cells?_some hc
    have h0 := hat 0 (by omega)
    have h1 := hat 1 (by omega)
    have e1 : (a.add (i * 2)).add 1 = a.add (i * 2 + 1) := by
      rw [addSucc a (i * 2)]
      unfold Addr.add
      rfl
    have e0 : (a.add (i * 2)).add 0 = a.add (i * 2) := rfl
    rw [e0] at h0
    rw [e1] at h1
    refine ⟨h0.trans ?_, h1.trans ?_⟩
    · show _ = some (Value.int .i64 (intOf ((w.cell? (a.add (i * 2))).getD undef)))
      rw [h0]; rfl
    · show _ = some (Value.int .i64 (intOf ((w.cell? (a.add (i * 2 + 1))).getD undef)))
      rw [h1]; rfl
end

theorem rv_fl {w : World} {a : Addr} {n : Nat} {top bot : Nat → Int} (h : ∀ i, i < n → w.cell? (a.add (i * 2)) = some (.int .i64 (top i)) ∧ w.cell? (a.add (i * 2 + 1)) = some (.int .i64 (bot i))) : Rv w w.heap.size (some a) (fl top bot n) := by
  intro j u hu
  have hj : j < n * 2 := by
    rw [← fl_length top bot n]
    exact (List.getElem?_eq_some_iff.1 hu).1
  have hi : j / 2 < n := by omega
  obtain ⟨f1, f2⟩ := fl_at top bot n (j / 2) hi
  obtain ⟨g1, g2⟩ := h (j / 2) hi
  have hc : w.cell? (a.add j) = some u := by
    rcases Nat.mod_two_eq_zero_or_one j with e | e
    · have e2 : j / 2 * 2 = j := by omega
      rw [e2] at f1 g1
      rw [g1, ← hu, f1]
    · have e2 : j / 2 * 2 + 1 = j := by omega
      rw [e2] at f2 g2
      rw [g2, ← hu, f2]
  refine ⟨a, rfl, ?_, hc⟩
  have := World.block_lt_of_cell? w _ hc
  rwa [addBlk] at this
end Go.Proofs.Ytlkaoobdppnebaa
