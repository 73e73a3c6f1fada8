/-
  What is proved: a shape that came in, opened: its cells hold what their types say. No program's function is in it.
-/
import Derived.Test.YtlafhejnnilpmaaAr11
namespace Go.Proofs.Ytlafhejnnilpmaa
open Go.RowKit Go.ChangeShapes Go.WideShapes Go.Deep

section
variable {H : Type} {enc : TypeId × Value → H} {w : World} {base : Nat} {spare : Nat → Bool} {held : Bool}
set_option maxRecDepth 100000 in
theorem shape_of {n : Nat} {cs : List Value} {x : DataW H × List MemPlace} (h : DataW.trod enc Try.prog w base spare held n 23 cs = some x) : ∃ c n l g : Int, cs = [.int .i64 c, .int .i64 n, .int .i64 l, .int .i64 g] := by
  obtain ⟨xs, m, _, rfl, hl, hxl, hg⟩ := DataW.trod_struct Try.underlying23 h
  have hl4 : cs.length = 4 := hl.trans (by kernel_rfl)
  have hx4 : xs.length = 4 := hxl
  obtain ⟨c, hc, _⟩ := int_at (off := 0) Try.underlying3 (by simp; omega) (hg 0 _ rfl)
  obtain ⟨n, hn, _⟩ := int_at (off := 1) Try.underlying3 (by simp; omega) (hg 1 _ rfl)
  obtain ⟨l, hll, _⟩ := int_at (off := 2) Try.underlying3 (by simp; omega) (hg 2 _ rfl)
  obtain ⟨g, hgg, _⟩ := int_at (off := 3) Try.underlying3 (by simp; omega) (hg 3 _ rfl)
  match cs, hl4 with
  | [a0, a1, a2, a3], _ =>
    simp at hc hn hll hgg
    exact ⟨c, n, l, g, by rw [hc, hn, hll, hgg]⟩
theorem open_shape {v : Value} {d : DataW H} {p : List MemPlace} {r : Reach} {b0 : Nat} (hv : Value.okWide Try.prog w r b0 23 v) (h : DataW.Trod enc Try.prog w base spare held 23 v d p) :
    ∃ c n l g : Int, v = .agg #[.int .i64 c, .int .i64 n, .int .i64 l, .int .i64 g] := by
  obtain ⟨cs, rfl, hsz⟩ := okWide_struct Try.underlying23 hv
  obtain ⟨fuel, hf⟩ := h
  obtain ⟨c, n, l, g, e⟩ := shape_of hf
  have e2 : cs.toList = [.int .i64 c, .int .i64 n, .int .i64 l, .int .i64 g] := e
  exact ⟨c, n, l, g, by rw [show cs = cs.toList.toArray from by simp, e2]⟩
end
end Go.Proofs.Ytlafhejnnilpmaa
