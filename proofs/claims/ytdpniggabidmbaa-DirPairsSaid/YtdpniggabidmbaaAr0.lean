/-
  What is proved: one cell of more, of a type of integers or truths, holds what its type says. No program's function is in it.
-/
import Derived.Test.YtdpniggabidmbaaRows
import Derived.Test.YtdpniggabidmbaaBase
import Derived.Deep.Slices
import Derived.Deep.Fields
import Derived.ChangeSame
import Derived.OpenShut
namespace Go.Proofs.Ytdpniggabidmbaa
open Go.RowKit Go.ChangeShapes Go.WideShapes Go.Deep

section
variable {H : Type} {enc : TypeId × Value → H} {w : World} {base : Nat} {spare : Nat → Bool} {held : Bool}
theorem int_at {P : Program} {t : TypeId} {k : IntKind} {m off : Nat} {cs : List Value} {y : Option (DataW H × List MemPlace)} (hk : P.underlying t = some (.int k)) (hy : y.isSome = true)
    (h : DataW.trod enc P w base spare held m t ((cs.drop off).take 1) = y) : ∃ a, cs[off]? = some (.int k a) ∧ (Lit.int k a).wf = true := by
  obtain ⟨y, rfl⟩ := Option.isSome_iff_exists.1 hy
  obtain ⟨a, e, _, hw⟩ := DataW.trod_int hk h
  refine ⟨a, ?_, hw⟩
  have := congrArg (·[0]?) e
  simpa using this
theorem bool_at {P : Program} {t : TypeId} {m off : Nat} {cs : List Value} {y : Option (DataW H × List MemPlace)} (hk : P.underlying t = some .bool) (hy : y.isSome = true)
    (h : DataW.trod enc P w base spare held m t ((cs.drop off).take 1) = y) : ∃ a, cs[off]? = some (.bool a) := by
  obtain ⟨y, rfl⟩ := Option.isSome_iff_exists.1 hy
  obtain ⟨a, e, _⟩ := DataW.trod_bool hk h
  refine ⟨a, ?_⟩
  have := congrArg (·[0]?) e
  simpa using this
end
end Go.Proofs.Ytdpniggabidmbaa
