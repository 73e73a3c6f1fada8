/-
  What is proved: nothing yet: what a slice is that reads as bytes. No condition on a program.
-/
import Derived.Test.YtcagochalnjagaaMem
namespace Go.Proofs.Ytcagochalnjagaa
open Go.RowKit

/-- the value is a slice that reads as these bytes -/
def Bs (w : World) (v : Value) (l : List Int) : Prop := ∃ A c, v = .slice A l.length c ∧ Rn w A l ∧ l.length ≤ c ∧ c ≤ maxLen
end Go.Proofs.Ytcagochalnjagaa
