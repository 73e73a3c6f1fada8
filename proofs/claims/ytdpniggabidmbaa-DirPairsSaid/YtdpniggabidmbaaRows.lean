/-
  No cell of these rows narrows 'for every input' (looked for: loops, veiled, ifaces, maps, wideKeys, modest, calm, conditions, laid).
  DERIVED. THE GIVEN ROWS OF THIS SEAT. 4 by the template 'for every input the law returns true; each argument reads behind the call as it read before'; 0 by the template 'total and deterministic' (their statements: YtdpniggabidmbaaTotals.lean).
  GIVEN WITH THE SEED: the statements are not yours to turn. If you find one false, say at which input.
  Laid BY PROGRAM, IN A SANDBOX (cutbox-rows.mjs): the forced cells as the released guide's own fill.sh prints them over the translation 5dfdc74886b489ee… (all of the seat's roots in one cut). By AI agents, Wed Nov 11 2026. No macro, syntax, notation, axiom, sorry.
-/
import Derived.Test.YtdpniggabidmbaaChecked
import GoSem.Claim
import GoSem.ClaimJoined
import GoSem.ClaimMapViews
import Derived.JoinedTies
import Derived.KernelRfl
namespace Go.Proofs.Ytdpniggabidmbaa
/- THE CELL 'sum', in the pinned program and in every row, IS THE sha256 OF THE DUMP (.gsa) THAT YtdpniggabidmbaaProg.lean LOADS. Nothing in Lean hashes anything: it is a label: what it is worth is what the hold of that sum in a sandbox is worth. -/
noncomputable def Try.pinned : Pinned := { name := "ytdpniggabidmbaa", sum := "5dfdc74886b489ee92877358a1c631d9e9d82ceff89937e1c08b76dc822b1435", checked := Try.checked }
namespace Rows
def none {H : Type} : Left H := { results := [], args := [] }

/-- 'gradinelaw17.DirActs': WHATEVER THE INPUT: true; the input reads as it did. -/
def dirActsSpec : ChangeSpec := { name := "dirActs", fn := fun _ => fun
  | [d1, d2] => { results := [.lit (.bool true)], args := [d1, d2] }
  | _ => none }
def dirActsRow : OpenClaim := { program := "ytdpniggabidmbaa", sum := "5dfdc74886b489ee92877358a1c631d9e9d82ceff89937e1c08b76dc822b1435", func := "gradine/gradinelaw17.DirActs", spec := "dirActs", apart := false }
def DirActsSaid : Prop := dirActsRow.holds Try.pinned (OpenSpec.ofChange dirActsSpec)

/-- ITS FALSE NEIGHBOUR: 'it returns false'. Refute it at one input. -/
def dirActsWrong : ChangeSpec := { name := "dirActs", fn := fun _ => fun
  | [d1, d2] => { results := [.lit (.bool false)], args := [d1, d2] }
  | _ => none }
def DirActsWrongFalsely : Prop := dirActsRow.holds Try.pinned (OpenSpec.ofChange dirActsWrong)

/-- 'gradinelaw17.DirForget': WHATEVER THE INPUT: true; the input reads as it did. -/
def dirForgetSpec : ChangeSpec := { name := "dirForget", fn := fun _ => fun
  | [d1, d2] => { results := [.lit (.bool true)], args := [d1, d2] }
  | _ => none }
def dirForgetRow : OpenClaim := { program := "ytdpniggabidmbaa", sum := "5dfdc74886b489ee92877358a1c631d9e9d82ceff89937e1c08b76dc822b1435", func := "gradine/gradinelaw17.DirForget", spec := "dirForget", apart := false }
def DirForgetSaid : Prop := dirForgetRow.holds Try.pinned (OpenSpec.ofChange dirForgetSpec)

/-- ITS FALSE NEIGHBOUR: 'it returns false'. Refute it at one input. -/
def dirForgetWrong : ChangeSpec := { name := "dirForget", fn := fun _ => fun
  | [d1, d2] => { results := [.lit (.bool false)], args := [d1, d2] }
  | _ => none }
def DirForgetWrongFalsely : Prop := dirForgetRow.holds Try.pinned (OpenSpec.ofChange dirForgetWrong)

/-- 'gradinelaw17.DirNil': WHATEVER THE INPUT: true; the input reads as it did. -/
def dirNilSpec : ChangeSpec := { name := "dirNil", fn := fun _ => fun
  | [d] => { results := [.lit (.bool true)], args := [d] }
  | _ => none }
def dirNilRow : OpenClaim := { program := "ytdpniggabidmbaa", sum := "5dfdc74886b489ee92877358a1c631d9e9d82ceff89937e1c08b76dc822b1435", func := "gradine/gradinelaw17.DirNil", spec := "dirNil", apart := false }
def DirNilSaid : Prop := dirNilRow.holds Try.pinned (OpenSpec.ofChange dirNilSpec)

/-- ITS FALSE NEIGHBOUR: 'it returns false'. Refute it at one input. -/
def dirNilWrong : ChangeSpec := { name := "dirNil", fn := fun _ => fun
  | [d] => { results := [.lit (.bool false)], args := [d] }
  | _ => none }
def DirNilWrongFalsely : Prop := dirNilRow.holds Try.pinned (OpenSpec.ofChange dirNilWrong)

/-- 'gradinelaw17.DirPairs': WHATEVER THE INPUT: true; the input reads as it did. -/
def dirPairsSpec : ChangeSpec := { name := "dirPairs", fn := fun _ => fun
  | [d1, d2] => { results := [.lit (.bool true)], args := [d1, d2] }
  | _ => none }
def dirPairsRow : OpenClaim := { program := "ytdpniggabidmbaa", sum := "5dfdc74886b489ee92877358a1c631d9e9d82ceff89937e1c08b76dc822b1435", func := "gradine/gradinelaw17.DirPairs", spec := "dirPairs", apart := false }
def DirPairsSaid : Prop := dirPairsRow.holds Try.pinned (OpenSpec.ofChange dirPairsSpec)

/-- ITS FALSE NEIGHBOUR: 'it returns false'. Refute it at one input. -/
def dirPairsWrong : ChangeSpec := { name := "dirPairs", fn := fun _ => fun
  | [d1, d2] => { results := [.lit (.bool false)], args := [d1, d2] }
  | _ => none }
def DirPairsWrongFalsely : Prop := dirPairsRow.holds Try.pinned (OpenSpec.ofChange dirPairsWrong)

/- THE SECOND FORM. 'bulk': how many values and letters a reading holds, each counted each time it is reached (what is shared counts as often as it is met; a slice's spare places count too). A statement '..UptoSaid' is the law's where the arguments, and the package variables that the reading takes, are together of bulk at most 1048576: NARROWER than '..Said'. Prove '..Said' where nothing that the law and all that it calls make is longer than what came in: it says more and counts as full. Else prove '..UptoSaid'. A law counts once. -/
mutual
def uptoBulk {H : Type} : DataW H → Nat
  | .lit (.string bytes) => bytes.length + 1
  | .lit _ => 1
  | .nil => 1
  | .ptr d => uptoBulk d + 1
  | .slice elems spare => uptoBulkAll elems + uptoBulkAll spare + 1
  | .agg parts => uptoBulkAll parts + 1
  | .iface _ d => uptoBulk d + 1
  | .map entries => uptoBulkEntries entries + 1
  | .held _ => 1
def uptoBulkAll {H : Type} : List (DataW H) → Nat
  | [] => 0
  | d :: r => uptoBulk d + uptoBulkAll r
def uptoBulkEntries {H : Type} : List (Lit × DataW H) → Nat
  | [] => 0
  | x :: r => uptoBulkEntry x + uptoBulkEntries r
def uptoBulkEntry {H : Type} : Lit × DataW H → Nat
  | (.string bytes, d) => bytes.length + uptoBulk d + 1
  | (_, d) => uptoBulk d + 1
 end
def uptoSmall : (H : Type) → List (DataW H) → Bool := fun _ ds => decide (uptoBulkAll ds ≤ 1048576)
def OpenSpec.upto (s : _root_.Go.ChangeSpec) : _root_.Go.OpenSpec := { _root_.Go.OpenSpec.ofChange s with cond := some uptoSmall }

/-- 'gradinelaw17.DirActs', WHERE WHAT IT READS IS OF BULK AT MOST 1048576: true; the input reads as it did. -/
def dirActsUptoRow : OpenClaim := { program := "ytdpniggabidmbaa", sum := "5dfdc74886b489ee92877358a1c631d9e9d82ceff89937e1c08b76dc822b1435", func := "gradine/gradinelaw17.DirActs", spec := "dirActs", apart := false, narrowed := true }
def DirActsUptoSaid : Prop := dirActsUptoRow.holds Try.pinned (OpenSpec.upto dirActsSpec)

/-- 'gradinelaw17.DirForget', WHERE WHAT IT READS IS OF BULK AT MOST 1048576: true; the input reads as it did. -/
def dirForgetUptoRow : OpenClaim := { program := "ytdpniggabidmbaa", sum := "5dfdc74886b489ee92877358a1c631d9e9d82ceff89937e1c08b76dc822b1435", func := "gradine/gradinelaw17.DirForget", spec := "dirForget", apart := false, narrowed := true }
def DirForgetUptoSaid : Prop := dirForgetUptoRow.holds Try.pinned (OpenSpec.upto dirForgetSpec)

/-- 'gradinelaw17.DirNil', WHERE WHAT IT READS IS OF BULK AT MOST 1048576: true; the input reads as it did. -/
def dirNilUptoRow : OpenClaim := { program := "ytdpniggabidmbaa", sum := "5dfdc74886b489ee92877358a1c631d9e9d82ceff89937e1c08b76dc822b1435", func := "gradine/gradinelaw17.DirNil", spec := "dirNil", apart := false, narrowed := true }
def DirNilUptoSaid : Prop := dirNilUptoRow.holds Try.pinned (OpenSpec.upto dirNilSpec)

/-- 'gradinelaw17.DirPairs', WHERE WHAT IT READS IS OF BULK AT MOST 1048576: true; the input reads as it did. -/
def dirPairsUptoRow : OpenClaim := { program := "ytdpniggabidmbaa", sum := "5dfdc74886b489ee92877358a1c631d9e9d82ceff89937e1c08b76dc822b1435", func := "gradine/gradinelaw17.DirPairs", spec := "dirPairs", apart := false, narrowed := true }
def DirPairsUptoSaid : Prop := dirPairsUptoRow.holds Try.pinned (OpenSpec.upto dirPairsSpec)

end Rows
end Go.Proofs.Ytdpniggabidmbaa
