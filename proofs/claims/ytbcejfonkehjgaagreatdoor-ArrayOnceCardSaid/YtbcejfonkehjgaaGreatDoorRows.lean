/-
  NARROWER THAN 'FOR EVERY INPUT', by the rows' own cells (each row's printed sentence says how): ArrayHears: laid · ArrayTrue: laid · ArrayBound: laid · ArrayNil: laid · ArrayOnce: laid.
  DERIVED. THE GIVEN ROWS OF THIS SEAT. 5 by the template 'for every input the law returns true; each argument reads behind the call as it read before'; 0 by the template 'total and deterministic' (their statements: YtbcejfonkehjgaaGreatDoorTotals.lean).
  GIVEN WITH THE SEED: the statements are not yours to turn. If you find one false, say at which input.
  Laid BY PROGRAM, IN A SANDBOX (cutbox-rows.mjs): the forced cells as the released guide's own fill.sh prints them over the translation 6021c037214b0708… (all of the seat's roots in one cut). By AI agents, Wed Nov 11 2026. No macro, syntax, notation, axiom, sorry.
-/
import Derived.Test.YtbcejfonkehjgaaGreatDoorChecked
import GoSem.Claim
import GoSem.ClaimJoined
import GoSem.ClaimMapViews
import Derived.JoinedTies
import Derived.KernelRfl
namespace Go.Proofs.YtbcejfonkehjgaaGreatDoor
/- THE CELL 'sum', in the pinned program and in every row, IS THE sha256 OF THE DUMP (.gsa) THAT YtbcejfonkehjgaaGreatDoorProg.lean LOADS. Nothing in Lean hashes anything: it is a label: what it is worth is what the hold of that sum in a sandbox is worth. -/
noncomputable def Tryz.pinned : Pinned := { name := "ytbcejfonkehjgaagreatdoor", sum := "6021c037214b0708cb897d8257d25488150247000b2eb1118a546f86084b6308", checked := Tryz.checked }
namespace Rows
def none {H : Type} : Left H := { results := [], args := [] }

/- WHAT THE LISTED PACKAGE-LEVEL VARIABLES READ AS WHEN THE CALL BEGINS. Each datum BY PROGRAM (the guide's laid-datum.mjs) off the statement by which the dump's own 'gosem.cut.vars' lays the variable. In a bare row this is a premise. The card (YtbcejfonkehjgaaGreatDoorCards.lean) ties it to the program's text. -/
def laid_gradine_msg_named {H : Type} : DataW H := .agg [.lit (.int .u64 0), .lit (.int .u64 116), .lit (.int .u64 1140), .lit (.int .u64 1120), .lit (.int .u64 160), .lit (.int .u64 1908), .lit (.int .u64 884), .lit (.int .u64 160), .lit (.int .u64 96), .lit (.int .u64 1150), .lit (.int .u64 1120), .lit (.int .u64 32), .lit (.int .u64 1312), .lit (.int .u64 830), .lit (.int .u64 32)]

/-- 'gradinelaw18.ArrayHears': WHATEVER THE INPUT: true; the input reads as it did. -/
def arrayHearsSpec : ChangeSpec := { name := "arrayHears", fn := fun _ => fun
  | [d1, d2] => { results := [.lit (.bool true)], args := [d1, d2] }
  | _ => none }
def arrayHearsRow : OpenClaim := { program := "ytbcejfonkehjgaagreatdoor", sum := "6021c037214b0708cb897d8257d25488150247000b2eb1118a546f86084b6308", func := "gradine/gradinelaw18.ArrayHears", spec := "arrayHears", unfollowed := true, recurses := true, named := ["gradine/msg.named"], apart := false, laid := [("gradine/msg.named", laid_gradine_msg_named)] }
def ArrayHearsSaid : Prop := arrayHearsRow.holds Tryz.pinned (OpenSpec.ofChange arrayHearsSpec)

/-- ITS FALSE NEIGHBOUR: 'it returns false'. Refute it at one input. -/
def arrayHearsWrong : ChangeSpec := { name := "arrayHears", fn := fun _ => fun
  | [d1, d2] => { results := [.lit (.bool false)], args := [d1, d2] }
  | _ => none }
def ArrayHearsWrongFalsely : Prop := arrayHearsRow.holds Tryz.pinned (OpenSpec.ofChange arrayHearsWrong)

/-- 'gradinelaw18.ArrayTrue': WHATEVER THE INPUT: true; the input reads as it did. -/
def arrayTrueSpec : ChangeSpec := { name := "arrayTrue", fn := fun _ => fun
  | [d1, d2] => { results := [.lit (.bool true)], args := [d1, d2] }
  | _ => none }
def arrayTrueRow : OpenClaim := { program := "ytbcejfonkehjgaagreatdoor", sum := "6021c037214b0708cb897d8257d25488150247000b2eb1118a546f86084b6308", func := "gradine/gradinelaw18.ArrayTrue", spec := "arrayTrue", unfollowed := true, recurses := true, named := ["gradine/msg.named"], apart := false, laid := [("gradine/msg.named", laid_gradine_msg_named)] }
def ArrayTrueSaid : Prop := arrayTrueRow.holds Tryz.pinned (OpenSpec.ofChange arrayTrueSpec)

/-- ITS FALSE NEIGHBOUR: 'it returns false'. Refute it at one input. -/
def arrayTrueWrong : ChangeSpec := { name := "arrayTrue", fn := fun _ => fun
  | [d1, d2] => { results := [.lit (.bool false)], args := [d1, d2] }
  | _ => none }
def ArrayTrueWrongFalsely : Prop := arrayTrueRow.holds Tryz.pinned (OpenSpec.ofChange arrayTrueWrong)

/-- 'gradinelaw18.ArrayBound': WHATEVER THE INPUT: true; the input reads as it did. -/
def arrayBoundSpec : ChangeSpec := { name := "arrayBound", fn := fun _ => fun
  | [d1, d2] => { results := [.lit (.bool true)], args := [d1, d2] }
  | _ => none }
def arrayBoundRow : OpenClaim := { program := "ytbcejfonkehjgaagreatdoor", sum := "6021c037214b0708cb897d8257d25488150247000b2eb1118a546f86084b6308", func := "gradine/gradinelaw18.ArrayBound", spec := "arrayBound", unfollowed := true, recurses := true, named := ["gradine/msg.named"], apart := false, laid := [("gradine/msg.named", laid_gradine_msg_named)] }
def ArrayBoundSaid : Prop := arrayBoundRow.holds Tryz.pinned (OpenSpec.ofChange arrayBoundSpec)

/-- ITS FALSE NEIGHBOUR: 'it returns false'. Refute it at one input. -/
def arrayBoundWrong : ChangeSpec := { name := "arrayBound", fn := fun _ => fun
  | [d1, d2] => { results := [.lit (.bool false)], args := [d1, d2] }
  | _ => none }
def ArrayBoundWrongFalsely : Prop := arrayBoundRow.holds Tryz.pinned (OpenSpec.ofChange arrayBoundWrong)

/-- 'gradinelaw18.ArrayNil': WHATEVER THE INPUT: true; the input reads as it did. -/
def arrayNilSpec : ChangeSpec := { name := "arrayNil", fn := fun _ => fun
  | [d] => { results := [.lit (.bool true)], args := [d] }
  | _ => none }
def arrayNilRow : OpenClaim := { program := "ytbcejfonkehjgaagreatdoor", sum := "6021c037214b0708cb897d8257d25488150247000b2eb1118a546f86084b6308", func := "gradine/gradinelaw18.ArrayNil", spec := "arrayNil", unfollowed := true, recurses := true, named := ["gradine/msg.named"], apart := false, laid := [("gradine/msg.named", laid_gradine_msg_named)] }
def ArrayNilSaid : Prop := arrayNilRow.holds Tryz.pinned (OpenSpec.ofChange arrayNilSpec)

/-- ITS FALSE NEIGHBOUR: 'it returns false'. Refute it at one input. -/
def arrayNilWrong : ChangeSpec := { name := "arrayNil", fn := fun _ => fun
  | [d] => { results := [.lit (.bool false)], args := [d] }
  | _ => none }
def ArrayNilWrongFalsely : Prop := arrayNilRow.holds Tryz.pinned (OpenSpec.ofChange arrayNilWrong)

/-- 'gradinelaw18.ArrayOnce': WHATEVER THE INPUT: true; the input reads as it did. -/
def arrayOnceSpec : ChangeSpec := { name := "arrayOnce", fn := fun _ => fun
  | [d1, d2, d3] => { results := [.lit (.bool true)], args := [d1, d2, d3] }
  | _ => none }
def arrayOnceRow : OpenClaim := { program := "ytbcejfonkehjgaagreatdoor", sum := "6021c037214b0708cb897d8257d25488150247000b2eb1118a546f86084b6308", func := "gradine/gradinelaw18.ArrayOnce", spec := "arrayOnce", unfollowed := true, recurses := true, named := ["gradine/msg.named"], apart := false, laid := [("gradine/msg.named", laid_gradine_msg_named)] }
def ArrayOnceSaid : Prop := arrayOnceRow.holds Tryz.pinned (OpenSpec.ofChange arrayOnceSpec)

/-- ITS FALSE NEIGHBOUR: 'it returns false'. Refute it at one input. -/
def arrayOnceWrong : ChangeSpec := { name := "arrayOnce", fn := fun _ => fun
  | [d1, d2, d3] => { results := [.lit (.bool false)], args := [d1, d2, d3] }
  | _ => none }
def ArrayOnceWrongFalsely : Prop := arrayOnceRow.holds Tryz.pinned (OpenSpec.ofChange arrayOnceWrong)

/- THE SECOND FORM. 'bulk': how many values and letters a reading holds, each counted each time it is reached (what is shared counts as often as it is met; a slice's spare places count too). A statement '..UptoSaid' is the law's where the arguments, and the package variables that the reading takes, are together of bulk at most 1048576: NARROWER than '..Said'. Prove '..Said' where nothing that the law and all that it calls make is longer than what came in: it says more and counts as full. Else prove '..UptoSaid'. A law counts once. -/
mutual
def uptoBulk {H : Type} : DataW H → Nat
  | .lit (.string bytes) => bytes.length + 1
  | .lit _ => 1
  | .nil => 1
  | .ptr d => uptoBulk d + 1
  | .slice elems spare => uptoBulkAll elems + uptoBulkAll spare + 1
  | .agg parts => uptoBulkAll parts + 1
  | .iface _ d => uptoBulk d + 1
  | .map entries => uptoBulkEntries entries + 1
  | .held _ => 1
def uptoBulkAll {H : Type} : List (DataW H) → Nat
  | [] => 0
  | d :: r => uptoBulk d + uptoBulkAll r
def uptoBulkEntries {H : Type} : List (Lit × DataW H) → Nat
  | [] => 0
  | x :: r => uptoBulkEntry x + uptoBulkEntries r
def uptoBulkEntry {H : Type} : Lit × DataW H → Nat
  | (.string bytes, d) => bytes.length + uptoBulk d + 1
  | (_, d) => uptoBulk d + 1
 end
def uptoSmall : (H : Type) → List (DataW H) → Bool := fun _ ds => decide (uptoBulkAll ds ≤ 1048576)
def OpenSpec.upto (s : _root_.Go.ChangeSpec) : _root_.Go.OpenSpec := { _root_.Go.OpenSpec.ofChange s with cond := some uptoSmall }

/-- 'gradinelaw18.ArrayHears', WHERE WHAT IT READS IS OF BULK AT MOST 1048576: true; the input reads as it did. -/
def arrayHearsUptoRow : OpenClaim := { program := "ytbcejfonkehjgaagreatdoor", sum := "6021c037214b0708cb897d8257d25488150247000b2eb1118a546f86084b6308", func := "gradine/gradinelaw18.ArrayHears", spec := "arrayHears", unfollowed := true, recurses := true, named := ["gradine/msg.named"], apart := false, laid := [("gradine/msg.named", laid_gradine_msg_named)], narrowed := true }
def ArrayHearsUptoSaid : Prop := arrayHearsUptoRow.holds Tryz.pinned (OpenSpec.upto arrayHearsSpec)

/-- 'gradinelaw18.ArrayTrue', WHERE WHAT IT READS IS OF BULK AT MOST 1048576: true; the input reads as it did. -/
def arrayTrueUptoRow : OpenClaim := { program := "ytbcejfonkehjgaagreatdoor", sum := "6021c037214b0708cb897d8257d25488150247000b2eb1118a546f86084b6308", func := "gradine/gradinelaw18.ArrayTrue", spec := "arrayTrue", unfollowed := true, recurses := true, named := ["gradine/msg.named"], apart := false, laid := [("gradine/msg.named", laid_gradine_msg_named)], narrowed := true }
def ArrayTrueUptoSaid : Prop := arrayTrueUptoRow.holds Tryz.pinned (OpenSpec.upto arrayTrueSpec)

/-- 'gradinelaw18.ArrayBound', WHERE WHAT IT READS IS OF BULK AT MOST 1048576: true; the input reads as it did. -/
def arrayBoundUptoRow : OpenClaim := { program := "ytbcejfonkehjgaagreatdoor", sum := "6021c037214b0708cb897d8257d25488150247000b2eb1118a546f86084b6308", func := "gradine/gradinelaw18.ArrayBound", spec := "arrayBound", unfollowed := true, recurses := true, named := ["gradine/msg.named"], apart := false, laid := [("gradine/msg.named", laid_gradine_msg_named)], narrowed := true }
def ArrayBoundUptoSaid : Prop := arrayBoundUptoRow.holds Tryz.pinned (OpenSpec.upto arrayBoundSpec)

/-- 'gradinelaw18.ArrayNil', WHERE WHAT IT READS IS OF BULK AT MOST 1048576: true; the input reads as it did. -/
def arrayNilUptoRow : OpenClaim := { program := "ytbcejfonkehjgaagreatdoor", sum := "6021c037214b0708cb897d8257d25488150247000b2eb1118a546f86084b6308", func := "gradine/gradinelaw18.ArrayNil", spec := "arrayNil", unfollowed := true, recurses := true, named := ["gradine/msg.named"], apart := false, laid := [("gradine/msg.named", laid_gradine_msg_named)], narrowed := true }
def ArrayNilUptoSaid : Prop := arrayNilUptoRow.holds Tryz.pinned (OpenSpec.upto arrayNilSpec)

/-- 'gradinelaw18.ArrayOnce', WHERE WHAT IT READS IS OF BULK AT MOST 1048576: true; the input reads as it did. -/
def arrayOnceUptoRow : OpenClaim := { program := "ytbcejfonkehjgaagreatdoor", sum := "6021c037214b0708cb897d8257d25488150247000b2eb1118a546f86084b6308", func := "gradine/gradinelaw18.ArrayOnce", spec := "arrayOnce", unfollowed := true, recurses := true, named := ["gradine/msg.named"], apart := false, laid := [("gradine/msg.named", laid_gradine_msg_named)], narrowed := true }
def ArrayOnceUptoSaid : Prop := arrayOnceUptoRow.holds Tryz.pinned (OpenSpec.upto arrayOnceSpec)

end Rows
end Go.Proofs.YtbcejfonkehjgaaGreatDoor
