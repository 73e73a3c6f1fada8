/-
  NARROWER THAN 'FOR EVERY INPUT', by the rows' own cells (each row's printed sentence says how): MsgPuts: laid · MsgFields: laid · MsgCut: laid · MsgLeast: laid.
  DERIVED. THE GIVEN ROWS OF THIS SEAT. 4 by the template 'for every input the law returns true; each argument reads behind the call as it read before'; 0 by the template 'total and deterministic' (their statements: YtihldenljddmoaaDoorTotals.lean).
  GIVEN WITH THE SEED: the statements are not yours to turn. If you find one false, say at which input.
  Laid BY PROGRAM, IN A SANDBOX (cutbox-rows.mjs): the forced cells as the released guide's own fill.sh prints them over the translation 787008f47394ef63… (all of the seat's roots in one cut). By AI agents, Wed Nov 11 2026. No macro, syntax, notation, axiom, sorry.
-/
import Derived.Test.YtihldenljddmoaaDoorChecked
import GoSem.Claim
import GoSem.ClaimJoined
import GoSem.ClaimMapViews
import Derived.JoinedTies
import Derived.KernelRfl
namespace Go.Proofs.YtihldenljddmoaaDoor
/- THE CELL 'sum', in the pinned program and in every row, IS THE sha256 OF THE DUMP (.gsa) THAT YtihldenljddmoaaDoorProg.lean LOADS. Nothing in Lean hashes anything: it is a label: what it is worth is what the hold of that sum in a sandbox is worth. -/
noncomputable def Tryd.pinned : Pinned := { name := "ytihldenljddmoaadoor", sum := "787008f47394ef63a64e63016198bcc04196bb8060e4fd7cb760e14d8f953521", checked := Tryd.checked }
namespace Rows
def none {H : Type} : Left H := { results := [], args := [] }

/- WHAT THE LISTED PACKAGE-LEVEL VARIABLES READ AS WHEN THE CALL BEGINS. Each datum BY PROGRAM (the guide's laid-datum.mjs) off the statement by which the dump's own 'gosem.cut.vars' lays the variable. In a bare row this is a premise. The card (YtihldenljddmoaaDoorCards.lean) ties it to the program's text. -/
def laid_gradine_msg_named {H : Type} : DataW H := .agg [.lit (.int .u64 0), .lit (.int .u64 116), .lit (.int .u64 1140), .lit (.int .u64 1120), .lit (.int .u64 160), .lit (.int .u64 1908), .lit (.int .u64 884), .lit (.int .u64 160), .lit (.int .u64 96), .lit (.int .u64 1150), .lit (.int .u64 1120), .lit (.int .u64 32), .lit (.int .u64 1312), .lit (.int .u64 830), .lit (.int .u64 32)]

/-- 'gradinelaw04.MsgPuts': WHATEVER THE INPUT: true; the input reads as it did. -/
def msgPutsSpec : ChangeSpec := { name := "msgPuts", fn := fun _ => fun
  | [d] => { results := [.lit (.bool true)], args := [d] }
  | _ => none }
def msgPutsRow : OpenClaim := { program := "ytihldenljddmoaadoor", sum := "787008f47394ef63a64e63016198bcc04196bb8060e4fd7cb760e14d8f953521", func := "gradine/gradinelaw04.MsgPuts", spec := "msgPuts", named := ["gradine/msg.named"], apart := false, laid := [("gradine/msg.named", laid_gradine_msg_named)] }
def MsgPutsSaid : Prop := msgPutsRow.holds Tryd.pinned (OpenSpec.ofChange msgPutsSpec)

/-- ITS FALSE NEIGHBOUR: 'it returns false'. Refute it at one input. -/
def msgPutsWrong : ChangeSpec := { name := "msgPuts", fn := fun _ => fun
  | [d] => { results := [.lit (.bool false)], args := [d] }
  | _ => none }
def MsgPutsWrongFalsely : Prop := msgPutsRow.holds Tryd.pinned (OpenSpec.ofChange msgPutsWrong)

/-- 'gradinelaw04.MsgFields': WHATEVER THE INPUT: true; the input reads as it did. -/
def msgFieldsSpec : ChangeSpec := { name := "msgFields", fn := fun _ => fun
  | [d1, d2] => { results := [.lit (.bool true)], args := [d1, d2] }
  | _ => none }
def msgFieldsRow : OpenClaim := { program := "ytihldenljddmoaadoor", sum := "787008f47394ef63a64e63016198bcc04196bb8060e4fd7cb760e14d8f953521", func := "gradine/gradinelaw04.MsgFields", spec := "msgFields", named := ["gradine/msg.named"], apart := false, laid := [("gradine/msg.named", laid_gradine_msg_named)] }
def MsgFieldsSaid : Prop := msgFieldsRow.holds Tryd.pinned (OpenSpec.ofChange msgFieldsSpec)

/-- ITS FALSE NEIGHBOUR: 'it returns false'. Refute it at one input. -/
def msgFieldsWrong : ChangeSpec := { name := "msgFields", fn := fun _ => fun
  | [d1, d2] => { results := [.lit (.bool false)], args := [d1, d2] }
  | _ => none }
def MsgFieldsWrongFalsely : Prop := msgFieldsRow.holds Tryd.pinned (OpenSpec.ofChange msgFieldsWrong)

/-- 'gradinelaw04.MsgCut': WHATEVER THE INPUT: true; the input reads as it did. -/
def msgCutSpec : ChangeSpec := { name := "msgCut", fn := fun _ => fun
  | [d1, d2, d3] => { results := [.lit (.bool true)], args := [d1, d2, d3] }
  | _ => none }
def msgCutRow : OpenClaim := { program := "ytihldenljddmoaadoor", sum := "787008f47394ef63a64e63016198bcc04196bb8060e4fd7cb760e14d8f953521", func := "gradine/gradinelaw04.MsgCut", spec := "msgCut", named := ["gradine/msg.named"], apart := false, laid := [("gradine/msg.named", laid_gradine_msg_named)] }
def MsgCutSaid : Prop := msgCutRow.holds Tryd.pinned (OpenSpec.ofChange msgCutSpec)

/-- ITS FALSE NEIGHBOUR: 'it returns false'. Refute it at one input. -/
def msgCutWrong : ChangeSpec := { name := "msgCut", fn := fun _ => fun
  | [d1, d2, d3] => { results := [.lit (.bool false)], args := [d1, d2, d3] }
  | _ => none }
def MsgCutWrongFalsely : Prop := msgCutRow.holds Tryd.pinned (OpenSpec.ofChange msgCutWrong)

/-- 'gradinelaw04.MsgLeast': WHATEVER THE INPUT: true; the input reads as it did. -/
def msgLeastSpec : ChangeSpec := { name := "msgLeast", fn := fun _ => fun
  | [d] => { results := [.lit (.bool true)], args := [d] }
  | _ => none }
def msgLeastRow : OpenClaim := { program := "ytihldenljddmoaadoor", sum := "787008f47394ef63a64e63016198bcc04196bb8060e4fd7cb760e14d8f953521", func := "gradine/gradinelaw04.MsgLeast", spec := "msgLeast", named := ["gradine/msg.named"], apart := false, laid := [("gradine/msg.named", laid_gradine_msg_named)] }
def MsgLeastSaid : Prop := msgLeastRow.holds Tryd.pinned (OpenSpec.ofChange msgLeastSpec)

/-- ITS FALSE NEIGHBOUR: 'it returns false'. Refute it at one input. -/
def msgLeastWrong : ChangeSpec := { name := "msgLeast", fn := fun _ => fun
  | [d] => { results := [.lit (.bool false)], args := [d] }
  | _ => none }
def MsgLeastWrongFalsely : Prop := msgLeastRow.holds Tryd.pinned (OpenSpec.ofChange msgLeastWrong)

/- THE SECOND FORM. 'bulk': how many values and letters a reading holds, each counted each time it is reached (what is shared counts as often as it is met; a slice's spare places count too). A statement '..UptoSaid' is the law's where the arguments, and the package variables that the reading takes, are together of bulk at most 1048576: NARROWER than '..Said'. Prove '..Said' where nothing that the law and all that it calls make is longer than what came in: it says more and counts as full. Else prove '..UptoSaid'. A law counts once. -/
mutual
def uptoBulk {H : Type} : DataW H → Nat
  | .lit (.string bytes) => bytes.length + 1
  | .lit _ => 1
  | .nil => 1
  | .ptr d => uptoBulk d + 1
  | .slice elems spare => uptoBulkAll elems + uptoBulkAll spare + 1
  | .agg parts => uptoBulkAll parts + 1
  | .iface _ d => uptoBulk d + 1
  | .map entries => uptoBulkEntries entries + 1
  | .held _ => 1
def uptoBulkAll {H : Type} : List (DataW H) → Nat
  | [] => 0
  | d :: r => uptoBulk d + uptoBulkAll r
def uptoBulkEntries {H : Type} : List (Lit × DataW H) → Nat
  | [] => 0
  | x :: r => uptoBulkEntry x + uptoBulkEntries r
def uptoBulkEntry {H : Type} : Lit × DataW H → Nat
  | (.string bytes, d) => bytes.length + uptoBulk d + 1
  | (_, d) => uptoBulk d + 1
 end
def uptoSmall : (H : Type) → List (DataW H) → Bool := fun _ ds => decide (uptoBulkAll ds ≤ 1048576)
def OpenSpec.upto (s : _root_.Go.ChangeSpec) : _root_.Go.OpenSpec := { _root_.Go.OpenSpec.ofChange s with cond := some uptoSmall }

/-- 'gradinelaw04.MsgPuts', WHERE WHAT IT READS IS OF BULK AT MOST 1048576: true; the input reads as it did. -/
def msgPutsUptoRow : OpenClaim := { program := "ytihldenljddmoaadoor", sum := "787008f47394ef63a64e63016198bcc04196bb8060e4fd7cb760e14d8f953521", func := "gradine/gradinelaw04.MsgPuts", spec := "msgPuts", named := ["gradine/msg.named"], apart := false, laid := [("gradine/msg.named", laid_gradine_msg_named)], narrowed := true }
def MsgPutsUptoSaid : Prop := msgPutsUptoRow.holds Tryd.pinned (OpenSpec.upto msgPutsSpec)

/-- 'gradinelaw04.MsgFields', WHERE WHAT IT READS IS OF BULK AT MOST 1048576: true; the input reads as it did. -/
def msgFieldsUptoRow : OpenClaim := { program := "ytihldenljddmoaadoor", sum := "787008f47394ef63a64e63016198bcc04196bb8060e4fd7cb760e14d8f953521", func := "gradine/gradinelaw04.MsgFields", spec := "msgFields", named := ["gradine/msg.named"], apart := false, laid := [("gradine/msg.named", laid_gradine_msg_named)], narrowed := true }
def MsgFieldsUptoSaid : Prop := msgFieldsUptoRow.holds Tryd.pinned (OpenSpec.upto msgFieldsSpec)

/-- 'gradinelaw04.MsgCut', WHERE WHAT IT READS IS OF BULK AT MOST 1048576: true; the input reads as it did. -/
def msgCutUptoRow : OpenClaim := { program := "ytihldenljddmoaadoor", sum := "787008f47394ef63a64e63016198bcc04196bb8060e4fd7cb760e14d8f953521", func := "gradine/gradinelaw04.MsgCut", spec := "msgCut", named := ["gradine/msg.named"], apart := false, laid := [("gradine/msg.named", laid_gradine_msg_named)], narrowed := true }
def MsgCutUptoSaid : Prop := msgCutUptoRow.holds Tryd.pinned (OpenSpec.upto msgCutSpec)

/-- 'gradinelaw04.MsgLeast', WHERE WHAT IT READS IS OF BULK AT MOST 1048576: true; the input reads as it did. -/
def msgLeastUptoRow : OpenClaim := { program := "ytihldenljddmoaadoor", sum := "787008f47394ef63a64e63016198bcc04196bb8060e4fd7cb760e14d8f953521", func := "gradine/gradinelaw04.MsgLeast", spec := "msgLeast", named := ["gradine/msg.named"], apart := false, laid := [("gradine/msg.named", laid_gradine_msg_named)], narrowed := true }
def MsgLeastUptoSaid : Prop := msgLeastUptoRow.holds Tryd.pinned (OpenSpec.upto msgLeastSpec)

end Rows
end Go.Proofs.YtihldenljddmoaaDoor
