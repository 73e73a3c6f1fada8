/-
  DERIVED. GIVEN WITH THE SEED: THE CARDS: each row of YtihldenljddmoaaDoorRows.lean that lists a variable, with what it lists TIED to the program's text (the seventh form; the later family's looks); each row that meets fmt, with fmt's text TOLD by the authors' own Lean function (tested against real Go, not proved from fmt's source: count such statements apart). THE CARD IS WHAT COUNTS. Prove the row's statement (the work); the ties are given (YtihldenljddmoaaDoorTie.lean); close each card by the builder's one call (the guide's Derived/Test/ToyasCard.lean, 'card_holds'). Laid BY PROGRAM, IN A SANDBOX (cutbox-door.mjs). By AI agents, Wed Nov 11 2026. No macro, syntax, notation, axiom, sorry.
-/
import Derived.Test.YtihldenljddmoaaDoorRows
import GoSem.ClaimSeven
namespace Go.Proofs.YtihldenljddmoaaDoor
namespace Rows

/-- THE TIED CARD OF 'gradinelaw04.MsgPuts'. -/
def msgPutsCard : Claim7 := { stood := { row := msgPutsRow, standIns := [], harness := (true, "5ebcc5a5b2610f04ca23f6dd41b52860b727844090da62fd5728a48c884add30"), looks := false }, kinds := [], alts := [], laidByText := true, laidKinds := [.data], laidTests := true, laidLooks := .later }
def MsgPutsCardSaid : Prop := Claim7.holds Tryd.pinned (.plain (OpenSpec.ofChange msgPutsSpec)) msgPutsCard

/-- THE TIED CARD OF 'gradinelaw04.MsgFields'. -/
def msgFieldsCard : Claim7 := { stood := { row := msgFieldsRow, standIns := [], harness := (true, "5ebcc5a5b2610f04ca23f6dd41b52860b727844090da62fd5728a48c884add30"), looks := false }, kinds := [], alts := [], laidByText := true, laidKinds := [.data], laidTests := true, laidLooks := .later }
def MsgFieldsCardSaid : Prop := Claim7.holds Tryd.pinned (.plain (OpenSpec.ofChange msgFieldsSpec)) msgFieldsCard

/-- THE TIED CARD OF 'gradinelaw04.MsgCut'. -/
def msgCutCard : Claim7 := { stood := { row := msgCutRow, standIns := [], harness := (true, "5ebcc5a5b2610f04ca23f6dd41b52860b727844090da62fd5728a48c884add30"), looks := false }, kinds := [], alts := [], laidByText := true, laidKinds := [.data], laidTests := true, laidLooks := .later }
def MsgCutCardSaid : Prop := Claim7.holds Tryd.pinned (.plain (OpenSpec.ofChange msgCutSpec)) msgCutCard

/-- THE TIED CARD OF 'gradinelaw04.MsgLeast'. -/
def msgLeastCard : Claim7 := { stood := { row := msgLeastRow, standIns := [], harness := (true, "5ebcc5a5b2610f04ca23f6dd41b52860b727844090da62fd5728a48c884add30"), looks := false }, kinds := [], alts := [], laidByText := true, laidKinds := [.data], laidTests := true, laidLooks := .later }
def MsgLeastCardSaid : Prop := Claim7.holds Tryd.pinned (.plain (OpenSpec.ofChange msgLeastSpec)) msgLeastCard

/-- THE SECOND FORM's CARD OF 'gradinelaw04.MsgPuts'. -/
def msgPutsUptoCard : Claim7 := { stood := { row := msgPutsUptoRow, standIns := [], harness := (true, "5ebcc5a5b2610f04ca23f6dd41b52860b727844090da62fd5728a48c884add30"), looks := false }, kinds := [], alts := [], laidByText := true, laidKinds := [.data], laidTests := true, laidLooks := .later }
def MsgPutsUptoCardSaid : Prop := Claim7.holds Tryd.pinned (.plain (OpenSpec.upto msgPutsSpec)) msgPutsUptoCard

/-- THE SECOND FORM's CARD OF 'gradinelaw04.MsgFields'. -/
def msgFieldsUptoCard : Claim7 := { stood := { row := msgFieldsUptoRow, standIns := [], harness := (true, "5ebcc5a5b2610f04ca23f6dd41b52860b727844090da62fd5728a48c884add30"), looks := false }, kinds := [], alts := [], laidByText := true, laidKinds := [.data], laidTests := true, laidLooks := .later }
def MsgFieldsUptoCardSaid : Prop := Claim7.holds Tryd.pinned (.plain (OpenSpec.upto msgFieldsSpec)) msgFieldsUptoCard

/-- THE SECOND FORM's CARD OF 'gradinelaw04.MsgCut'. -/
def msgCutUptoCard : Claim7 := { stood := { row := msgCutUptoRow, standIns := [], harness := (true, "5ebcc5a5b2610f04ca23f6dd41b52860b727844090da62fd5728a48c884add30"), looks := false }, kinds := [], alts := [], laidByText := true, laidKinds := [.data], laidTests := true, laidLooks := .later }
def MsgCutUptoCardSaid : Prop := Claim7.holds Tryd.pinned (.plain (OpenSpec.upto msgCutSpec)) msgCutUptoCard

/-- THE SECOND FORM's CARD OF 'gradinelaw04.MsgLeast'. -/
def msgLeastUptoCard : Claim7 := { stood := { row := msgLeastUptoRow, standIns := [], harness := (true, "5ebcc5a5b2610f04ca23f6dd41b52860b727844090da62fd5728a48c884add30"), looks := false }, kinds := [], alts := [], laidByText := true, laidKinds := [.data], laidTests := true, laidLooks := .later }
def MsgLeastUptoCardSaid : Prop := Claim7.holds Tryd.pinned (.plain (OpenSpec.upto msgLeastSpec)) msgLeastUptoCard
end Rows
end Go.Proofs.YtihldenljddmoaaDoor
