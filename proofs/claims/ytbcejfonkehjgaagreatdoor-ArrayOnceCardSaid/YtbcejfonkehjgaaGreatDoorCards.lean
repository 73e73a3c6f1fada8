/-
  DERIVED. GIVEN WITH THE SEED: THE CARDS: each row of YtbcejfonkehjgaaGreatDoorRows.lean that lists a variable, with what it lists TIED to the program's text (the seventh form; the later family's looks); each row that meets fmt, with fmt's text TOLD by the authors' own Lean function (tested against real Go, not proved from fmt's source: count such statements apart). THE CARD IS WHAT COUNTS. Prove the row's statement (the work); the ties are given (YtbcejfonkehjgaaGreatDoorTie.lean); close each card by the builder's one call (the guide's Derived/Test/ToyasCard.lean, 'card_holds'). Laid BY PROGRAM, IN A SANDBOX (cutbox-door.mjs). By AI agents, Wed Nov 11 2026. No macro, syntax, notation, axiom, sorry.
-/
import Derived.Test.YtbcejfonkehjgaaGreatDoorRows
import GoSem.ClaimSeven
namespace Go.Proofs.YtbcejfonkehjgaaGreatDoor
namespace Rows

/-- THE TIED CARD OF 'gradinelaw18.ArrayHears'. -/
def arrayHearsCard : Claim7 := { stood := { row := arrayHearsRow, standIns := [], harness := (true, "49abd185a526145efccd001644dd9a3d45e9621768c5243a4731db7c0e1449d5"), looks := true }, kinds := [], alts := [], laidByText := true, laidKinds := [.data], laidTests := true, laidLooks := .later }
def ArrayHearsCardSaid : Prop := Claim7.holds Tryz.pinned (.plain (OpenSpec.ofChange arrayHearsSpec)) arrayHearsCard

/-- THE TIED CARD OF 'gradinelaw18.ArrayTrue'. -/
def arrayTrueCard : Claim7 := { stood := { row := arrayTrueRow, standIns := [], harness := (true, "49abd185a526145efccd001644dd9a3d45e9621768c5243a4731db7c0e1449d5"), looks := true }, kinds := [], alts := [], laidByText := true, laidKinds := [.data], laidTests := true, laidLooks := .later }
def ArrayTrueCardSaid : Prop := Claim7.holds Tryz.pinned (.plain (OpenSpec.ofChange arrayTrueSpec)) arrayTrueCard

/-- THE TIED CARD OF 'gradinelaw18.ArrayBound'. -/
def arrayBoundCard : Claim7 := { stood := { row := arrayBoundRow, standIns := [], harness := (true, "49abd185a526145efccd001644dd9a3d45e9621768c5243a4731db7c0e1449d5"), looks := true }, kinds := [], alts := [], laidByText := true, laidKinds := [.data], laidTests := true, laidLooks := .later }
def ArrayBoundCardSaid : Prop := Claim7.holds Tryz.pinned (.plain (OpenSpec.ofChange arrayBoundSpec)) arrayBoundCard

/-- THE TIED CARD OF 'gradinelaw18.ArrayNil'. -/
def arrayNilCard : Claim7 := { stood := { row := arrayNilRow, standIns := [], harness := (true, "49abd185a526145efccd001644dd9a3d45e9621768c5243a4731db7c0e1449d5"), looks := true }, kinds := [], alts := [], laidByText := true, laidKinds := [.data], laidTests := true, laidLooks := .later }
def ArrayNilCardSaid : Prop := Claim7.holds Tryz.pinned (.plain (OpenSpec.ofChange arrayNilSpec)) arrayNilCard

/-- THE TIED CARD OF 'gradinelaw18.ArrayOnce'. -/
def arrayOnceCard : Claim7 := { stood := { row := arrayOnceRow, standIns := [], harness := (true, "49abd185a526145efccd001644dd9a3d45e9621768c5243a4731db7c0e1449d5"), looks := true }, kinds := [], alts := [], laidByText := true, laidKinds := [.data], laidTests := true, laidLooks := .later }
def ArrayOnceCardSaid : Prop := Claim7.holds Tryz.pinned (.plain (OpenSpec.ofChange arrayOnceSpec)) arrayOnceCard

/-- THE SECOND FORM's CARD OF 'gradinelaw18.ArrayHears'. -/
def arrayHearsUptoCard : Claim7 := { stood := { row := arrayHearsUptoRow, standIns := [], harness := (true, "49abd185a526145efccd001644dd9a3d45e9621768c5243a4731db7c0e1449d5"), looks := true }, kinds := [], alts := [], laidByText := true, laidKinds := [.data], laidTests := true, laidLooks := .later }
def ArrayHearsUptoCardSaid : Prop := Claim7.holds Tryz.pinned (.plain (OpenSpec.upto arrayHearsSpec)) arrayHearsUptoCard

/-- THE SECOND FORM's CARD OF 'gradinelaw18.ArrayTrue'. -/
def arrayTrueUptoCard : Claim7 := { stood := { row := arrayTrueUptoRow, standIns := [], harness := (true, "49abd185a526145efccd001644dd9a3d45e9621768c5243a4731db7c0e1449d5"), looks := true }, kinds := [], alts := [], laidByText := true, laidKinds := [.data], laidTests := true, laidLooks := .later }
def ArrayTrueUptoCardSaid : Prop := Claim7.holds Tryz.pinned (.plain (OpenSpec.upto arrayTrueSpec)) arrayTrueUptoCard

/-- THE SECOND FORM's CARD OF 'gradinelaw18.ArrayBound'. -/
def arrayBoundUptoCard : Claim7 := { stood := { row := arrayBoundUptoRow, standIns := [], harness := (true, "49abd185a526145efccd001644dd9a3d45e9621768c5243a4731db7c0e1449d5"), looks := true }, kinds := [], alts := [], laidByText := true, laidKinds := [.data], laidTests := true, laidLooks := .later }
def ArrayBoundUptoCardSaid : Prop := Claim7.holds Tryz.pinned (.plain (OpenSpec.upto arrayBoundSpec)) arrayBoundUptoCard

/-- THE SECOND FORM's CARD OF 'gradinelaw18.ArrayNil'. -/
def arrayNilUptoCard : Claim7 := { stood := { row := arrayNilUptoRow, standIns := [], harness := (true, "49abd185a526145efccd001644dd9a3d45e9621768c5243a4731db7c0e1449d5"), looks := true }, kinds := [], alts := [], laidByText := true, laidKinds := [.data], laidTests := true, laidLooks := .later }
def ArrayNilUptoCardSaid : Prop := Claim7.holds Tryz.pinned (.plain (OpenSpec.upto arrayNilSpec)) arrayNilUptoCard

/-- THE SECOND FORM's CARD OF 'gradinelaw18.ArrayOnce'. -/
def arrayOnceUptoCard : Claim7 := { stood := { row := arrayOnceUptoRow, standIns := [], harness := (true, "49abd185a526145efccd001644dd9a3d45e9621768c5243a4731db7c0e1449d5"), looks := true }, kinds := [], alts := [], laidByText := true, laidKinds := [.data], laidTests := true, laidLooks := .later }
def ArrayOnceUptoCardSaid : Prop := Claim7.holds Tryz.pinned (.plain (OpenSpec.upto arrayOnceSpec)) arrayOnceUptoCard
end Rows
end Go.Proofs.YtbcejfonkehjgaaGreatDoor
