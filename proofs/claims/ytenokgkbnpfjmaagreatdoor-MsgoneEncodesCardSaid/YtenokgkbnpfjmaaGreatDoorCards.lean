/-
  DERIVED. GIVEN WITH THE SEED: THE CARDS: each row of YtenokgkbnpfjmaaGreatDoorRows.lean that lists a variable, with what it lists TIED to the program's text (the seventh form; the later family's looks); each row that meets fmt, with fmt's text TOLD by the authors' own Lean function (tested against real Go, not proved from fmt's source: count such statements apart). THE CARD IS WHAT COUNTS. Prove the row's statement (the work); the ties are given (YtenokgkbnpfjmaaGreatDoorTie.lean); close each card by the builder's one call (the guide's Derived/Test/ToyasCard.lean, 'card_holds'). Laid BY PROGRAM, IN A SANDBOX (cutbox-door.mjs). By AI agents, Wed Nov 11 2026. No macro, syntax, notation, axiom, sorry.
-/
import Derived.Test.YtenokgkbnpfjmaaGreatDoorRows
import GoSem.ClaimSeven
namespace Go.Proofs.YtenokgkbnpfjmaaGreatDoor
namespace Rows

/-- THE TIED CARD OF 'changeoverlaw13.MsgoneEncodes'. -/
def msgoneEncodesCard : Claim7 := { stood := { row := msgoneEncodesRow, standIns := [], harness := (true, "b9b10517ea25731958884622273bd4299c4d2ec1c72014294ab83a1d34687004"), looks := true }, kinds := [], alts := [], laidByText := true, laidKinds := [.data, .data], laidTests := true, laidLooks := .later }
def MsgoneEncodesCardSaid : Prop := Claim7.holds Tryz.pinned (.plain (OpenSpec.ofChange msgoneEncodesSpec)) msgoneEncodesCard

/-- THE TIED CARD OF 'changeoverlaw13.MsgoneDecodes'. -/
def msgoneDecodesCard : Claim7 := { stood := { row := msgoneDecodesRow, standIns := [], harness := (true, "b9b10517ea25731958884622273bd4299c4d2ec1c72014294ab83a1d34687004"), looks := true }, kinds := [], alts := [], laidByText := true, laidKinds := [.data, .data], laidTests := true, laidLooks := .later }
def MsgoneDecodesCardSaid : Prop := Claim7.holds Tryz.pinned (.plain (OpenSpec.ofChange msgoneDecodesSpec)) msgoneDecodesCard

/-- THE SECOND FORM's CARD OF 'changeoverlaw13.MsgoneEncodes'. -/
def msgoneEncodesUptoCard : Claim7 := { stood := { row := msgoneEncodesUptoRow, standIns := [], harness := (true, "b9b10517ea25731958884622273bd4299c4d2ec1c72014294ab83a1d34687004"), looks := true }, kinds := [], alts := [], laidByText := true, laidKinds := [.data, .data], laidTests := true, laidLooks := .later }
def MsgoneEncodesUptoCardSaid : Prop := Claim7.holds Tryz.pinned (.plain (OpenSpec.upto msgoneEncodesSpec)) msgoneEncodesUptoCard

/-- THE SECOND FORM's CARD OF 'changeoverlaw13.MsgoneDecodes'. -/
def msgoneDecodesUptoCard : Claim7 := { stood := { row := msgoneDecodesUptoRow, standIns := [], harness := (true, "b9b10517ea25731958884622273bd4299c4d2ec1c72014294ab83a1d34687004"), looks := true }, kinds := [], alts := [], laidByText := true, laidKinds := [.data, .data], laidTests := true, laidLooks := .later }
def MsgoneDecodesUptoCardSaid : Prop := Claim7.holds Tryz.pinned (.plain (OpenSpec.upto msgoneDecodesSpec)) msgoneDecodesUptoCard
end Rows
end Go.Proofs.YtenokgkbnpfjmaaGreatDoor
