/-
  DERIVED. GIVEN WITH THE SEED: THE CARDS: each row of YtomdnhlcafpbfaaDoorRows.lean that lists a variable, with what it lists TIED to the program's text (the seventh form; the later family's looks); each row that meets fmt, with fmt's text TOLD by the authors' own Lean function (tested against real Go, not proved from fmt's source: count such statements apart). THE CARD IS WHAT COUNTS. Prove the row's statement (the work); the ties are given (YtomdnhlcafpbfaaDoorTie.lean); close each card by the builder's one call (the guide's Derived/Test/ToyasCard.lean, 'card_holds'). Laid BY PROGRAM, IN A SANDBOX (cutbox-door.mjs). By AI agents, Wed Nov 11 2026. No macro, syntax, notation, axiom, sorry.
-/
import Derived.Test.YtomdnhlcafpbfaaDoorRows
import GoSem.ClaimSeven
namespace Go.Proofs.YtomdnhlcafpbfaaDoor
namespace Rows

/-- THE TIED CARD OF 'changeoverlaw09.AnswerEncodes'. -/
def answerEncodesCard : Claim7 := { stood := { row := answerEncodesRow, standIns := [], harness := (true, "29cd5c4d3104bcec8ff85332b6e3c5eb576f3f98ab8833baa983bf1453b05a57"), looks := true }, kinds := [], alts := [], laidByText := true, laidKinds := [.data, .data, .data], laidTests := true, laidLooks := .later }
def AnswerEncodesCardSaid : Prop := Claim7.holds Tryd.pinned (.plain (OpenSpec.ofChange answerEncodesSpec)) answerEncodesCard

/-- THE TIED CARD OF 'changeoverlaw09.AnswerDecodes'. -/
def answerDecodesCard : Claim7 := { stood := { row := answerDecodesRow, standIns := [], harness := (true, "29cd5c4d3104bcec8ff85332b6e3c5eb576f3f98ab8833baa983bf1453b05a57"), looks := true }, kinds := [], alts := [], laidByText := true, laidKinds := [.data, .data, .data], laidTests := true, laidLooks := .later }
def AnswerDecodesCardSaid : Prop := Claim7.holds Tryd.pinned (.plain (OpenSpec.ofChange answerDecodesSpec)) answerDecodesCard

/-- THE TIED CARD OF 'changeoverlaw09.AnswerTexts'. -/
def answerTextsCard : Claim7 := { stood := { row := answerTextsRow, standIns := [], harness := (true, "29cd5c4d3104bcec8ff85332b6e3c5eb576f3f98ab8833baa983bf1453b05a57"), looks := true }, kinds := [], alts := [], laidByText := true, laidKinds := [.data, .data, .data, .sentinel, .sentinel], laidTests := true, laidLooks := .later }
def AnswerTextsCardSaid : Prop := Claim7.holds Tryd.pinned (.plain (OpenSpec.ofChange answerTextsSpec)) answerTextsCard

/-- THE SECOND FORM's CARD OF 'changeoverlaw09.AnswerEncodes'. -/
def answerEncodesUptoCard : Claim7 := { stood := { row := answerEncodesUptoRow, standIns := [], harness := (true, "29cd5c4d3104bcec8ff85332b6e3c5eb576f3f98ab8833baa983bf1453b05a57"), looks := true }, kinds := [], alts := [], laidByText := true, laidKinds := [.data, .data, .data], laidTests := true, laidLooks := .later }
def AnswerEncodesUptoCardSaid : Prop := Claim7.holds Tryd.pinned (.plain (OpenSpec.upto answerEncodesSpec)) answerEncodesUptoCard

/-- THE SECOND FORM's CARD OF 'changeoverlaw09.AnswerDecodes'. -/
def answerDecodesUptoCard : Claim7 := { stood := { row := answerDecodesUptoRow, standIns := [], harness := (true, "29cd5c4d3104bcec8ff85332b6e3c5eb576f3f98ab8833baa983bf1453b05a57"), looks := true }, kinds := [], alts := [], laidByText := true, laidKinds := [.data, .data, .data], laidTests := true, laidLooks := .later }
def AnswerDecodesUptoCardSaid : Prop := Claim7.holds Tryd.pinned (.plain (OpenSpec.upto answerDecodesSpec)) answerDecodesUptoCard

/-- THE SECOND FORM's CARD OF 'changeoverlaw09.AnswerTexts'. -/
def answerTextsUptoCard : Claim7 := { stood := { row := answerTextsUptoRow, standIns := [], harness := (true, "29cd5c4d3104bcec8ff85332b6e3c5eb576f3f98ab8833baa983bf1453b05a57"), looks := true }, kinds := [], alts := [], laidByText := true, laidKinds := [.data, .data, .data, .sentinel, .sentinel], laidTests := true, laidLooks := .later }
def AnswerTextsUptoCardSaid : Prop := Claim7.holds Tryd.pinned (.plain (OpenSpec.upto answerTextsSpec)) answerTextsUptoCard
end Rows
end Go.Proofs.YtomdnhlcafpbfaaDoor
