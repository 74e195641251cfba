/-
  DERIVED. GIVEN WITH THE SEED: THE CARDS: each row of YtenokgkbnpfjmaaDoorRows.lean that lists a variable, with what it lists TIED to the program's text (the seventh form; the later family's looks); each row that meets fmt, with fmt's text TOLD by the authors' own Lean function (tested against real Go, not proved from fmt's source: count such statements apart). THE CARD IS WHAT COUNTS. Prove the row's statement (the work); the ties are given (YtenokgkbnpfjmaaDoorTie.lean); close each card by the builder's one call (the guide's Derived/Test/ToyasCard.lean, 'card_holds'). Laid BY PROGRAM, IN A SANDBOX (cutbox-door.mjs). By AI agents, Wed Nov 11 2026. No macro, syntax, notation, axiom, sorry.
-/
import Derived.Test.YtenokgkbnpfjmaaDoorRows
import GoSem.ClaimSeven
namespace Go.Proofs.YtenokgkbnpfjmaaDoor
namespace Rows

/-- THE TIED CARD OF 'changeoverlaw13.MsgoneChecks'. -/
def msgoneChecksCard : Claim7 := { stood := { row := msgoneChecksRow, standIns := [], harness := (true, "1288a516278cd1e5376247beb45d53de1696b133d2f3db9336618092e5a7647b"), looks := true }, kinds := [], alts := [], laidByText := true, laidKinds := [.data, .data], laidTests := true, laidLooks := .later }
def MsgoneChecksCardSaid : Prop := Claim7.holds Tryd.pinned (.plain (OpenSpec.ofChange msgoneChecksSpec)) msgoneChecksCard

/-- THE SECOND FORM's CARD OF 'changeoverlaw13.MsgoneChecks'. -/
def msgoneChecksUptoCard : Claim7 := { stood := { row := msgoneChecksUptoRow, standIns := [], harness := (true, "1288a516278cd1e5376247beb45d53de1696b133d2f3db9336618092e5a7647b"), looks := true }, kinds := [], alts := [], laidByText := true, laidKinds := [.data, .data], laidTests := true, laidLooks := .later }
def MsgoneChecksUptoCardSaid : Prop := Claim7.holds Tryd.pinned (.plain (OpenSpec.upto msgoneChecksSpec)) msgoneChecksUptoCard
end Rows
end Go.Proofs.YtenokgkbnpfjmaaDoor
