/-
  DERIVED. GIVEN WITH THE SEED: THE CARDS: each row of YtegpfbmanpnhkaaDoorRows.lean that lists a variable, with what it lists TIED to the program's text (the seventh form; the later family's looks); each row that meets fmt, with fmt's text TOLD by the authors' own Lean function (tested against real Go, not proved from fmt's source: count such statements apart). THE CARD IS WHAT COUNTS. Prove the row's statement (the work); the ties are given (YtegpfbmanpnhkaaDoorTie.lean); close each card by the builder's one call (the guide's Derived/Test/ToyasCard.lean, 'card_holds'). Laid BY PROGRAM, IN A SANDBOX (cutbox-door.mjs). By AI agents, Wed Nov 11 2026. No macro, syntax, notation, axiom, sorry.
-/
import Derived.Test.YtegpfbmanpnhkaaDoorRows
import GoSem.ClaimSeven
namespace Go.Proofs.YtegpfbmanpnhkaaDoor
namespace Rows

/-- THE TIED CARD OF 'changeoverlaw16.ReconeChecks'. -/
def reconeChecksCard : Claim7 := { stood := { row := reconeChecksRow, standIns := [], harness := (true, "f5a4cc7cefc47a5ff85f2f64aebc44ece13034cb84de6159e84af8737ea8ea7f"), looks := true }, kinds := [], alts := [], laidByText := true, laidKinds := [.data], laidTests := true, laidLooks := .later }
def ReconeChecksCardSaid : Prop := Claim7.holds Tryd.pinned (.plain (OpenSpec.ofChange reconeChecksSpec)) reconeChecksCard

/-- THE TIED CARD OF 'changeoverlaw16.ReconeEncodes'. -/
def reconeEncodesCard : Claim7 := { stood := { row := reconeEncodesRow, standIns := [], harness := (true, "f5a4cc7cefc47a5ff85f2f64aebc44ece13034cb84de6159e84af8737ea8ea7f"), looks := true }, kinds := [], alts := [], laidByText := true, laidKinds := [.data], laidTests := true, laidLooks := .later }
def ReconeEncodesCardSaid : Prop := Claim7.holds Tryd.pinned (.plain (OpenSpec.ofChange reconeEncodesSpec)) reconeEncodesCard

/-- THE TIED CARD OF 'changeoverlaw16.ReconeDecodes'. -/
def reconeDecodesCard : Claim7 := { stood := { row := reconeDecodesRow, standIns := [], harness := (true, "f5a4cc7cefc47a5ff85f2f64aebc44ece13034cb84de6159e84af8737ea8ea7f"), looks := true }, kinds := [], alts := [], laidByText := true, laidKinds := [.data], laidTests := true, laidLooks := .later }
def ReconeDecodesCardSaid : Prop := Claim7.holds Tryd.pinned (.plain (OpenSpec.ofChange reconeDecodesSpec)) reconeDecodesCard

/-- THE SECOND FORM's CARD OF 'changeoverlaw16.ReconeChecks'. -/
def reconeChecksUptoCard : Claim7 := { stood := { row := reconeChecksUptoRow, standIns := [], harness := (true, "f5a4cc7cefc47a5ff85f2f64aebc44ece13034cb84de6159e84af8737ea8ea7f"), looks := true }, kinds := [], alts := [], laidByText := true, laidKinds := [.data], laidTests := true, laidLooks := .later }
def ReconeChecksUptoCardSaid : Prop := Claim7.holds Tryd.pinned (.plain (OpenSpec.upto reconeChecksSpec)) reconeChecksUptoCard

/-- THE SECOND FORM's CARD OF 'changeoverlaw16.ReconeEncodes'. -/
def reconeEncodesUptoCard : Claim7 := { stood := { row := reconeEncodesUptoRow, standIns := [], harness := (true, "f5a4cc7cefc47a5ff85f2f64aebc44ece13034cb84de6159e84af8737ea8ea7f"), looks := true }, kinds := [], alts := [], laidByText := true, laidKinds := [.data], laidTests := true, laidLooks := .later }
def ReconeEncodesUptoCardSaid : Prop := Claim7.holds Tryd.pinned (.plain (OpenSpec.upto reconeEncodesSpec)) reconeEncodesUptoCard

/-- THE SECOND FORM's CARD OF 'changeoverlaw16.ReconeDecodes'. -/
def reconeDecodesUptoCard : Claim7 := { stood := { row := reconeDecodesUptoRow, standIns := [], harness := (true, "f5a4cc7cefc47a5ff85f2f64aebc44ece13034cb84de6159e84af8737ea8ea7f"), looks := true }, kinds := [], alts := [], laidByText := true, laidKinds := [.data], laidTests := true, laidLooks := .later }
def ReconeDecodesUptoCardSaid : Prop := Claim7.holds Tryd.pinned (.plain (OpenSpec.upto reconeDecodesSpec)) reconeDecodesUptoCard
end Rows
end Go.Proofs.YtegpfbmanpnhkaaDoor
