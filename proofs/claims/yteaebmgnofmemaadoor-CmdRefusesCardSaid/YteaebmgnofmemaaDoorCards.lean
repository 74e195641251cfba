/-
  DERIVED. GIVEN WITH THE SEED: THE CARDS: each row of YteaebmgnofmemaaDoorRows.lean that lists a variable, with what it lists TIED to the program's text (the seventh form; the later family's looks); each row that meets fmt, with fmt's text TOLD by the authors' own Lean function (tested against real Go, not proved from fmt's source: count such statements apart). THE CARD IS WHAT COUNTS. Prove the row's statement (the work); the ties are given (YteaebmgnofmemaaDoorTie.lean); close each card by the builder's one call (the guide's Derived/Test/ToyasCard.lean, 'card_holds'). Laid BY PROGRAM, IN A SANDBOX (cutbox-door.mjs). By AI agents, Wed Nov 11 2026. No macro, syntax, notation, axiom, sorry.
-/
import Derived.Test.YteaebmgnofmemaaDoorRows
import GoSem.ClaimSeven
namespace Go.Proofs.YteaebmgnofmemaaDoor
namespace Rows

/-- THE TIED CARD OF 'changeoverlaw08.CmdChecks'. -/
def cmdChecksCard : Claim7 := { stood := { row := cmdChecksRow, standIns := [], harness := (true, "8e36e66cbcb4c24e0ccdeb26863f98b4fade30889931ecd2704cb1a94848fba2"), looks := true }, kinds := [], alts := [], laidByText := true, laidKinds := [.data, .data, .data, .data], laidTests := true, laidLooks := .later }
def CmdChecksCardSaid : Prop := Claim7.holds Tryd.pinned (.plain (OpenSpec.ofChange cmdChecksSpec)) cmdChecksCard

/-- THE TIED CARD OF 'changeoverlaw08.CmdEncodes'. -/
def cmdEncodesCard : Claim7 := { stood := { row := cmdEncodesRow, standIns := [], harness := (true, "8e36e66cbcb4c24e0ccdeb26863f98b4fade30889931ecd2704cb1a94848fba2"), looks := true }, kinds := [], alts := [], laidByText := true, laidKinds := [.data, .data, .data, .data], laidTests := true, laidLooks := .later }
def CmdEncodesCardSaid : Prop := Claim7.holds Tryd.pinned (.plain (OpenSpec.ofChange cmdEncodesSpec)) cmdEncodesCard

/-- THE TIED CARD OF 'changeoverlaw08.CmdDecodes'. -/
def cmdDecodesCard : Claim7 := { stood := { row := cmdDecodesRow, standIns := [], harness := (true, "8e36e66cbcb4c24e0ccdeb26863f98b4fade30889931ecd2704cb1a94848fba2"), looks := true }, kinds := [], alts := [], laidByText := true, laidKinds := [.data, .data, .data, .data], laidTests := true, laidLooks := .later }
def CmdDecodesCardSaid : Prop := Claim7.holds Tryd.pinned (.plain (OpenSpec.ofChange cmdDecodesSpec)) cmdDecodesCard

/-- THE TIED CARD OF 'changeoverlaw08.CmdRefuses'. -/
def cmdRefusesCard : Claim7 := { stood := { row := cmdRefusesRow, standIns := [], harness := (true, "8e36e66cbcb4c24e0ccdeb26863f98b4fade30889931ecd2704cb1a94848fba2"), looks := true }, kinds := [], alts := [], laidByText := true, laidKinds := [.data, .data, .data, .data], laidTests := true, laidLooks := .later }
def CmdRefusesCardSaid : Prop := Claim7.holds Tryd.pinned (.plain (OpenSpec.ofChange cmdRefusesSpec)) cmdRefusesCard

/-- THE SECOND FORM's CARD OF 'changeoverlaw08.CmdChecks'. -/
def cmdChecksUptoCard : Claim7 := { stood := { row := cmdChecksUptoRow, standIns := [], harness := (true, "8e36e66cbcb4c24e0ccdeb26863f98b4fade30889931ecd2704cb1a94848fba2"), looks := true }, kinds := [], alts := [], laidByText := true, laidKinds := [.data, .data, .data, .data], laidTests := true, laidLooks := .later }
def CmdChecksUptoCardSaid : Prop := Claim7.holds Tryd.pinned (.plain (OpenSpec.upto cmdChecksSpec)) cmdChecksUptoCard

/-- THE SECOND FORM's CARD OF 'changeoverlaw08.CmdEncodes'. -/
def cmdEncodesUptoCard : Claim7 := { stood := { row := cmdEncodesUptoRow, standIns := [], harness := (true, "8e36e66cbcb4c24e0ccdeb26863f98b4fade30889931ecd2704cb1a94848fba2"), looks := true }, kinds := [], alts := [], laidByText := true, laidKinds := [.data, .data, .data, .data], laidTests := true, laidLooks := .later }
def CmdEncodesUptoCardSaid : Prop := Claim7.holds Tryd.pinned (.plain (OpenSpec.upto cmdEncodesSpec)) cmdEncodesUptoCard

/-- THE SECOND FORM's CARD OF 'changeoverlaw08.CmdDecodes'. -/
def cmdDecodesUptoCard : Claim7 := { stood := { row := cmdDecodesUptoRow, standIns := [], harness := (true, "8e36e66cbcb4c24e0ccdeb26863f98b4fade30889931ecd2704cb1a94848fba2"), looks := true }, kinds := [], alts := [], laidByText := true, laidKinds := [.data, .data, .data, .data], laidTests := true, laidLooks := .later }
def CmdDecodesUptoCardSaid : Prop := Claim7.holds Tryd.pinned (.plain (OpenSpec.upto cmdDecodesSpec)) cmdDecodesUptoCard

/-- THE SECOND FORM's CARD OF 'changeoverlaw08.CmdRefuses'. -/
def cmdRefusesUptoCard : Claim7 := { stood := { row := cmdRefusesUptoRow, standIns := [], harness := (true, "8e36e66cbcb4c24e0ccdeb26863f98b4fade30889931ecd2704cb1a94848fba2"), looks := true }, kinds := [], alts := [], laidByText := true, laidKinds := [.data, .data, .data, .data], laidTests := true, laidLooks := .later }
def CmdRefusesUptoCardSaid : Prop := Claim7.holds Tryd.pinned (.plain (OpenSpec.upto cmdRefusesSpec)) cmdRefusesUptoCard
end Rows
end Go.Proofs.YteaebmgnofmemaaDoor
