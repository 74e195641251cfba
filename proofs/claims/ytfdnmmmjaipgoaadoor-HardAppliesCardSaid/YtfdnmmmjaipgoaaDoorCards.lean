/-
  DERIVED. GIVEN WITH THE SEED: THE CARDS: each row of YtfdnmmmjaipgoaaDoorRows.lean that lists a variable, with what it lists TIED to the program's text (the seventh form; the later family's looks); each row that meets fmt, with fmt's text TOLD by the authors' own Lean function (tested against real Go, not proved from fmt's source: count such statements apart). THE CARD IS WHAT COUNTS. Prove the row's statement (the work); the ties are given (YtfdnmmmjaipgoaaDoorTie.lean); close each card by the builder's one call (the guide's Derived/Test/ToyasCard.lean, 'card_holds'). Laid BY PROGRAM, IN A SANDBOX (cutbox-door.mjs). By AI agents, Wed Nov 11 2026. No macro, syntax, notation, axiom, sorry.
-/
import Derived.Test.YtfdnmmmjaipgoaaDoorRows
import GoSem.ClaimSeven
namespace Go.Proofs.YtfdnmmmjaipgoaaDoor
namespace Rows

/-- THE TIED CARD OF 'changeoverlaw19.HardOf'. -/
def hardOfCard : Claim7 := { stood := { row := hardOfRow, standIns := [], harness := (true, "16dfcf20cec8bfd48bc77a7578a0480d85dbea5a464c493459707924a52abd0f"), looks := true }, kinds := [], alts := [], laidByText := true, laidKinds := [.data], laidTests := true, laidLooks := .later }
def HardOfCardSaid : Prop := Claim7.holds Tryd.pinned (.plain (OpenSpec.ofChange hardOfSpec)) hardOfCard

/-- THE TIED CARD OF 'changeoverlaw19.HardBack'. -/
def hardBackCard : Claim7 := { stood := { row := hardBackRow, standIns := [], harness := (true, "16dfcf20cec8bfd48bc77a7578a0480d85dbea5a464c493459707924a52abd0f"), looks := true }, kinds := [], alts := [], laidByText := true, laidKinds := [.data], laidTests := true, laidLooks := .later }
def HardBackCardSaid : Prop := Claim7.holds Tryd.pinned (.plain (OpenSpec.ofChange hardBackSpec)) hardBackCard

/-- THE TIED CARD OF 'changeoverlaw19.HardApplies'. -/
def hardAppliesCard : Claim7 := { stood := { row := hardAppliesRow, standIns := [], harness := (true, "16dfcf20cec8bfd48bc77a7578a0480d85dbea5a464c493459707924a52abd0f"), looks := true }, kinds := [], alts := [], laidByText := true, laidKinds := [.data], laidTests := true, laidLooks := .later }
def HardAppliesCardSaid : Prop := Claim7.holds Tryd.pinned (.plain (OpenSpec.ofChange hardAppliesSpec)) hardAppliesCard

/-- THE SECOND FORM's CARD OF 'changeoverlaw19.HardOf'. -/
def hardOfUptoCard : Claim7 := { stood := { row := hardOfUptoRow, standIns := [], harness := (true, "16dfcf20cec8bfd48bc77a7578a0480d85dbea5a464c493459707924a52abd0f"), looks := true }, kinds := [], alts := [], laidByText := true, laidKinds := [.data], laidTests := true, laidLooks := .later }
def HardOfUptoCardSaid : Prop := Claim7.holds Tryd.pinned (.plain (OpenSpec.upto hardOfSpec)) hardOfUptoCard

/-- THE SECOND FORM's CARD OF 'changeoverlaw19.HardBack'. -/
def hardBackUptoCard : Claim7 := { stood := { row := hardBackUptoRow, standIns := [], harness := (true, "16dfcf20cec8bfd48bc77a7578a0480d85dbea5a464c493459707924a52abd0f"), looks := true }, kinds := [], alts := [], laidByText := true, laidKinds := [.data], laidTests := true, laidLooks := .later }
def HardBackUptoCardSaid : Prop := Claim7.holds Tryd.pinned (.plain (OpenSpec.upto hardBackSpec)) hardBackUptoCard

/-- THE SECOND FORM's CARD OF 'changeoverlaw19.HardApplies'. -/
def hardAppliesUptoCard : Claim7 := { stood := { row := hardAppliesUptoRow, standIns := [], harness := (true, "16dfcf20cec8bfd48bc77a7578a0480d85dbea5a464c493459707924a52abd0f"), looks := true }, kinds := [], alts := [], laidByText := true, laidKinds := [.data], laidTests := true, laidLooks := .later }
def HardAppliesUptoCardSaid : Prop := Claim7.holds Tryd.pinned (.plain (OpenSpec.upto hardAppliesSpec)) hardAppliesUptoCard
end Rows
end Go.Proofs.YtfdnmmmjaipgoaaDoor
