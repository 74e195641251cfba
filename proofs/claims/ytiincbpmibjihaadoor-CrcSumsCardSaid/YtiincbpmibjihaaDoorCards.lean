/-
  DERIVED. GIVEN WITH THE SEED: THE CARDS: each row of YtiincbpmibjihaaDoorRows.lean that lists a variable, with what it lists TIED to the program's text (the seventh form; the later family's looks); each row that meets fmt, with fmt's text TOLD by the authors' own Lean function (tested against real Go, not proved from fmt's source: count such statements apart). THE CARD IS WHAT COUNTS. Prove the row's statement (the work); the ties are given (YtiincbpmibjihaaDoorTie.lean); close each card by the builder's one call (the guide's Derived/Test/ToyasCard.lean, 'card_holds'). Laid BY PROGRAM, IN A SANDBOX (cutbox-door.mjs). By AI agents, Wed Nov 11 2026. No macro, syntax, notation, axiom, sorry.
-/
import Derived.Test.YtiincbpmibjihaaDoorRows
import GoSem.ClaimSeven
namespace Go.Proofs.YtiincbpmibjihaaDoor
namespace Rows

/-- THE TIED CARD OF 'changeoverlaw02.CrcSums'. -/
def crcSumsCard : Claim7 := { stood := { row := crcSumsRow, standIns := [], harness := (true, "7ee3515e598b5ae06a19dc98ec8b47f330059c2379e47795033ceb7383fb9ec7"), looks := false }, kinds := [], alts := [], laidByText := true, laidKinds := [.data], laidTests := true, laidLooks := .later }
def CrcSumsCardSaid : Prop := Claim7.holds Tryd.pinned (.plain (OpenSpec.ofChange crcSumsSpec)) crcSumsCard

/-- THE TIED CARD OF 'changeoverlaw02.CrcGoesOn'. -/
def crcGoesOnCard : Claim7 := { stood := { row := crcGoesOnRow, standIns := [], harness := (true, "7ee3515e598b5ae06a19dc98ec8b47f330059c2379e47795033ceb7383fb9ec7"), looks := false }, kinds := [], alts := [], laidByText := true, laidKinds := [.data], laidTests := true, laidLooks := .later }
def CrcGoesOnCardSaid : Prop := Claim7.holds Tryd.pinned (.plain (OpenSpec.ofChange crcGoesOnSpec)) crcGoesOnCard

/-- THE TIED CARD OF 'changeoverlaw02.CrcChanges'. -/
def crcChangesCard : Claim7 := { stood := { row := crcChangesRow, standIns := [], harness := (true, "7ee3515e598b5ae06a19dc98ec8b47f330059c2379e47795033ceb7383fb9ec7"), looks := false }, kinds := [], alts := [], laidByText := true, laidKinds := [.data], laidTests := true, laidLooks := .later }
def CrcChangesCardSaid : Prop := Claim7.holds Tryd.pinned (.plain (OpenSpec.ofChange crcChangesSpec)) crcChangesCard

/-- THE SECOND FORM's CARD OF 'changeoverlaw02.CrcSums'. -/
def crcSumsUptoCard : Claim7 := { stood := { row := crcSumsUptoRow, standIns := [], harness := (true, "7ee3515e598b5ae06a19dc98ec8b47f330059c2379e47795033ceb7383fb9ec7"), looks := false }, kinds := [], alts := [], laidByText := true, laidKinds := [.data], laidTests := true, laidLooks := .later }
def CrcSumsUptoCardSaid : Prop := Claim7.holds Tryd.pinned (.plain (OpenSpec.upto crcSumsSpec)) crcSumsUptoCard

/-- THE SECOND FORM's CARD OF 'changeoverlaw02.CrcGoesOn'. -/
def crcGoesOnUptoCard : Claim7 := { stood := { row := crcGoesOnUptoRow, standIns := [], harness := (true, "7ee3515e598b5ae06a19dc98ec8b47f330059c2379e47795033ceb7383fb9ec7"), looks := false }, kinds := [], alts := [], laidByText := true, laidKinds := [.data], laidTests := true, laidLooks := .later }
def CrcGoesOnUptoCardSaid : Prop := Claim7.holds Tryd.pinned (.plain (OpenSpec.upto crcGoesOnSpec)) crcGoesOnUptoCard

/-- THE SECOND FORM's CARD OF 'changeoverlaw02.CrcChanges'. -/
def crcChangesUptoCard : Claim7 := { stood := { row := crcChangesUptoRow, standIns := [], harness := (true, "7ee3515e598b5ae06a19dc98ec8b47f330059c2379e47795033ceb7383fb9ec7"), looks := false }, kinds := [], alts := [], laidByText := true, laidKinds := [.data], laidTests := true, laidLooks := .later }
def CrcChangesUptoCardSaid : Prop := Claim7.holds Tryd.pinned (.plain (OpenSpec.upto crcChangesSpec)) crcChangesUptoCard
end Rows
end Go.Proofs.YtiincbpmibjihaaDoor
