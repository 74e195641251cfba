/-
  DERIVED. GIVEN WITH THE SEED: THE CARDS: each row of YtdbiplicmdnblaaDoorRows.lean that lists a variable, with what it lists TIED to the program's text (the seventh form; the later family's looks); each row that meets fmt, with fmt's text TOLD by the authors' own Lean function (tested against real Go, not proved from fmt's source: count such statements apart). THE CARD IS WHAT COUNTS. Prove the row's statement (the work); the ties are given (YtdbiplicmdnblaaDoorTie.lean); close each card by the builder's one call (the guide's Derived/Test/ToyasCard.lean, 'card_holds'). Laid BY PROGRAM, IN A SANDBOX (cutbox-door.mjs). By AI agents, Wed Nov 11 2026. No macro, syntax, notation, axiom, sorry.
-/
import Derived.Test.YtdbiplicmdnblaaDoorRows
import GoSem.ClaimSeven
namespace Go.Proofs.YtdbiplicmdnblaaDoor
namespace Rows

/-- THE TIED CARD OF 'changeoverlaw12.EntryChecks'. -/
def entryChecksCard : Claim7 := { stood := { row := entryChecksRow, standIns := [], harness := (true, "4e89d0f03a3be07342a8dc5e9c083e973fa6098cf627d341cd0fe566a6f5d57a"), looks := true }, kinds := [], alts := [], laidByText := true, laidKinds := [.data], laidTests := true, laidLooks := .later }
def EntryChecksCardSaid : Prop := Claim7.holds Tryd.pinned (.plain (OpenSpec.ofChange entryChecksSpec)) entryChecksCard

/-- THE TIED CARD OF 'changeoverlaw12.EntryLists'. -/
def entryListsCard : Claim7 := { stood := { row := entryListsRow, standIns := [], harness := (true, "4e89d0f03a3be07342a8dc5e9c083e973fa6098cf627d341cd0fe566a6f5d57a"), looks := true }, kinds := [], alts := [], laidByText := true, laidKinds := [.data], laidTests := true, laidLooks := .later }
def EntryListsCardSaid : Prop := Claim7.holds Tryd.pinned (.plain (OpenSpec.ofChange entryListsSpec)) entryListsCard

/-- THE SECOND FORM's CARD OF 'changeoverlaw12.EntryChecks'. -/
def entryChecksUptoCard : Claim7 := { stood := { row := entryChecksUptoRow, standIns := [], harness := (true, "4e89d0f03a3be07342a8dc5e9c083e973fa6098cf627d341cd0fe566a6f5d57a"), looks := true }, kinds := [], alts := [], laidByText := true, laidKinds := [.data], laidTests := true, laidLooks := .later }
def EntryChecksUptoCardSaid : Prop := Claim7.holds Tryd.pinned (.plain (OpenSpec.upto entryChecksSpec)) entryChecksUptoCard

/-- THE SECOND FORM's CARD OF 'changeoverlaw12.EntryLists'. -/
def entryListsUptoCard : Claim7 := { stood := { row := entryListsUptoRow, standIns := [], harness := (true, "4e89d0f03a3be07342a8dc5e9c083e973fa6098cf627d341cd0fe566a6f5d57a"), looks := true }, kinds := [], alts := [], laidByText := true, laidKinds := [.data], laidTests := true, laidLooks := .later }
def EntryListsUptoCardSaid : Prop := Claim7.holds Tryd.pinned (.plain (OpenSpec.upto entryListsSpec)) entryListsUptoCard
end Rows
end Go.Proofs.YtdbiplicmdnblaaDoor
