/-
  DERIVED. GIVEN WITH THE SEED: THE CARDS: each row of YtndicjpbanmpjaaGreatDoorRows.lean that lists a variable, with what it lists TIED to the program's text (the seventh form; the later family's looks); each row that meets fmt, with fmt's text TOLD by the authors' own Lean function (tested against real Go, not proved from fmt's source: count such statements apart). THE CARD IS WHAT COUNTS. Prove the row's statement (the work); the ties are given (YtndicjpbanmpjaaGreatDoorTie.lean); close each card by the builder's one call (the guide's Derived/Test/ToyasCard.lean, 'card_holds'). Laid BY PROGRAM, IN A SANDBOX (cutbox-door.mjs). By AI agents, Wed Nov 11 2026. No macro, syntax, notation, axiom, sorry.
-/
import Derived.Test.YtndicjpbanmpjaaGreatDoorRows
import GoSem.ClaimSeven
namespace Go.Proofs.YtndicjpbanmpjaaGreatDoor
namespace Rows

/-- THE TIED CARD OF 'changeoverlaw15.TagWraps'. -/
def tagWrapsCard : Claim7 := { stood := { row := tagWrapsRow, standIns := [], harness := (true, "9aa2f4a0cb21daf9ee8c60ceba9432b205e66601d440c645694b4b6c6ed00738"), looks := true }, kinds := [], alts := [], laidByText := true, laidKinds := [.data, .data, .data], laidTests := true, laidLooks := .later }
def TagWrapsCardSaid : Prop := Claim7.holds Tryz.pinned (.plain (OpenSpec.ofChange tagWrapsSpec)) tagWrapsCard

/-- THE TIED CARD OF 'changeoverlaw15.TagOpens'. -/
def tagOpensCard : Claim7 := { stood := { row := tagOpensRow, standIns := [], harness := (true, "9aa2f4a0cb21daf9ee8c60ceba9432b205e66601d440c645694b4b6c6ed00738"), looks := true }, kinds := [], alts := [], laidByText := true, laidKinds := [.data, .data, .data], laidTests := true, laidLooks := .later }
def TagOpensCardSaid : Prop := Claim7.holds Tryz.pinned (.plain (OpenSpec.ofChange tagOpensSpec)) tagOpensCard

/-- THE TIED CARD OF 'changeoverlaw15.TagTranslates'. -/
def tagTranslatesCard : Claim7 := { stood := { row := tagTranslatesRow, standIns := [], harness := (true, "9aa2f4a0cb21daf9ee8c60ceba9432b205e66601d440c645694b4b6c6ed00738"), looks := true }, kinds := [], alts := [], laidByText := true, laidKinds := [.data, .data, .data], laidTests := true, laidLooks := .later }
def TagTranslatesCardSaid : Prop := Claim7.holds Tryz.pinned (.plain (OpenSpec.ofChange tagTranslatesSpec)) tagTranslatesCard

/-- THE SECOND FORM's CARD OF 'changeoverlaw15.TagWraps'. -/
def tagWrapsUptoCard : Claim7 := { stood := { row := tagWrapsUptoRow, standIns := [], harness := (true, "9aa2f4a0cb21daf9ee8c60ceba9432b205e66601d440c645694b4b6c6ed00738"), looks := true }, kinds := [], alts := [], laidByText := true, laidKinds := [.data, .data, .data], laidTests := true, laidLooks := .later }
def TagWrapsUptoCardSaid : Prop := Claim7.holds Tryz.pinned (.plain (OpenSpec.upto tagWrapsSpec)) tagWrapsUptoCard

/-- THE SECOND FORM's CARD OF 'changeoverlaw15.TagOpens'. -/
def tagOpensUptoCard : Claim7 := { stood := { row := tagOpensUptoRow, standIns := [], harness := (true, "9aa2f4a0cb21daf9ee8c60ceba9432b205e66601d440c645694b4b6c6ed00738"), looks := true }, kinds := [], alts := [], laidByText := true, laidKinds := [.data, .data, .data], laidTests := true, laidLooks := .later }
def TagOpensUptoCardSaid : Prop := Claim7.holds Tryz.pinned (.plain (OpenSpec.upto tagOpensSpec)) tagOpensUptoCard

/-- THE SECOND FORM's CARD OF 'changeoverlaw15.TagTranslates'. -/
def tagTranslatesUptoCard : Claim7 := { stood := { row := tagTranslatesUptoRow, standIns := [], harness := (true, "9aa2f4a0cb21daf9ee8c60ceba9432b205e66601d440c645694b4b6c6ed00738"), looks := true }, kinds := [], alts := [], laidByText := true, laidKinds := [.data, .data, .data], laidTests := true, laidLooks := .later }
def TagTranslatesUptoCardSaid : Prop := Claim7.holds Tryz.pinned (.plain (OpenSpec.upto tagTranslatesSpec)) tagTranslatesUptoCard
end Rows
end Go.Proofs.YtndicjpbanmpjaaGreatDoor
