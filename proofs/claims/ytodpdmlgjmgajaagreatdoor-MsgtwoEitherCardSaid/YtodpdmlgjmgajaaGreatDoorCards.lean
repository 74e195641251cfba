/-
  DERIVED. GIVEN WITH THE SEED: THE CARDS: each row of YtodpdmlgjmgajaaGreatDoorRows.lean that lists a variable, with what it lists TIED to the program's text (the seventh form; the later family's looks); each row that meets fmt, with fmt's text TOLD by the authors' own Lean function (tested against real Go, not proved from fmt's source: count such statements apart). THE CARD IS WHAT COUNTS. Prove the row's statement (the work); the ties are given (YtodpdmlgjmgajaaGreatDoorTie.lean); close each card by the builder's one call (the guide's Derived/Test/ToyasCard.lean, 'card_holds'). Laid BY PROGRAM, IN A SANDBOX (cutbox-door.mjs). By AI agents, Wed Nov 11 2026. No macro, syntax, notation, axiom, sorry.
-/
import Derived.Test.YtodpdmlgjmgajaaGreatDoorRows
import GoSem.ClaimSeven
namespace Go.Proofs.YtodpdmlgjmgajaaGreatDoor
namespace Rows

/-- THE TIED CARD OF 'changeoverlaw14.MsgtwoEncodes'. -/
def msgtwoEncodesCard : Claim7 := { stood := { row := msgtwoEncodesRow, standIns := [], harness := (true, "e1c6a2f255a0a2d48d0faa3cbab0aab9ee5680fa7d1326867983dda25f63029d"), looks := true }, kinds := [], alts := [], laidByText := true, laidKinds := [.data, .data], laidTests := true, laidLooks := .later }
def MsgtwoEncodesCardSaid : Prop := Claim7.holds Tryz.pinned (.plain (OpenSpec.ofChange msgtwoEncodesSpec)) msgtwoEncodesCard

/-- THE TIED CARD OF 'changeoverlaw14.MsgtwoDecodes'. -/
def msgtwoDecodesCard : Claim7 := { stood := { row := msgtwoDecodesRow, standIns := [], harness := (true, "e1c6a2f255a0a2d48d0faa3cbab0aab9ee5680fa7d1326867983dda25f63029d"), looks := true }, kinds := [], alts := [], laidByText := true, laidKinds := [.data, .data], laidTests := true, laidLooks := .later }
def MsgtwoDecodesCardSaid : Prop := Claim7.holds Tryz.pinned (.plain (OpenSpec.ofChange msgtwoDecodesSpec)) msgtwoDecodesCard

/-- THE TIED CARD OF 'changeoverlaw14.MsgtwoEither'. -/
def msgtwoEitherCard : Claim7 := { stood := { row := msgtwoEitherRow, standIns := [], harness := (true, "e1c6a2f255a0a2d48d0faa3cbab0aab9ee5680fa7d1326867983dda25f63029d"), looks := true }, kinds := [], alts := [], laidByText := true, laidKinds := [.data, .data], laidTests := true, laidLooks := .later }
def MsgtwoEitherCardSaid : Prop := Claim7.holds Tryz.pinned (.plain (OpenSpec.ofChange msgtwoEitherSpec)) msgtwoEitherCard

/-- THE SECOND FORM's CARD OF 'changeoverlaw14.MsgtwoEncodes'. -/
def msgtwoEncodesUptoCard : Claim7 := { stood := { row := msgtwoEncodesUptoRow, standIns := [], harness := (true, "e1c6a2f255a0a2d48d0faa3cbab0aab9ee5680fa7d1326867983dda25f63029d"), looks := true }, kinds := [], alts := [], laidByText := true, laidKinds := [.data, .data], laidTests := true, laidLooks := .later }
def MsgtwoEncodesUptoCardSaid : Prop := Claim7.holds Tryz.pinned (.plain (OpenSpec.upto msgtwoEncodesSpec)) msgtwoEncodesUptoCard

/-- THE SECOND FORM's CARD OF 'changeoverlaw14.MsgtwoDecodes'. -/
def msgtwoDecodesUptoCard : Claim7 := { stood := { row := msgtwoDecodesUptoRow, standIns := [], harness := (true, "e1c6a2f255a0a2d48d0faa3cbab0aab9ee5680fa7d1326867983dda25f63029d"), looks := true }, kinds := [], alts := [], laidByText := true, laidKinds := [.data, .data], laidTests := true, laidLooks := .later }
def MsgtwoDecodesUptoCardSaid : Prop := Claim7.holds Tryz.pinned (.plain (OpenSpec.upto msgtwoDecodesSpec)) msgtwoDecodesUptoCard

/-- THE SECOND FORM's CARD OF 'changeoverlaw14.MsgtwoEither'. -/
def msgtwoEitherUptoCard : Claim7 := { stood := { row := msgtwoEitherUptoRow, standIns := [], harness := (true, "e1c6a2f255a0a2d48d0faa3cbab0aab9ee5680fa7d1326867983dda25f63029d"), looks := true }, kinds := [], alts := [], laidByText := true, laidKinds := [.data, .data], laidTests := true, laidLooks := .later }
def MsgtwoEitherUptoCardSaid : Prop := Claim7.holds Tryz.pinned (.plain (OpenSpec.upto msgtwoEitherSpec)) msgtwoEitherUptoCard
end Rows
end Go.Proofs.YtodpdmlgjmgajaaGreatDoor
