/-
  DERIVED. GIVEN WITH THE SEED: THE CARDS: each row of YtaeojpcffahgmaaGreatDoorRows.lean that lists a variable, with what it lists TIED to the program's text (the seventh form; the later family's looks); each row that meets fmt, with fmt's text TOLD by the authors' own Lean function (tested against real Go, not proved from fmt's source: count such statements apart). THE CARD IS WHAT COUNTS. Prove the row's statement (the work); the ties are given (YtaeojpcffahgmaaGreatDoorTie.lean); close each card by the builder's one call (the guide's Derived/Test/ToyasCard.lean, 'card_holds'). Laid BY PROGRAM, IN A SANDBOX (cutbox-door.mjs). By AI agents, Wed Nov 11 2026. No macro, syntax, notation, axiom, sorry.
-/
import Derived.Test.YtaeojpcffahgmaaGreatDoorRows
import GoSem.ClaimSeven
namespace Go.Proofs.YtaeojpcffahgmaaGreatDoor
namespace Rows

/-- THE TIED CARD OF 'changeoverlaw17.RectwoPuts'. -/
def rectwoPutsCard : Claim7 := { stood := { row := rectwoPutsRow, standIns := [], harness := (true, "1c415159a52dbd19016aa3274d383df8ff4c6888ef028b66f4237e44e25fc07c"), looks := true }, kinds := [], alts := [], laidByText := true, laidKinds := [.data], laidTests := true, laidLooks := .later }
def RectwoPutsCardSaid : Prop := Claim7.holds Tryz.pinned (.plain (OpenSpec.ofChange rectwoPutsSpec)) rectwoPutsCard

/-- THE TIED CARD OF 'changeoverlaw17.RectwoGets'. -/
def rectwoGetsCard : Claim7 := { stood := { row := rectwoGetsRow, standIns := [], harness := (true, "1c415159a52dbd19016aa3274d383df8ff4c6888ef028b66f4237e44e25fc07c"), looks := true }, kinds := [], alts := [], laidByText := true, laidKinds := [.data], laidTests := true, laidLooks := .later }
def RectwoGetsCardSaid : Prop := Claim7.holds Tryz.pinned (.plain (OpenSpec.ofChange rectwoGetsSpec)) rectwoGetsCard

/-- THE TIED CARD OF 'changeoverlaw17.RectwoRewrites'. -/
def rectwoRewritesCard : Claim7 := { stood := { row := rectwoRewritesRow, standIns := [], harness := (true, "1c415159a52dbd19016aa3274d383df8ff4c6888ef028b66f4237e44e25fc07c"), looks := true }, kinds := [], alts := [], laidByText := true, laidKinds := [.data], laidTests := true, laidLooks := .later }
def RectwoRewritesCardSaid : Prop := Claim7.holds Tryz.pinned (.plain (OpenSpec.ofChange rectwoRewritesSpec)) rectwoRewritesCard

/-- THE SECOND FORM's CARD OF 'changeoverlaw17.RectwoPuts'. -/
def rectwoPutsUptoCard : Claim7 := { stood := { row := rectwoPutsUptoRow, standIns := [], harness := (true, "1c415159a52dbd19016aa3274d383df8ff4c6888ef028b66f4237e44e25fc07c"), looks := true }, kinds := [], alts := [], laidByText := true, laidKinds := [.data], laidTests := true, laidLooks := .later }
def RectwoPutsUptoCardSaid : Prop := Claim7.holds Tryz.pinned (.plain (OpenSpec.upto rectwoPutsSpec)) rectwoPutsUptoCard

/-- THE SECOND FORM's CARD OF 'changeoverlaw17.RectwoGets'. -/
def rectwoGetsUptoCard : Claim7 := { stood := { row := rectwoGetsUptoRow, standIns := [], harness := (true, "1c415159a52dbd19016aa3274d383df8ff4c6888ef028b66f4237e44e25fc07c"), looks := true }, kinds := [], alts := [], laidByText := true, laidKinds := [.data], laidTests := true, laidLooks := .later }
def RectwoGetsUptoCardSaid : Prop := Claim7.holds Tryz.pinned (.plain (OpenSpec.upto rectwoGetsSpec)) rectwoGetsUptoCard

/-- THE SECOND FORM's CARD OF 'changeoverlaw17.RectwoRewrites'. -/
def rectwoRewritesUptoCard : Claim7 := { stood := { row := rectwoRewritesUptoRow, standIns := [], harness := (true, "1c415159a52dbd19016aa3274d383df8ff4c6888ef028b66f4237e44e25fc07c"), looks := true }, kinds := [], alts := [], laidByText := true, laidKinds := [.data], laidTests := true, laidLooks := .later }
def RectwoRewritesUptoCardSaid : Prop := Claim7.holds Tryz.pinned (.plain (OpenSpec.upto rectwoRewritesSpec)) rectwoRewritesUptoCard
end Rows
end Go.Proofs.YtaeojpcffahgmaaGreatDoor
