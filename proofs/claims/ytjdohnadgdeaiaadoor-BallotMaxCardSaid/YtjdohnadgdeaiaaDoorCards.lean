/-
  DERIVED. GIVEN WITH THE SEED: THE CARDS: each row of YtjdohnadgdeaiaaDoorRows.lean that lists a variable, with what it lists TIED to the program's text (the seventh form; the later family's looks); each row that meets fmt, with fmt's text TOLD by the authors' own Lean function (tested against real Go, not proved from fmt's source: count such statements apart). THE CARD IS WHAT COUNTS. Prove the row's statement (the work); the ties are given (YtjdohnadgdeaiaaDoorTie.lean); close each card by the builder's one call (the guide's Derived/Test/ToyasCard.lean, 'card_holds'). Laid BY PROGRAM, IN A SANDBOX (cutbox-door.mjs). By AI agents, Wed Nov 11 2026. No macro, syntax, notation, axiom, sorry.
-/
import Derived.Test.YtjdohnadgdeaiaaDoorRows
import GoSem.ClaimSeven
namespace Go.Proofs.YtjdohnadgdeaiaaDoor
namespace Rows

/-- THE TIED CARD OF 'changeoverlaw10.BallotLess'. -/
def ballotLessCard : Claim7 := { stood := { row := ballotLessRow, standIns := [], harness := (true, "819114b5643fbb841474307532767767e71de82aada0e96a4c3b06a93f3d58a1"), looks := false }, kinds := [], alts := [], laidByText := true, laidKinds := [.data, .data, .data], laidTests := true, laidLooks := .later }
def BallotLessCardSaid : Prop := Claim7.holds Tryd.pinned (.plain (OpenSpec.ofChange ballotLessSpec)) ballotLessCard

/-- THE TIED CARD OF 'changeoverlaw10.BallotMax'. -/
def ballotMaxCard : Claim7 := { stood := { row := ballotMaxRow, standIns := [], harness := (true, "819114b5643fbb841474307532767767e71de82aada0e96a4c3b06a93f3d58a1"), looks := false }, kinds := [], alts := [], laidByText := true, laidKinds := [.data, .data, .data], laidTests := true, laidLooks := .later }
def BallotMaxCardSaid : Prop := Claim7.holds Tryd.pinned (.plain (OpenSpec.ofChange ballotMaxSpec)) ballotMaxCard

/-- THE TIED CARD OF 'changeoverlaw10.BallotNext'. -/
def ballotNextCard : Claim7 := { stood := { row := ballotNextRow, standIns := [], harness := (true, "819114b5643fbb841474307532767767e71de82aada0e96a4c3b06a93f3d58a1"), looks := false }, kinds := [], alts := [], laidByText := true, laidKinds := [.data, .data, .data], laidTests := true, laidLooks := .later }
def BallotNextCardSaid : Prop := Claim7.holds Tryd.pinned (.plain (OpenSpec.ofChange ballotNextSpec)) ballotNextCard

/-- THE SECOND FORM's CARD OF 'changeoverlaw10.BallotLess'. -/
def ballotLessUptoCard : Claim7 := { stood := { row := ballotLessUptoRow, standIns := [], harness := (true, "819114b5643fbb841474307532767767e71de82aada0e96a4c3b06a93f3d58a1"), looks := false }, kinds := [], alts := [], laidByText := true, laidKinds := [.data, .data, .data], laidTests := true, laidLooks := .later }
def BallotLessUptoCardSaid : Prop := Claim7.holds Tryd.pinned (.plain (OpenSpec.upto ballotLessSpec)) ballotLessUptoCard

/-- THE SECOND FORM's CARD OF 'changeoverlaw10.BallotMax'. -/
def ballotMaxUptoCard : Claim7 := { stood := { row := ballotMaxUptoRow, standIns := [], harness := (true, "819114b5643fbb841474307532767767e71de82aada0e96a4c3b06a93f3d58a1"), looks := false }, kinds := [], alts := [], laidByText := true, laidKinds := [.data, .data, .data], laidTests := true, laidLooks := .later }
def BallotMaxUptoCardSaid : Prop := Claim7.holds Tryd.pinned (.plain (OpenSpec.upto ballotMaxSpec)) ballotMaxUptoCard

/-- THE SECOND FORM's CARD OF 'changeoverlaw10.BallotNext'. -/
def ballotNextUptoCard : Claim7 := { stood := { row := ballotNextUptoRow, standIns := [], harness := (true, "819114b5643fbb841474307532767767e71de82aada0e96a4c3b06a93f3d58a1"), looks := false }, kinds := [], alts := [], laidByText := true, laidKinds := [.data, .data, .data], laidTests := true, laidLooks := .later }
def BallotNextUptoCardSaid : Prop := Claim7.holds Tryd.pinned (.plain (OpenSpec.upto ballotNextSpec)) ballotNextUptoCard
end Rows
end Go.Proofs.YtjdohnadgdeaiaaDoor
