/-
  No cell of these rows narrows 'for every input' (looked for: loops, veiled, ifaces, maps, wideKeys, modest, calm, conditions, laid).
  DERIVED. THE GIVEN ROWS OF THIS SEAT. 3 by the template 'for every input the law returns true; each argument reads behind the call as it read before'; 0 by the template 'total and deterministic' (their statements: YtibpmhogapccoaaTotals.lean).
  GIVEN WITH THE SEED: the statements are not yours to turn. If you find one false, say at which input.
  Laid BY PROGRAM, IN A SANDBOX (cutbox-rows.mjs): the forced cells as the released guide's own fill.sh prints them over the translation 8af7b6bb0485181c… (all of the seat's roots in one cut). By AI agents, Wed Nov 11 2026. No macro, syntax, notation, axiom, sorry.
-/
import Derived.Test.YtibpmhogapccoaaChecked
import GoSem.Claim
import GoSem.ClaimJoined
import GoSem.ClaimMapViews
import Derived.JoinedTies
import Derived.KernelRfl
namespace Go.Proofs.Ytibpmhogapccoaa
/- THE CELL 'sum', in the pinned program and in every row, IS THE sha256 OF THE DUMP (.gsa) THAT YtibpmhogapccoaaProg.lean LOADS. Nothing in Lean hashes anything: it is a label: what it is worth is what the hold of that sum in a sandbox is worth. -/
noncomputable def Try.pinned : Pinned := { name := "ytibpmhogapccoaa", sum := "8af7b6bb0485181c46a1d81e2a00214800d8867aa22364566eacc8a91897cfa1", checked := Try.checked }
namespace Rows
def none {H : Type} : Left H := { results := [], args := [] }

/-- 'changeoverlaw22.SessChecks': WHATEVER THE INPUT: true; the input reads as it did. -/
def sessChecksSpec : ChangeSpec := { name := "sessChecks", fn := fun _ => fun
  | [d] => { results := [.lit (.bool true)], args := [d] }
  | _ => none }
def sessChecksRow : OpenClaim := { program := "ytibpmhogapccoaa", sum := "8af7b6bb0485181c46a1d81e2a00214800d8867aa22364566eacc8a91897cfa1", func := "changeover/changeoverlaw22.SessChecks", spec := "sessChecks", unfollowed := true, recurses := true, apart := false }
def SessChecksSaid : Prop := sessChecksRow.holds Try.pinned (OpenSpec.ofChange sessChecksSpec)

/-- ITS FALSE NEIGHBOUR: 'it returns false'. Refute it at one input. -/
def sessChecksWrong : ChangeSpec := { name := "sessChecks", fn := fun _ => fun
  | [d] => { results := [.lit (.bool false)], args := [d] }
  | _ => none }
def SessChecksWrongFalsely : Prop := sessChecksRow.holds Try.pinned (OpenSpec.ofChange sessChecksWrong)

/-- 'changeoverlaw22.SessWhich': WHATEVER THE INPUT: true; the input reads as it did. -/
def sessWhichSpec : ChangeSpec := { name := "sessWhich", fn := fun _ => fun
  | [d1, d2, d3] => { results := [.lit (.bool true)], args := [d1, d2, d3] }
  | _ => none }
def sessWhichRow : OpenClaim := { program := "ytibpmhogapccoaa", sum := "8af7b6bb0485181c46a1d81e2a00214800d8867aa22364566eacc8a91897cfa1", func := "changeover/changeoverlaw22.SessWhich", spec := "sessWhich", unfollowed := true, recurses := true, apart := false }
def SessWhichSaid : Prop := sessWhichRow.holds Try.pinned (OpenSpec.ofChange sessWhichSpec)

/-- ITS FALSE NEIGHBOUR: 'it returns false'. Refute it at one input. -/
def sessWhichWrong : ChangeSpec := { name := "sessWhich", fn := fun _ => fun
  | [d1, d2, d3] => { results := [.lit (.bool false)], args := [d1, d2, d3] }
  | _ => none }
def SessWhichWrongFalsely : Prop := sessWhichRow.holds Try.pinned (OpenSpec.ofChange sessWhichWrong)

/-- 'changeoverlaw22.SessWith': WHATEVER THE INPUT: true; the input reads as it did. -/
def sessWithSpec : ChangeSpec := { name := "sessWith", fn := fun _ => fun
  | [d1, d2, d3] => { results := [.lit (.bool true)], args := [d1, d2, d3] }
  | _ => none }
def sessWithRow : OpenClaim := { program := "ytibpmhogapccoaa", sum := "8af7b6bb0485181c46a1d81e2a00214800d8867aa22364566eacc8a91897cfa1", func := "changeover/changeoverlaw22.SessWith", spec := "sessWith", unfollowed := true, recurses := true, apart := false }
def SessWithSaid : Prop := sessWithRow.holds Try.pinned (OpenSpec.ofChange sessWithSpec)

/-- ITS FALSE NEIGHBOUR: 'it returns false'. Refute it at one input. -/
def sessWithWrong : ChangeSpec := { name := "sessWith", fn := fun _ => fun
  | [d1, d2, d3] => { results := [.lit (.bool false)], args := [d1, d2, d3] }
  | _ => none }
def SessWithWrongFalsely : Prop := sessWithRow.holds Try.pinned (OpenSpec.ofChange sessWithWrong)

/- THE SECOND FORM. 'bulk': how many values and letters a reading holds, each counted each time it is reached (what is shared counts as often as it is met; a slice's spare places count too). A statement '..UptoSaid' is the law's where the arguments, and the package variables that the reading takes, are together of bulk at most 1048576: NARROWER than '..Said'. Prove '..Said' where nothing that the law and all that it calls make is longer than what came in: it says more and counts as full. Else prove '..UptoSaid'. A law counts once. -/
mutual
def uptoBulk {H : Type} : DataW H → Nat
  | .lit (.string bytes) => bytes.length + 1
  | .lit _ => 1
  | .nil => 1
  | .ptr d => uptoBulk d + 1
  | .slice elems spare => uptoBulkAll elems + uptoBulkAll spare + 1
  | .agg parts => uptoBulkAll parts + 1
  | .iface _ d => uptoBulk d + 1
  | .map entries => uptoBulkEntries entries + 1
  | .held _ => 1
def uptoBulkAll {H : Type} : List (DataW H) → Nat
  | [] => 0
  | d :: r => uptoBulk d + uptoBulkAll r
def uptoBulkEntries {H : Type} : List (Lit × DataW H) → Nat
  | [] => 0
  | x :: r => uptoBulkEntry x + uptoBulkEntries r
def uptoBulkEntry {H : Type} : Lit × DataW H → Nat
  | (.string bytes, d) => bytes.length + uptoBulk d + 1
  | (_, d) => uptoBulk d + 1
 end
def uptoSmall : (H : Type) → List (DataW H) → Bool := fun _ ds => decide (uptoBulkAll ds ≤ 1048576)
def OpenSpec.upto (s : _root_.Go.ChangeSpec) : _root_.Go.OpenSpec := { _root_.Go.OpenSpec.ofChange s with cond := some uptoSmall }

/-- 'changeoverlaw22.SessChecks', WHERE WHAT IT READS IS OF BULK AT MOST 1048576: true; the input reads as it did. -/
def sessChecksUptoRow : OpenClaim := { program := "ytibpmhogapccoaa", sum := "8af7b6bb0485181c46a1d81e2a00214800d8867aa22364566eacc8a91897cfa1", func := "changeover/changeoverlaw22.SessChecks", spec := "sessChecks", unfollowed := true, recurses := true, apart := false, narrowed := true }
def SessChecksUptoSaid : Prop := sessChecksUptoRow.holds Try.pinned (OpenSpec.upto sessChecksSpec)

/-- 'changeoverlaw22.SessWhich', WHERE WHAT IT READS IS OF BULK AT MOST 1048576: true; the input reads as it did. -/
def sessWhichUptoRow : OpenClaim := { program := "ytibpmhogapccoaa", sum := "8af7b6bb0485181c46a1d81e2a00214800d8867aa22364566eacc8a91897cfa1", func := "changeover/changeoverlaw22.SessWhich", spec := "sessWhich", unfollowed := true, recurses := true, apart := false, narrowed := true }
def SessWhichUptoSaid : Prop := sessWhichUptoRow.holds Try.pinned (OpenSpec.upto sessWhichSpec)

/-- 'changeoverlaw22.SessWith', WHERE WHAT IT READS IS OF BULK AT MOST 1048576: true; the input reads as it did. -/
def sessWithUptoRow : OpenClaim := { program := "ytibpmhogapccoaa", sum := "8af7b6bb0485181c46a1d81e2a00214800d8867aa22364566eacc8a91897cfa1", func := "changeover/changeoverlaw22.SessWith", spec := "sessWith", unfollowed := true, recurses := true, apart := false, narrowed := true }
def SessWithUptoSaid : Prop := sessWithUptoRow.holds Try.pinned (OpenSpec.upto sessWithSpec)

end Rows
end Go.Proofs.Ytibpmhogapccoaa
