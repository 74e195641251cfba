/-
  No cell of these rows narrows 'for every input' (looked for: loops, veiled, ifaces, maps, wideKeys, modest, calm, conditions, laid).
  DERIVED. THE GIVEN ROWS OF THIS SEAT. 2 by the template 'for every input the law returns true; each argument reads behind the call as it read before'; 0 by the template 'total and deterministic' (their statements: YtdjhkgnnfkbmhaaTotals.lean).
  GIVEN WITH THE SEED: the statements are not yours to turn. If you find one false, say at which input.
  Laid BY PROGRAM, IN A SANDBOX (cutbox-rows.mjs): the forced cells as the released guide's own fill.sh prints them over the translation 1a7cc278593f6aa1… (all of the seat's roots in one cut). By AI agents, Wed Nov 11 2026. No macro, syntax, notation, axiom, sorry.
-/
import Derived.Test.YtdjhkgnnfkbmhaaChecked
import GoSem.Claim
import GoSem.ClaimJoined
import GoSem.ClaimMapViews
import Derived.JoinedTies
import Derived.KernelRfl
namespace Go.Proofs.Ytdjhkgnnfkbmhaa
/- THE CELL 'sum', in the pinned program and in every row, IS THE sha256 OF THE DUMP (.gsa) THAT YtdjhkgnnfkbmhaaProg.lean LOADS. Nothing in Lean hashes anything: it is a label: what it is worth is what the hold of that sum in a sandbox is worth. -/
noncomputable def Try.pinned : Pinned := { name := "ytdjhkgnnfkbmhaa", sum := "1a7cc278593f6aa1718b7ce5ba2ef6913efc301f79807344de21764d6bedbad8", checked := Try.checked }
namespace Rows
def none {H : Type} : Left H := { results := [], args := [] }

/-- 'changeoverlaw23.KvoneChecks': WHATEVER THE INPUT: true; the input reads as it did. -/
def kvoneChecksSpec : ChangeSpec := { name := "kvoneChecks", fn := fun _ => fun
  | [d1, d2] => { results := [.lit (.bool true)], args := [d1, d2] }
  | _ => none }
def kvoneChecksRow : OpenClaim := { program := "ytdjhkgnnfkbmhaa", sum := "1a7cc278593f6aa1718b7ce5ba2ef6913efc301f79807344de21764d6bedbad8", func := "changeover/changeoverlaw23.KvoneChecks", spec := "kvoneChecks", unfollowed := true, recurses := true, apart := false }
def KvoneChecksSaid : Prop := kvoneChecksRow.holds Try.pinned (OpenSpec.ofChange kvoneChecksSpec)

/-- ITS FALSE NEIGHBOUR: 'it returns false'. Refute it at one input. -/
def kvoneChecksWrong : ChangeSpec := { name := "kvoneChecks", fn := fun _ => fun
  | [d1, d2] => { results := [.lit (.bool false)], args := [d1, d2] }
  | _ => none }
def KvoneChecksWrongFalsely : Prop := kvoneChecksRow.holds Try.pinned (OpenSpec.ofChange kvoneChecksWrong)

/-- 'changeoverlaw23.KvoneKeeps': WHATEVER THE INPUT: true; the input reads as it did. -/
def kvoneKeepsSpec : ChangeSpec := { name := "kvoneKeeps", fn := fun _ => fun
  | [d1, d2, d3] => { results := [.lit (.bool true)], args := [d1, d2, d3] }
  | _ => none }
def kvoneKeepsRow : OpenClaim := { program := "ytdjhkgnnfkbmhaa", sum := "1a7cc278593f6aa1718b7ce5ba2ef6913efc301f79807344de21764d6bedbad8", func := "changeover/changeoverlaw23.KvoneKeeps", spec := "kvoneKeeps", unfollowed := true, recurses := true, apart := false }
def KvoneKeepsSaid : Prop := kvoneKeepsRow.holds Try.pinned (OpenSpec.ofChange kvoneKeepsSpec)

/-- ITS FALSE NEIGHBOUR: 'it returns false'. Refute it at one input. -/
def kvoneKeepsWrong : ChangeSpec := { name := "kvoneKeeps", fn := fun _ => fun
  | [d1, d2, d3] => { results := [.lit (.bool false)], args := [d1, d2, d3] }
  | _ => none }
def KvoneKeepsWrongFalsely : Prop := kvoneKeepsRow.holds Try.pinned (OpenSpec.ofChange kvoneKeepsWrong)

/- THE SECOND FORM. 'bulk': how many values and letters a reading holds, each counted each time it is reached (what is shared counts as often as it is met; a slice's spare places count too). A statement '..UptoSaid' is the law's where the arguments, and the package variables that the reading takes, are together of bulk at most 1048576: NARROWER than '..Said'. Prove '..Said' where nothing that the law and all that it calls make is longer than what came in: it says more and counts as full. Else prove '..UptoSaid'. A law counts once. -/
mutual
def uptoBulk {H : Type} : DataW H → Nat
  | .lit (.string bytes) => bytes.length + 1
  | .lit _ => 1
  | .nil => 1
  | .ptr d => uptoBulk d + 1
  | .slice elems spare => uptoBulkAll elems + uptoBulkAll spare + 1
  | .agg parts => uptoBulkAll parts + 1
  | .iface _ d => uptoBulk d + 1
  | .map entries => uptoBulkEntries entries + 1
  | .held _ => 1
def uptoBulkAll {H : Type} : List (DataW H) → Nat
  | [] => 0
  | d :: r => uptoBulk d + uptoBulkAll r
def uptoBulkEntries {H : Type} : List (Lit × DataW H) → Nat
  | [] => 0
  | x :: r => uptoBulkEntry x + uptoBulkEntries r
def uptoBulkEntry {H : Type} : Lit × DataW H → Nat
  | (.string bytes, d) => bytes.length + uptoBulk d + 1
  | (_, d) => uptoBulk d + 1
 end
def uptoSmall : (H : Type) → List (DataW H) → Bool := fun _ ds => decide (uptoBulkAll ds ≤ 1048576)
def OpenSpec.upto (s : _root_.Go.ChangeSpec) : _root_.Go.OpenSpec := { _root_.Go.OpenSpec.ofChange s with cond := some uptoSmall }

/-- 'changeoverlaw23.KvoneChecks', WHERE WHAT IT READS IS OF BULK AT MOST 1048576: true; the input reads as it did. -/
def kvoneChecksUptoRow : OpenClaim := { program := "ytdjhkgnnfkbmhaa", sum := "1a7cc278593f6aa1718b7ce5ba2ef6913efc301f79807344de21764d6bedbad8", func := "changeover/changeoverlaw23.KvoneChecks", spec := "kvoneChecks", unfollowed := true, recurses := true, apart := false, narrowed := true }
def KvoneChecksUptoSaid : Prop := kvoneChecksUptoRow.holds Try.pinned (OpenSpec.upto kvoneChecksSpec)

/-- 'changeoverlaw23.KvoneKeeps', WHERE WHAT IT READS IS OF BULK AT MOST 1048576: true; the input reads as it did. -/
def kvoneKeepsUptoRow : OpenClaim := { program := "ytdjhkgnnfkbmhaa", sum := "1a7cc278593f6aa1718b7ce5ba2ef6913efc301f79807344de21764d6bedbad8", func := "changeover/changeoverlaw23.KvoneKeeps", spec := "kvoneKeeps", unfollowed := true, recurses := true, apart := false, narrowed := true }
def KvoneKeepsUptoSaid : Prop := kvoneKeepsUptoRow.holds Try.pinned (OpenSpec.upto kvoneKeepsSpec)

end Rows
end Go.Proofs.Ytdjhkgnnfkbmhaa
