/-
  No cell of these rows narrows 'for every input' (looked for: loops, veiled, ifaces, maps, wideKeys, modest, calm, conditions, laid).
  DERIVED. THE GIVEN ROWS OF THIS SEAT. 2 by the template 'for every input the law returns true; each argument reads behind the call as it read before'; 0 by the template 'total and deterministic' (their statements: YtggipagbmmjfbaaTotals.lean).
  GIVEN WITH THE SEED: the statements are not yours to turn. If you find one false, say at which input.
  Laid BY PROGRAM, IN A SANDBOX (cutbox-rows.mjs): the forced cells as the released guide's own fill.sh prints them over the translation 4979d97673fb41d2… (all of the seat's roots in one cut). By AI agents, Wed Nov 11 2026. No macro, syntax, notation, axiom, sorry.
-/
import Derived.Test.YtggipagbmmjfbaaChecked
import GoSem.Claim
import GoSem.ClaimJoined
import GoSem.ClaimMapViews
import Derived.JoinedTies
import Derived.KernelRfl
namespace Go.Proofs.Ytggipagbmmjfbaa
/- THE CELL 'sum', in the pinned program and in every row, IS THE sha256 OF THE DUMP (.gsa) THAT YtggipagbmmjfbaaProg.lean LOADS. Nothing in Lean hashes anything: it is a label: what it is worth is what the hold of that sum in a sandbox is worth. -/
noncomputable def Try.pinned : Pinned := { name := "ytggipagbmmjfbaa", sum := "4979d97673fb41d2505f23eef961a08e5b4342f8e5f92d3a4687e81c3dd4296e", checked := Try.checked }
namespace Rows
def none {H : Type} : Left H := { results := [], args := [] }

/-- 'changeoverlaw26.SnaponeEncodes': WHATEVER THE INPUT: true; the input reads as it did. -/
def snaponeEncodesSpec : ChangeSpec := { name := "snaponeEncodes", fn := fun _ => fun
  | [d] => { results := [.lit (.bool true)], args := [d] }
  | _ => none }
def snaponeEncodesRow : OpenClaim := { program := "ytggipagbmmjfbaa", sum := "4979d97673fb41d2505f23eef961a08e5b4342f8e5f92d3a4687e81c3dd4296e", func := "changeover/changeoverlaw26.SnaponeEncodes", spec := "snaponeEncodes", unfollowed := true, recurses := true, apart := false }
def SnaponeEncodesSaid : Prop := snaponeEncodesRow.holds Try.pinned (OpenSpec.ofChange snaponeEncodesSpec)

/-- ITS FALSE NEIGHBOUR: 'it returns false'. Refute it at one input. -/
def snaponeEncodesWrong : ChangeSpec := { name := "snaponeEncodes", fn := fun _ => fun
  | [d] => { results := [.lit (.bool false)], args := [d] }
  | _ => none }
def SnaponeEncodesWrongFalsely : Prop := snaponeEncodesRow.holds Try.pinned (OpenSpec.ofChange snaponeEncodesWrong)

/-- 'changeoverlaw26.SnaponeDecodes': WHATEVER THE INPUT: true; the input reads as it did. -/
def snaponeDecodesSpec : ChangeSpec := { name := "snaponeDecodes", fn := fun _ => fun
  | [d] => { results := [.lit (.bool true)], args := [d] }
  | _ => none }
def snaponeDecodesRow : OpenClaim := { program := "ytggipagbmmjfbaa", sum := "4979d97673fb41d2505f23eef961a08e5b4342f8e5f92d3a4687e81c3dd4296e", func := "changeover/changeoverlaw26.SnaponeDecodes", spec := "snaponeDecodes", unfollowed := true, recurses := true, apart := false }
def SnaponeDecodesSaid : Prop := snaponeDecodesRow.holds Try.pinned (OpenSpec.ofChange snaponeDecodesSpec)

/-- ITS FALSE NEIGHBOUR: 'it returns false'. Refute it at one input. -/
def snaponeDecodesWrong : ChangeSpec := { name := "snaponeDecodes", fn := fun _ => fun
  | [d] => { results := [.lit (.bool false)], args := [d] }
  | _ => none }
def SnaponeDecodesWrongFalsely : Prop := snaponeDecodesRow.holds Try.pinned (OpenSpec.ofChange snaponeDecodesWrong)

/- THE SECOND FORM. 'bulk': how many values and letters a reading holds, each counted each time it is reached (what is shared counts as often as it is met; a slice's spare places count too). A statement '..UptoSaid' is the law's where the arguments, and the package variables that the reading takes, are together of bulk at most 1048576: NARROWER than '..Said'. Prove '..Said' where nothing that the law and all that it calls make is longer than what came in: it says more and counts as full. Else prove '..UptoSaid'. A law counts once. -/
mutual
def uptoBulk {H : Type} : DataW H → Nat
  | .lit (.string bytes) => bytes.length + 1
  | .lit _ => 1
  | .nil => 1
  | .ptr d => uptoBulk d + 1
  | .slice elems spare => uptoBulkAll elems + uptoBulkAll spare + 1
  | .agg parts => uptoBulkAll parts + 1
  | .iface _ d => uptoBulk d + 1
  | .map entries => uptoBulkEntries entries + 1
  | .held _ => 1
def uptoBulkAll {H : Type} : List (DataW H) → Nat
  | [] => 0
  | d :: r => uptoBulk d + uptoBulkAll r
def uptoBulkEntries {H : Type} : List (Lit × DataW H) → Nat
  | [] => 0
  | x :: r => uptoBulkEntry x + uptoBulkEntries r
def uptoBulkEntry {H : Type} : Lit × DataW H → Nat
  | (.string bytes, d) => bytes.length + uptoBulk d + 1
  | (_, d) => uptoBulk d + 1
 end
def uptoSmall : (H : Type) → List (DataW H) → Bool := fun _ ds => decide (uptoBulkAll ds ≤ 1048576)
def OpenSpec.upto (s : _root_.Go.ChangeSpec) : _root_.Go.OpenSpec := { _root_.Go.OpenSpec.ofChange s with cond := some uptoSmall }

/-- 'changeoverlaw26.SnaponeEncodes', WHERE WHAT IT READS IS OF BULK AT MOST 1048576: true; the input reads as it did. -/
def snaponeEncodesUptoRow : OpenClaim := { program := "ytggipagbmmjfbaa", sum := "4979d97673fb41d2505f23eef961a08e5b4342f8e5f92d3a4687e81c3dd4296e", func := "changeover/changeoverlaw26.SnaponeEncodes", spec := "snaponeEncodes", unfollowed := true, recurses := true, apart := false, narrowed := true }
def SnaponeEncodesUptoSaid : Prop := snaponeEncodesUptoRow.holds Try.pinned (OpenSpec.upto snaponeEncodesSpec)

/-- 'changeoverlaw26.SnaponeDecodes', WHERE WHAT IT READS IS OF BULK AT MOST 1048576: true; the input reads as it did. -/
def snaponeDecodesUptoRow : OpenClaim := { program := "ytggipagbmmjfbaa", sum := "4979d97673fb41d2505f23eef961a08e5b4342f8e5f92d3a4687e81c3dd4296e", func := "changeover/changeoverlaw26.SnaponeDecodes", spec := "snaponeDecodes", unfollowed := true, recurses := true, apart := false, narrowed := true }
def SnaponeDecodesUptoSaid : Prop := snaponeDecodesUptoRow.holds Try.pinned (OpenSpec.upto snaponeDecodesSpec)

end Rows
end Go.Proofs.Ytggipagbmmjfbaa
