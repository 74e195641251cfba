/-
  No cell of these rows narrows 'for every input' (looked for: loops, veiled, ifaces, maps, wideKeys, modest, calm, conditions, laid).
  DERIVED. THE GIVEN ROWS OF THIS SEAT. 3 by the template 'for every input the law returns true; each argument reads behind the call as it read before'; 0 by the template 'total and deterministic' (their statements: YtiakpedioemmiaaTotals.lean).
  GIVEN WITH THE SEED: the statements are not yours to turn. If you find one false, say at which input.
  Laid BY PROGRAM, IN A SANDBOX (cutbox-rows.mjs): the forced cells as the released guide's own fill.sh prints them over the translation d9c29654a339645d… (all of the seat's roots in one cut). By AI agents, Wed Nov 11 2026. No macro, syntax, notation, axiom, sorry.
-/
import Derived.Test.YtiakpedioemmiaaChecked
import GoSem.Claim
import GoSem.ClaimJoined
import GoSem.ClaimMapViews
import Derived.JoinedTies
import Derived.KernelRfl
namespace Go.Proofs.Ytiakpedioemmiaa
/- THE CELL 'sum', in the pinned program and in every row, IS THE sha256 OF THE DUMP (.gsa) THAT YtiakpedioemmiaaProg.lean LOADS. Nothing in Lean hashes anything: it is a label: what it is worth is what the hold of that sum in a sandbox is worth. -/
noncomputable def Try.pinned : Pinned := { name := "ytiakpedioemmiaa", sum := "d9c29654a339645de9e2f3db26d587584b6606b482c7fe54a19a254aaea105cf", checked := Try.checked }
namespace Rows
def none {H : Type} : Left H := { results := [], args := [] }

/-- 'changeoverlaw24.KvtwoChecks': WHATEVER THE INPUT: true; the input reads as it did. -/
def kvtwoChecksSpec : ChangeSpec := { name := "kvtwoChecks", fn := fun _ => fun
  | [d] => { results := [.lit (.bool true)], args := [d] }
  | _ => none }
def kvtwoChecksRow : OpenClaim := { program := "ytiakpedioemmiaa", sum := "d9c29654a339645de9e2f3db26d587584b6606b482c7fe54a19a254aaea105cf", func := "changeover/changeoverlaw24.KvtwoChecks", spec := "kvtwoChecks", unfollowed := true, recurses := true, apart := false }
def KvtwoChecksSaid : Prop := kvtwoChecksRow.holds Try.pinned (OpenSpec.ofChange kvtwoChecksSpec)

/-- ITS FALSE NEIGHBOUR: 'it returns false'. Refute it at one input. -/
def kvtwoChecksWrong : ChangeSpec := { name := "kvtwoChecks", fn := fun _ => fun
  | [d] => { results := [.lit (.bool false)], args := [d] }
  | _ => none }
def KvtwoChecksWrongFalsely : Prop := kvtwoChecksRow.holds Try.pinned (OpenSpec.ofChange kvtwoChecksWrong)

/-- 'changeoverlaw24.KvtwoOlder': WHATEVER THE INPUT: true; the input reads as it did. -/
def kvtwoOlderSpec : ChangeSpec := { name := "kvtwoOlder", fn := fun _ => fun
  | [d1, d2] => { results := [.lit (.bool true)], args := [d1, d2] }
  | _ => none }
def kvtwoOlderRow : OpenClaim := { program := "ytiakpedioemmiaa", sum := "d9c29654a339645de9e2f3db26d587584b6606b482c7fe54a19a254aaea105cf", func := "changeover/changeoverlaw24.KvtwoOlder", spec := "kvtwoOlder", unfollowed := true, recurses := true, apart := false }
def KvtwoOlderSaid : Prop := kvtwoOlderRow.holds Try.pinned (OpenSpec.ofChange kvtwoOlderSpec)

/-- ITS FALSE NEIGHBOUR: 'it returns false'. Refute it at one input. -/
def kvtwoOlderWrong : ChangeSpec := { name := "kvtwoOlder", fn := fun _ => fun
  | [d1, d2] => { results := [.lit (.bool false)], args := [d1, d2] }
  | _ => none }
def KvtwoOlderWrongFalsely : Prop := kvtwoOlderRow.holds Try.pinned (OpenSpec.ofChange kvtwoOlderWrong)

/-- 'changeoverlaw24.KvtwoCas': WHATEVER THE INPUT: true; the input reads as it did. -/
def kvtwoCasSpec : ChangeSpec := { name := "kvtwoCas", fn := fun _ => fun
  | [d1, d2] => { results := [.lit (.bool true)], args := [d1, d2] }
  | _ => none }
def kvtwoCasRow : OpenClaim := { program := "ytiakpedioemmiaa", sum := "d9c29654a339645de9e2f3db26d587584b6606b482c7fe54a19a254aaea105cf", func := "changeover/changeoverlaw24.KvtwoCas", spec := "kvtwoCas", unfollowed := true, recurses := true, apart := false }
def KvtwoCasSaid : Prop := kvtwoCasRow.holds Try.pinned (OpenSpec.ofChange kvtwoCasSpec)

/-- ITS FALSE NEIGHBOUR: 'it returns false'. Refute it at one input. -/
def kvtwoCasWrong : ChangeSpec := { name := "kvtwoCas", fn := fun _ => fun
  | [d1, d2] => { results := [.lit (.bool false)], args := [d1, d2] }
  | _ => none }
def KvtwoCasWrongFalsely : Prop := kvtwoCasRow.holds Try.pinned (OpenSpec.ofChange kvtwoCasWrong)

/- THE SECOND FORM. 'bulk': how many values and letters a reading holds, each counted each time it is reached (what is shared counts as often as it is met; a slice's spare places count too). A statement '..UptoSaid' is the law's where the arguments, and the package variables that the reading takes, are together of bulk at most 1048576: NARROWER than '..Said'. Prove '..Said' where nothing that the law and all that it calls make is longer than what came in: it says more and counts as full. Else prove '..UptoSaid'. A law counts once. -/
mutual
def uptoBulk {H : Type} : DataW H → Nat
  | .lit (.string bytes) => bytes.length + 1
  | .lit _ => 1
  | .nil => 1
  | .ptr d => uptoBulk d + 1
  | .slice elems spare => uptoBulkAll elems + uptoBulkAll spare + 1
  | .agg parts => uptoBulkAll parts + 1
  | .iface _ d => uptoBulk d + 1
  | .map entries => uptoBulkEntries entries + 1
  | .held _ => 1
def uptoBulkAll {H : Type} : List (DataW H) → Nat
  | [] => 0
  | d :: r => uptoBulk d + uptoBulkAll r
def uptoBulkEntries {H : Type} : List (Lit × DataW H) → Nat
  | [] => 0
  | x :: r => uptoBulkEntry x + uptoBulkEntries r
def uptoBulkEntry {H : Type} : Lit × DataW H → Nat
  | (.string bytes, d) => bytes.length + uptoBulk d + 1
  | (_, d) => uptoBulk d + 1
 end
def uptoSmall : (H : Type) → List (DataW H) → Bool := fun _ ds => decide (uptoBulkAll ds ≤ 1048576)
def OpenSpec.upto (s : _root_.Go.ChangeSpec) : _root_.Go.OpenSpec := { _root_.Go.OpenSpec.ofChange s with cond := some uptoSmall }

/-- 'changeoverlaw24.KvtwoChecks', WHERE WHAT IT READS IS OF BULK AT MOST 1048576: true; the input reads as it did. -/
def kvtwoChecksUptoRow : OpenClaim := { program := "ytiakpedioemmiaa", sum := "d9c29654a339645de9e2f3db26d587584b6606b482c7fe54a19a254aaea105cf", func := "changeover/changeoverlaw24.KvtwoChecks", spec := "kvtwoChecks", unfollowed := true, recurses := true, apart := false, narrowed := true }
def KvtwoChecksUptoSaid : Prop := kvtwoChecksUptoRow.holds Try.pinned (OpenSpec.upto kvtwoChecksSpec)

/-- 'changeoverlaw24.KvtwoOlder', WHERE WHAT IT READS IS OF BULK AT MOST 1048576: true; the input reads as it did. -/
def kvtwoOlderUptoRow : OpenClaim := { program := "ytiakpedioemmiaa", sum := "d9c29654a339645de9e2f3db26d587584b6606b482c7fe54a19a254aaea105cf", func := "changeover/changeoverlaw24.KvtwoOlder", spec := "kvtwoOlder", unfollowed := true, recurses := true, apart := false, narrowed := true }
def KvtwoOlderUptoSaid : Prop := kvtwoOlderUptoRow.holds Try.pinned (OpenSpec.upto kvtwoOlderSpec)

/-- 'changeoverlaw24.KvtwoCas', WHERE WHAT IT READS IS OF BULK AT MOST 1048576: true; the input reads as it did. -/
def kvtwoCasUptoRow : OpenClaim := { program := "ytiakpedioemmiaa", sum := "d9c29654a339645de9e2f3db26d587584b6606b482c7fe54a19a254aaea105cf", func := "changeover/changeoverlaw24.KvtwoCas", spec := "kvtwoCas", unfollowed := true, recurses := true, apart := false, narrowed := true }
def KvtwoCasUptoSaid : Prop := kvtwoCasUptoRow.holds Try.pinned (OpenSpec.upto kvtwoCasSpec)

end Rows
end Go.Proofs.Ytiakpedioemmiaa
