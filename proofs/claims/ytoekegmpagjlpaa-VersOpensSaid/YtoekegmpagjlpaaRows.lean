/-
  No cell of these rows narrows 'for every input' (looked for: loops, veiled, ifaces, maps, wideKeys, modest, calm, conditions, laid).
  DERIVED. THE GIVEN ROWS OF THIS SEAT. 2 by the template 'for every input the law returns true; each argument reads behind the call as it read before'; 0 by the template 'total and deterministic' (their statements: YtoekegmpagjlpaaTotals.lean).
  GIVEN WITH THE SEED: the statements are not yours to turn. If you find one false, say at which input.
  Laid BY PROGRAM, IN A SANDBOX (cutbox-rows.mjs): the forced cells as the released guide's own fill.sh prints them over the translation 6f4c4c2cdd0be864… (all of the seat's roots in one cut). By AI agents, Wed Nov 11 2026. No macro, syntax, notation, axiom, sorry.
-/
import Derived.Test.YtoekegmpagjlpaaChecked
import GoSem.Claim
import GoSem.ClaimJoined
import GoSem.ClaimMapViews
import Derived.JoinedTies
import Derived.KernelRfl
namespace Go.Proofs.Ytoekegmpagjlpaa
/- THE CELL 'sum', in the pinned program and in every row, IS THE sha256 OF THE DUMP (.gsa) THAT YtoekegmpagjlpaaProg.lean LOADS. Nothing in Lean hashes anything: it is a label: what it is worth is what the hold of that sum in a sandbox is worth. -/
noncomputable def Try.pinned : Pinned := { name := "ytoekegmpagjlpaa", sum := "6f4c4c2cdd0be86471bfa615e2166167bdcce377dd219829a78eb76a3d943242", checked := Try.checked }
namespace Rows
def none {H : Type} : Left H := { results := [], args := [] }

/-- 'changeoverlaw07.VersHas': WHATEVER THE INPUT: true; the input reads as it did. -/
def versHasSpec : ChangeSpec := { name := "versHas", fn := fun _ => fun
  | [d1, d2, d3] => { results := [.lit (.bool true)], args := [d1, d2, d3] }
  | _ => none }
def versHasRow : OpenClaim := { program := "ytoekegmpagjlpaa", sum := "6f4c4c2cdd0be86471bfa615e2166167bdcce377dd219829a78eb76a3d943242", func := "changeover/changeoverlaw07.VersHas", spec := "versHas", apart := false }
def VersHasSaid : Prop := versHasRow.holds Try.pinned (OpenSpec.ofChange versHasSpec)

/-- ITS FALSE NEIGHBOUR: 'it returns false'. Refute it at one input. -/
def versHasWrong : ChangeSpec := { name := "versHas", fn := fun _ => fun
  | [d1, d2, d3] => { results := [.lit (.bool false)], args := [d1, d2, d3] }
  | _ => none }
def VersHasWrongFalsely : Prop := versHasRow.holds Try.pinned (OpenSpec.ofChange versHasWrong)

/-- 'changeoverlaw07.VersOpens': WHATEVER THE INPUT: true; the input reads as it did. -/
def versOpensSpec : ChangeSpec := { name := "versOpens", fn := fun _ => fun
  | [d1, d2, d3] => { results := [.lit (.bool true)], args := [d1, d2, d3] }
  | _ => none }
def versOpensRow : OpenClaim := { program := "ytoekegmpagjlpaa", sum := "6f4c4c2cdd0be86471bfa615e2166167bdcce377dd219829a78eb76a3d943242", func := "changeover/changeoverlaw07.VersOpens", spec := "versOpens", apart := false }
def VersOpensSaid : Prop := versOpensRow.holds Try.pinned (OpenSpec.ofChange versOpensSpec)

/-- ITS FALSE NEIGHBOUR: 'it returns false'. Refute it at one input. -/
def versOpensWrong : ChangeSpec := { name := "versOpens", fn := fun _ => fun
  | [d1, d2, d3] => { results := [.lit (.bool false)], args := [d1, d2, d3] }
  | _ => none }
def VersOpensWrongFalsely : Prop := versOpensRow.holds Try.pinned (OpenSpec.ofChange versOpensWrong)

/- THE SECOND FORM. 'bulk': how many values and letters a reading holds, each counted each time it is reached (what is shared counts as often as it is met; a slice's spare places count too). A statement '..UptoSaid' is the law's where the arguments, and the package variables that the reading takes, are together of bulk at most 1048576: NARROWER than '..Said'. Prove '..Said' where nothing that the law and all that it calls make is longer than what came in: it says more and counts as full. Else prove '..UptoSaid'. A law counts once. -/
mutual
def uptoBulk {H : Type} : DataW H → Nat
  | .lit (.string bytes) => bytes.length + 1
  | .lit _ => 1
  | .nil => 1
  | .ptr d => uptoBulk d + 1
  | .slice elems spare => uptoBulkAll elems + uptoBulkAll spare + 1
  | .agg parts => uptoBulkAll parts + 1
  | .iface _ d => uptoBulk d + 1
  | .map entries => uptoBulkEntries entries + 1
  | .held _ => 1
def uptoBulkAll {H : Type} : List (DataW H) → Nat
  | [] => 0
  | d :: r => uptoBulk d + uptoBulkAll r
def uptoBulkEntries {H : Type} : List (Lit × DataW H) → Nat
  | [] => 0
  | x :: r => uptoBulkEntry x + uptoBulkEntries r
def uptoBulkEntry {H : Type} : Lit × DataW H → Nat
  | (.string bytes, d) => bytes.length + uptoBulk d + 1
  | (_, d) => uptoBulk d + 1
 end
def uptoSmall : (H : Type) → List (DataW H) → Bool := fun _ ds => decide (uptoBulkAll ds ≤ 1048576)
def OpenSpec.upto (s : _root_.Go.ChangeSpec) : _root_.Go.OpenSpec := { _root_.Go.OpenSpec.ofChange s with cond := some uptoSmall }

/-- 'changeoverlaw07.VersHas', WHERE WHAT IT READS IS OF BULK AT MOST 1048576: true; the input reads as it did. -/
def versHasUptoRow : OpenClaim := { program := "ytoekegmpagjlpaa", sum := "6f4c4c2cdd0be86471bfa615e2166167bdcce377dd219829a78eb76a3d943242", func := "changeover/changeoverlaw07.VersHas", spec := "versHas", apart := false, narrowed := true }
def VersHasUptoSaid : Prop := versHasUptoRow.holds Try.pinned (OpenSpec.upto versHasSpec)

/-- 'changeoverlaw07.VersOpens', WHERE WHAT IT READS IS OF BULK AT MOST 1048576: true; the input reads as it did. -/
def versOpensUptoRow : OpenClaim := { program := "ytoekegmpagjlpaa", sum := "6f4c4c2cdd0be86471bfa615e2166167bdcce377dd219829a78eb76a3d943242", func := "changeover/changeoverlaw07.VersOpens", spec := "versOpens", apart := false, narrowed := true }
def VersOpensUptoSaid : Prop := versOpensUptoRow.holds Try.pinned (OpenSpec.upto versOpensSpec)

end Rows
end Go.Proofs.Ytoekegmpagjlpaa
