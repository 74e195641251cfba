/-
  NARROWER THAN 'FOR EVERY INPUT', by the rows' own cells (each row's printed sentence says how): HardOf: laid · HardBack: laid · HardApplies: laid.
  DERIVED. THE GIVEN ROWS OF THIS SEAT. 3 by the template 'for every input the law returns true; each argument reads behind the call as it read before'; 0 by the template 'total and deterministic' (their statements: YtfdnmmmjaipgoaaDoorTotals.lean).
  GIVEN WITH THE SEED: the statements are not yours to turn. If you find one false, say at which input.
  Laid BY PROGRAM, IN A SANDBOX (cutbox-rows.mjs): the forced cells as the released guide's own fill.sh prints them over the translation 23482b357f42d181… (all of the seat's roots in one cut). By AI agents, Wed Nov 11 2026. No macro, syntax, notation, axiom, sorry.
-/
import Derived.Test.YtfdnmmmjaipgoaaDoorChecked
import GoSem.Claim
import GoSem.ClaimJoined
import GoSem.ClaimMapViews
import Derived.JoinedTies
import Derived.KernelRfl
namespace Go.Proofs.YtfdnmmmjaipgoaaDoor
/- THE CELL 'sum', in the pinned program and in every row, IS THE sha256 OF THE DUMP (.gsa) THAT YtfdnmmmjaipgoaaDoorProg.lean LOADS. Nothing in Lean hashes anything: it is a label: what it is worth is what the hold of that sum in a sandbox is worth. -/
noncomputable def Tryd.pinned : Pinned := { name := "ytfdnmmmjaipgoaadoor", sum := "23482b357f42d1815acde7dff04440ed247263ca5ee874609512fe6e5681f84d", checked := Tryd.checked }
namespace Rows
def none {H : Type} : Left H := { results := [], args := [] }

/- WHAT THE LISTED PACKAGE-LEVEL VARIABLES READ AS WHEN THE CALL BEGINS. Each datum BY PROGRAM (the guide's laid-datum.mjs) off the statement by which the dump's own 'gosem.cut.vars' lays the variable. In a bare row this is a premise. The card (YtfdnmmmjaipgoaaDoorCards.lean) ties it to the program's text. -/
def laid_changeover_cmd_words {H : Type} : DataW H := .agg [.lit (.string []), .lit (.string [110, 111, 112]), .lit (.string [112, 117, 116]), .lit (.string [103, 101, 116]), .lit (.string [100, 101, 108]), .lit (.string [99, 97, 115]), .lit (.string [97, 99, 116, 105, 118, 97, 116, 101]), .lit (.string [97, 100, 100]), .lit (.string [100, 114, 111, 112])]

/-- 'changeoverlaw19.HardOf': WHATEVER THE INPUT: true; the input reads as it did. -/
def hardOfSpec : ChangeSpec := { name := "hardOf", fn := fun _ => fun
  | [d] => { results := [.lit (.bool true)], args := [d] }
  | _ => none }
def hardOfRow : OpenClaim := { program := "ytfdnmmmjaipgoaadoor", sum := "23482b357f42d1815acde7dff04440ed247263ca5ee874609512fe6e5681f84d", func := "changeover/changeoverlaw19.HardOf", spec := "hardOf", unfollowed := true, recurses := true, named := ["changeover/cmd.words"], apart := false, laid := [("changeover/cmd.words", laid_changeover_cmd_words)] }
def HardOfSaid : Prop := hardOfRow.holds Tryd.pinned (OpenSpec.ofChange hardOfSpec)

/-- ITS FALSE NEIGHBOUR: 'it returns false'. Refute it at one input. -/
def hardOfWrong : ChangeSpec := { name := "hardOf", fn := fun _ => fun
  | [d] => { results := [.lit (.bool false)], args := [d] }
  | _ => none }
def HardOfWrongFalsely : Prop := hardOfRow.holds Tryd.pinned (OpenSpec.ofChange hardOfWrong)

/-- 'changeoverlaw19.HardBack': WHATEVER THE INPUT: true; the input reads as it did. -/
def hardBackSpec : ChangeSpec := { name := "hardBack", fn := fun _ => fun
  | [d] => { results := [.lit (.bool true)], args := [d] }
  | _ => none }
def hardBackRow : OpenClaim := { program := "ytfdnmmmjaipgoaadoor", sum := "23482b357f42d1815acde7dff04440ed247263ca5ee874609512fe6e5681f84d", func := "changeover/changeoverlaw19.HardBack", spec := "hardBack", unfollowed := true, recurses := true, named := ["changeover/cmd.words"], apart := false, laid := [("changeover/cmd.words", laid_changeover_cmd_words)] }
def HardBackSaid : Prop := hardBackRow.holds Tryd.pinned (OpenSpec.ofChange hardBackSpec)

/-- ITS FALSE NEIGHBOUR: 'it returns false'. Refute it at one input. -/
def hardBackWrong : ChangeSpec := { name := "hardBack", fn := fun _ => fun
  | [d] => { results := [.lit (.bool false)], args := [d] }
  | _ => none }
def HardBackWrongFalsely : Prop := hardBackRow.holds Tryd.pinned (OpenSpec.ofChange hardBackWrong)

/-- 'changeoverlaw19.HardApplies': WHATEVER THE INPUT: true; the input reads as it did. -/
def hardAppliesSpec : ChangeSpec := { name := "hardApplies", fn := fun _ => fun
  | [d1, d2] => { results := [.lit (.bool true)], args := [d1, d2] }
  | _ => none }
def hardAppliesRow : OpenClaim := { program := "ytfdnmmmjaipgoaadoor", sum := "23482b357f42d1815acde7dff04440ed247263ca5ee874609512fe6e5681f84d", func := "changeover/changeoverlaw19.HardApplies", spec := "hardApplies", unfollowed := true, recurses := true, named := ["changeover/cmd.words"], apart := false, laid := [("changeover/cmd.words", laid_changeover_cmd_words)] }
def HardAppliesSaid : Prop := hardAppliesRow.holds Tryd.pinned (OpenSpec.ofChange hardAppliesSpec)

/-- ITS FALSE NEIGHBOUR: 'it returns false'. Refute it at one input. -/
def hardAppliesWrong : ChangeSpec := { name := "hardApplies", fn := fun _ => fun
  | [d1, d2] => { results := [.lit (.bool false)], args := [d1, d2] }
  | _ => none }
def HardAppliesWrongFalsely : Prop := hardAppliesRow.holds Tryd.pinned (OpenSpec.ofChange hardAppliesWrong)

/- THE SECOND FORM. 'bulk': how many values and letters a reading holds, each counted each time it is reached (what is shared counts as often as it is met; a slice's spare places count too). A statement '..UptoSaid' is the law's where the arguments, and the package variables that the reading takes, are together of bulk at most 1048576: NARROWER than '..Said'. Prove '..Said' where nothing that the law and all that it calls make is longer than what came in: it says more and counts as full. Else prove '..UptoSaid'. A law counts once. -/
mutual
def uptoBulk {H : Type} : DataW H → Nat
  | .lit (.string bytes) => bytes.length + 1
  | .lit _ => 1
  | .nil => 1
  | .ptr d => uptoBulk d + 1
  | .slice elems spare => uptoBulkAll elems + uptoBulkAll spare + 1
  | .agg parts => uptoBulkAll parts + 1
  | .iface _ d => uptoBulk d + 1
  | .map entries => uptoBulkEntries entries + 1
  | .held _ => 1
def uptoBulkAll {H : Type} : List (DataW H) → Nat
  | [] => 0
  | d :: r => uptoBulk d + uptoBulkAll r
def uptoBulkEntries {H : Type} : List (Lit × DataW H) → Nat
  | [] => 0
  | x :: r => uptoBulkEntry x + uptoBulkEntries r
def uptoBulkEntry {H : Type} : Lit × DataW H → Nat
  | (.string bytes, d) => bytes.length + uptoBulk d + 1
  | (_, d) => uptoBulk d + 1
 end
def uptoSmall : (H : Type) → List (DataW H) → Bool := fun _ ds => decide (uptoBulkAll ds ≤ 1048576)
def OpenSpec.upto (s : _root_.Go.ChangeSpec) : _root_.Go.OpenSpec := { _root_.Go.OpenSpec.ofChange s with cond := some uptoSmall }

/-- 'changeoverlaw19.HardOf', WHERE WHAT IT READS IS OF BULK AT MOST 1048576: true; the input reads as it did. -/
def hardOfUptoRow : OpenClaim := { program := "ytfdnmmmjaipgoaadoor", sum := "23482b357f42d1815acde7dff04440ed247263ca5ee874609512fe6e5681f84d", func := "changeover/changeoverlaw19.HardOf", spec := "hardOf", unfollowed := true, recurses := true, named := ["changeover/cmd.words"], apart := false, laid := [("changeover/cmd.words", laid_changeover_cmd_words)], narrowed := true }
def HardOfUptoSaid : Prop := hardOfUptoRow.holds Tryd.pinned (OpenSpec.upto hardOfSpec)

/-- 'changeoverlaw19.HardBack', WHERE WHAT IT READS IS OF BULK AT MOST 1048576: true; the input reads as it did. -/
def hardBackUptoRow : OpenClaim := { program := "ytfdnmmmjaipgoaadoor", sum := "23482b357f42d1815acde7dff04440ed247263ca5ee874609512fe6e5681f84d", func := "changeover/changeoverlaw19.HardBack", spec := "hardBack", unfollowed := true, recurses := true, named := ["changeover/cmd.words"], apart := false, laid := [("changeover/cmd.words", laid_changeover_cmd_words)], narrowed := true }
def HardBackUptoSaid : Prop := hardBackUptoRow.holds Tryd.pinned (OpenSpec.upto hardBackSpec)

/-- 'changeoverlaw19.HardApplies', WHERE WHAT IT READS IS OF BULK AT MOST 1048576: true; the input reads as it did. -/
def hardAppliesUptoRow : OpenClaim := { program := "ytfdnmmmjaipgoaadoor", sum := "23482b357f42d1815acde7dff04440ed247263ca5ee874609512fe6e5681f84d", func := "changeover/changeoverlaw19.HardApplies", spec := "hardApplies", unfollowed := true, recurses := true, named := ["changeover/cmd.words"], apart := false, laid := [("changeover/cmd.words", laid_changeover_cmd_words)], narrowed := true }
def HardAppliesUptoSaid : Prop := hardAppliesUptoRow.holds Tryd.pinned (OpenSpec.upto hardAppliesSpec)

end Rows
end Go.Proofs.YtfdnmmmjaipgoaaDoor
