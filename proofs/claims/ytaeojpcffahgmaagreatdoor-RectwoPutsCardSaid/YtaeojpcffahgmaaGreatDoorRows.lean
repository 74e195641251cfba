/-
  NARROWER THAN 'FOR EVERY INPUT', by the rows' own cells (each row's printed sentence says how): RectwoPuts: laid · RectwoGets: laid · RectwoRewrites: laid.
  DERIVED. THE GIVEN ROWS OF THIS SEAT. 3 by the template 'for every input the law returns true; each argument reads behind the call as it read before'; 0 by the template 'total and deterministic' (their statements: YtaeojpcffahgmaaGreatDoorTotals.lean).
  GIVEN WITH THE SEED: the statements are not yours to turn. If you find one false, say at which input.
  Laid BY PROGRAM, IN A SANDBOX (cutbox-rows.mjs): the forced cells as the released guide's own fill.sh prints them over the translation ff71dad2b1700b1d… (all of the seat's roots in one cut). By AI agents, Wed Nov 11 2026. No macro, syntax, notation, axiom, sorry.
-/
import Derived.Test.YtaeojpcffahgmaaGreatDoorChecked
import GoSem.Claim
import GoSem.ClaimJoined
import GoSem.ClaimMapViews
import Derived.JoinedTies
import Derived.KernelRfl
namespace Go.Proofs.YtaeojpcffahgmaaGreatDoor
/- THE CELL 'sum', in the pinned program and in every row, IS THE sha256 OF THE DUMP (.gsa) THAT YtaeojpcffahgmaaGreatDoorProg.lean LOADS. Nothing in Lean hashes anything: it is a label: what it is worth is what the hold of that sum in a sandbox is worth. -/
noncomputable def Tryz.pinned : Pinned := { name := "ytaeojpcffahgmaagreatdoor", sum := "ff71dad2b1700b1d94e73485c1dbdbbeb6262f6a76a84c5258477deecaf68269", checked := Tryz.checked }
namespace Rows
def none {H : Type} : Left H := { results := [], args := [] }

/- WHAT THE LISTED PACKAGE-LEVEL VARIABLES READ AS WHEN THE CALL BEGINS. Each datum BY PROGRAM (the guide's laid-datum.mjs) off the statement by which the dump's own 'gosem.cut.vars' lays the variable. In a bare row this is a premise. The card (YtaeojpcffahgmaaGreatDoorCards.lean) ties it to the program's text. -/
def laid_changeover_cmd_words {H : Type} : DataW H := .agg [.lit (.string []), .lit (.string [110, 111, 112]), .lit (.string [112, 117, 116]), .lit (.string [103, 101, 116]), .lit (.string [100, 101, 108]), .lit (.string [99, 97, 115]), .lit (.string [97, 99, 116, 105, 118, 97, 116, 101]), .lit (.string [97, 100, 100]), .lit (.string [100, 114, 111, 112])]

/-- 'changeoverlaw17.RectwoPuts': WHATEVER THE INPUT: true; the input reads as it did. -/
def rectwoPutsSpec : ChangeSpec := { name := "rectwoPuts", fn := fun _ => fun
  | [d1, d2] => { results := [.lit (.bool true)], args := [d1, d2] }
  | _ => none }
def rectwoPutsRow : OpenClaim := { program := "ytaeojpcffahgmaagreatdoor", sum := "ff71dad2b1700b1d94e73485c1dbdbbeb6262f6a76a84c5258477deecaf68269", func := "changeover/changeoverlaw17.RectwoPuts", spec := "rectwoPuts", unfollowed := true, recurses := true, named := ["changeover/cmd.words"], apart := false, laid := [("changeover/cmd.words", laid_changeover_cmd_words)] }
def RectwoPutsSaid : Prop := rectwoPutsRow.holds Tryz.pinned (OpenSpec.ofChange rectwoPutsSpec)

/-- ITS FALSE NEIGHBOUR: 'it returns false'. Refute it at one input. -/
def rectwoPutsWrong : ChangeSpec := { name := "rectwoPuts", fn := fun _ => fun
  | [d1, d2] => { results := [.lit (.bool false)], args := [d1, d2] }
  | _ => none }
def RectwoPutsWrongFalsely : Prop := rectwoPutsRow.holds Tryz.pinned (OpenSpec.ofChange rectwoPutsWrong)

/-- 'changeoverlaw17.RectwoGets': WHATEVER THE INPUT: true; the input reads as it did. -/
def rectwoGetsSpec : ChangeSpec := { name := "rectwoGets", fn := fun _ => fun
  | [d1, d2] => { results := [.lit (.bool true)], args := [d1, d2] }
  | _ => none }
def rectwoGetsRow : OpenClaim := { program := "ytaeojpcffahgmaagreatdoor", sum := "ff71dad2b1700b1d94e73485c1dbdbbeb6262f6a76a84c5258477deecaf68269", func := "changeover/changeoverlaw17.RectwoGets", spec := "rectwoGets", unfollowed := true, recurses := true, named := ["changeover/cmd.words"], apart := false, laid := [("changeover/cmd.words", laid_changeover_cmd_words)] }
def RectwoGetsSaid : Prop := rectwoGetsRow.holds Tryz.pinned (OpenSpec.ofChange rectwoGetsSpec)

/-- ITS FALSE NEIGHBOUR: 'it returns false'. Refute it at one input. -/
def rectwoGetsWrong : ChangeSpec := { name := "rectwoGets", fn := fun _ => fun
  | [d1, d2] => { results := [.lit (.bool false)], args := [d1, d2] }
  | _ => none }
def RectwoGetsWrongFalsely : Prop := rectwoGetsRow.holds Tryz.pinned (OpenSpec.ofChange rectwoGetsWrong)

/-- 'changeoverlaw17.RectwoRewrites': WHATEVER THE INPUT: true; the input reads as it did. -/
def rectwoRewritesSpec : ChangeSpec := { name := "rectwoRewrites", fn := fun _ => fun
  | [d] => { results := [.lit (.bool true)], args := [d] }
  | _ => none }
def rectwoRewritesRow : OpenClaim := { program := "ytaeojpcffahgmaagreatdoor", sum := "ff71dad2b1700b1d94e73485c1dbdbbeb6262f6a76a84c5258477deecaf68269", func := "changeover/changeoverlaw17.RectwoRewrites", spec := "rectwoRewrites", unfollowed := true, recurses := true, named := ["changeover/cmd.words"], apart := false, laid := [("changeover/cmd.words", laid_changeover_cmd_words)] }
def RectwoRewritesSaid : Prop := rectwoRewritesRow.holds Tryz.pinned (OpenSpec.ofChange rectwoRewritesSpec)

/-- ITS FALSE NEIGHBOUR: 'it returns false'. Refute it at one input. -/
def rectwoRewritesWrong : ChangeSpec := { name := "rectwoRewrites", fn := fun _ => fun
  | [d] => { results := [.lit (.bool false)], args := [d] }
  | _ => none }
def RectwoRewritesWrongFalsely : Prop := rectwoRewritesRow.holds Tryz.pinned (OpenSpec.ofChange rectwoRewritesWrong)

/- THE SECOND FORM. 'bulk': how many values and letters a reading holds, each counted each time it is reached (what is shared counts as often as it is met; a slice's spare places count too). A statement '..UptoSaid' is the law's where the arguments, and the package variables that the reading takes, are together of bulk at most 1048576: NARROWER than '..Said'. Prove '..Said' where nothing that the law and all that it calls make is longer than what came in: it says more and counts as full. Else prove '..UptoSaid'. A law counts once. -/
mutual
def uptoBulk {H : Type} : DataW H → Nat
  | .lit (.string bytes) => bytes.length + 1
  | .lit _ => 1
  | .nil => 1
  | .ptr d => uptoBulk d + 1
  | .slice elems spare => uptoBulkAll elems + uptoBulkAll spare + 1
  | .agg parts => uptoBulkAll parts + 1
  | .iface _ d => uptoBulk d + 1
  | .map entries => uptoBulkEntries entries + 1
  | .held _ => 1
def uptoBulkAll {H : Type} : List (DataW H) → Nat
  | [] => 0
  | d :: r => uptoBulk d + uptoBulkAll r
def uptoBulkEntries {H : Type} : List (Lit × DataW H) → Nat
  | [] => 0
  | x :: r => uptoBulkEntry x + uptoBulkEntries r
def uptoBulkEntry {H : Type} : Lit × DataW H → Nat
  | (.string bytes, d) => bytes.length + uptoBulk d + 1
  | (_, d) => uptoBulk d + 1
 end
def uptoSmall : (H : Type) → List (DataW H) → Bool := fun _ ds => decide (uptoBulkAll ds ≤ 1048576)
def OpenSpec.upto (s : _root_.Go.ChangeSpec) : _root_.Go.OpenSpec := { _root_.Go.OpenSpec.ofChange s with cond := some uptoSmall }

/-- 'changeoverlaw17.RectwoPuts', WHERE WHAT IT READS IS OF BULK AT MOST 1048576: true; the input reads as it did. -/
def rectwoPutsUptoRow : OpenClaim := { program := "ytaeojpcffahgmaagreatdoor", sum := "ff71dad2b1700b1d94e73485c1dbdbbeb6262f6a76a84c5258477deecaf68269", func := "changeover/changeoverlaw17.RectwoPuts", spec := "rectwoPuts", unfollowed := true, recurses := true, named := ["changeover/cmd.words"], apart := false, laid := [("changeover/cmd.words", laid_changeover_cmd_words)], narrowed := true }
def RectwoPutsUptoSaid : Prop := rectwoPutsUptoRow.holds Tryz.pinned (OpenSpec.upto rectwoPutsSpec)

/-- 'changeoverlaw17.RectwoGets', WHERE WHAT IT READS IS OF BULK AT MOST 1048576: true; the input reads as it did. -/
def rectwoGetsUptoRow : OpenClaim := { program := "ytaeojpcffahgmaagreatdoor", sum := "ff71dad2b1700b1d94e73485c1dbdbbeb6262f6a76a84c5258477deecaf68269", func := "changeover/changeoverlaw17.RectwoGets", spec := "rectwoGets", unfollowed := true, recurses := true, named := ["changeover/cmd.words"], apart := false, laid := [("changeover/cmd.words", laid_changeover_cmd_words)], narrowed := true }
def RectwoGetsUptoSaid : Prop := rectwoGetsUptoRow.holds Tryz.pinned (OpenSpec.upto rectwoGetsSpec)

/-- 'changeoverlaw17.RectwoRewrites', WHERE WHAT IT READS IS OF BULK AT MOST 1048576: true; the input reads as it did. -/
def rectwoRewritesUptoRow : OpenClaim := { program := "ytaeojpcffahgmaagreatdoor", sum := "ff71dad2b1700b1d94e73485c1dbdbbeb6262f6a76a84c5258477deecaf68269", func := "changeover/changeoverlaw17.RectwoRewrites", spec := "rectwoRewrites", unfollowed := true, recurses := true, named := ["changeover/cmd.words"], apart := false, laid := [("changeover/cmd.words", laid_changeover_cmd_words)], narrowed := true }
def RectwoRewritesUptoSaid : Prop := rectwoRewritesUptoRow.holds Tryz.pinned (OpenSpec.upto rectwoRewritesSpec)

end Rows
end Go.Proofs.YtaeojpcffahgmaaGreatDoor
