/-
  NARROWER THAN 'FOR EVERY INPUT', by the rows' own cells (each row's printed sentence says how): WalCrashes: laid · WalOpens: laid · WalNobody: laid.
  DERIVED. THE GIVEN ROWS OF THIS SEAT. 3 by the template 'for every input the law returns true; each argument reads behind the call as it read before'; 0 by the template 'total and deterministic' (their statements: YtdkdjofnnnljjaaGreatDoorTotals.lean).
  GIVEN WITH THE SEED: the statements are not yours to turn. If you find one false, say at which input.
  Laid BY PROGRAM, IN A SANDBOX (cutbox-rows.mjs): the forced cells as the released guide's own fill.sh prints them over the translation a7132b6d63462a43… (all of the seat's roots in one cut). By AI agents, Wed Nov 11 2026. No macro, syntax, notation, axiom, sorry.
-/
import Derived.Test.YtdkdjofnnnljjaaGreatDoorChecked
import GoSem.Claim
import GoSem.ClaimJoined
import GoSem.ClaimMapViews
import Derived.JoinedTies
import Derived.KernelRfl
namespace Go.Proofs.YtdkdjofnnnljjaaGreatDoor
/- THE CELL 'sum', in the pinned program and in every row, IS THE sha256 OF THE DUMP (.gsa) THAT YtdkdjofnnnljjaaGreatDoorProg.lean LOADS. Nothing in Lean hashes anything: it is a label: what it is worth is what the hold of that sum in a sandbox is worth. -/
noncomputable def Tryz.pinned : Pinned := { name := "ytdkdjofnnnljjaagreatdoor", sum := "a7132b6d63462a430d84226723a6d170df08df60c0c734cb840712a93f9b0e2a", checked := Tryz.checked }
namespace Rows
def none {H : Type} : Left H := { results := [], args := [] }

/- WHAT THE LISTED PACKAGE-LEVEL VARIABLES READ AS WHEN THE CALL BEGINS. Each datum BY PROGRAM (the guide's laid-datum.mjs) off the statement by which the dump's own 'gosem.cut.vars' lays the variable. In a bare row this is a premise. The card (YtdkdjofnnnljjaaGreatDoorCards.lean) ties it to the program's text. -/
def laid_changeover_crc_shifts {H : Type} : DataW H := .agg [.lit (.int .u32 0), .lit (.int .u32 498536548), .lit (.int .u32 997073096), .lit (.int .u32 651767980), .lit (.int .u32 1994146192), .lit (.int .u32 1802195444), .lit (.int .u32 1303535960), .lit (.int .u32 1342533948), .lit (.int .u32 3988292384), .lit (.int .u32 4027552580), .lit (.int .u32 3604390888), .lit (.int .u32 3412177804), .lit (.int .u32 2607071920), .lit (.int .u32 2262029012), .lit (.int .u32 2685067896), .lit (.int .u32 3183342108)]
def laid_changeover_cmd_words {H : Type} : DataW H := .agg [.lit (.string []), .lit (.string [110, 111, 112]), .lit (.string [112, 117, 116]), .lit (.string [103, 101, 116]), .lit (.string [100, 101, 108]), .lit (.string [99, 97, 115]), .lit (.string [97, 99, 116, 105, 118, 97, 116, 101]), .lit (.string [97, 100, 100]), .lit (.string [100, 114, 111, 112])]

/-- 'changeoverlaw21.WalCrashes': WHATEVER THE INPUT: true; the input reads as it did. -/
def walCrashesSpec : ChangeSpec := { name := "walCrashes", fn := fun _ => fun
  | [d] => { results := [.lit (.bool true)], args := [d] }
  | _ => none }
def walCrashesRow : OpenClaim := { program := "ytdkdjofnnnljjaagreatdoor", sum := "a7132b6d63462a430d84226723a6d170df08df60c0c734cb840712a93f9b0e2a", func := "changeover/changeoverlaw21.WalCrashes", spec := "walCrashes", unfollowed := true, recurses := true, named := ["changeover/crc.shifts", "changeover/cmd.words"], apart := false, laid := [("changeover/crc.shifts", laid_changeover_crc_shifts), ("changeover/cmd.words", laid_changeover_cmd_words)] }
def WalCrashesSaid : Prop := walCrashesRow.holds Tryz.pinned (OpenSpec.ofChange walCrashesSpec)

/-- ITS FALSE NEIGHBOUR: 'it returns false'. Refute it at one input. -/
def walCrashesWrong : ChangeSpec := { name := "walCrashes", fn := fun _ => fun
  | [d] => { results := [.lit (.bool false)], args := [d] }
  | _ => none }
def WalCrashesWrongFalsely : Prop := walCrashesRow.holds Tryz.pinned (OpenSpec.ofChange walCrashesWrong)

/-- 'changeoverlaw21.WalOpens': WHATEVER THE INPUT: true; the input reads as it did. -/
def walOpensSpec : ChangeSpec := { name := "walOpens", fn := fun _ => fun
  | [d1, d2, d3] => { results := [.lit (.bool true)], args := [d1, d2, d3] }
  | _ => none }
def walOpensRow : OpenClaim := { program := "ytdkdjofnnnljjaagreatdoor", sum := "a7132b6d63462a430d84226723a6d170df08df60c0c734cb840712a93f9b0e2a", func := "changeover/changeoverlaw21.WalOpens", spec := "walOpens", unfollowed := true, recurses := true, named := ["changeover/crc.shifts", "changeover/cmd.words"], apart := false, laid := [("changeover/crc.shifts", laid_changeover_crc_shifts), ("changeover/cmd.words", laid_changeover_cmd_words)] }
def WalOpensSaid : Prop := walOpensRow.holds Tryz.pinned (OpenSpec.ofChange walOpensSpec)

/-- ITS FALSE NEIGHBOUR: 'it returns false'. Refute it at one input. -/
def walOpensWrong : ChangeSpec := { name := "walOpens", fn := fun _ => fun
  | [d1, d2, d3] => { results := [.lit (.bool false)], args := [d1, d2, d3] }
  | _ => none }
def WalOpensWrongFalsely : Prop := walOpensRow.holds Tryz.pinned (OpenSpec.ofChange walOpensWrong)

/-- 'changeoverlaw21.WalNobody': WHATEVER THE INPUT: true; the input reads as it did. -/
def walNobodySpec : ChangeSpec := { name := "walNobody", fn := fun _ => fun
  | [d1, d2] => { results := [.lit (.bool true)], args := [d1, d2] }
  | _ => none }
def walNobodyRow : OpenClaim := { program := "ytdkdjofnnnljjaagreatdoor", sum := "a7132b6d63462a430d84226723a6d170df08df60c0c734cb840712a93f9b0e2a", func := "changeover/changeoverlaw21.WalNobody", spec := "walNobody", unfollowed := true, recurses := true, named := ["changeover/crc.shifts", "changeover/cmd.words"], apart := false, laid := [("changeover/crc.shifts", laid_changeover_crc_shifts), ("changeover/cmd.words", laid_changeover_cmd_words)] }
def WalNobodySaid : Prop := walNobodyRow.holds Tryz.pinned (OpenSpec.ofChange walNobodySpec)

/-- ITS FALSE NEIGHBOUR: 'it returns false'. Refute it at one input. -/
def walNobodyWrong : ChangeSpec := { name := "walNobody", fn := fun _ => fun
  | [d1, d2] => { results := [.lit (.bool false)], args := [d1, d2] }
  | _ => none }
def WalNobodyWrongFalsely : Prop := walNobodyRow.holds Tryz.pinned (OpenSpec.ofChange walNobodyWrong)

/- THE SECOND FORM. 'bulk': how many values and letters a reading holds, each counted each time it is reached (what is shared counts as often as it is met; a slice's spare places count too). A statement '..UptoSaid' is the law's where the arguments, and the package variables that the reading takes, are together of bulk at most 1048576: NARROWER than '..Said'. Prove '..Said' where nothing that the law and all that it calls make is longer than what came in: it says more and counts as full. Else prove '..UptoSaid'. A law counts once. -/
mutual
def uptoBulk {H : Type} : DataW H → Nat
  | .lit (.string bytes) => bytes.length + 1
  | .lit _ => 1
  | .nil => 1
  | .ptr d => uptoBulk d + 1
  | .slice elems spare => uptoBulkAll elems + uptoBulkAll spare + 1
  | .agg parts => uptoBulkAll parts + 1
  | .iface _ d => uptoBulk d + 1
  | .map entries => uptoBulkEntries entries + 1
  | .held _ => 1
def uptoBulkAll {H : Type} : List (DataW H) → Nat
  | [] => 0
  | d :: r => uptoBulk d + uptoBulkAll r
def uptoBulkEntries {H : Type} : List (Lit × DataW H) → Nat
  | [] => 0
  | x :: r => uptoBulkEntry x + uptoBulkEntries r
def uptoBulkEntry {H : Type} : Lit × DataW H → Nat
  | (.string bytes, d) => bytes.length + uptoBulk d + 1
  | (_, d) => uptoBulk d + 1
 end
def uptoSmall : (H : Type) → List (DataW H) → Bool := fun _ ds => decide (uptoBulkAll ds ≤ 1048576)
def OpenSpec.upto (s : _root_.Go.ChangeSpec) : _root_.Go.OpenSpec := { _root_.Go.OpenSpec.ofChange s with cond := some uptoSmall }

/-- 'changeoverlaw21.WalCrashes', WHERE WHAT IT READS IS OF BULK AT MOST 1048576: true; the input reads as it did. -/
def walCrashesUptoRow : OpenClaim := { program := "ytdkdjofnnnljjaagreatdoor", sum := "a7132b6d63462a430d84226723a6d170df08df60c0c734cb840712a93f9b0e2a", func := "changeover/changeoverlaw21.WalCrashes", spec := "walCrashes", unfollowed := true, recurses := true, named := ["changeover/crc.shifts", "changeover/cmd.words"], apart := false, laid := [("changeover/crc.shifts", laid_changeover_crc_shifts), ("changeover/cmd.words", laid_changeover_cmd_words)], narrowed := true }
def WalCrashesUptoSaid : Prop := walCrashesUptoRow.holds Tryz.pinned (OpenSpec.upto walCrashesSpec)

/-- 'changeoverlaw21.WalOpens', WHERE WHAT IT READS IS OF BULK AT MOST 1048576: true; the input reads as it did. -/
def walOpensUptoRow : OpenClaim := { program := "ytdkdjofnnnljjaagreatdoor", sum := "a7132b6d63462a430d84226723a6d170df08df60c0c734cb840712a93f9b0e2a", func := "changeover/changeoverlaw21.WalOpens", spec := "walOpens", unfollowed := true, recurses := true, named := ["changeover/crc.shifts", "changeover/cmd.words"], apart := false, laid := [("changeover/crc.shifts", laid_changeover_crc_shifts), ("changeover/cmd.words", laid_changeover_cmd_words)], narrowed := true }
def WalOpensUptoSaid : Prop := walOpensUptoRow.holds Tryz.pinned (OpenSpec.upto walOpensSpec)

/-- 'changeoverlaw21.WalNobody', WHERE WHAT IT READS IS OF BULK AT MOST 1048576: true; the input reads as it did. -/
def walNobodyUptoRow : OpenClaim := { program := "ytdkdjofnnnljjaagreatdoor", sum := "a7132b6d63462a430d84226723a6d170df08df60c0c734cb840712a93f9b0e2a", func := "changeover/changeoverlaw21.WalNobody", spec := "walNobody", unfollowed := true, recurses := true, named := ["changeover/crc.shifts", "changeover/cmd.words"], apart := false, laid := [("changeover/crc.shifts", laid_changeover_crc_shifts), ("changeover/cmd.words", laid_changeover_cmd_words)], narrowed := true }
def WalNobodyUptoSaid : Prop := walNobodyUptoRow.holds Tryz.pinned (OpenSpec.upto walNobodySpec)

end Rows
end Go.Proofs.YtdkdjofnnnljjaaGreatDoor
