/-
  NARROWER THAN 'FOR EVERY INPUT', by the rows' own cells (each row's printed sentence says how): SegmHeads: laid · SegmAdds: laid · SegmCut: laid · SegmReads: laid.
  DERIVED. THE GIVEN ROWS OF THIS SEAT. 4 by the template 'for every input the law returns true; each argument reads behind the call as it read before'; 0 by the template 'total and deterministic' (their statements: YteboceekcmchkaaGreatDoorTotals.lean).
  GIVEN WITH THE SEED: the statements are not yours to turn. If you find one false, say at which input.
  Laid BY PROGRAM, IN A SANDBOX (cutbox-rows.mjs): the forced cells as the released guide's own fill.sh prints them over the translation 0ce25533318b0d39… (all of the seat's roots in one cut). By AI agents, Wed Nov 11 2026. No macro, syntax, notation, axiom, sorry.
-/
import Derived.Test.YteboceekcmchkaaGreatDoorChecked
import GoSem.Claim
import GoSem.ClaimJoined
import GoSem.ClaimMapViews
import Derived.JoinedTies
import Derived.KernelRfl
namespace Go.Proofs.YteboceekcmchkaaGreatDoor
/- THE CELL 'sum', in the pinned program and in every row, IS THE sha256 OF THE DUMP (.gsa) THAT YteboceekcmchkaaGreatDoorProg.lean LOADS. Nothing in Lean hashes anything: it is a label: what it is worth is what the hold of that sum in a sandbox is worth. -/
noncomputable def Tryz.pinned : Pinned := { name := "yteboceekcmchkaagreatdoor", sum := "0ce25533318b0d395ed323be7dc13de6bff64dfadc9c605664d2fe328314aafe", checked := Tryz.checked }
namespace Rows
def none {H : Type} : Left H := { results := [], args := [] }

/- WHAT THE LISTED PACKAGE-LEVEL VARIABLES READ AS WHEN THE CALL BEGINS. Each datum BY PROGRAM (the guide's laid-datum.mjs) off the statement by which the dump's own 'gosem.cut.vars' lays the variable. In a bare row this is a premise. The card (YteboceekcmchkaaGreatDoorCards.lean) ties it to the program's text. -/
def laid_changeover_crc_shifts {H : Type} : DataW H := .agg [.lit (.int .u32 0), .lit (.int .u32 498536548), .lit (.int .u32 997073096), .lit (.int .u32 651767980), .lit (.int .u32 1994146192), .lit (.int .u32 1802195444), .lit (.int .u32 1303535960), .lit (.int .u32 1342533948), .lit (.int .u32 3988292384), .lit (.int .u32 4027552580), .lit (.int .u32 3604390888), .lit (.int .u32 3412177804), .lit (.int .u32 2607071920), .lit (.int .u32 2262029012), .lit (.int .u32 2685067896), .lit (.int .u32 3183342108)]
def laid_changeover_cmd_words {H : Type} : DataW H := .agg [.lit (.string []), .lit (.string [110, 111, 112]), .lit (.string [112, 117, 116]), .lit (.string [103, 101, 116]), .lit (.string [100, 101, 108]), .lit (.string [99, 97, 115]), .lit (.string [97, 99, 116, 105, 118, 97, 116, 101]), .lit (.string [97, 100, 100]), .lit (.string [100, 114, 111, 112])]

/-- 'changeoverlaw20.SegmHeads': WHATEVER THE INPUT: true; the input reads as it did. -/
def segmHeadsSpec : ChangeSpec := { name := "segmHeads", fn := fun _ => fun
  | [d1, d2] => { results := [.lit (.bool true)], args := [d1, d2] }
  | _ => none }
def segmHeadsRow : OpenClaim := { program := "yteboceekcmchkaagreatdoor", sum := "0ce25533318b0d395ed323be7dc13de6bff64dfadc9c605664d2fe328314aafe", func := "changeover/changeoverlaw20.SegmHeads", spec := "segmHeads", unfollowed := true, recurses := true, named := ["changeover/cmd.words", "changeover/crc.shifts"], apart := false, laid := [("changeover/crc.shifts", laid_changeover_crc_shifts), ("changeover/cmd.words", laid_changeover_cmd_words)] }
def SegmHeadsSaid : Prop := segmHeadsRow.holds Tryz.pinned (OpenSpec.ofChange segmHeadsSpec)

/-- ITS FALSE NEIGHBOUR: 'it returns false'. Refute it at one input. -/
def segmHeadsWrong : ChangeSpec := { name := "segmHeads", fn := fun _ => fun
  | [d1, d2] => { results := [.lit (.bool false)], args := [d1, d2] }
  | _ => none }
def SegmHeadsWrongFalsely : Prop := segmHeadsRow.holds Tryz.pinned (OpenSpec.ofChange segmHeadsWrong)

/-- 'changeoverlaw20.SegmAdds': WHATEVER THE INPUT: true; the input reads as it did. -/
def segmAddsSpec : ChangeSpec := { name := "segmAdds", fn := fun _ => fun
  | [d1, d2] => { results := [.lit (.bool true)], args := [d1, d2] }
  | _ => none }
def segmAddsRow : OpenClaim := { program := "yteboceekcmchkaagreatdoor", sum := "0ce25533318b0d395ed323be7dc13de6bff64dfadc9c605664d2fe328314aafe", func := "changeover/changeoverlaw20.SegmAdds", spec := "segmAdds", unfollowed := true, recurses := true, named := ["changeover/cmd.words", "changeover/crc.shifts"], apart := false, laid := [("changeover/crc.shifts", laid_changeover_crc_shifts), ("changeover/cmd.words", laid_changeover_cmd_words)] }
def SegmAddsSaid : Prop := segmAddsRow.holds Tryz.pinned (OpenSpec.ofChange segmAddsSpec)

/-- ITS FALSE NEIGHBOUR: 'it returns false'. Refute it at one input. -/
def segmAddsWrong : ChangeSpec := { name := "segmAdds", fn := fun _ => fun
  | [d1, d2] => { results := [.lit (.bool false)], args := [d1, d2] }
  | _ => none }
def SegmAddsWrongFalsely : Prop := segmAddsRow.holds Tryz.pinned (OpenSpec.ofChange segmAddsWrong)

/-- 'changeoverlaw20.SegmCut': WHATEVER THE INPUT: true; the input reads as it did. -/
def segmCutSpec : ChangeSpec := { name := "segmCut", fn := fun _ => fun
  | [d1, d2, d3] => { results := [.lit (.bool true)], args := [d1, d2, d3] }
  | _ => none }
def segmCutRow : OpenClaim := { program := "yteboceekcmchkaagreatdoor", sum := "0ce25533318b0d395ed323be7dc13de6bff64dfadc9c605664d2fe328314aafe", func := "changeover/changeoverlaw20.SegmCut", spec := "segmCut", unfollowed := true, recurses := true, named := ["changeover/cmd.words", "changeover/crc.shifts"], apart := false, laid := [("changeover/crc.shifts", laid_changeover_crc_shifts), ("changeover/cmd.words", laid_changeover_cmd_words)] }
def SegmCutSaid : Prop := segmCutRow.holds Tryz.pinned (OpenSpec.ofChange segmCutSpec)

/-- ITS FALSE NEIGHBOUR: 'it returns false'. Refute it at one input. -/
def segmCutWrong : ChangeSpec := { name := "segmCut", fn := fun _ => fun
  | [d1, d2, d3] => { results := [.lit (.bool false)], args := [d1, d2, d3] }
  | _ => none }
def SegmCutWrongFalsely : Prop := segmCutRow.holds Tryz.pinned (OpenSpec.ofChange segmCutWrong)

/-- 'changeoverlaw20.SegmReads': WHATEVER THE INPUT: true; the input reads as it did. -/
def segmReadsSpec : ChangeSpec := { name := "segmReads", fn := fun _ => fun
  | [d] => { results := [.lit (.bool true)], args := [d] }
  | _ => none }
def segmReadsRow : OpenClaim := { program := "yteboceekcmchkaagreatdoor", sum := "0ce25533318b0d395ed323be7dc13de6bff64dfadc9c605664d2fe328314aafe", func := "changeover/changeoverlaw20.SegmReads", spec := "segmReads", unfollowed := true, recurses := true, named := ["changeover/cmd.words", "changeover/crc.shifts"], apart := false, laid := [("changeover/crc.shifts", laid_changeover_crc_shifts), ("changeover/cmd.words", laid_changeover_cmd_words)] }
def SegmReadsSaid : Prop := segmReadsRow.holds Tryz.pinned (OpenSpec.ofChange segmReadsSpec)

/-- ITS FALSE NEIGHBOUR: 'it returns false'. Refute it at one input. -/
def segmReadsWrong : ChangeSpec := { name := "segmReads", fn := fun _ => fun
  | [d] => { results := [.lit (.bool false)], args := [d] }
  | _ => none }
def SegmReadsWrongFalsely : Prop := segmReadsRow.holds Tryz.pinned (OpenSpec.ofChange segmReadsWrong)

/- THE SECOND FORM. 'bulk': how many values and letters a reading holds, each counted each time it is reached (what is shared counts as often as it is met; a slice's spare places count too). A statement '..UptoSaid' is the law's where the arguments, and the package variables that the reading takes, are together of bulk at most 1048576: NARROWER than '..Said'. Prove '..Said' where nothing that the law and all that it calls make is longer than what came in: it says more and counts as full. Else prove '..UptoSaid'. A law counts once. -/
mutual
def uptoBulk {H : Type} : DataW H → Nat
  | .lit (.string bytes) => bytes.length + 1
  | .lit _ => 1
  | .nil => 1
  | .ptr d => uptoBulk d + 1
  | .slice elems spare => uptoBulkAll elems + uptoBulkAll spare + 1
  | .agg parts => uptoBulkAll parts + 1
  | .iface _ d => uptoBulk d + 1
  | .map entries => uptoBulkEntries entries + 1
  | .held _ => 1
def uptoBulkAll {H : Type} : List (DataW H) → Nat
  | [] => 0
  | d :: r => uptoBulk d + uptoBulkAll r
def uptoBulkEntries {H : Type} : List (Lit × DataW H) → Nat
  | [] => 0
  | x :: r => uptoBulkEntry x + uptoBulkEntries r
def uptoBulkEntry {H : Type} : Lit × DataW H → Nat
  | (.string bytes, d) => bytes.length + uptoBulk d + 1
  | (_, d) => uptoBulk d + 1
 end
def uptoSmall : (H : Type) → List (DataW H) → Bool := fun _ ds => decide (uptoBulkAll ds ≤ 1048576)
def OpenSpec.upto (s : _root_.Go.ChangeSpec) : _root_.Go.OpenSpec := { _root_.Go.OpenSpec.ofChange s with cond := some uptoSmall }

/-- 'changeoverlaw20.SegmHeads', WHERE WHAT IT READS IS OF BULK AT MOST 1048576: true; the input reads as it did. -/
def segmHeadsUptoRow : OpenClaim := { program := "yteboceekcmchkaagreatdoor", sum := "0ce25533318b0d395ed323be7dc13de6bff64dfadc9c605664d2fe328314aafe", func := "changeover/changeoverlaw20.SegmHeads", spec := "segmHeads", unfollowed := true, recurses := true, named := ["changeover/cmd.words", "changeover/crc.shifts"], apart := false, laid := [("changeover/crc.shifts", laid_changeover_crc_shifts), ("changeover/cmd.words", laid_changeover_cmd_words)], narrowed := true }
def SegmHeadsUptoSaid : Prop := segmHeadsUptoRow.holds Tryz.pinned (OpenSpec.upto segmHeadsSpec)

/-- 'changeoverlaw20.SegmAdds', WHERE WHAT IT READS IS OF BULK AT MOST 1048576: true; the input reads as it did. -/
def segmAddsUptoRow : OpenClaim := { program := "yteboceekcmchkaagreatdoor", sum := "0ce25533318b0d395ed323be7dc13de6bff64dfadc9c605664d2fe328314aafe", func := "changeover/changeoverlaw20.SegmAdds", spec := "segmAdds", unfollowed := true, recurses := true, named := ["changeover/cmd.words", "changeover/crc.shifts"], apart := false, laid := [("changeover/crc.shifts", laid_changeover_crc_shifts), ("changeover/cmd.words", laid_changeover_cmd_words)], narrowed := true }
def SegmAddsUptoSaid : Prop := segmAddsUptoRow.holds Tryz.pinned (OpenSpec.upto segmAddsSpec)

/-- 'changeoverlaw20.SegmCut', WHERE WHAT IT READS IS OF BULK AT MOST 1048576: true; the input reads as it did. -/
def segmCutUptoRow : OpenClaim := { program := "yteboceekcmchkaagreatdoor", sum := "0ce25533318b0d395ed323be7dc13de6bff64dfadc9c605664d2fe328314aafe", func := "changeover/changeoverlaw20.SegmCut", spec := "segmCut", unfollowed := true, recurses := true, named := ["changeover/cmd.words", "changeover/crc.shifts"], apart := false, laid := [("changeover/crc.shifts", laid_changeover_crc_shifts), ("changeover/cmd.words", laid_changeover_cmd_words)], narrowed := true }
def SegmCutUptoSaid : Prop := segmCutUptoRow.holds Tryz.pinned (OpenSpec.upto segmCutSpec)

/-- 'changeoverlaw20.SegmReads', WHERE WHAT IT READS IS OF BULK AT MOST 1048576: true; the input reads as it did. -/
def segmReadsUptoRow : OpenClaim := { program := "yteboceekcmchkaagreatdoor", sum := "0ce25533318b0d395ed323be7dc13de6bff64dfadc9c605664d2fe328314aafe", func := "changeover/changeoverlaw20.SegmReads", spec := "segmReads", unfollowed := true, recurses := true, named := ["changeover/cmd.words", "changeover/crc.shifts"], apart := false, laid := [("changeover/crc.shifts", laid_changeover_crc_shifts), ("changeover/cmd.words", laid_changeover_cmd_words)], narrowed := true }
def SegmReadsUptoSaid : Prop := segmReadsUptoRow.holds Tryz.pinned (OpenSpec.upto segmReadsSpec)

end Rows
end Go.Proofs.YteboceekcmchkaaGreatDoor
