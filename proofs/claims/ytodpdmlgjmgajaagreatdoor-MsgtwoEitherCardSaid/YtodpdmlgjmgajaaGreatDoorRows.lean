/-
  NARROWER THAN 'FOR EVERY INPUT', by the rows' own cells (each row's printed sentence says how): MsgtwoEncodes: laid · MsgtwoDecodes: laid · MsgtwoEither: laid.
  DERIVED. THE GIVEN ROWS OF THIS SEAT. 3 by the template 'for every input the law returns true; each argument reads behind the call as it read before'; 0 by the template 'total and deterministic' (their statements: YtodpdmlgjmgajaaGreatDoorTotals.lean).
  GIVEN WITH THE SEED: the statements are not yours to turn. If you find one false, say at which input.
  Laid BY PROGRAM, IN A SANDBOX (cutbox-rows.mjs): the forced cells as the released guide's own fill.sh prints them over the translation 33e57c0bd7e1824c… (all of the seat's roots in one cut). By AI agents, Wed Nov 11 2026. No macro, syntax, notation, axiom, sorry.
-/
import Derived.Test.YtodpdmlgjmgajaaGreatDoorChecked
import GoSem.Claim
import GoSem.ClaimJoined
import GoSem.ClaimMapViews
import Derived.JoinedTies
import Derived.KernelRfl
namespace Go.Proofs.YtodpdmlgjmgajaaGreatDoor
/- THE CELL 'sum', in the pinned program and in every row, IS THE sha256 OF THE DUMP (.gsa) THAT YtodpdmlgjmgajaaGreatDoorProg.lean LOADS. Nothing in Lean hashes anything: it is a label: what it is worth is what the hold of that sum in a sandbox is worth. -/
noncomputable def Tryz.pinned : Pinned := { name := "ytodpdmlgjmgajaagreatdoor", sum := "33e57c0bd7e1824cc38d7d7711001a96c8576e348b2c6ca05e92d9febc424a4a", checked := Tryz.checked }
namespace Rows
def none {H : Type} : Left H := { results := [], args := [] }

/- WHAT THE LISTED PACKAGE-LEVEL VARIABLES READ AS WHEN THE CALL BEGINS. Each datum BY PROGRAM (the guide's laid-datum.mjs) off the statement by which the dump's own 'gosem.cut.vars' lays the variable. In a bare row this is a premise. The card (YtodpdmlgjmgajaaGreatDoorCards.lean) ties it to the program's text. -/
def laid_changeover_cmd_words {H : Type} : DataW H := .agg [.lit (.string []), .lit (.string [110, 111, 112]), .lit (.string [112, 117, 116]), .lit (.string [103, 101, 116]), .lit (.string [100, 101, 108]), .lit (.string [99, 97, 115]), .lit (.string [97, 99, 116, 105, 118, 97, 116, 101]), .lit (.string [97, 100, 100]), .lit (.string [100, 114, 111, 112])]
def laid_changeover_msgone_fields {H : Type} : DataW H := .agg [.lit (.int .i64 0), .lit (.int .i64 1), .lit (.int .i64 1), .lit (.int .i64 6), .lit (.int .i64 30), .lit (.int .i64 18), .lit (.int .i64 6), .lit (.int .i64 2), .lit (.int .i64 10), .lit (.int .i64 4), .lit (.int .i64 24), .lit (.int .i64 32)]

/-- 'changeoverlaw14.MsgtwoEncodes': WHATEVER THE INPUT: true; the input reads as it did. -/
def msgtwoEncodesSpec : ChangeSpec := { name := "msgtwoEncodes", fn := fun _ => fun
  | [d] => { results := [.lit (.bool true)], args := [d] }
  | _ => none }
def msgtwoEncodesRow : OpenClaim := { program := "ytodpdmlgjmgajaagreatdoor", sum := "33e57c0bd7e1824cc38d7d7711001a96c8576e348b2c6ca05e92d9febc424a4a", func := "changeover/changeoverlaw14.MsgtwoEncodes", spec := "msgtwoEncodes", unfollowed := true, recurses := true, named := ["changeover/msgone.fields", "changeover/cmd.words"], apart := false, laid := [("changeover/cmd.words", laid_changeover_cmd_words), ("changeover/msgone.fields", laid_changeover_msgone_fields)] }
def MsgtwoEncodesSaid : Prop := msgtwoEncodesRow.holds Tryz.pinned (OpenSpec.ofChange msgtwoEncodesSpec)

/-- ITS FALSE NEIGHBOUR: 'it returns false'. Refute it at one input. -/
def msgtwoEncodesWrong : ChangeSpec := { name := "msgtwoEncodes", fn := fun _ => fun
  | [d] => { results := [.lit (.bool false)], args := [d] }
  | _ => none }
def MsgtwoEncodesWrongFalsely : Prop := msgtwoEncodesRow.holds Tryz.pinned (OpenSpec.ofChange msgtwoEncodesWrong)

/-- 'changeoverlaw14.MsgtwoDecodes': WHATEVER THE INPUT: true; the input reads as it did. -/
def msgtwoDecodesSpec : ChangeSpec := { name := "msgtwoDecodes", fn := fun _ => fun
  | [d] => { results := [.lit (.bool true)], args := [d] }
  | _ => none }
def msgtwoDecodesRow : OpenClaim := { program := "ytodpdmlgjmgajaagreatdoor", sum := "33e57c0bd7e1824cc38d7d7711001a96c8576e348b2c6ca05e92d9febc424a4a", func := "changeover/changeoverlaw14.MsgtwoDecodes", spec := "msgtwoDecodes", unfollowed := true, recurses := true, named := ["changeover/msgone.fields", "changeover/cmd.words"], apart := false, laid := [("changeover/cmd.words", laid_changeover_cmd_words), ("changeover/msgone.fields", laid_changeover_msgone_fields)] }
def MsgtwoDecodesSaid : Prop := msgtwoDecodesRow.holds Tryz.pinned (OpenSpec.ofChange msgtwoDecodesSpec)

/-- ITS FALSE NEIGHBOUR: 'it returns false'. Refute it at one input. -/
def msgtwoDecodesWrong : ChangeSpec := { name := "msgtwoDecodes", fn := fun _ => fun
  | [d] => { results := [.lit (.bool false)], args := [d] }
  | _ => none }
def MsgtwoDecodesWrongFalsely : Prop := msgtwoDecodesRow.holds Tryz.pinned (OpenSpec.ofChange msgtwoDecodesWrong)

/-- 'changeoverlaw14.MsgtwoEither': WHATEVER THE INPUT: true; the input reads as it did. -/
def msgtwoEitherSpec : ChangeSpec := { name := "msgtwoEither", fn := fun _ => fun
  | [d] => { results := [.lit (.bool true)], args := [d] }
  | _ => none }
def msgtwoEitherRow : OpenClaim := { program := "ytodpdmlgjmgajaagreatdoor", sum := "33e57c0bd7e1824cc38d7d7711001a96c8576e348b2c6ca05e92d9febc424a4a", func := "changeover/changeoverlaw14.MsgtwoEither", spec := "msgtwoEither", unfollowed := true, recurses := true, named := ["changeover/msgone.fields", "changeover/cmd.words"], apart := false, laid := [("changeover/cmd.words", laid_changeover_cmd_words), ("changeover/msgone.fields", laid_changeover_msgone_fields)] }
def MsgtwoEitherSaid : Prop := msgtwoEitherRow.holds Tryz.pinned (OpenSpec.ofChange msgtwoEitherSpec)

/-- ITS FALSE NEIGHBOUR: 'it returns false'. Refute it at one input. -/
def msgtwoEitherWrong : ChangeSpec := { name := "msgtwoEither", fn := fun _ => fun
  | [d] => { results := [.lit (.bool false)], args := [d] }
  | _ => none }
def MsgtwoEitherWrongFalsely : Prop := msgtwoEitherRow.holds Tryz.pinned (OpenSpec.ofChange msgtwoEitherWrong)

/- THE SECOND FORM. 'bulk': how many values and letters a reading holds, each counted each time it is reached (what is shared counts as often as it is met; a slice's spare places count too). A statement '..UptoSaid' is the law's where the arguments, and the package variables that the reading takes, are together of bulk at most 1048576: NARROWER than '..Said'. Prove '..Said' where nothing that the law and all that it calls make is longer than what came in: it says more and counts as full. Else prove '..UptoSaid'. A law counts once. -/
mutual
def uptoBulk {H : Type} : DataW H → Nat
  | .lit (.string bytes) => bytes.length + 1
  | .lit _ => 1
  | .nil => 1
  | .ptr d => uptoBulk d + 1
  | .slice elems spare => uptoBulkAll elems + uptoBulkAll spare + 1
  | .agg parts => uptoBulkAll parts + 1
  | .iface _ d => uptoBulk d + 1
  | .map entries => uptoBulkEntries entries + 1
  | .held _ => 1
def uptoBulkAll {H : Type} : List (DataW H) → Nat
  | [] => 0
  | d :: r => uptoBulk d + uptoBulkAll r
def uptoBulkEntries {H : Type} : List (Lit × DataW H) → Nat
  | [] => 0
  | x :: r => uptoBulkEntry x + uptoBulkEntries r
def uptoBulkEntry {H : Type} : Lit × DataW H → Nat
  | (.string bytes, d) => bytes.length + uptoBulk d + 1
  | (_, d) => uptoBulk d + 1
 end
def uptoSmall : (H : Type) → List (DataW H) → Bool := fun _ ds => decide (uptoBulkAll ds ≤ 1048576)
def OpenSpec.upto (s : _root_.Go.ChangeSpec) : _root_.Go.OpenSpec := { _root_.Go.OpenSpec.ofChange s with cond := some uptoSmall }

/-- 'changeoverlaw14.MsgtwoEncodes', WHERE WHAT IT READS IS OF BULK AT MOST 1048576: true; the input reads as it did. -/
def msgtwoEncodesUptoRow : OpenClaim := { program := "ytodpdmlgjmgajaagreatdoor", sum := "33e57c0bd7e1824cc38d7d7711001a96c8576e348b2c6ca05e92d9febc424a4a", func := "changeover/changeoverlaw14.MsgtwoEncodes", spec := "msgtwoEncodes", unfollowed := true, recurses := true, named := ["changeover/msgone.fields", "changeover/cmd.words"], apart := false, laid := [("changeover/cmd.words", laid_changeover_cmd_words), ("changeover/msgone.fields", laid_changeover_msgone_fields)], narrowed := true }
def MsgtwoEncodesUptoSaid : Prop := msgtwoEncodesUptoRow.holds Tryz.pinned (OpenSpec.upto msgtwoEncodesSpec)

/-- 'changeoverlaw14.MsgtwoDecodes', WHERE WHAT IT READS IS OF BULK AT MOST 1048576: true; the input reads as it did. -/
def msgtwoDecodesUptoRow : OpenClaim := { program := "ytodpdmlgjmgajaagreatdoor", sum := "33e57c0bd7e1824cc38d7d7711001a96c8576e348b2c6ca05e92d9febc424a4a", func := "changeover/changeoverlaw14.MsgtwoDecodes", spec := "msgtwoDecodes", unfollowed := true, recurses := true, named := ["changeover/msgone.fields", "changeover/cmd.words"], apart := false, laid := [("changeover/cmd.words", laid_changeover_cmd_words), ("changeover/msgone.fields", laid_changeover_msgone_fields)], narrowed := true }
def MsgtwoDecodesUptoSaid : Prop := msgtwoDecodesUptoRow.holds Tryz.pinned (OpenSpec.upto msgtwoDecodesSpec)

/-- 'changeoverlaw14.MsgtwoEither', WHERE WHAT IT READS IS OF BULK AT MOST 1048576: true; the input reads as it did. -/
def msgtwoEitherUptoRow : OpenClaim := { program := "ytodpdmlgjmgajaagreatdoor", sum := "33e57c0bd7e1824cc38d7d7711001a96c8576e348b2c6ca05e92d9febc424a4a", func := "changeover/changeoverlaw14.MsgtwoEither", spec := "msgtwoEither", unfollowed := true, recurses := true, named := ["changeover/msgone.fields", "changeover/cmd.words"], apart := false, laid := [("changeover/cmd.words", laid_changeover_cmd_words), ("changeover/msgone.fields", laid_changeover_msgone_fields)], narrowed := true }
def MsgtwoEitherUptoSaid : Prop := msgtwoEitherUptoRow.holds Tryz.pinned (OpenSpec.upto msgtwoEitherSpec)

end Rows
end Go.Proofs.YtodpdmlgjmgajaaGreatDoor
