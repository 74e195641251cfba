/-
  No cell of these rows narrows 'for every input' (looked for: loops, veiled, ifaces, maps, wideKeys, modest, calm, conditions, laid).
  DERIVED. THE GIVEN ROWS OF THIS SEAT. 3 by the template 'for every input the law returns true; each argument reads behind the call as it read before'; 0 by the template 'total and deterministic' (their statements: YtammfmmpldahhaaGreatTotals.lean).
  GIVEN WITH THE SEED: the statements are not yours to turn. If you find one false, say at which input.
  Laid BY PROGRAM, IN A SANDBOX (cutbox-rows.mjs): the forced cells as the released guide's own fill.sh prints them over the translation ba887b95ecad82c2… (all of the seat's roots in one cut). By AI agents, Wed Nov 11 2026. No macro, syntax, notation, axiom, sorry.
-/
import Derived.Test.YtammfmmpldahhaaGreatChecked
import GoSem.Claim
import GoSem.ClaimJoined
import GoSem.ClaimMapViews
import Derived.JoinedTies
import Derived.KernelRfl
namespace Go.Proofs.YtammfmmpldahhaaGreat
/- THE CELL 'sum', in the pinned program and in every row, IS THE sha256 OF THE DUMP (.gsa) THAT YtammfmmpldahhaaGreatProg.lean LOADS. Nothing in Lean hashes anything: it is a label: what it is worth is what the hold of that sum in a sandbox is worth. -/
noncomputable def Tryz.pinned : Pinned := { name := "ytammfmmpldahhaagreat", sum := "ba887b95ecad82c20c3862dc476b47c1b7e141f2757d6b6a0e42a253ba5a5805", checked := Tryz.checked }
namespace Rows
def none {H : Type} : Left H := { results := [], args := [] }

/-- 'changeoverlaw27.SnaptwoPuts': WHATEVER THE INPUT: true; the input reads as it did. -/
def snaptwoPutsSpec : ChangeSpec := { name := "snaptwoPuts", fn := fun _ => fun
  | [d] => { results := [.lit (.bool true)], args := [d] }
  | _ => none }
def snaptwoPutsRow : OpenClaim := { program := "ytammfmmpldahhaagreat", sum := "ba887b95ecad82c20c3862dc476b47c1b7e141f2757d6b6a0e42a253ba5a5805", func := "changeover/changeoverlaw27.SnaptwoPuts", spec := "snaptwoPuts", unfollowed := true, recurses := true, apart := false }
def SnaptwoPutsSaid : Prop := snaptwoPutsRow.holds Tryz.pinned (OpenSpec.ofChange snaptwoPutsSpec)

/-- ITS FALSE NEIGHBOUR: 'it returns false'. Refute it at one input. -/
def snaptwoPutsWrong : ChangeSpec := { name := "snaptwoPuts", fn := fun _ => fun
  | [d] => { results := [.lit (.bool false)], args := [d] }
  | _ => none }
def SnaptwoPutsWrongFalsely : Prop := snaptwoPutsRow.holds Tryz.pinned (OpenSpec.ofChange snaptwoPutsWrong)

/-- 'changeoverlaw27.SnaptwoGets': WHATEVER THE INPUT: true; the input reads as it did. -/
def snaptwoGetsSpec : ChangeSpec := { name := "snaptwoGets", fn := fun _ => fun
  | [d] => { results := [.lit (.bool true)], args := [d] }
  | _ => none }
def snaptwoGetsRow : OpenClaim := { program := "ytammfmmpldahhaagreat", sum := "ba887b95ecad82c20c3862dc476b47c1b7e141f2757d6b6a0e42a253ba5a5805", func := "changeover/changeoverlaw27.SnaptwoGets", spec := "snaptwoGets", unfollowed := true, recurses := true, apart := false }
def SnaptwoGetsSaid : Prop := snaptwoGetsRow.holds Tryz.pinned (OpenSpec.ofChange snaptwoGetsSpec)

/-- ITS FALSE NEIGHBOUR: 'it returns false'. Refute it at one input. -/
def snaptwoGetsWrong : ChangeSpec := { name := "snaptwoGets", fn := fun _ => fun
  | [d] => { results := [.lit (.bool false)], args := [d] }
  | _ => none }
def SnaptwoGetsWrongFalsely : Prop := snaptwoGetsRow.holds Tryz.pinned (OpenSpec.ofChange snaptwoGetsWrong)

/-- 'changeoverlaw27.SnaptwoMigrates': WHATEVER THE INPUT: true; the input reads as it did. -/
def snaptwoMigratesSpec : ChangeSpec := { name := "snaptwoMigrates", fn := fun _ => fun
  | [d1, d2] => { results := [.lit (.bool true)], args := [d1, d2] }
  | _ => none }
def snaptwoMigratesRow : OpenClaim := { program := "ytammfmmpldahhaagreat", sum := "ba887b95ecad82c20c3862dc476b47c1b7e141f2757d6b6a0e42a253ba5a5805", func := "changeover/changeoverlaw27.SnaptwoMigrates", spec := "snaptwoMigrates", unfollowed := true, recurses := true, apart := false }
def SnaptwoMigratesSaid : Prop := snaptwoMigratesRow.holds Tryz.pinned (OpenSpec.ofChange snaptwoMigratesSpec)

/-- ITS FALSE NEIGHBOUR: 'it returns false'. Refute it at one input. -/
def snaptwoMigratesWrong : ChangeSpec := { name := "snaptwoMigrates", fn := fun _ => fun
  | [d1, d2] => { results := [.lit (.bool false)], args := [d1, d2] }
  | _ => none }
def SnaptwoMigratesWrongFalsely : Prop := snaptwoMigratesRow.holds Tryz.pinned (OpenSpec.ofChange snaptwoMigratesWrong)

/- THE SECOND FORM. 'bulk': how many values and letters a reading holds, each counted each time it is reached (what is shared counts as often as it is met; a slice's spare places count too). A statement '..UptoSaid' is the law's where the arguments, and the package variables that the reading takes, are together of bulk at most 1048576: NARROWER than '..Said'. Prove '..Said' where nothing that the law and all that it calls make is longer than what came in: it says more and counts as full. Else prove '..UptoSaid'. A law counts once. -/
mutual
def uptoBulk {H : Type} : DataW H → Nat
  | .lit (.string bytes) => bytes.length + 1
  | .lit _ => 1
  | .nil => 1
  | .ptr d => uptoBulk d + 1
  | .slice elems spare => uptoBulkAll elems + uptoBulkAll spare + 1
  | .agg parts => uptoBulkAll parts + 1
  | .iface _ d => uptoBulk d + 1
  | .map entries => uptoBulkEntries entries + 1
  | .held _ => 1
def uptoBulkAll {H : Type} : List (DataW H) → Nat
  | [] => 0
  | d :: r => uptoBulk d + uptoBulkAll r
def uptoBulkEntries {H : Type} : List (Lit × DataW H) → Nat
  | [] => 0
  | x :: r => uptoBulkEntry x + uptoBulkEntries r
def uptoBulkEntry {H : Type} : Lit × DataW H → Nat
  | (.string bytes, d) => bytes.length + uptoBulk d + 1
  | (_, d) => uptoBulk d + 1
 end
def uptoSmall : (H : Type) → List (DataW H) → Bool := fun _ ds => decide (uptoBulkAll ds ≤ 1048576)
def OpenSpec.upto (s : _root_.Go.ChangeSpec) : _root_.Go.OpenSpec := { _root_.Go.OpenSpec.ofChange s with cond := some uptoSmall }

/-- 'changeoverlaw27.SnaptwoPuts', WHERE WHAT IT READS IS OF BULK AT MOST 1048576: true; the input reads as it did. -/
def snaptwoPutsUptoRow : OpenClaim := { program := "ytammfmmpldahhaagreat", sum := "ba887b95ecad82c20c3862dc476b47c1b7e141f2757d6b6a0e42a253ba5a5805", func := "changeover/changeoverlaw27.SnaptwoPuts", spec := "snaptwoPuts", unfollowed := true, recurses := true, apart := false, narrowed := true }
def SnaptwoPutsUptoSaid : Prop := snaptwoPutsUptoRow.holds Tryz.pinned (OpenSpec.upto snaptwoPutsSpec)

/-- 'changeoverlaw27.SnaptwoGets', WHERE WHAT IT READS IS OF BULK AT MOST 1048576: true; the input reads as it did. -/
def snaptwoGetsUptoRow : OpenClaim := { program := "ytammfmmpldahhaagreat", sum := "ba887b95ecad82c20c3862dc476b47c1b7e141f2757d6b6a0e42a253ba5a5805", func := "changeover/changeoverlaw27.SnaptwoGets", spec := "snaptwoGets", unfollowed := true, recurses := true, apart := false, narrowed := true }
def SnaptwoGetsUptoSaid : Prop := snaptwoGetsUptoRow.holds Tryz.pinned (OpenSpec.upto snaptwoGetsSpec)

/-- 'changeoverlaw27.SnaptwoMigrates', WHERE WHAT IT READS IS OF BULK AT MOST 1048576: true; the input reads as it did. -/
def snaptwoMigratesUptoRow : OpenClaim := { program := "ytammfmmpldahhaagreat", sum := "ba887b95ecad82c20c3862dc476b47c1b7e141f2757d6b6a0e42a253ba5a5805", func := "changeover/changeoverlaw27.SnaptwoMigrates", spec := "snaptwoMigrates", unfollowed := true, recurses := true, apart := false, narrowed := true }
def SnaptwoMigratesUptoSaid : Prop := snaptwoMigratesUptoRow.holds Tryz.pinned (OpenSpec.upto snaptwoMigratesSpec)

end Rows
end Go.Proofs.YtammfmmpldahhaaGreat
