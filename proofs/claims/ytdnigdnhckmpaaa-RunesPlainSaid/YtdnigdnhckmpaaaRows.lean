/-
  No cell of these rows narrows 'for every input' (looked for: loops, veiled, ifaces, maps, wideKeys, modest, calm, conditions, laid).
  DERIVED. THE GIVEN ROWS OF THIS SEAT. 4 by the template 'for every input the law returns true; each argument reads behind the call as it read before'; 0 by the template 'total and deterministic' (their statements: YtdnigdnhckmpaaaTotals.lean).
  GIVEN WITH THE SEED: the statements are not yours to turn. If you find one false, say at which input.
  Laid BY PROGRAM, IN A SANDBOX (cutbox-rows.mjs): the forced cells as the released guide's own fill.sh prints them over the translation 7df2dce007ad4b3f… (all of the seat's roots in one cut). By AI agents, Wed Nov 11 2026. No macro, syntax, notation, axiom, sorry.
-/
import Derived.Test.YtdnigdnhckmpaaaChecked
import GoSem.Claim
import GoSem.ClaimJoined
import GoSem.ClaimMapViews
import Derived.JoinedTies
import Derived.KernelRfl
namespace Go.Proofs.Ytdnigdnhckmpaaa
/- THE CELL 'sum', in the pinned program and in every row, IS THE sha256 OF THE DUMP (.gsa) THAT YtdnigdnhckmpaaaProg.lean LOADS. Nothing in Lean hashes anything: it is a label: what it is worth is what the hold of that sum in a sandbox is worth. -/
noncomputable def Try.pinned : Pinned := { name := "ytdnigdnhckmpaaa", sum := "7df2dce007ad4b3fc1d39a5b442d1ce04273816662324a2e0616e44aab2c8df7", checked := Try.checked }
namespace Rows
def none {H : Type} : Left H := { results := [], args := [] }

/-- 'changeoverlaw05.RunesTexts': WHATEVER THE INPUT: true; the input reads as it did. -/
def runesTextsSpec : ChangeSpec := { name := "runesTexts", fn := fun _ => fun
  | [d] => { results := [.lit (.bool true)], args := [d] }
  | _ => none }
def runesTextsRow : OpenClaim := { program := "ytdnigdnhckmpaaa", sum := "7df2dce007ad4b3fc1d39a5b442d1ce04273816662324a2e0616e44aab2c8df7", func := "changeover/changeoverlaw05.RunesTexts", spec := "runesTexts", unfollowed := true, recurses := true, apart := false }
def RunesTextsSaid : Prop := runesTextsRow.holds Try.pinned (OpenSpec.ofChange runesTextsSpec)

/-- ITS FALSE NEIGHBOUR: 'it returns false'. Refute it at one input. -/
def runesTextsWrong : ChangeSpec := { name := "runesTexts", fn := fun _ => fun
  | [d] => { results := [.lit (.bool false)], args := [d] }
  | _ => none }
def RunesTextsWrongFalsely : Prop := runesTextsRow.holds Try.pinned (OpenSpec.ofChange runesTextsWrong)

/-- 'changeoverlaw05.RunesPlain': WHATEVER THE INPUT: true; the input reads as it did. -/
def runesPlainSpec : ChangeSpec := { name := "runesPlain", fn := fun _ => fun
  | [d] => { results := [.lit (.bool true)], args := [d] }
  | _ => none }
def runesPlainRow : OpenClaim := { program := "ytdnigdnhckmpaaa", sum := "7df2dce007ad4b3fc1d39a5b442d1ce04273816662324a2e0616e44aab2c8df7", func := "changeover/changeoverlaw05.RunesPlain", spec := "runesPlain", unfollowed := true, recurses := true, apart := false }
def RunesPlainSaid : Prop := runesPlainRow.holds Try.pinned (OpenSpec.ofChange runesPlainSpec)

/-- ITS FALSE NEIGHBOUR: 'it returns false'. Refute it at one input. -/
def runesPlainWrong : ChangeSpec := { name := "runesPlain", fn := fun _ => fun
  | [d] => { results := [.lit (.bool false)], args := [d] }
  | _ => none }
def RunesPlainWrongFalsely : Prop := runesPlainRow.holds Try.pinned (OpenSpec.ofChange runesPlainWrong)

/-- 'changeoverlaw05.RunesCuts': WHATEVER THE INPUT: true; the input reads as it did. -/
def runesCutsSpec : ChangeSpec := { name := "runesCuts", fn := fun _ => fun
  | [d1, d2] => { results := [.lit (.bool true)], args := [d1, d2] }
  | _ => none }
def runesCutsRow : OpenClaim := { program := "ytdnigdnhckmpaaa", sum := "7df2dce007ad4b3fc1d39a5b442d1ce04273816662324a2e0616e44aab2c8df7", func := "changeover/changeoverlaw05.RunesCuts", spec := "runesCuts", unfollowed := true, recurses := true, apart := false }
def RunesCutsSaid : Prop := runesCutsRow.holds Try.pinned (OpenSpec.ofChange runesCutsSpec)

/-- ITS FALSE NEIGHBOUR: 'it returns false'. Refute it at one input. -/
def runesCutsWrong : ChangeSpec := { name := "runesCuts", fn := fun _ => fun
  | [d1, d2] => { results := [.lit (.bool false)], args := [d1, d2] }
  | _ => none }
def RunesCutsWrongFalsely : Prop := runesCutsRow.holds Try.pinned (OpenSpec.ofChange runesCutsWrong)

/-- 'changeoverlaw05.RunesLower': WHATEVER THE INPUT: true; the input reads as it did. -/
def runesLowerSpec : ChangeSpec := { name := "runesLower", fn := fun _ => fun
  | [d] => { results := [.lit (.bool true)], args := [d] }
  | _ => none }
def runesLowerRow : OpenClaim := { program := "ytdnigdnhckmpaaa", sum := "7df2dce007ad4b3fc1d39a5b442d1ce04273816662324a2e0616e44aab2c8df7", func := "changeover/changeoverlaw05.RunesLower", spec := "runesLower", unfollowed := true, recurses := true, apart := false }
def RunesLowerSaid : Prop := runesLowerRow.holds Try.pinned (OpenSpec.ofChange runesLowerSpec)

/-- ITS FALSE NEIGHBOUR: 'it returns false'. Refute it at one input. -/
def runesLowerWrong : ChangeSpec := { name := "runesLower", fn := fun _ => fun
  | [d] => { results := [.lit (.bool false)], args := [d] }
  | _ => none }
def RunesLowerWrongFalsely : Prop := runesLowerRow.holds Try.pinned (OpenSpec.ofChange runesLowerWrong)

/- THE SECOND FORM. 'bulk': how many values and letters a reading holds, each counted each time it is reached (what is shared counts as often as it is met; a slice's spare places count too). A statement '..UptoSaid' is the law's where the arguments, and the package variables that the reading takes, are together of bulk at most 1048576: NARROWER than '..Said'. Prove '..Said' where nothing that the law and all that it calls make is longer than what came in: it says more and counts as full. Else prove '..UptoSaid'. A law counts once. -/
mutual
def uptoBulk {H : Type} : DataW H → Nat
  | .lit (.string bytes) => bytes.length + 1
  | .lit _ => 1
  | .nil => 1
  | .ptr d => uptoBulk d + 1
  | .slice elems spare => uptoBulkAll elems + uptoBulkAll spare + 1
  | .agg parts => uptoBulkAll parts + 1
  | .iface _ d => uptoBulk d + 1
  | .map entries => uptoBulkEntries entries + 1
  | .held _ => 1
def uptoBulkAll {H : Type} : List (DataW H) → Nat
  | [] => 0
  | d :: r => uptoBulk d + uptoBulkAll r
def uptoBulkEntries {H : Type} : List (Lit × DataW H) → Nat
  | [] => 0
  | x :: r => uptoBulkEntry x + uptoBulkEntries r
def uptoBulkEntry {H : Type} : Lit × DataW H → Nat
  | (.string bytes, d) => bytes.length + uptoBulk d + 1
  | (_, d) => uptoBulk d + 1
 end
def uptoSmall : (H : Type) → List (DataW H) → Bool := fun _ ds => decide (uptoBulkAll ds ≤ 1048576)
def OpenSpec.upto (s : _root_.Go.ChangeSpec) : _root_.Go.OpenSpec := { _root_.Go.OpenSpec.ofChange s with cond := some uptoSmall }

/-- 'changeoverlaw05.RunesTexts', WHERE WHAT IT READS IS OF BULK AT MOST 1048576: true; the input reads as it did. -/
def runesTextsUptoRow : OpenClaim := { program := "ytdnigdnhckmpaaa", sum := "7df2dce007ad4b3fc1d39a5b442d1ce04273816662324a2e0616e44aab2c8df7", func := "changeover/changeoverlaw05.RunesTexts", spec := "runesTexts", unfollowed := true, recurses := true, apart := false, narrowed := true }
def RunesTextsUptoSaid : Prop := runesTextsUptoRow.holds Try.pinned (OpenSpec.upto runesTextsSpec)

/-- 'changeoverlaw05.RunesPlain', WHERE WHAT IT READS IS OF BULK AT MOST 1048576: true; the input reads as it did. -/
def runesPlainUptoRow : OpenClaim := { program := "ytdnigdnhckmpaaa", sum := "7df2dce007ad4b3fc1d39a5b442d1ce04273816662324a2e0616e44aab2c8df7", func := "changeover/changeoverlaw05.RunesPlain", spec := "runesPlain", unfollowed := true, recurses := true, apart := false, narrowed := true }
def RunesPlainUptoSaid : Prop := runesPlainUptoRow.holds Try.pinned (OpenSpec.upto runesPlainSpec)

/-- 'changeoverlaw05.RunesCuts', WHERE WHAT IT READS IS OF BULK AT MOST 1048576: true; the input reads as it did. -/
def runesCutsUptoRow : OpenClaim := { program := "ytdnigdnhckmpaaa", sum := "7df2dce007ad4b3fc1d39a5b442d1ce04273816662324a2e0616e44aab2c8df7", func := "changeover/changeoverlaw05.RunesCuts", spec := "runesCuts", unfollowed := true, recurses := true, apart := false, narrowed := true }
def RunesCutsUptoSaid : Prop := runesCutsUptoRow.holds Try.pinned (OpenSpec.upto runesCutsSpec)

/-- 'changeoverlaw05.RunesLower', WHERE WHAT IT READS IS OF BULK AT MOST 1048576: true; the input reads as it did. -/
def runesLowerUptoRow : OpenClaim := { program := "ytdnigdnhckmpaaa", sum := "7df2dce007ad4b3fc1d39a5b442d1ce04273816662324a2e0616e44aab2c8df7", func := "changeover/changeoverlaw05.RunesLower", spec := "runesLower", unfollowed := true, recurses := true, apart := false, narrowed := true }
def RunesLowerUptoSaid : Prop := runesLowerUptoRow.holds Try.pinned (OpenSpec.upto runesLowerSpec)

end Rows
end Go.Proofs.Ytdnigdnhckmpaaa
