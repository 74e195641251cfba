/- A command, as a plain value. No program is spoken of. -/
import Derived.Test.YtammfmmpldahhaaGreatGRune
import Derived.Test.YtammfmmpldahhaaGreatVers
namespace Go.Proofs.YtammfmmpldahhaaGreat

namespace Cm

/-- A command. -/
structure Cmd where
  kind : Int
  client : Int
  seq : Int
  node : Int
  key : List UInt8
  old : List UInt8
  val : List UInt8
  deriving DecidableEq

/-- The fields of the machine's numbers. -/
structure Cmd.Fits (c : Cmd) : Prop where
  k0 : -9223372036854775808 ≤ c.kind
  k1 : c.kind ≤ 9223372036854775807
  c0 : -9223372036854775808 ≤ c.client
  c1 : c.client ≤ 9223372036854775807
  q0 : -9223372036854775808 ≤ c.seq
  q1 : c.seq ≤ 9223372036854775807
  n0 : -9223372036854775808 ≤ c.node
  n1 : c.node ≤ 9223372036854775807
/-- No string is longer than that. -/
def Cmd.Short (c : Cmd) (m : Nat) : Prop := c.key.length ≤ m ∧ c.old.length ≤ m ∧ c.val.length ≤ m
theorem Cmd.Short.mono {c : Cmd} {m m' : Nat} (h : c.Short m) (hm : m ≤ m') : c.Short m' := ⟨Nat.le_trans h.1 hm, Nat.le_trans h.2.1 hm, Nat.le_trans h.2.2 hm⟩

end Cm
end Go.Proofs.YtammfmmpldahhaaGreat
