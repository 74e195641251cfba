/- A command in memory: its cells, boxed; one that came in. -/
import Derived.Test.YtammfmmpldahhaaGreatCmdOne
import Derived.Test.YtammfmmpldahhaaGreatRows
import Derived.Test.YtammfmmpldahhaaGreatLie
import Derived.Deep.MidRow
import Derived.ChangeSame
namespace Go.Proofs.YtammfmmpldahhaaGreat
open Go.RowKit

/-- A command lies in a block. -/
def Cm.cells (c : Cm.Cmd) : Array Value := #[.int .i64 c.kind, .int .i64 c.client, .int .i64 c.seq, .string ⟨c.key.toArray⟩, .string ⟨c.val.toArray⟩, .string ⟨c.old.toArray⟩, .int .i64 c.node]
end Go.Proofs.YtammfmmpldahhaaGreat
