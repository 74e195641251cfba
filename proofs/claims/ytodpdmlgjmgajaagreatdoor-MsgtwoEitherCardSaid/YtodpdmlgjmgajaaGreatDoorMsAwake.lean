/- The program awake: a message encoded. -/
import Derived.Test.YtodpdmlgjmgajaaGreatDoorGMp
namespace Go.Proofs.YtodpdmlgjmgajaaGreatDoor
open Go.RowKit

/-- What node 1 asks of node 2. -/
def Ms.ask : Ms.Msg := ⟨9, 1, 2, Bl.zero, 3, 0, 0, [], []⟩

end Go.Proofs.YtodpdmlgjmgajaaGreatDoor
