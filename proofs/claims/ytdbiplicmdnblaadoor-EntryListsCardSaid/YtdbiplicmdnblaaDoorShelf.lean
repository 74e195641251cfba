/- Contracts of Go's library at this program: each is one of the shelf's, laid at the program's own numbers. -/
import Derived.Shelf.Lay
import Derived.Shelf.LaySoft
import Derived.Test.YtdbiplicmdnblaaDoorProg
namespace Go.Proofs
open Go.Shelf
shelf_tried
end Go.Proofs
