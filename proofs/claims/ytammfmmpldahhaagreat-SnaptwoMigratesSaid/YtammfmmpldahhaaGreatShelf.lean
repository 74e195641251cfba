/- Contracts of Go's library at this program: none is wanted here. -/
import Derived.Shelf.Lay
import Derived.Shelf.LaySoft
import Derived.Test.YtammfmmpldahhaaGreatProg
namespace Go.Proofs
end Go.Proofs
