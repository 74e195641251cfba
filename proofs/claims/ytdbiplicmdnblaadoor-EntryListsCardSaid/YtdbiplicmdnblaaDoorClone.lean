/- slices.Clone of a slice of bytes. -/
import Derived.Test.YtdbiplicmdnblaaDoorRows
import Derived.Test.YtdbiplicmdnblaaDoorGNum
import Derived.Lib.SliceRun
namespace Go.Proofs.YtdbiplicmdnblaaDoor
open Go.RowKit

end Go.Proofs.YtdbiplicmdnblaaDoor
