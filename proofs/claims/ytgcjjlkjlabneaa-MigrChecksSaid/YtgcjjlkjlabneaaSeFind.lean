/- Sessions found: what tells them, the search, what is found. -/
import Derived.Test.YtgcjjlkjlabneaaSeMem
namespace Go.Proofs.Ytgcjjlkjlabneaa
open Go.RowKit

end Go.Proofs.Ytgcjjlkjlabneaa
