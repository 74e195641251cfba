/- What is wrong with entries; whether a version has their commands. -/
import Derived.Test.YtegpfbmanpnhkaaDoorEnMem
import Derived.Test.YtegpfbmanpnhkaaDoorCmdChk
import Derived.Test.YtegpfbmanpnhkaaDoorVers
import Derived.Test.YtegpfbmanpnhkaaDoorGBl
namespace Go.Proofs.YtegpfbmanpnhkaaDoor
open Go.RowKit

end Go.Proofs.YtegpfbmanpnhkaaDoor
