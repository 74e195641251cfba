/- What is wrong with entries; whether a version has their commands. -/
import Derived.Test.YtaeojpcffahgmaaGreatDoorEnMem
import Derived.Test.YtaeojpcffahgmaaGreatDoorCmdChk
import Derived.Test.YtaeojpcffahgmaaGreatDoorVers
import Derived.Test.YtaeojpcffahgmaaGreatDoorGBl
namespace Go.Proofs.YtaeojpcffahgmaaGreatDoor
open Go.RowKit

end Go.Proofs.YtaeojpcffahgmaaGreatDoor
