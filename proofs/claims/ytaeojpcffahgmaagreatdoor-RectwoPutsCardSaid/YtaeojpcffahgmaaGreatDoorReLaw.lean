/- ReconeChecks, ReconeEncodes, ReconeDecodes. -/
import Derived.Test.YtaeojpcffahgmaaGreatDoorGRg
import Derived.Test.YtaeojpcffahgmaaGreatDoorGRh
namespace Go.Proofs.YtaeojpcffahgmaaGreatDoor
open Go.RowKit

/-- A promise to node 3. -/
def Re.ask : Re.Rec := ⟨1, ⟨2, 3⟩, 0, Cm.zero, []⟩
theorem Re.fits_cmd0 : Cm.zero.Fits := by constructor <;> simp [Cm.zero, Cm.bareOf]
theorem Re.short_cmd0 (n : Nat) : Cm.zero.Short n := ⟨by simp [Cm.zero, Cm.bareOf], by simp [Cm.zero, Cm.bareOf], by simp [Cm.zero, Cm.bareOf]⟩

end Go.Proofs.YtaeojpcffahgmaaGreatDoor
