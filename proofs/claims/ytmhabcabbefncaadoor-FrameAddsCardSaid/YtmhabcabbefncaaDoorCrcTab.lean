/- crc's listed table, out of what the row says of it. -/
import Derived.Test.YtmhabcabbefncaaDoorCrcAdd
import Derived.Lib.LaidU8
namespace Go.Proofs.YtmhabcabbefncaaDoor
open Go.RowKit

theorem crcTab_of {W : World} (h : Lib.VarReads Tryd.prog W "changeover/crc.shifts" (Lib.tabData .u32 Crc.tab)) : CrcTab W := by
  obtain ⟨g, t, cs, fuel, p, hg, ht, hvar, hd⟩ := h
  have hty : (Tryd.prog.globals[0]?).map (·.type) = some 53 := by kernel_rfl
  have hgn : Tryd.prog.globalNamed "changeover/crc.shifts" = some 0 := by kernel_rfl
  obtain rfl := Option.some.inj (hgn.symm.trans hg)
  obtain rfl := Option.some.inj (hty.symm.trans ht)
  have e := Lib.cells_of_tab (n := 16) Tryd.underlying53 Tryd.underlying44 (by kernel_rfl) (by kernel_rfl) hd
  intro i hi
  have hT : Lib.TabIs Tryd.prog W "changeover/crc.shifts" .u32 Crc.tab := by unfold Lib.TabIs; rw [hvar, ← e]
  exact hT.cell hgn i hi

end Go.Proofs.YtmhabcabbefncaaDoor
