/- Several texts of mine in one: MsMem MsOwn MsLeaf MsRange. -/
import Derived.Test.YtfdnmmmjaipgoaaDoorGPl
import Derived.Test.YtfdnmmmjaipgoaaDoorEnMem
import Derived.Test.YtfdnmmmjaipgoaaDoorGMb
import Derived.Test.YtfdnmmmjaipgoaaDoorGBl
import Derived.Test.YtfdnmmmjaipgoaaDoorVers
namespace Go.Proofs.YtfdnmmmjaipgoaaDoor
open Go.RowKit

theorem Ms.cells_one (m : Ms.Msg) {ve vi : Value} (h : ve.oneCell' = true) (h' : vi.oneCell' = true) : (Ms.cells m ve vi).all (·.oneCell') = true := by
  have hi : ∀ x : Int, (Value.int .i64 x).oneCell' = true := fun _ => rfl
  simp [Ms.cells, hi, h, h']
theorem Ms.cells_at (m : Ms.Msg) (ve vi : Value) (j : Nat) (h : j < 10) : ∃ v, (Ms.cells m ve vi)[j]? = some v := ⟨_, Array.getElem?_eq_getElem (show j < (Ms.cells m ve vi).size from h)⟩
/-! Which fields a kind has. -/
/-- The sets of fields that there are. -/
theorem Ms.sets (k : Int) : (Ms.hv k = false ∧ Ms.hb k = false ∧ Ms.hi k = false ∧ Ms.hc k = false ∧ Ms.he k = false ∧ Ms.hm k = false) ∨ (Ms.hv k = true ∧ Ms.hb k = false ∧ Ms.hi k = false ∧ Ms.hc k = false ∧ Ms.he k = false ∧ Ms.hm k = false) ∨ (Ms.hv k = false ∧ Ms.hb k = true ∧ Ms.hi k = true ∧ Ms.hc k = false ∧ Ms.he k = false ∧ Ms.hm k = false) ∨ (Ms.hv k = false ∧ Ms.hb k = true ∧ Ms.hi k = true ∧ Ms.hc k = true ∧ Ms.he k = true ∧ Ms.hm k = false) ∨ (Ms.hv k = false ∧ Ms.hb k = true ∧ Ms.hi k = false ∧ Ms.hc k = false ∧ Ms.he k = true ∧ Ms.hm k = false) ∨ (Ms.hv k = false ∧ Ms.hb k = true ∧ Ms.hi k = false ∧ Ms.hc k = false ∧ Ms.he k = false ∧ Ms.hm k = false) ∨ (Ms.hv k = false ∧ Ms.hb k = true ∧ Ms.hi k = false ∧ Ms.hc k = true ∧ Ms.he k = false ∧ Ms.hm k = false) ∨ (Ms.hv k = false ∧ Ms.hb k = false ∧ Ms.hi k = true ∧ Ms.hc k = false ∧ Ms.he k = false ∧ Ms.hm k = false) ∨ (Ms.hv k = false ∧ Ms.hb k = false ∧ Ms.hi k = false ∧ Ms.hc k = true ∧ Ms.he k = true ∧ Ms.hm k = false) ∨ (Ms.hv k = false ∧ Ms.hb k = false ∧ Ms.hi k = false ∧ Ms.hc k = false ∧ Ms.he k = false ∧ Ms.hm k = true) := by
  rcases Ms.kinds k with rfl | rfl | rfl | rfl | rfl | rfl | rfl | rfl | rfl | rfl | rfl | h
  rotate_right
  · obtain ⟨h1, h2, h3, h4, h5, h6, _⟩ := Ms.has_no h
    exact .inl ⟨h1, h2, h3, h4, h5, h6⟩
  all_goals decide +kernel
def FieldsIn (w : World) : Prop := w.var? Tryd.prog "changeover/msgone.fields" = some (Ms.tab.map fun n => Value.int .i64 n).toArray
theorem FieldsIn.below {w w' : World} (h : FieldsIn w) (hb : Below w.heap.size w w') : FieldsIn w' := var_below h hb
/-- A bit of a kind's fields. -/
def Ms.bit (k f : Int) : Bool := bits .and .i64 (Ms.mask k) f != 0
theorem Ms.bits (k : Int) : Ms.bit k 1 = Ms.hv k ∧ Ms.bit k 2 = Ms.hb k ∧ Ms.bit k 4 = Ms.hi k ∧ Ms.bit k 8 = Ms.hc k ∧ Ms.bit k 16 = Ms.he k ∧ Ms.bit k 32 = Ms.hm k := by
  rcases Ms.kinds k with rfl | rfl | rfl | rfl | rfl | rfl | rfl | rfl | rfl | rfl | rfl | h
  rotate_right
  · obtain ⟨h1, h2, h3, h4, h5, h6, _⟩ := Ms.has_no h
    unfold Ms.bit
    rw [Ms.mask_no h, h1, h2, h3, h4, h5, h6]
    decide +kernel
  all_goals decide +kernel

end Go.Proofs.YtfdnmmmjaipgoaaDoor


namespace Go.Proofs.YtfdnmmmjaipgoaaDoor
open Go.RowKit

end Go.Proofs.YtfdnmmmjaipgoaaDoor


namespace Go.Proofs.YtfdnmmmjaipgoaaDoor
open Go.RowKit

end Go.Proofs.YtfdnmmmjaipgoaaDoor


namespace Go.Proofs.YtfdnmmmjaipgoaaDoor
open Go.RowKit

end Go.Proofs.YtfdnmmmjaipgoaaDoor
