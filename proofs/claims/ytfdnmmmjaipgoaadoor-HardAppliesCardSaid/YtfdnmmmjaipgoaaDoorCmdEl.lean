/- An element's cells are a command's. -/
import Derived.Test.YtfdnmmmjaipgoaaDoorRows
import Derived.Test.YtfdnmmmjaipgoaaDoorGCa
import Derived.Test.YtfdnmmmjaipgoaaDoorGMb
namespace Go.Proofs.YtfdnmmmjaipgoaaDoor
open Go.RowKit

set_option maxRecDepth 20000 in
theorem el_cmd {H : Type} {enc : TypeId × Value → H} {w : World} {base : Nat} {sp : Nat → Bool} {held : Bool} (m : Nat) (cs : List Value) (y : DataW H × List MemPlace)
    (h : DataW.trod enc Tryd.prog w base sp held m 39 cs = some y) : ∃ c : Cm.Cmd, cs = (Cm.cells c).toList ∧ c.Fits ∧ c.Short 9223372036854775807 := by
  obtain ⟨ys, n, _, _, hl, hlen, hat⟩ := DataW.trod_struct Tryd.underlying39 h
  have hce : Tryd.prog.cellsOf 39 = 7 := by kernel_rfl
  have hci : Tryd.prog.cellsOf 3 = 1 := by kernel_rfl
  have hcs : Tryd.prog.cellsOf 9 = 1 := by kernel_rfl
  have g0 := hat 0 _ rfl
  have g1 := hat 1 _ rfl
  have g2 := hat 2 _ rfl
  have g3 := hat 3 _ rfl
  have g4 := hat 4 _ rfl
  have g5 := hat 5 _ rfl
  have g6 := hat 6 _ rfl
  rw [List.getElem?_eq_getElem (by rw [hlen]; simp)] at g0 g1 g2 g3 g4 g5 g6
  obtain ⟨x0, e0, a0, b0⟩ := one_int Tryd.underlying3 g0 hci
  obtain ⟨x1, e1, a1, b1⟩ := one_int Tryd.underlying3 g1 hci
  obtain ⟨x2, e2, a2, b2⟩ := one_int Tryd.underlying3 g2 hci
  obtain ⟨x3, e3, a3⟩ := one_str Tryd.underlying9 g3 hcs
  obtain ⟨x4, e4, a4⟩ := one_str Tryd.underlying9 g4 hcs
  obtain ⟨x5, e5, a5⟩ := one_str Tryd.underlying9 g5 hcs
  obtain ⟨x6, e6, a6, b6⟩ := one_int Tryd.underlying3 g6 hci
  rw [hce] at hl
  match cs, hl with
  | [c0, c1, c2, c3, c4, c5, c6], _ =>
    simp at e0 e1 e2 e3 e4 e5 e6
    subst e0 e1 e2 e3 e4 e5 e6
    refine ⟨⟨x0, x1, x2, x6, x3.data.toList, x5.data.toList, x4.data.toList⟩, rfl, ⟨a0, b0, a1, b1, a2, b2, a6, b6⟩, ⟨?_, ?_, ?_⟩⟩
    · show x3.size ≤ _; omega
    · show x5.size ≤ _; omega
    · show x4.size ≤ _; omega

end Go.Proofs.YtfdnmmmjaipgoaaDoor
