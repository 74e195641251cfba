/- A command that came in. -/
import Derived.Test.YteaebmgnofmemaaDoorRows
import Derived.Test.YteaebmgnofmemaaDoorCmdAwake
import Derived.ChangeSame
namespace Go.Proofs.YteaebmgnofmemaaDoor
open Go.RowKit

set_option maxRecDepth 20000 in
theorem came_cmd {H : Type} {enc : TypeId × Value → H} {w : World} {b0 base : Nat} {sp : Nat → Bool} {held : Bool} {v : Value} {d : DataW H} {p : List MemPlace}
    (hv : Value.okWide Tryd.prog w .any b0 23 v) (h : DataW.Trod enc Tryd.prog w base sp held 23 v d p) : ∃ c : Cm.Cmd, v = .agg (Cm.cells c) ∧ c.Fits ∧ c.Short 9223372036854775807 := by
  obtain ⟨cs, rfl, hsz⟩ := WideShapes.okWide_struct Tryd.underlying23 hv
  obtain ⟨fuel, hf⟩ := h
  obtain ⟨xs, n, _, _, hl, hlen, hat⟩ := DataW.trod_struct Tryd.underlying23 hf
  have hce : Tryd.prog.cellsOf 23 = 7 := by kernel_rfl
  have hci : Tryd.prog.cellsOf 3 = 1 := by kernel_rfl
  have hcs : Tryd.prog.cellsOf 9 = 1 := by kernel_rfl
  rw [hce] at hsz
  have oneI : ∀ (i : Nat) (fl : Field), i < 7 → fl.type = 3 → fl.offset = i → DataW.trod enc Tryd.prog w base sp held n fl.type (((Value.agg cs).cells.toList.drop fl.offset).take (Tryd.prog.cellsOf fl.type)) = xs[i]? → ∃ x : Int, cs[i]? = some (.int .i64 x) ∧ -9223372036854775808 ≤ x ∧ x ≤ 9223372036854775807 := by
    intro i fl hi ht ho h1
    rw [ht, ho, hci, List.getElem?_eq_getElem (by rw [hlen]; exact hi)] at h1
    obtain ⟨x, e1, _, hw⟩ := DataW.trod_int Tryd.underlying3 h1
    refine ⟨x, ?_, i64_bounds hw⟩
    have h2 := congrArg (fun l => l[0]?) e1
    simpa [List.getElem?_take, List.getElem?_drop, Value.cells] using h2
  have oneS : ∀ (i : Nat) (fl : Field), i < 7 → fl.type = 9 → fl.offset = i → DataW.trod enc Tryd.prog w base sp held n fl.type (((Value.agg cs).cells.toList.drop fl.offset).take (Tryd.prog.cellsOf fl.type)) = xs[i]? → ∃ s : ByteArray, cs[i]? = some (.string s) ∧ s.size ≤ maxLen := by
    intro i fl hi ht ho h1
    rw [ht, ho, hcs, List.getElem?_eq_getElem (by rw [hlen]; exact hi)] at h1
    obtain ⟨x, e1, _, hw⟩ := DataW.trod_string Tryd.underlying9 h1
    refine ⟨x, ?_, hw⟩
    have h2 := congrArg (fun l => l[0]?) e1
    simpa [List.getElem?_take, List.getElem?_drop, Value.cells] using h2
  obtain ⟨x0, e0, a0, b0⟩ := oneI 0 _ (by omega) rfl rfl (hat 0 _ rfl)
  obtain ⟨x1, e1, a1, b1⟩ := oneI 1 _ (by omega) rfl rfl (hat 1 _ rfl)
  obtain ⟨x2, e2, a2, b2⟩ := oneI 2 _ (by omega) rfl rfl (hat 2 _ rfl)
  obtain ⟨x3, e3, a3⟩ := oneS 3 _ (by omega) rfl rfl (hat 3 _ rfl)
  obtain ⟨x4, e4, a4⟩ := oneS 4 _ (by omega) rfl rfl (hat 4 _ rfl)
  obtain ⟨x5, e5, a5⟩ := oneS 5 _ (by omega) rfl rfl (hat 5 _ rfl)
  obtain ⟨x6, e6, a6, b6⟩ := oneI 6 _ (by omega) rfl rfl (hat 6 _ rfl)
  unfold maxLen at a3 a4 a5
  refine ⟨⟨x0, x1, x2, x6, x3.data.toList, x5.data.toList, x4.data.toList⟩, ?_, ⟨a0, b0, a1, b1, a2, b2, a6, b6⟩, ⟨?_, ?_, ?_⟩⟩
  · congr 1
    apply Array.ext_getElem?
    intro i
    unfold Cm.cells
    dsimp only
    match i with
    | 0 => rw [e0]; rfl
    | 1 => rw [e1]; rfl
    | 2 => rw [e2]; rfl
    | 3 => rw [e3]; rfl
    | 4 => rw [e4]; rfl
    | 5 => rw [e5]; rfl
    | 6 => rw [e6]; rfl
    | j + 7 => rw [Array.getElem?_eq_none (by omega), Array.getElem?_eq_none (by simp)]
  · show x3.size ≤ _; omega
  · show x5.size ≤ _; omega
  · show x4.size ≤ _; omega

theorem truly_of {w w' : World} (h : Below w.heap.size w w') : Truly w (.returned (.bool true)) w' := ⟨rfl, h⟩
/-- A command not too large. -/
theorem Cm.short_of {c : Cm.Cmd} (h : (decide (300 < c.key.length) || (decide (300 < c.old.length) || decide (300 < c.val.length))) = false) : c.Short 300 := by
  simp only [Bool.or_eq_false_iff, decide_eq_false_iff_not] at h
  exact ⟨by omega, by omega, by omega⟩
theorem Cm.Cmd.Short.mono {c : Cm.Cmd} {m m' : Nat} (h : c.Short m) (hm : m ≤ m') : c.Short m' := ⟨Nat.le_trans h.1 hm, Nat.le_trans h.2.1 hm, Nat.le_trans h.2.2 hm⟩

end Go.Proofs.YteaebmgnofmemaaDoor
