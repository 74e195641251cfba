/- An answer that came in. -/
import Derived.Test.YtibpmhogapccoaaRows
import Derived.Test.YtibpmhogapccoaaAnsMem
import Derived.ChangeSame
namespace Go.Proofs.Ytibpmhogapccoaa
open Go.RowKit

set_option maxRecDepth 20000 in
theorem came_ans {H : Type} {enc : TypeId × Value → H} {w : World} {b0 base : Nat} {sp : Nat → Bool} {held : Bool} {v : Value} {d : DataW H} {p : List MemPlace}
    (hv : Value.okWide Try.prog w .any b0 28 v) (h : DataW.Trod enc Try.prog w base sp held 28 v d p) : ∃ a : An.Ans, v = .agg (An.cells a) ∧ a.Fits ∧ a.val.length ≤ 9223372036854775807 := by
  obtain ⟨cs, rfl, hsz⟩ := WideShapes.okWide_struct Try.underlying28 hv
  obtain ⟨fuel, hf⟩ := h
  obtain ⟨xs, n, _, _, hl, hlen, hat⟩ := DataW.trod_struct Try.underlying28 hf
  have hce : Try.prog.cellsOf 28 = 6 := by kernel_rfl
  have hci : Try.prog.cellsOf 3 = 1 := by kernel_rfl
  have hcr : Try.prog.cellsOf 25 = 1 := by kernel_rfl
  have hcb : Try.prog.cellsOf 4 = 1 := by kernel_rfl
  have hcs : Try.prog.cellsOf 9 = 1 := by kernel_rfl
  rw [hce] at hsz
  have oneI : ∀ (i : Nat) (fl : Field), i < 6 → (fl.type = 3 ∨ fl.type = 25) → fl.offset = i → DataW.trod enc Try.prog w base sp held n fl.type (((Value.agg cs).cells.toList.drop fl.offset).take (Try.prog.cellsOf fl.type)) = xs[i]? → ∃ x : Int, cs[i]? = some (.int .i64 x) ∧ -9223372036854775808 ≤ x ∧ x ≤ 9223372036854775807 := by
    intro i fl hi ht ho h1
    rcases ht with ht | ht
    · rw [ht, ho, hci, List.getElem?_eq_getElem (by rw [hlen]; exact hi)] at h1
      obtain ⟨x, e1, _, hw⟩ := DataW.trod_int Try.underlying3 h1
      refine ⟨x, ?_, i64_bounds hw⟩
      have h2 := congrArg (fun l => l[0]?) e1
      simpa [List.getElem?_take, List.getElem?_drop, Value.cells] using h2
    · rw [ht, ho, hcr, List.getElem?_eq_getElem (by rw [hlen]; exact hi)] at h1
      obtain ⟨x, e1, _, hw⟩ := DataW.trod_int Try.underlying25 h1
      refine ⟨x, ?_, i64_bounds hw⟩
      have h2 := congrArg (fun l => l[0]?) e1
      simpa [List.getElem?_take, List.getElem?_drop, Value.cells] using h2
  have oneB : ∀ (i : Nat) (fl : Field), i < 6 → fl.type = 4 → fl.offset = i → DataW.trod enc Try.prog w base sp held n fl.type (((Value.agg cs).cells.toList.drop fl.offset).take (Try.prog.cellsOf fl.type)) = xs[i]? → ∃ x : Bool, cs[i]? = some (.bool x) := by
    intro i fl hi ht ho h1
    rw [ht, ho, hcb, List.getElem?_eq_getElem (by rw [hlen]; exact hi)] at h1
    obtain ⟨x, e1, _⟩ := DataW.trod_bool Try.underlying4 h1
    refine ⟨x, ?_⟩
    have h2 := congrArg (fun l => l[0]?) e1
    simpa [List.getElem?_take, List.getElem?_drop, Value.cells] using h2
  have oneS : ∀ (i : Nat) (fl : Field), i < 6 → fl.type = 9 → fl.offset = i → DataW.trod enc Try.prog w base sp held n fl.type (((Value.agg cs).cells.toList.drop fl.offset).take (Try.prog.cellsOf fl.type)) = xs[i]? → ∃ s : ByteArray, cs[i]? = some (.string s) ∧ s.size ≤ maxLen := by
    intro i fl hi ht ho h1
    rw [ht, ho, hcs, List.getElem?_eq_getElem (by rw [hlen]; exact hi)] at h1
    obtain ⟨x, e1, _, hw⟩ := DataW.trod_string Try.underlying9 h1
    refine ⟨x, ?_, hw⟩
    have h2 := congrArg (fun l => l[0]?) e1
    simpa [List.getElem?_take, List.getElem?_drop, Value.cells] using h2
  obtain ⟨x0, e0, a0, b0⟩ := oneI 0 _ (by omega) (.inl rfl) rfl (hat 0 _ rfl)
  obtain ⟨x1, e1, a1, b1⟩ := oneI 1 _ (by omega) (.inl rfl) rfl (hat 1 _ rfl)
  obtain ⟨x2, e2, a2, b2⟩ := oneI 2 _ (by omega) (.inr rfl) rfl (hat 2 _ rfl)
  obtain ⟨x3, e3⟩ := oneB 3 _ (by omega) rfl rfl (hat 3 _ rfl)
  obtain ⟨x4, e4, a4⟩ := oneS 4 _ (by omega) rfl rfl (hat 4 _ rfl)
  obtain ⟨x5, e5, a5, b5⟩ := oneI 5 _ (by omega) (.inl rfl) rfl (hat 5 _ rfl)
  unfold maxLen at a4
  refine ⟨⟨x0, x1, x2, x3, x4.data.toList, x5⟩, ?_, ⟨a0, b0, a1, b1, a2, b2, a5, b5⟩, ?_⟩
  · congr 1
    apply Array.ext_getElem?
    intro i
    unfold An.cells
    dsimp only
    match i with
    | 0 => rw [e0]; rfl
    | 1 => rw [e1]; rfl
    | 2 => rw [e2]; rfl
    | 3 => rw [e3]; rfl
    | 4 => rw [e4]; rfl
    | 5 => rw [e5]; rfl
    | j + 6 => rw [Array.getElem?_eq_none (by omega), Array.getElem?_eq_none (by simp)]
  · show x4.size ≤ _; omega

end Go.Proofs.Ytibpmhogapccoaa
