/- An array of two numbers that came in. No program is spoken of. -/
import Derived.Test.YteboceekcmchkaaGreatDoorGMb
namespace Go.Proofs.YteboceekcmchkaaGreatDoor
open Go.RowKit
set_option maxRecDepth 20000
theorem came_two {H : Type} {enc : TypeId × Value → H} {P : Program} {w : World} {b0 base : Nat} {sp : Nat → Bool} {held : Bool} {t e : TypeId} {v : Value} {d : DataW H} {p : List MemPlace} (ht : P.underlying t = some (.array 2 e)) (he : P.underlying e = some (.int .i64)) (hce : P.cellsOf e = 1) (hct : P.cellsOf t = 2)
 (hv : Value.okWide P w .any b0 t v) (h : DataW.Trod enc P w base sp held t v d p) : ∃ x0 x1 : Int, v = .agg #[.int .i64 x0, .int .i64 x1] := by
 obtain ⟨cs, rfl, hsz⟩ : ∃ cs, v = .agg cs ∧ cs.size = P.cellsOf t := by
  simp only [Value.okWide, ht] at hv
  obtain ⟨cs, h1, h2, _⟩ := hv
  exact ⟨cs, h1, h2⟩
 obtain ⟨fuel, hf⟩ := h
 obtain ⟨xs, m, rfl, _, _, hn, hel⟩ := DataW.trod_array ht hf
 rw [hct] at hsz
 have one : ∀ i, i < 2 → ∃ x : Int, cs[i]? = some (.int .i64 x) := by
  intro i hi
  have h1 := hel i hi
  rw [List.getElem?_eq_getElem (by omega), hce, Nat.mul_one] at h1
  obtain ⟨x, e1, _, hw⟩ := DataW.trod_int he h1
  refine ⟨x, ?_⟩
  have h2 := congrArg (fun l => l[0]?) e1
  simpa [List.getElem?_take, List.getElem?_drop, Value.cells] using h2
 obtain ⟨x0, e0⟩ := one 0 (by omega)
 obtain ⟨x1, e1⟩ := one 1 (by omega)
 refine ⟨x0, x1, ?_⟩
 congr 1
 refine Array.ext (by simpa using hsz) (fun i h1 h2 => ?_)
 have hi : i = 0 ∨ i = 1 := by simp at h2; omega
 rcases hi with rfl | rfl
 ·obtain ⟨_, q⟩ := Array.getElem?_eq_some_iff.1 e0; simpa using q
 ·obtain ⟨_, q⟩ := Array.getElem?_eq_some_iff.1 e1; simpa using q
end Go.Proofs.YteboceekcmchkaaGreatDoor
