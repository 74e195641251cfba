/- Several texts of mine in one: PkRd PkRd2 PkRd3. -/
import Derived.Test.YtfdnmmmjaipgoaaDoorRows
import Derived.Test.YtfdnmmmjaipgoaaDoorPkMem
import Derived.Test.YtfdnmmmjaipgoaaDoorGNum
import Derived.Test.YtfdnmmmjaipgoaaDoorClone
import Derived.Deep.QuietTactic
import Derived.BigQuiet
namespace Go.Proofs.YtfdnmmmjaipgoaaDoor
open Go.RowKit

/-- Draws first. -/
theorem drewN_grown {w w' : World} {n : Nat} {row : Option Nat} (h : (w.drewN n).grownBy w' row) : w.grownBy w' row := ⟨h.os, h.tape, h.output, h.size, h.block⟩
theorem grown_drewN (w : World) (n : Nat) (row : Option Nat) : w.grownBy (w.drewN n) row := ⟨rfl, rfl, rfl, Nat.le_refl _, fun _ _ _ => rfl⟩
theorem grown_any {w w' : World} (h : w.grownBy w' none) (row : Option Nat) : w.grownBy w' row := ⟨h.os, h.tape, h.output, h.size, fun i hi _ => h.block i hi (by simp)⟩
/-- A part of what is read. -/
theorem Reads.part {w : World} {ao : Option Addr} {n cap : Nat} {l : List UInt8} (h : Reads w (.slice ao n cap) l) (f q : Nat) (hf : f ≤ q) (hq : q ≤ l.length) : Reads w (sliced ao f q cap 1) ((l.drop f).take (q - f)) := by
  obtain ⟨hn, hc, hm, hnil⟩ := h.len
  unfold sliced
  have e : ((l.drop f).take (q - f)).length = q - f := by simp; omega
  rw [Nat.mul_one]
  by_cases h0 : q - f = 0
  · rw [h0, List.take_zero]
    refine ⟨_, cap - f, rfl, by simp, by unfold maxLen; omega, fun h1 => ?_, fun x _ j u hu => by simp [cellsOf] at hu⟩
    by_cases hcf : cap = f
    · omega
    · rw [if_neg hcf] at h1
      cases ao with
      | none => have := hnil rfl; omega
      | some x => simp at h1
  · have hcf : ¬ cap = f := by omega
    rw [if_neg hcf]
    obtain ⟨b, off, rfl, hcell⟩ := h.place (by omega)
    obtain ⟨ao', cap', hv, h1, h2, h3, h4⟩ := h
    simp only [Value.slice.injEq] at hv
    obtain ⟨rfl, rfl, rfl⟩ := hv
    refine ⟨some ⟨b, off + f, none⟩, cap - f, by rw [e]; simp [Addr.add_lit], by rw [e]; omega, by omega, (fun h => by cases h), fun x hx j u hu => ?_⟩
    cases hx
    have := h4 _ rfl (f + j) u (by
      simp only [cellsOf, List.getElem?_map, List.getElem?_take, List.getElem?_drop] at hu ⊢
      split at hu
      · exact hu
      · simp at hu)
    rw [Addr.add_lit] at this ⊢
    rw [Nat.add_assoc]; exact this

theorem run_part (w : World) (ao : Option Addr) (n cap f q : Nat) (hf : f ≤ q) (hq : q ≤ cap) :
    (Instr.slice 27 (.slice ao n cap) (some (.int .i64 (f : Int))) (some (.int .i64 (q : Int))) none).run Tryd.prog w = .ok (sliced ao f q cap 1) w := by
  have he : Tryd.prog.elem 27 = 5 := by kernel_rfl
  obtain ⟨i, h1, _⟩ := info_parts info_u8
  have hrun := run_slice_lh (P := Tryd.prog) (w := w) 27 ao n cap (by rw [he]; exact Tryd.underlying27) .i64 .i64 (f : Int) (q : Int) (by omega) (by omega) (by omega)
  rw [he] at hrun
  refine hrun.trans ?_
  rw [run_sizeOf _ h1, show Tryd.prog.cellsOf 5 = 1 by kernel_rfl]
  simp only [Result.andThen, Int.toNat_natCast]

end Go.Proofs.YtfdnmmmjaipgoaaDoor


namespace Go.Proofs.YtfdnmmmjaipgoaaDoor
open Go.RowKit

/-! ### What keeps the first error -/
end Go.Proofs.YtfdnmmmjaipgoaaDoor


namespace Go.Proofs.YtfdnmmmjaipgoaaDoor
open Go.RowKit

/-- What Done tells. -/
def Pk.done (b : List UInt8) (p : Nat) (er : Int) : Int := if er ≠ 0 then er else if p < b.length then 3 else 0

/-! Where there is no reader. -/
end Go.Proofs.YtfdnmmmjaipgoaaDoor
