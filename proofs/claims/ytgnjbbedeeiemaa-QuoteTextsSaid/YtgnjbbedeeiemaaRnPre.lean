/- Runes: the bytes of a string by place; what a string begins with where it holds the rune fffd. -/
import Derived.Test.YtgnjbbedeeiemaaRnSize
namespace Go.Proofs.Ytgnjbbedeeiemaa
open Go.RowKit

namespace Rn
def three : ByteArray := ⟨#[239, 191, 189]⟩
theorem list_at (s : ByteArray) (i : Nat) (h : i < s.size) : s.data.toList[i]? = some (s.get! i) := by
  have := get_at s i h
  simp only [Nat.add_zero] at this
  rw [this, List.getElem?_eq_getElem (by simpa using h)]
  rfl
theorem pre_three (s : ByteArray) (i : Nat) (h : i ≤ s.size) : pre (s.extract i s.size) three = (decide (3 ≤ s.size - i) && (byteAt s i == 239 && byteAt s (i + 1) == 191 && byteAt s (i + 2) == 189)) := by
  have e : (s.extract i s.size).size = s.size - i := by simp [ByteArray.size_extract]
  unfold pre
  rw [e]
  show (decide (3 ≤ s.size - i) && _) = _
  by_cases h3 : 3 ≤ s.size - i
  · have l0 := list_at s i (by omega)
    have l1 := list_at s (i + 1) (by omega)
    have l2 := list_at s (i + 2) (by omega)
    have e2 : ((s.extract i s.size).extract 0 three.size).toList = [s.get! i, s.get! (i + 1), s.get! (i + 2)] := by
      rw [ByteArray.toList_eq]
      apply List.ext_getElem?
      intro j
      have hth : three.size = 3 := rfl
      simp only [ByteArray.data_extract, Array.toList_extract, List.extract_eq_take_drop, hth, List.getElem?_take, List.getElem?_drop]
      have hsz : s.data.size = s.size := rfl
      match j with
      | 0 => rw [if_pos (by omega), if_pos (by omega)]; simpa using l0
      | 1 => rw [if_pos (by omega), if_pos (by omega)]; simpa using l1
      | 2 => rw [if_pos (by omega), if_pos (by omega)]; simpa using l2
      | j + 3 => rw [if_neg (by omega)]; simp
    rw [e2]
    have e3 : three.toList = [239, 191, 189] := ByteArray.toList_mk [239, 191, 189]
    rw [e3]
    simp only [h3, decide_true, Bool.true_and]
    have q0 : ∀ (a : Nat) (c : UInt8), (s.get! a == c) = (byteAt s a == c.toNat) := by
      intro a c
      unfold byteAt
      rw [Bool.eq_iff_iff]
      simp only [beq_iff_eq]
      exact UInt8.toNat_inj.symm
    simp [q0, Bool.and_assoc]
  · simp [h3]
end Rn
end Go.Proofs.Ytgnjbbedeeiemaa
