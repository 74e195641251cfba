/- Versions: May, Least, common, Has, Format, Opens; the document's Has, Opens. -/
import Derived.Test.YtammfmmpldahhaaGreatRows
import Derived.Test.YtammfmmpldahhaaGreatGRune
namespace Go.Proofs.YtammfmmpldahhaaGreat
open Go.RowKit

namespace Vs
def may (v : Int) : Bool := (v == 1) || (v == 2)
def least (a b : Int) : Int := if may a = true ∧ may b = true then (if a ≤ b then a else b) else 0
def common (k : Int) : Bool := (k == 1) || (k == 2) || (k == 3) || (k == 4) || (k == 6) || (k == 7) || (k == 8)
def has (v k : Int) : Bool := ((v == 2) && ((k == 5) || common k)) || ((v == 1) && common k)
def format (n : Int) : Int := if 0 < n then 2 else 1
def opens (v f : Int) : Int := if may v = true ∧ may f = true then (if v < f then 9 else 0) else 8

theorem may_or (v : Int) : (may v = true ∧ (v = 1 ∨ v = 2)) ∨ (may v = false ∧ v ≠ 1 ∧ v ≠ 2) := by
  by_cases h1 : v = 1
  · subst h1; exact Or.inl ⟨rfl, Or.inl rfl⟩
  · by_cases h2 : v = 2
    · subst h2; exact Or.inl ⟨rfl, Or.inr rfl⟩
    · exact Or.inr ⟨by simp [may, h1, h2], h1, h2⟩
theorem kinds (k : Int) : k = 1 ∨ k = 2 ∨ k = 3 ∨ k = 4 ∨ k = 5 ∨ k = 6 ∨ k = 7 ∨ k = 8 ∨ (k < 1 ∨ 8 < k) := by omega
end Vs

end Go.Proofs.YtammfmmpldahhaaGreat
