/- Versions: May, Least, common, Has, Format, Opens; the document's Has, Opens. -/
import Derived.Test.YtaeojpcffahgmaaGreatDoorRows
import Derived.Test.YtaeojpcffahgmaaGreatDoorGRune
namespace Go.Proofs.YtaeojpcffahgmaaGreatDoor
open Go.RowKit

namespace Vs
def may (v : Int) : Bool := (v == 1) || (v == 2)
def least (a b : Int) : Int := if may a = true ∧ may b = true then (if a ≤ b then a else b) else 0
def common (k : Int) : Bool := (k == 1) || (k == 2) || (k == 3) || (k == 4) || (k == 6) || (k == 7) || (k == 8)
def has (v k : Int) : Bool := ((v == 2) && ((k == 5) || common k)) || ((v == 1) && common k)
def format (n : Int) : Int := if 0 < n then 2 else 1
def opens (v f : Int) : Int := if may v = true ∧ may f = true then (if v < f then 9 else 0) else 8

theorem may_or (v : Int) : (may v = true ∧ (v = 1 ∨ v = 2)) ∨ (may v = false ∧ v ≠ 1 ∧ v ≠ 2) := by
  by_cases h1 : v = 1
  · subst h1; exact Or.inl ⟨rfl, Or.inl rfl⟩
  · by_cases h2 : v = 2
    · subst h2; exact Or.inl ⟨rfl, Or.inr rfl⟩
    · exact Or.inr ⟨by simp [may, h1, h2], h1, h2⟩
theorem kinds (k : Int) : k = 1 ∨ k = 2 ∨ k = 3 ∨ k = 4 ∨ k = 5 ∨ k = 6 ∨ k = 7 ∨ k = 8 ∨ (k < 1 ∨ 8 < k) := by omega
end Vs

theorem may_any (v : Int) (w : World) : Calls Tryz.prog 66 #[.int .i64 v] w (Says w (.bool (Vs.may v))) := by
  rcases Vs.may_or v with ⟨e, rfl | rfl⟩ | ⟨e, h1, h2⟩
  all_goals
    rw [e]
    go_enter Tryz.func66, Tryz.ntmps66
    go_wp2
    go_ret
    exact ⟨rfl, rfl⟩

theorem common_any (k : Int) (w : World) : Calls Tryz.prog 87 #[.int .i64 k] w (Says w (.bool (Vs.common k))) := by
  rcases Vs.kinds k with rfl | rfl | rfl | rfl | rfl | rfl | rfl | rfl | h
  all_goals try have e : Vs.common k = false := by simp [Vs.common]; omega
  all_goals first | rw [e] | skip
  all_goals
    go_enter Tryz.func87, Tryz.ntmps87
    go_wp2
    go_ret
    exact ⟨rfl, rfl⟩

theorem has_any (v k : Int) (w : World) : Calls Tryz.prog 69 #[.int .i64 v, .int .i64 k] w (Says w (.bool (Vs.has v k))) := by
  rcases Vs.may_or v with ⟨e, rfl | rfl⟩ | ⟨e, h1, h2⟩
  · have e2 : Vs.has 1 k = Vs.common k := by simp [Vs.has]
    rw [e2]
    go_enter Tryz.func69, Tryz.ntmps69
    go_wp2_with fail
    refine (common_any _ _).mono ?_
    rintro e w1 ⟨rfl, rfl⟩
    go_wp2
    go_ret
    exact ⟨rfl, rfl⟩
  · by_cases h5 : k = 5
    · subst h5
      go_enter Tryz.func69, Tryz.ntmps69
      go_wp2
      go_ret
      exact ⟨rfl, rfl⟩
    · have e2 : Vs.has 2 k = Vs.common k := by simp [Vs.has, h5]
      rw [e2]
      go_enter Tryz.func69, Tryz.ntmps69
      go_wp2_with fail
      refine (common_any _ _).mono ?_
      rintro e w1 ⟨rfl, rfl⟩
      go_wp2
      go_ret
      exact ⟨rfl, rfl⟩
  · have e2 : Vs.has v k = false := by simp [Vs.has, h1, h2]
    rw [e2]
    go_enter Tryz.func69, Tryz.ntmps69
    go_wp2
    go_ret
    exact ⟨rfl, rfl⟩

theorem opens_any (v f : Int) (w : World) : Calls Tryz.prog 41 #[.int .i64 v, .int .i64 f] w (Says w (.int .i64 (Vs.opens v f))) := by
  obtain ⟨z, hz⟩ : ∃ z, Vs.opens v f = z := ⟨_, rfl⟩
  have HZ := Lib.hid hz
  rw [hz]
  clear hz
  rcases Vs.may_or v with ⟨ea, ha⟩ | ⟨ea, ha1, ha2⟩
  · rcases Vs.may_or f with ⟨eb, hb⟩ | ⟨eb, hb1, hb2⟩
    · go_enter Tryz.func41, Tryz.ntmps41
      go_wp2_with fail
      refine (may_any _ _).mono ?_
      rintro e w1 ⟨rfl, rfl⟩
      rw [ea]
      rcases ha with rfl | rfl <;> rcases hb with rfl | rfl
      all_goals
        go_wp2
        go_ret
        exact ⟨by rw [← HZ.out]; rfl, rfl⟩
    · have hz : z = 8 := by rw [← HZ.out]; simp [Vs.opens, eb]
      subst hz
      have b1 : (f != 1) = true := by simpa using hb1
      have b2 : (f != 2) = true := by simpa using hb2
      go_enter Tryz.func41, Tryz.ntmps41
      go_wp2_with fail
      refine (may_any _ _).mono ?_
      rintro e w1 ⟨rfl, rfl⟩
      rw [ea]
      go_wp2
      go_ret
      exact ⟨rfl, rfl⟩
  · have hz : z = 8 := by rw [← HZ.out]; simp [Vs.opens, ea]
    subst hz
    go_enter Tryz.func41, Tryz.ntmps41
    go_wp2_with fail
    refine (may_any _ _).mono ?_
    rintro e w1 ⟨rfl, rfl⟩
    rw [ea]
    go_wp2
    go_ret
    exact ⟨rfl, rfl⟩

theorem refHas_any (v k : Int) (w : World) : Calls Tryz.prog 21 #[.int .i64 v, .int .i64 k] w (Says w (.bool (Vs.has v k))) := by
  by_cases hk1 : k < 1
  · have e : Vs.has v k = false := by simp [Vs.has, Vs.common]; omega
    rw [e]
    go_enter Tryz.func21, Tryz.ntmps21
    go_wp2
    go_ret
    exact ⟨rfl, rfl⟩
  by_cases hk8 : 8 < k
  · have e : Vs.has v k = false := by simp [Vs.has, Vs.common]; omega
    rw [e]
    go_enter Tryz.func21, Tryz.ntmps21
    go_wp2
    go_ret
    exact ⟨rfl, rfl⟩
  rcases Vs.may_or v with ⟨e, rfl | rfl⟩ | ⟨e, h1, h2⟩
  · have e : Vs.has 1 k = (k != 5) := by
      rcases Vs.kinds k with rfl | rfl | rfl | rfl | rfl | rfl | rfl | rfl | h <;> first | rfl | omega
    rw [e]
    go_enter Tryz.func21, Tryz.ntmps21
    go_wp2
    go_ret
    exact ⟨rfl, rfl⟩
  · have e : Vs.has 2 k = true := by
      rcases Vs.kinds k with rfl | rfl | rfl | rfl | rfl | rfl | rfl | rfl | h <;> first | rfl | omega
    rw [e]
    go_enter Tryz.func21, Tryz.ntmps21
    go_wp2
    go_ret
    exact ⟨rfl, rfl⟩
  · have e : Vs.has v k = false := by simp [Vs.has, h1, h2]
    rw [e]
    have b1 : (v == 1) = false := by simpa using h1
    have b2 : (v == 2) = false := by simpa using h2
    go_enter Tryz.func21, Tryz.ntmps21
    go_wp2
    go_ret
    exact ⟨rfl, rfl⟩

end Go.Proofs.YtaeojpcffahgmaaGreatDoor
