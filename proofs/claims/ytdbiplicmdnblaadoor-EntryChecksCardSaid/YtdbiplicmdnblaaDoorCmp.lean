/- cmp.Compare at numbers. -/
import Derived.Test.YtdbiplicmdnblaaDoorRows
import Derived.Test.YtdbiplicmdnblaaDoorLie
namespace Go.Proofs.YtdbiplicmdnblaaDoor
open Go.RowKit

theorem isNaN_any (x : Int) (w : World) : Calls Tryd.prog 49 #[.int .i64 x] w (Says w (.bool false)) := by
  have h : (x != x) = false := by simp
  go_enter Tryd.func49, Tryd.ntmps49
  go_wp2
  go_ret
  exact ⟨ret_bool (by simp), rfl⟩
/-- cmp.Compare: -1, 0, 1. -/
def Cf.cmp (x y : Int) : Int := if x < y then -1 else if y < x then 1 else 0
theorem cmp_any (x y : Int) (w : World) : Calls Tryd.prog 37 #[.int .i64 x, .int .i64 y] w (Says w (.int .i64 (Cf.cmp x y))) := by
  go_enter Tryd.func37, Tryd.ntmps37
  by_cases h1 : x < y
  · go_wp2_with (go_at_call 49; refine (isNaN_any _ _).mono ?_; rintro e w' ⟨rfl, rfl⟩)
    go_ret
    exact ⟨ret_int (by unfold Cf.cmp; rw [if_pos (by omega)]), rfl⟩
  · by_cases h2 : y < x
    · go_wp2_with (go_at_call 49; refine (isNaN_any _ _).mono ?_; rintro e w' ⟨rfl, rfl⟩)
      go_ret
      exact ⟨ret_int (by unfold Cf.cmp; rw [if_neg (by omega), if_pos (by omega)]), rfl⟩
    · go_wp2_with (go_at_call 49; refine (isNaN_any _ _).mono ?_; rintro e w' ⟨rfl, rfl⟩)
      go_ret
      exact ⟨ret_int (by unfold Cf.cmp; rw [if_neg (by omega), if_neg (by omega)]), rfl⟩
theorem Cf.cmp_neg (f x : Int) : Cf.cmp f x < 0 ↔ f < x := by
  unfold Cf.cmp
  split
  · omega
  · split <;> omega
theorem Cf.cmp_zero (f x : Int) : Cf.cmp f x = 0 ↔ f = x := by
  unfold Cf.cmp
  split
  · omega
  · split <;> omega

end Go.Proofs.YtdbiplicmdnblaaDoor
