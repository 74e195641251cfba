/- Versions: awake; the laws VersHas, VersOpens. -/
import Derived.Test.YtoekegmpagjlpaaVers
namespace Go.Proofs.Ytoekegmpagjlpaa
open Go.RowKit

theorem awake_any (w : World) : Calls Try.prog 9 #[] w (Says w (.bool true)) := by
  go_enter Try.func9, Try.ntmps9
  go_wp2_with fail
  refine (may_any _ _).mono ?_
  rintro e w1 ⟨rfl, rfl⟩
  rw [show Vs.may 2 = true from rfl]
  go_wp2_with fail
  refine (least_any _ _ _).mono ?_
  rintro e w1 ⟨rfl, rfl⟩
  rw [show Vs.least 2 1 = 1 from rfl]
  go_wp2_with fail
  refine (opens_any _ _ _).mono ?_
  rintro e w1 ⟨rfl, rfl⟩
  rw [show Vs.opens 1 2 = 9 from rfl]
  go_wp2
  go_ret
  exact ⟨rfl, rfl⟩

theorem truly_same (w : World) : Truly w (.returned (.bool true)) w := ⟨rfl, Below.refl _ _⟩

theorem versOpens_any (v f n : Int) (w : World) : Calls Try.prog 4 #[.int .i64 v, .int .i64 f, .int .i64 n] w (Truly w) := by
  by_cases h : 0 < n
  all_goals
    go_enter Try.func4, Try.ntmps4
    go_wp2_with fail
    refine (opens_any _ _ _).mono ?_
    rintro e w1 ⟨rfl, rfl⟩
    go_wp2_with fail
    refine (refOpens_any _ _ _).mono ?_
    rintro e w1 ⟨rfl, rfl⟩
    go_wp2_with fail
    refine (format_any _ _).mono ?_
    rintro e w1 ⟨rfl, rfl⟩
    first | rw [show Vs.format n = 2 from if_pos h] | rw [show Vs.format n = 1 from if_neg (by omega)]
    go_wp2_with fail
    refine (awake_any _).mono ?_
    rintro e w1 ⟨rfl, rfl⟩
    go_wp2
    go_ret
    exact truly_same _

theorem may_range (v : Int) (h : ¬ (v = 1 ∨ v = 2)) : Vs.may v = false := by
  simp only [Vs.may]
  have h1 : ¬ v = 1 := fun x => h (Or.inl x)
  have h2 : ¬ v = 2 := fun x => h (Or.inr x)
  simp [h1, h2]

/-- The law at two versions that are. -/
theorem versHas_both (a b k : Int) (w : World) (ha : a = 1 ∨ a = 2) (hb : b = 1 ∨ b = 2) : Calls Try.prog 3 #[.int .i64 a, .int .i64 b, .int .i64 k] w (Truly w) := by
  obtain ⟨p, hp⟩ : ∃ p, Vs.has a k = p := ⟨_, rfl⟩
  obtain ⟨q, hq⟩ : ∃ q, Vs.has b k = q := ⟨_, rfl⟩
  have hl : Vs.has (Vs.least a b) k = (p && q) := by
    rw [← hp, ← hq]
    rcases ha with rfl | rfl <;> rcases hb with rfl | rfl <;> (simp only [Vs.least, Vs.may, Vs.has]; simp; try (cases Vs.common k <;> simp))
  have HL := Lib.hid hl; clear hl
  have HP := Lib.hid hp; clear hp
  have HQ := Lib.hid hq; clear hq
  rcases ha with rfl | rfl <;> rcases hb with rfl | rfl
  all_goals
    go_enter Try.func3, Try.ntmps3
    go_wp2_with fail
    refine (least_any _ _ _).mono ?_
    rintro e w1 ⟨rfl, rfl⟩
    first | rw [show Vs.least 1 1 = 1 from rfl] at HL ⊢ | rw [show Vs.least 1 2 = 1 from rfl] at HL ⊢ | rw [show Vs.least 2 1 = 1 from rfl] at HL ⊢ | rw [show Vs.least 2 2 = 2 from rfl] at HL ⊢
    go_wp2_with fail
    refine (may_any _ _).mono ?_
    rintro e w1 ⟨rfl, rfl⟩
    first | rw [show Vs.may 1 = true from rfl] | rw [show Vs.may 2 = true from rfl]
    go_wp2_with fail
    refine (has_any _ _ _).mono ?_
    rintro e w1 ⟨rfl, rfl⟩
    rw [HP.out]
    go_wp2_with fail
    refine (refHas_any _ _ _).mono ?_
    rintro e w1 ⟨rfl, rfl⟩
    rw [HP.out]
    go_wp2_with fail
    refine (has_any _ _ _).mono ?_
    rintro e w1 ⟨rfl, rfl⟩
    rw [HQ.out]
    go_wp2_with fail
    refine (refHas_any _ _ _).mono ?_
    rintro e w1 ⟨rfl, rfl⟩
    rw [HQ.out]
    go_wp2_with fail
    refine (has_any _ _ _).mono ?_
    rintro e w1 ⟨rfl, rfl⟩
    rw [HL.out]
    go_wp2_with fail
    refine (refHas_any _ _ _).mono ?_
    rintro e w1 ⟨rfl, rfl⟩
    rw [HP.out]
    cases p
    all_goals
      go_wp2_with fail
      try
        refine (refHas_any _ _ _).mono ?_
        rintro e w1 ⟨rfl, rfl⟩
        rw [HQ.out]
        go_wp2_with fail
      refine (awake_any _).mono ?_
      rintro e w1 ⟨rfl, rfl⟩
      go_wp2
      go_ret
      exact truly_same _

/-- The law where one of the two is no version. -/
theorem versHas_none (a b k : Int) (w : World) (h : a < 1 ∨ 2 < a ∨ ((a = 1 ∨ a = 2) ∧ (b < 1 ∨ 2 < b))) : Calls Try.prog 3 #[.int .i64 a, .int .i64 b, .int .i64 k] w (Truly w) := by
  obtain ⟨p, hp⟩ : ∃ p, Vs.has a k = p := ⟨_, rfl⟩
  obtain ⟨q, hq⟩ : ∃ q, Vs.has b k = q := ⟨_, rfl⟩
  have hl : Vs.least a b = 0 := by
    rcases h with h | h | ⟨_, h⟩
    · simp [Vs.least, may_range a (by omega)]
    · simp [Vs.least, may_range a (by omega)]
    · simp [Vs.least, may_range b (by omega)]
  have hm : (a = 1 ∨ a = 2) ∨ (Vs.may a = false ∧ (a == 1) = false ∧ (a == 2) = false) := by
    by_cases h1 : a = 1 ∨ a = 2
    · exact Or.inl h1
    · exact Or.inr ⟨may_range a h1, by simpa using fun x => h1 (Or.inl x), by simpa using fun x => h1 (Or.inr x)⟩
  have HL := Lib.hid hl; clear hl
  have HP := Lib.hid hp; clear hp
  have HQ := Lib.hid hq; clear hq
  rcases hm with hm | ⟨hm, b1, b2⟩
  · rcases (by omega : b < 1 ∨ 2 < b) with g | g <;> rcases hm with rfl | rfl <;> clear h
    all_goals
      first | (have g2 : decide (1 ≤ b) = false := by simpa using g) | (have g2 : decide (b ≤ 2) = false := (by simpa using g); have g3 : decide (1 ≤ b) = true := decide_eq_true (by omega))
      go_enter Try.func3, Try.ntmps3
      go_wp2_with fail
      refine (least_any _ _ _).mono ?_
      rintro e w1 ⟨rfl, rfl⟩
      rw [HL.out]
      go_wp2_with fail
      refine (may_any _ _).mono ?_
      rintro e w1 ⟨rfl, rfl⟩
      first | rw [show Vs.may 1 = true from rfl] | rw [show Vs.may 2 = true from rfl]
      go_wp2_with fail
      refine (has_any _ _ _).mono ?_
      rintro e w1 ⟨rfl, rfl⟩
      rw [HP.out]
      go_wp2_with fail
      refine (refHas_any _ _ _).mono ?_
      rintro e w1 ⟨rfl, rfl⟩
      rw [HP.out]
      go_wp2_with fail
      refine (has_any _ _ _).mono ?_
      rintro e w1 ⟨rfl, rfl⟩
      rw [HQ.out]
      go_wp2_with fail
      refine (refHas_any _ _ _).mono ?_
      rintro e w1 ⟨rfl, rfl⟩
      rw [HQ.out]
      go_wp2_with fail
      refine (awake_any _).mono ?_
      rintro e w1 ⟨rfl, rfl⟩
      go_wp2
      go_ret
      exact truly_same _
  · have HM := Lib.hid hm; clear hm
    rcases (by simp at b1 b2; omega : a < 1 ∨ 2 < a) with g | g <;> clear h
    all_goals
      first | (have g2 : decide (1 ≤ a) = false := by simpa using g) | (have g2 : decide (a ≤ 2) = false := (by simpa using g); have g3 : decide (1 ≤ a) = true := decide_eq_true (by omega))
      go_enter Try.func3, Try.ntmps3
      go_wp2_with fail
      refine (least_any _ _ _).mono ?_
      rintro e w1 ⟨rfl, rfl⟩
      rw [HL.out]
      go_wp2_with fail
      refine (may_any _ _).mono ?_
      rintro e w1 ⟨rfl, rfl⟩
      rw [HM.out]
      go_wp2_with fail
      refine (has_any _ _ _).mono ?_
      rintro e w1 ⟨rfl, rfl⟩
      rw [HP.out]
      go_wp2_with fail
      refine (refHas_any _ _ _).mono ?_
      rintro e w1 ⟨rfl, rfl⟩
      rw [HP.out]
      go_wp2_with fail
      refine (has_any _ _ _).mono ?_
      rintro e w1 ⟨rfl, rfl⟩
      rw [HQ.out]
      go_wp2_with fail
      refine (refHas_any _ _ _).mono ?_
      rintro e w1 ⟨rfl, rfl⟩
      rw [HQ.out]
      go_wp2_with fail
      refine (awake_any _).mono ?_
      rintro e w1 ⟨rfl, rfl⟩
      go_wp2
      go_ret
      exact truly_same _

theorem versHas_any (a b k : Int) (w : World) : Calls Try.prog 3 #[.int .i64 a, .int .i64 b, .int .i64 k] w (Truly w) := by
  by_cases ha : a = 1 ∨ a = 2
  · by_cases hb : b = 1 ∨ b = 2
    · exact versHas_both a b k w ha hb
    · exact versHas_none a b k w (Or.inr (Or.inr ⟨ha, by omega⟩))
  · exact versHas_none a b k w (by omega)
end Go.Proofs.Ytoekegmpagjlpaa
