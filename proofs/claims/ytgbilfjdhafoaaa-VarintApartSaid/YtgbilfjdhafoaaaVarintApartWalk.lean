/- The law VarintApart, walked: it returns true and changes nothing that was there. -/
import Derived.Test.YtgbilfjdhafoaaaAwake
namespace Go.Proofs.Ytgbilfjdhafoaaa
open Go.RowKit

theorem begins_not {a b : Nat} (ha : a ≤ 9223372036854775807) (hb : b ≤ 9223372036854775807) (h : a ≠ b) : (enc a == (enc b).take (enc a).length) = false := by
  rw [beq_eq_false_iff_ne]
  intro e
  refine h (enc_apart ha hb ((enc b).drop (enc a).length) ?_)
  conv => rhs; lhs; rw [e]
  exact (List.take_append_drop _ _).symm

/-- Put of nothing and a number, its bytes under a name. -/
theorem put_nil (n : Nat) (E : List UInt8) (hE : Hid (E = enc n)) (w : World) (h : n ≤ 9223372036854775807) :
    Calls Try.prog 9 #[.slice none 0 0, .int .i64 (n : Int)] w (Makes w 5 E) := by
  have hp := put_any (.slice none 0 0) [] (n : Int) w (Reads.empty w) (by simp) (by omega) (by omega)
  rw [Int.toNat_natCast, List.nil_append, ← hE.out] at hp
  exact hp

set_option maxRecDepth 4000 in
set_option maxHeartbeats 800000 in
theorem varintApart_nats (a b : Nat) (w : World) (ha : a ≤ 9223372036854775807) (hb : b ≤ 9223372036854775807) :
    Calls Try.prog 5 #[.int .i64 (a : Int), .int .i64 (b : Int)] w (Truly w) := by
  obtain ⟨X, hX⟩ : ∃ X, X = enc a := ⟨_, rfl⟩
  obtain ⟨Y, hY⟩ : ∃ Y, Y = enc b := ⟨_, rfl⟩
  have hX0 : 0 < X.length := by rw [hX]; exact enc_pos a
  have hY0 : 0 < Y.length := by rw [hY]; exact enc_pos b
  have hX9 : X.length ≤ 9 := by rw [hX]; exact enc_nine ha
  have hY9 : Y.length ≤ 9 := by rw [hY]; exact enc_nine hb
  have hsame : (X == Y.take X.length) = decide (a = b) := by
    by_cases h : a = b
    · subst h; rw [hY, ← hX, List.take_length]; simp
    · rw [hX, hY, begins_not ha hb h]; simp [h]
  have hle : ¬ X.length ≤ Y.length → a ≠ b := fun h e => h (by rw [hX, hY, e]; omega)
  have HX : Hid (X = enc a) := hX
  have HY : Hid (Y = enc b) := hY
  clear hX hY
  go_enter Try.func5, Try.ntmps5
  have HS := Lib.hid hsame; have HL := Lib.hid hle
  clear hsame hle
  go_wp2_with fail
  refine (put_nil a X HX _ ha).mono ?_
  rintro e w1 ⟨x, rfl, ho1, hb1⟩
  go_wp2_with fail
  refine (put_nil b Y HY _ hb).mono ?_
  rintro e w2 ⟨y, rfl, ho2, hb2⟩
  have hr1 := ho1.reads.below hb2
  have hr2 := ho2.reads
  clear ho1 ho2
  obtain ⟨ao, cap, rfl⟩ := hr1.shape
  obtain ⟨bo, dap, rfl⟩ := hr2.shape
  have hd := hr2.len
  have hdap : Y.length ≤ dap := hd.2.1
  have hdap9 : dap ≤ 9223372036854775807 := hd.2.2.1
  clear hd
  have hx0 : ((X.length : Int) == 0) = false := beq_eq_false_iff_ne.2 (by omega)
  have hy0 : ((Y.length : Int) == 0) = false := beq_eq_false_iff_ne.2 (by omega)
  by_cases hle : X.length ≤ Y.length
  · have hr3 := hr2.take X.length hle
    go_wp2_with fail
    refine (same_any _ _ _ _ w2 hr1 hr3).mono ?_
    rintro e w3 ⟨rfl, q, rfl⟩
    rw [HS.out]
    by_cases hab : a = b
    · have h1 : ((a : Int) == (b : Int)) = true := beq_iff_eq.2 (by omega)
      simp only [hab, decide_true]
      subst hab
      go_wp2_with fail
      refine (awake_any _).mono ?_
      rintro e w4 ⟨rfl, hb4⟩
      go_wp2_with fail
      go_ret
      exact ⟨rfl, on (on (on hb1 hb2) (drawn _ _)) hb4⟩
    · have h1 : ((a : Int) == (b : Int)) = false := beq_eq_false_iff_ne.2 (by omega)
      simp only [hab, decide_false]
      go_wp2_with fail
      refine (awake_any _).mono ?_
      rintro e w4 ⟨rfl, hb4⟩
      go_wp2_with fail
      go_ret
      exact ⟨rfl, on (on (on hb1 hb2) (drawn _ _)) hb4⟩
  · have h1 : ((a : Int) == (b : Int)) = false := beq_eq_false_iff_ne.2 (by have := HL.out hle; omega)
    go_wp2_with fail
    refine (awake_any _).mono ?_
    rintro e w4 ⟨rfl, hb4⟩
    go_wp2_with fail
    go_ret
    exact ⟨rfl, on (on hb1 hb2) hb4⟩

set_option maxRecDepth 4000 in
set_option maxHeartbeats 800000 in
theorem varintApart_neg (a b : Int) (w : World) (h : a < 0 ∨ b < 0) :
    Calls Try.prog 5 #[.int .i64 a, .int .i64 b] w (Truly w) := by
  by_cases h1 : a < 0
  · clear h
    go_enter Try.func5, Try.ntmps5
    go_wp2_with (go_at_call 6; refine (awake_any _).mono ?_; rintro e w' ⟨rfl, hb⟩)
    go_ret
    exact ⟨rfl, hb⟩
  · have h2 : b < 0 := by omega
    clear h
    go_enter Try.func5, Try.ntmps5
    go_wp2_with (go_at_call 6; refine (awake_any _).mono ?_; rintro e w' ⟨rfl, hb⟩)
    go_ret
    exact ⟨rfl, hb⟩

/-- The law at every input. -/
theorem varintApart_any (a b : Int) (w : World) (ha : a ≤ 9223372036854775807) (hb : b ≤ 9223372036854775807) :
    Calls Try.prog 5 #[.int .i64 a, .int .i64 b] w (Truly w) := by
  by_cases h : a < 0 ∨ b < 0
  · exact varintApart_neg a b w h
  · obtain ⟨k, rfl⟩ := Int.eq_ofNat_of_zero_le (show 0 ≤ a by omega)
    obtain ⟨j, rfl⟩ := Int.eq_ofNat_of_zero_le (show 0 ≤ b by omega)
    exact varintApart_nats k j w (by omega) (by omega)
end Go.Proofs.Ytgbilfjdhafoaaa
