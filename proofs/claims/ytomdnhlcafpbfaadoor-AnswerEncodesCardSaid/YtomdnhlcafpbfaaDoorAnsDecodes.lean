/- The law AnswerDecodes. -/
import Derived.Test.YtomdnhlcafpbfaaDoorAnsText
import Derived.Test.YtomdnhlcafpbfaaDoorAnsGet
import Derived.Test.YtomdnhlcafpbfaaDoorAnsRef
import Derived.Test.YtomdnhlcafpbfaaDoorGNum
namespace Go.Proofs.YtomdnhlcafpbfaaDoor
open Go.RowKit

set_option maxRecDepth 4000 in
set_option maxHeartbeats 3200000 in
theorem answerDecodes_any (v : Int) (u : Value) (s : List UInt8) (w : World) (hp : PowIn w) (hu : Reads w u s) : Calls Tryd.prog 4 #[.int .i64 v, u] w (Truly w) := by
  obtain ⟨ao, cap, hshape⟩ := hu.shape
  have HP := Lib.hid hp; have HU := Lib.hid hu
  clear hp hu
  subst hshape
  by_cases h5 : 500 < s.length
  · have h5' : (500 : Int) < (s.length : Int) := by omega
    go_enter Tryd.func4, Tryd.ntmps4
    go_wp2_with fail
    refine (awakeA_any _ HP.out).mono ?_
    rintro e w3 ⟨rfl, hB3⟩
    go_wp2
    go_ret
    exact truly_of hB3
  · have h5' : ¬ (500 : Int) < (s.length : Int) := by omega
    go_enter Tryd.func4, Tryd.ntmps4
    go_wp2_with fail
    refine (adecode_any v _ s _ HU.out (by omega)).mono ?_
    rintro e w2 ⟨rfl, hB2⟩
    have HOK := Lib.hid (An.decode_ok v s)
    have HNO := Lib.hid (An.decode_none v s)
    have HVER : Hid (Vs.may v = false → An.decode v s = (An.zero, 8)) := fun h => by unfold An.decode; rw [if_pos h]
    obtain ⟨r, hr⟩ : ∃ r, r = An.decode v s := ⟨_, rfl⟩
    rw [← hr] at HOK HNO HVER ⊢
    obtain ⟨c, er⟩ := r
    dsimp only at HOK HNO ⊢
    clear hr
    have HB2 := Lib.hid hB2
    have HU2 := Lib.hid (HU.out.below hB2)
    have hgd := guard_ans
    clear hB2
    by_cases hvv : v < 1 ∨ 2 < v
    · have hmay : Vs.may v = false := by simp [Vs.may]; omega
      have hz := HVER.out hmay
      simp only [Prod.mk.injEq] at hz
      obtain ⟨rfl, rfl⟩ := hz
      clear HOK HNO HVER hmay
      by_cases h1 : v < 1
      · have d1 : decide (v < 1) = true := decide_eq_true h1
        go_wp2_with (refine store_ans (by rfl) _ _ (by rfl) w2.heap.size An.zero An.zero (by rfl) (by rfl) (Lies.new _ _ _) ?_; intro w3 hl3 hg3; have p0 : w3.cell? ⟨w2.heap.size, 0, none⟩ = some (.int .i64 0) := Lies.cell hl3 0 _ rfl; have p1 : w3.cell? ⟨w2.heap.size, 1, none⟩ = some (.int .i64 0) := Lies.cell hl3 1 _ rfl; have p2 : w3.cell? ⟨w2.heap.size, 2, none⟩ = some (.int .i64 0) := Lies.cell hl3 2 _ rfl; have p3 : w3.cell? ⟨w2.heap.size, 3, none⟩ = some (.bool false) := Lies.cell hl3 3 _ rfl; have p4 : w3.cell? ⟨w2.heap.size, 4, none⟩ = some (.string ⟨#[]⟩) := Lies.cell hl3 4 _ rfl; have p5 : w3.cell? ⟨w2.heap.size, 5, none⟩ = some (.int .i64 0) := Lies.cell hl3 5 _ rfl)
        have hb3 : Below w2.heap.size w2 w3 := ((Below.refl _ w2).alloc (Nat.le_refl _) _).grown hg3 (by simp) (by rintro j hj; cases hj; exact Nat.le_refl _)
        have HB3 := Lib.hid (HB2.out.trans (hb3.mono HB2.out.size))
        refine (awakeA_any _ (HP.out.below HB3.out)).mono ?_
        rintro e w9 ⟨rfl, hB9⟩
        go_wp2
        go_ret
        exact truly_of (HB3.out.trans (hB9.mono HB3.out.size))
      · have d1 : decide (v < 1) = false := decide_eq_false h1
        have d2 : decide (2 < v) = true := decide_eq_true (by omega)
        go_wp2_with (refine store_ans (by rfl) _ _ (by rfl) w2.heap.size An.zero An.zero (by rfl) (by rfl) (Lies.new _ _ _) ?_; intro w3 hl3 hg3; have p0 : w3.cell? ⟨w2.heap.size, 0, none⟩ = some (.int .i64 0) := Lies.cell hl3 0 _ rfl; have p1 : w3.cell? ⟨w2.heap.size, 1, none⟩ = some (.int .i64 0) := Lies.cell hl3 1 _ rfl; have p2 : w3.cell? ⟨w2.heap.size, 2, none⟩ = some (.int .i64 0) := Lies.cell hl3 2 _ rfl; have p3 : w3.cell? ⟨w2.heap.size, 3, none⟩ = some (.bool false) := Lies.cell hl3 3 _ rfl; have p4 : w3.cell? ⟨w2.heap.size, 4, none⟩ = some (.string ⟨#[]⟩) := Lies.cell hl3 4 _ rfl; have p5 : w3.cell? ⟨w2.heap.size, 5, none⟩ = some (.int .i64 0) := Lies.cell hl3 5 _ rfl)
        have hb3 : Below w2.heap.size w2 w3 := ((Below.refl _ w2).alloc (Nat.le_refl _) _).grown hg3 (by simp) (by rintro j hj; cases hj; exact Nat.le_refl _)
        have HB3 := Lib.hid (HB2.out.trans (hb3.mono HB2.out.size))
        refine (awakeA_any _ (HP.out.below HB3.out)).mono ?_
        rintro e w9 ⟨rfl, hB9⟩
        go_wp2
        go_ret
        exact truly_of (HB3.out.trans (hB9.mono HB3.out.size))
    · have d1 : decide (v < 1) = false := decide_eq_false (by omega)
      have d2 : decide (2 < v) = false := decide_eq_false (by omega)
      by_cases he : er = 0
      · subst he
        obtain ⟨_, hchk, hby, hfit, hln, _⟩ := HOK.out rfl
        have HX := Lib.hid (And.intro hchk (And.intro hby (And.intro hfit hln)))
        clear hchk hby hfit hln HOK HNO HVER hvv
        go_wp2_with (refine store_ans (by rfl) _ _ (by rfl) w2.heap.size An.zero c (by rfl) (by rfl) (Lies.new _ _ _) ?_; intro w3 hl3 hg3; obtain ⟨p0, p1, p2, p3, p4, p5⟩ := Anss.every hl3)
        have hb3 : Below w2.heap.size w2 w3 := ((Below.refl _ w2).alloc (Nat.le_refl _) _).grown hg3 (by simp) (by rintro j hj; cases hj; exact Nat.le_refl _)
        have HB3 := Lib.hid (HB2.out.trans (hb3.mono HB2.out.size))
        have HU3 := Lib.hid (HU2.out.below hb3)
        have HC3 := Lib.hid hl3
        clear hb3 hl3 hg3
        refine (arefCheck_any c _ (by have := HX.out.2.2.2; omega)).mono ?_
        rintro e w4 ⟨rfl, hB4⟩
        rw [HX.out.1]
        have HC4 := Lib.hid (HC3.out.below hB4 HC3.out.lt)
        have HB4 := Lib.hid (HB3.out.trans (hB4.mono HB3.out.size))
        have HU4 := Lib.hid (HU3.out.below hB4)
        obtain ⟨q0, q1, q2, q3, q4, q5⟩ := Anss.every HC4.out
        clear hB4 p0 p1 p2 p3 p4 p5
        go_wp2_with fail
        refine (arefBytes_any v c _ HX.out.2.2.1 (by have := HX.out.2.2.2; omega)).mono ?_
        rintro e w7 ⟨u7, rfl, ho7, hB7⟩
        rw [HX.out.2.1] at ho7
        have HB7 := Lib.hid (HB4.out.trans (hB7.mono HB4.out.size))
        have HU7 := Lib.hid (HU4.out.below hB7)
        have HO7 := Lib.hid ho7.reads
        clear hB7 ho7
        go_wp2_with fail
        refine (same_any u7 _ s s _ HO7.out HU7.out).mono ?_
        rintro e w8 ⟨rfl, n8, hw8⟩
        rw [show (s == s) = true by simp]
        have HB8 := Lib.hid (HB7.out.trans ((show Below w7.heap.size w7 w8 by rw [hw8]; exact drawn _ _).mono HB7.out.size))
        clear hw8
        go_wp2_with fail
        refine (awakeA_any _ (HP.out.below HB8.out)).mono ?_
        rintro e w9 ⟨rfl, hB9⟩
        go_wp2
        go_ret
        exact truly_of (HB8.out.trans (hB9.mono HB8.out.size))
      · obtain rfl : c = An.zero := HNO.out he
        have hne : (er != 0) = true := by simpa using he
        clear HOK HNO HVER hvv
        go_wp2_with (refine store_ans (by rfl) _ _ (by rfl) w2.heap.size An.zero An.zero (by rfl) (by rfl) (Lies.new _ _ _) ?_; intro w3 hl3 hg3; have p0 : w3.cell? ⟨w2.heap.size, 0, none⟩ = some (.int .i64 0) := Lies.cell hl3 0 _ rfl; have p1 : w3.cell? ⟨w2.heap.size, 1, none⟩ = some (.int .i64 0) := Lies.cell hl3 1 _ rfl; have p2 : w3.cell? ⟨w2.heap.size, 2, none⟩ = some (.int .i64 0) := Lies.cell hl3 2 _ rfl; have p3 : w3.cell? ⟨w2.heap.size, 3, none⟩ = some (.bool false) := Lies.cell hl3 3 _ rfl; have p4 : w3.cell? ⟨w2.heap.size, 4, none⟩ = some (.string ⟨#[]⟩) := Lies.cell hl3 4 _ rfl; have p5 : w3.cell? ⟨w2.heap.size, 5, none⟩ = some (.int .i64 0) := Lies.cell hl3 5 _ rfl)
        have hb3 : Below w2.heap.size w2 w3 := ((Below.refl _ w2).alloc (Nat.le_refl _) _).grown hg3 (by simp) (by rintro j hj; cases hj; exact Nat.le_refl _)
        have HB3 := Lib.hid (HB2.out.trans (hb3.mono HB2.out.size))
        refine (awakeA_any _ (HP.out.below HB3.out)).mono ?_
        rintro e w9 ⟨rfl, hB9⟩
        go_wp2
        go_ret
        exact truly_of (HB3.out.trans (hB9.mono HB3.out.size))

end Go.Proofs.YtomdnhlcafpbfaaDoor
