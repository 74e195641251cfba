/- The law AnswerEncodes. -/
import Derived.Test.YtomdnhlcafpbfaaDoorAnsDecodes
import Derived.Test.YtomdnhlcafpbfaaDoorAnsPut
import Derived.Deep.RegionHeld3
namespace Go.Proofs.YtomdnhlcafpbfaaDoor
open Go.RowKit

set_option maxRecDepth 4000 in
set_option maxHeartbeats 6400000 in
theorem answerEncodes_any (v : Int) (a : An.Ans) (w : World) (hp : PowIn w) (hl : a.val.length ≤ 9223372036854775807) (hf : a.Fits) : Calls Tryd.prog 3 #[.int .i64 v, .agg (An.cells a)] w (Truly w) := by
  obtain ⟨w1, e1, hl1, hB1, hz1⟩ := box_ans w a
  obtain ⟨p0, p1, p2, p3, p4, p5⟩ := Anss.every hl1
  have k4 := str_size a.val
  obtain ⟨L, hL⟩ : ∃ L, L = a.val.length := ⟨_, rfl⟩
  rw [← hL] at k4
  have HL1 := Lib.hid hl1; have HB1 := Lib.hid hB1
  have HP := Lib.hid hp; have HF := Lib.hid hf; have HLL := Lib.hid hL
  have hl0 : L ≤ 9223372036854775807 := by rw [hL]; exact hl
  clear hl1 hB1 hz1 hp hf hL hl
  by_cases h3 : 300 < L
  · have d3 : decide ((300 : Int) < (L : Int)) = true := by simp; omega
    go_enter Tryd.func3, Tryd.ntmps3
    go_wp2_with fail
    refine (awakeA_any _ (HP.out.below HB1.out)).mono ?_
    rintro e w3 ⟨rfl, hB3⟩
    go_wp2
    go_ret
    exact truly_of (HB1.out.trans (hB3.mono HB1.out.size))
  · have d3 : decide ((300 : Int) < (L : Int)) = false := by simp; omega
    have HS : Hid (a.val.length ≤ 300) := by show _ ≤ _; rw [← HLL.out]; omega
    clear h3
    obtain ⟨z, hz⟩ : ∃ z, z = An.check a := ⟨_, rfl⟩
    obtain ⟨y, hy⟩ : ∃ y, y = An.checkIn v a := ⟨_, rfl⟩
    have HZ := Lib.hid hz; have HY := Lib.hid hy
    have HYZ : Hid (y = if Vs.may v = false then 8 else if z ≠ 0 then z else if v ≠ 2 ∧ a.rev ≠ 0 then 8 else 0) := by show _ = _; rw [hy, hz]; rfl
    clear hz hy
    have hzz : (z != z) = false := by simp
    go_enter Tryd.func3, Tryd.ntmps3
    go_wp2_with fail
    refine (arefCheck_any a _ (by have := HS.out; omega)).mono ?_
    rintro e w2 ⟨rfl, hB2⟩
    rw [← HZ.out]
    have hl2 := HL1.out.below hB2 HL1.out.lt
    obtain ⟨q0, q1, q2, q3, q4, q5⟩ := Anss.every hl2
    have HL2 := Lib.hid hl2
    have HB2 := Lib.hid (HB1.out.trans (hB2.mono HB1.out.size))
    clear hB2 hl2 p0 p1 p2 p3 p4 p5
    go_wp2_with fail
    refine (acheck_any a _ (by have := HS.out; omega)).mono ?_
    rintro e w3 ⟨rfl, hB3⟩
    rw [← HZ.out]
    have hl3 := HL2.out.below hB3 HL2.out.lt
    obtain ⟨p0, p1, p2, p3, p4, p5⟩ := Anss.every hl3
    have HL3 := Lib.hid hl3
    have HB3 := Lib.hid (HB2.out.trans (hB3.mono HB2.out.size))
    clear hB3 hl3 q0 q1 q2 q3 q4 q5
    by_cases h1 : v < 1
    · have d1 : decide (v < 1) = true := decide_eq_true h1
      have HE : Hid (y = 8) := by show _ = _; rw [HYZ.out, if_pos (by simp [Vs.may]; omega)]
      clear h1
      have hyy : (y != 0) = true := by rw [HE.out]; simp
      go_wp2_with fail
      refine (aencode_any v a _ HF.out (by have := HS.out; omega)).mono ?_
      rintro e w4 ⟨hB4, u, rfl, hu⟩
      rw [← HY.out] at hu ⊢
      rw [if_neg (by rw [HE.out]; omega)] at hu
      obtain ⟨ao, cap, rfl⟩ := hu.shape
      rw [HE.out]
      have HB4 := Lib.hid (HB3.out.trans (hB4.mono HB3.out.size))
      clear hB4 hu p0 p1 p2 p3 p4 p5
      go_wp2_with fail
      refine (awakeA_any _ (HP.out.below HB4.out)).mono ?_
      rintro e w9 ⟨rfl, hB9⟩
      go_wp2
      go_ret
      exact truly_of (HB4.out.trans (hB9.mono HB4.out.size))
    have d1 : decide (v < 1) = false := decide_eq_false h1
    by_cases h2 : 2 < v
    · have d2 : decide (2 < v) = true := decide_eq_true h2
      have HE : Hid (y = 8) := by show _ = _; rw [HYZ.out, if_pos (by simp [Vs.may]; omega)]
      clear h1 h2
      have hyy : (y != 0) = true := by rw [HE.out]; simp
      go_wp2_with fail
      refine (aencode_any v a _ HF.out (by have := HS.out; omega)).mono ?_
      rintro e w4 ⟨hB4, u, rfl, hu⟩
      rw [← HY.out] at hu ⊢
      rw [if_neg (by rw [HE.out]; omega)] at hu
      obtain ⟨ao, cap, rfl⟩ := hu.shape
      rw [HE.out]
      have HB4 := Lib.hid (HB3.out.trans (hB4.mono HB3.out.size))
      clear hB4 hu p0 p1 p2 p3 p4 p5
      go_wp2_with fail
      refine (awakeA_any _ (HP.out.below HB4.out)).mono ?_
      rintro e w9 ⟨rfl, hB9⟩
      go_wp2
      go_ret
      exact truly_of (HB4.out.trans (hB9.mono HB4.out.size))
    have d2 : decide (2 < v) = false := decide_eq_false h2
    have hm : Vs.may v = true := by simp [Vs.may]; omega
    have HYZ2 := Lib.hid (HYZ.out.trans (if_neg (by rw [hm]; simp)))
    clear hm
    by_cases h0 : z = 0
    rotate_left
    · have hzn : (z == 0) = false := by simpa using h0
      have HE : Hid (y = z) := by show _ = _; rw [HYZ2.out, if_pos h0]
      clear h1 h2
      have hyy : (z != 0) = true := by simpa using h0
      have heq0 : (z == z) = true := by simp
      go_wp2_with fail
      refine (aencode_any v a _ HF.out (by have := HS.out; omega)).mono ?_
      rintro e w4 ⟨hB4, u, rfl, hu⟩
      rw [← HY.out] at hu ⊢
      rw [if_neg (by rw [HE.out]; exact h0)] at hu
      obtain ⟨ao, cap, rfl⟩ := hu.shape
      rw [HE.out]
      have HB4 := Lib.hid (HB3.out.trans (hB4.mono HB3.out.size))
      clear hB4 hu h0 p0 p1 p2 p3 p4 p5
      go_wp2_with fail
      refine (awakeA_any _ (HP.out.below HB4.out)).mono ?_
      rintro e w9 ⟨rfl, hB9⟩
      go_wp2
      go_ret
      exact truly_of (HB4.out.trans (hB9.mono HB4.out.size))
    have HYZ3 := Lib.hid (HYZ2.out.trans (if_neg (by simpa using h0)))
    have hzn : (z == 0) = true := by simpa using h0
    have hzm : (z != 0) = false := by simpa using h0
    clear h0
    by_cases hv : v = 1
    · have hv1 : (v == 1) = true := by simpa using hv
      by_cases hr : a.rev = 0
      · have hrn : (a.rev != 0) = false := by simpa using hr
        have HE : Hid (y = 0) := by show _ = _; rw [HYZ3.out, if_neg (by rintro ⟨_, h⟩; exact h hr)]
        clear h1 h2 hv hr
        go_wp2_with fail
        refine (aencode_any v a _ HF.out (by have := HS.out; omega)).mono ?_
        rintro e w4 ⟨hB4, u, rfl, hu⟩
        rw [← HY.out] at hu ⊢
        rw [HE.out, if_pos rfl] at hu
        obtain ⟨ao, cap, rfl⟩ := hu.shape
        rw [HE.out]
        have hl4 := HL3.out.below hB4 HL3.out.lt
        obtain ⟨q0, q1, q2, q3, q4, q5⟩ := Anss.every hl4
        have HL4 := Lib.hid hl4
        have HB4 := Lib.hid (HB3.out.trans (hB4.mono HB3.out.size))
        have HU4 := Lib.hid hu
        have HLEN := Lib.hid (An.bytes_len v a HF.out (Nat.le_trans HS.out (Nat.le_refl _)) (by omega))
        have HDEC := Lib.hid (An.decode_bytes v a (HY.out.symm.trans HE.out) (by have := HS.out; omega))
        obtain ⟨bs, hbs⟩ : ∃ bs, bs = An.bytes v a := ⟨_, rfl⟩
        rw [← hbs] at HU4 HLEN HDEC ⊢
        have HBS := Lib.hid hbs
        clear hB4 hu hl4 hbs p0 p1 p2 p3 p4 p5
        obtain ⟨w5, e5, hw5, hB5⟩ : ∃ w5, w4.alloc (.cells #[.slice none 0 0] 32) = w5 ∧ Wrt w5 w4.heap.size w4.heap.size (.slice none 0 0) [] ∧ Below w4.heap.size w4 w5 :=
          ⟨_, rfl, Wr.fresh _ _ _ _ (Nat.le_refl _), (Below.refl _ _).alloc (Nat.le_refl _) _⟩
        have hl5 := HL4.out.below hB5 HL4.out.lt
        obtain ⟨p0, p1, p2, p3, p4, p5⟩ := Anss.every hl5
        have HL5 := Lib.hid hl5
        have HW5 := Lib.hid hw5
        have HU5 := Lib.hid (HU4.out.below hB5)
        have HB5 := Lib.hid (HB4.out.trans (hB5.mono HB4.out.size))
        have hz5 := hB5.size
        have hz4 := HL4.out.lt
        clear hB5 hl5 hw5 q0 q1 q2 q3 q4 q5
        go_wp2_with fail
        refine (aput_any v a _ w4.heap.size w4.heap.size _ HW5.out hz5 HF.out (by have := HS.out; omega)).mono ?_
        rintro e w6 ⟨rfl, u6, hw6, _, hB6⟩
        rw [← HBS.out] at hw6
        have hl6 := HL5.out.below hB6 hz4
        obtain ⟨q0, q1, q2, q3, q4, q5⟩ := Anss.every hl6
        have HL6 := Lib.hid hl6
        have HW6 := Lib.hid hw6
        have HU6 := Lib.hid (HU4.out.below ((Below.refl _ w4).alloc (Nat.le_refl _) (.cells #[.slice none 0 0] 32) |>.trans (e5 ▸ hB6)))
        have HB6 := Lib.hid (HB5.out.trans (hB6.mono (Nat.le_trans HB4.out.size (Nat.le_refl _))))
        clear hB6 hl6 hw6 p0 p1 p2 p3 p4 p5
        have hneq := fun W => run_neq_ans W a
        have hgd := guard_ans
        dsimp only [An.cells] at hneq
        have HL6d := Lib.hid (HL6.out.below (Below.refl _ _).drew HL6.out.lt)
        have HU6d := Lib.hid (HU6.out.below (Below.refl _ _).drew)
        have HW6d := Lib.hid (HW6.out.grown (Below.refl _ _).drew)
        have HB6d := Lib.hid HB6.out.drew
        go_wp2
        go_region_held3 (fun w' => w'.cell? ⟨w.heap.size, 0, none⟩ = some (.int .i64 a.client) ∧ w'.cell? ⟨w.heap.size, 1, none⟩ = some (.int .i64 a.seq) ∧ w'.cell? ⟨w.heap.size, 2, none⟩ = some (.int .i64 a.err) ∧ w'.cell? ⟨w.heap.size, 3, none⟩ = some (.bool a.found) ∧
          w'.cell? ⟨w.heap.size, 4, none⟩ = some (.string ⟨a.val.toArray⟩) ∧ w'.cell? ⟨w.heap.size, 5, none⟩ = some (.int .i64 a.rev)) (first | go_keep | exact K3) (first
            | (go_at_call 12; refine (newreader_any _ bs _ _ (Nat.le_refl _) HU6d.out (by have := HLEN.out; omega)).mono ?_; rintro e7 w7 ⟨o7, rv7, rfl, ho7, hr7, hB7⟩
               have HL7 := Lib.hid (HL6d.out.below hB7 HL6d.out.lt)
               have HB7 := Lib.hid (HB6d.out.trans (hB7.mono HB6d.out.size))
               have HU7 := Lib.hid (HU6d.out.below hB7)
               have HW7 := Lib.hid (HW6d.out.grown hB7)
               have HR7 := Lib.hid hr7
               have K3 := Anss.every HL7.out)
            | (go_at_call 11; refine (agot_any v _ _ o7 rv7 bs 0 0 HR7.out hB7.size).mono ?_; rintro e8 w8 ⟨rfl, hr8, hB8, _⟩
               rw [HDEC.out.2]
               dsimp only [An.cells]
               have hB78 := hB7.trans hB8
               have HL8 := Lib.hid (HL6d.out.below hB78 HL6d.out.lt)
               have HB8 := Lib.hid (HB6d.out.trans (hB78.mono HB6d.out.size))
               have HU8 := Lib.hid (HU6d.out.below hB78)
               have HW8 := Lib.hid (HW6d.out.grown hB78)
               have K3 := Anss.every HL8.out)
            | (go_at_call 14; refine (wbytes_any _ _ _ u6 _ HW8.out (by have := HLEN.out; omega)).mono ?_; rintro e9 w9 ⟨u9, rfl, ho9, hB9⟩
               have HL9 := Lib.hid (HL8.out.below hB9 HL8.out.lt)
               have HB9 := Lib.hid (HB8.out.trans (hB9.mono HB8.out.size))
               have HU9 := Lib.hid (HU8.out.below hB9)
               have HO9 := Lib.hid ho9.reads
               have K3 := Anss.every HL9.out)
            | (go_at_call 13; refine (same_any u9 _ bs bs _ HO9.out HU9.out).mono ?_; rintro ea wa ⟨rfl, na, hwa⟩
               have hBa : Below w9.heap.size w9 wa := by rw [hwa]; exact drawn _ _
               have HLa := Lib.hid (HL9.out.below hBa HL9.out.lt)
               have HBa := Lib.hid (HB9.out.trans (hBa.mono HB9.out.size))
               have HUa := Lib.hid (HU9.out.below hBa)
               rw [show (bs == bs) = true by simp]
               have K3 := Anss.every HLa.out
               clear hwa hBa))
        all_goals
          obtain ⟨p0, p1, p2, p3, p4, p5⟩ := K3
          clear hneq
          go_wp2_with fail
          refine (adecode_any v _ bs _ HUa.out (by have := HLEN.out; omega)).mono ?_
          rintro e wb ⟨rfl, hBb⟩
          rw [HDEC.out.1]
          have HLb := Lib.hid (HLa.out.below hBb HLa.out.lt)
          have HBb := Lib.hid (HBa.out.trans (hBb.mono HBa.out.size))
          have HUb := Lib.hid (HUa.out.below hBb)
          clear hBb p0 p1 p2 p3 p4 p5
          go_wp2_with (refine store_ans (by rfl) _ _ (by rfl) wb.heap.size An.zero a (by rfl) (by rfl) (Lies.new _ _ _) ?_; intro wc hlc hgc; obtain ⟨p0, p1, p2, p3, p4, p5⟩ := Anss.every ((HLb.out.alloc _).kept hgc (by have := HLb.out.lt; simp; omega)))
          have hbc : Below wb.heap.size wb wc := ((Below.refl _ wb).alloc (Nat.le_refl _) _).grown hgc (by simp) (by rintro j hj; cases hj; exact Nat.le_refl _)
          have HLc := Lib.hid (HLb.out.below hbc HLb.out.lt)
          have HBc := Lib.hid (HBb.out.trans (hbc.mono HBb.out.size))
          have HUc := Lib.hid (HUb.out.below hbc)
          have HCc := Lib.hid hlc
          clear hbc hlc hgc
          refine (arefBytes_any v a _ HF.out (by have := HS.out; omega)).mono ?_
          rintro e wd ⟨ud, rfl, hod, hBd⟩
          rw [← HBS.out] at hod
          have HLd := Lib.hid (HLc.out.below hBd HLc.out.lt)
          have HCd := Lib.hid (HCc.out.below hBd HCc.out.lt)
          have HBd := Lib.hid (HBc.out.trans (hBd.mono HBc.out.size))
          have HUd := Lib.hid (HUc.out.below hBd)
          have HOd := Lib.hid hod.reads
          clear hBd hod p0 p1 p2 p3 p4 p5
          go_wp2_with fail
          refine (same_any _ ud bs bs _ HUd.out HOd.out).mono ?_
          rintro e we ⟨rfl, ne, hwe⟩
          have hBe : Below wd.heap.size wd we := by rw [hwe]; exact drawn _ _
          rw [show (bs == bs) = true by simp]
          obtain ⟨p0, p1, p2, p3, p4, p5⟩ := Anss.every (HLd.out.below hBe HLd.out.lt)
          obtain ⟨q0, q1, q2, q3, q4, q5⟩ := Anss.every (HCd.out.below hBe HCd.out.lt)
          have HBe := Lib.hid (HBd.out.trans (hBe.mono HBd.out.size))
          have heq := fun W => run_same_ans W a
          dsimp only [An.cells] at heq
          clear hBe hwe
          go_wp2_with fail
          refine (awakeA_any _ (HP.out.below HBe.out)).mono ?_
          rintro e wf ⟨rfl, hBf⟩
          go_wp2
          go_ret
          exact truly_of (HBe.out.trans (hBf.mono HBe.out.size))
      · have hrn : (a.rev != 0) = true := by simpa using hr
        have HE : Hid (y = 8) := by show _ = _; rw [HYZ3.out, if_pos ⟨by omega, hr⟩]
        clear h1 h2 hv hr
        have hyy : (y != 0) = true := by rw [HE.out]; simp
        go_wp2_with fail
        refine (aencode_any v a _ HF.out (by have := HS.out; omega)).mono ?_
        rintro e w4 ⟨hB4, u, rfl, hu⟩
        rw [← HY.out] at hu ⊢
        rw [if_neg (by rw [HE.out]; omega)] at hu
        obtain ⟨ao, cap, rfl⟩ := hu.shape
        rw [HE.out]
        have HB4 := Lib.hid (HB3.out.trans (hB4.mono HB3.out.size))
        clear hB4 hu p0 p1 p2 p3 p4 p5
        go_wp2_with fail
        refine (awakeA_any _ (HP.out.below HB4.out)).mono ?_
        rintro e w9 ⟨rfl, hB9⟩
        go_wp2
        go_ret
        exact truly_of (HB4.out.trans (hB9.mono HB4.out.size))
    · have hv1 : (v == 1) = false := by simpa using hv
      have HE : Hid (y = 0) := by show _ = _; rw [HYZ3.out, if_neg (by rintro ⟨h, _⟩; omega)]
      clear h1 h2 hv
      go_wp2_with fail
      refine (aencode_any v a _ HF.out (by have := HS.out; omega)).mono ?_
      rintro e w4 ⟨hB4, u, rfl, hu⟩
      rw [← HY.out] at hu ⊢
      rw [HE.out, if_pos rfl] at hu
      obtain ⟨ao, cap, rfl⟩ := hu.shape
      rw [HE.out]
      have hl4 := HL3.out.below hB4 HL3.out.lt
      obtain ⟨q0, q1, q2, q3, q4, q5⟩ := Anss.every hl4
      have HL4 := Lib.hid hl4
      have HB4 := Lib.hid (HB3.out.trans (hB4.mono HB3.out.size))
      have HU4 := Lib.hid hu
      have HLEN := Lib.hid (An.bytes_len v a HF.out (Nat.le_trans HS.out (Nat.le_refl _)) (by omega))
      have HDEC := Lib.hid (An.decode_bytes v a (HY.out.symm.trans HE.out) (by have := HS.out; omega))
      obtain ⟨bs, hbs⟩ : ∃ bs, bs = An.bytes v a := ⟨_, rfl⟩
      rw [← hbs] at HU4 HLEN HDEC ⊢
      have HBS := Lib.hid hbs
      clear hB4 hu hl4 hbs p0 p1 p2 p3 p4 p5
      obtain ⟨w5, e5, hw5, hB5⟩ : ∃ w5, w4.alloc (.cells #[.slice none 0 0] 32) = w5 ∧ Wrt w5 w4.heap.size w4.heap.size (.slice none 0 0) [] ∧ Below w4.heap.size w4 w5 :=
        ⟨_, rfl, Wr.fresh _ _ _ _ (Nat.le_refl _), (Below.refl _ _).alloc (Nat.le_refl _) _⟩
      have hl5 := HL4.out.below hB5 HL4.out.lt
      obtain ⟨p0, p1, p2, p3, p4, p5⟩ := Anss.every hl5
      have HL5 := Lib.hid hl5
      have HW5 := Lib.hid hw5
      have HU5 := Lib.hid (HU4.out.below hB5)
      have HB5 := Lib.hid (HB4.out.trans (hB5.mono HB4.out.size))
      have hz5 := hB5.size
      have hz4 := HL4.out.lt
      clear hB5 hl5 hw5 q0 q1 q2 q3 q4 q5
      go_wp2_with fail
      refine (aput_any v a _ w4.heap.size w4.heap.size _ HW5.out hz5 HF.out (by have := HS.out; omega)).mono ?_
      rintro e w6 ⟨rfl, u6, hw6, _, hB6⟩
      rw [← HBS.out] at hw6
      have hl6 := HL5.out.below hB6 hz4
      obtain ⟨q0, q1, q2, q3, q4, q5⟩ := Anss.every hl6
      have HL6 := Lib.hid hl6
      have HW6 := Lib.hid hw6
      have HU6 := Lib.hid (HU4.out.below ((Below.refl _ w4).alloc (Nat.le_refl _) (.cells #[.slice none 0 0] 32) |>.trans (e5 ▸ hB6)))
      have HB6 := Lib.hid (HB5.out.trans (hB6.mono (Nat.le_trans HB4.out.size (Nat.le_refl _))))
      clear hB6 hl6 hw6 p0 p1 p2 p3 p4 p5
      have hneq := fun W => run_neq_ans W a
      have hgd := guard_ans
      dsimp only [An.cells] at hneq
      have HL6d := Lib.hid (HL6.out.below (Below.refl _ _).drew HL6.out.lt)
      have HU6d := Lib.hid (HU6.out.below (Below.refl _ _).drew)
      have HW6d := Lib.hid (HW6.out.grown (Below.refl _ _).drew)
      have HB6d := Lib.hid HB6.out.drew
      go_wp2
      go_region_held3 (fun w' => w'.cell? ⟨w.heap.size, 0, none⟩ = some (.int .i64 a.client) ∧ w'.cell? ⟨w.heap.size, 1, none⟩ = some (.int .i64 a.seq) ∧ w'.cell? ⟨w.heap.size, 2, none⟩ = some (.int .i64 a.err) ∧ w'.cell? ⟨w.heap.size, 3, none⟩ = some (.bool a.found) ∧
        w'.cell? ⟨w.heap.size, 4, none⟩ = some (.string ⟨a.val.toArray⟩) ∧ w'.cell? ⟨w.heap.size, 5, none⟩ = some (.int .i64 a.rev)) (first | go_keep | exact K3) (first
          | (go_at_call 12; refine (newreader_any _ bs _ _ (Nat.le_refl _) HU6d.out (by have := HLEN.out; omega)).mono ?_; rintro e7 w7 ⟨o7, rv7, rfl, ho7, hr7, hB7⟩
             have HL7 := Lib.hid (HL6d.out.below hB7 HL6d.out.lt)
             have HB7 := Lib.hid (HB6d.out.trans (hB7.mono HB6d.out.size))
             have HU7 := Lib.hid (HU6d.out.below hB7)
             have HW7 := Lib.hid (HW6d.out.grown hB7)
             have HR7 := Lib.hid hr7
             have K3 := Anss.every HL7.out)
          | (go_at_call 11; refine (agot_any v _ _ o7 rv7 bs 0 0 HR7.out hB7.size).mono ?_; rintro e8 w8 ⟨rfl, hr8, hB8, _⟩
             rw [HDEC.out.2]
             dsimp only [An.cells]
             have hB78 := hB7.trans hB8
             have HL8 := Lib.hid (HL6d.out.below hB78 HL6d.out.lt)
             have HB8 := Lib.hid (HB6d.out.trans (hB78.mono HB6d.out.size))
             have HU8 := Lib.hid (HU6d.out.below hB78)
             have HW8 := Lib.hid (HW6d.out.grown hB78)
             have K3 := Anss.every HL8.out)
          | (go_at_call 14; refine (wbytes_any _ _ _ u6 _ HW8.out (by have := HLEN.out; omega)).mono ?_; rintro e9 w9 ⟨u9, rfl, ho9, hB9⟩
             have HL9 := Lib.hid (HL8.out.below hB9 HL8.out.lt)
             have HB9 := Lib.hid (HB8.out.trans (hB9.mono HB8.out.size))
             have HU9 := Lib.hid (HU8.out.below hB9)
             have HO9 := Lib.hid ho9.reads
             have K3 := Anss.every HL9.out)
          | (go_at_call 13; refine (same_any u9 _ bs bs _ HO9.out HU9.out).mono ?_; rintro ea wa ⟨rfl, na, hwa⟩
             have hBa : Below w9.heap.size w9 wa := by rw [hwa]; exact drawn _ _
             have HLa := Lib.hid (HL9.out.below hBa HL9.out.lt)
             have HBa := Lib.hid (HB9.out.trans (hBa.mono HB9.out.size))
             have HUa := Lib.hid (HU9.out.below hBa)
             rw [show (bs == bs) = true by simp]
             have K3 := Anss.every HLa.out
             clear hwa hBa))
      all_goals
        obtain ⟨p0, p1, p2, p3, p4, p5⟩ := K3
        clear hneq
        go_wp2_with fail
        refine (adecode_any v _ bs _ HUa.out (by have := HLEN.out; omega)).mono ?_
        rintro e wb ⟨rfl, hBb⟩
        rw [HDEC.out.1]
        have HLb := Lib.hid (HLa.out.below hBb HLa.out.lt)
        have HBb := Lib.hid (HBa.out.trans (hBb.mono HBa.out.size))
        have HUb := Lib.hid (HUa.out.below hBb)
        clear hBb p0 p1 p2 p3 p4 p5
        go_wp2_with (refine store_ans (by rfl) _ _ (by rfl) wb.heap.size An.zero a (by rfl) (by rfl) (Lies.new _ _ _) ?_; intro wc hlc hgc; obtain ⟨p0, p1, p2, p3, p4, p5⟩ := Anss.every ((HLb.out.alloc _).kept hgc (by have := HLb.out.lt; simp; omega)))
        have hbc : Below wb.heap.size wb wc := ((Below.refl _ wb).alloc (Nat.le_refl _) _).grown hgc (by simp) (by rintro j hj; cases hj; exact Nat.le_refl _)
        have HLc := Lib.hid (HLb.out.below hbc HLb.out.lt)
        have HBc := Lib.hid (HBb.out.trans (hbc.mono HBb.out.size))
        have HUc := Lib.hid (HUb.out.below hbc)
        have HCc := Lib.hid hlc
        clear hbc hlc hgc
        refine (arefBytes_any v a _ HF.out (by have := HS.out; omega)).mono ?_
        rintro e wd ⟨ud, rfl, hod, hBd⟩
        rw [← HBS.out] at hod
        have HLd := Lib.hid (HLc.out.below hBd HLc.out.lt)
        have HCd := Lib.hid (HCc.out.below hBd HCc.out.lt)
        have HBd := Lib.hid (HBc.out.trans (hBd.mono HBc.out.size))
        have HUd := Lib.hid (HUc.out.below hBd)
        have HOd := Lib.hid hod.reads
        clear hBd hod p0 p1 p2 p3 p4 p5
        go_wp2_with fail
        refine (same_any _ ud bs bs _ HUd.out HOd.out).mono ?_
        rintro e we ⟨rfl, ne, hwe⟩
        have hBe : Below wd.heap.size wd we := by rw [hwe]; exact drawn _ _
        rw [show (bs == bs) = true by simp]
        obtain ⟨p0, p1, p2, p3, p4, p5⟩ := Anss.every (HLd.out.below hBe HLd.out.lt)
        obtain ⟨q0, q1, q2, q3, q4, q5⟩ := Anss.every (HCd.out.below hBe HCd.out.lt)
        have HBe := Lib.hid (HBd.out.trans (hBe.mono HBd.out.size))
        have heq := fun W => run_same_ans W a
        dsimp only [An.cells] at heq
        clear hBe hwe
        go_wp2_with fail
        refine (awakeA_any _ (HP.out.below HBe.out)).mono ?_
        rintro e wf ⟨rfl, hBf⟩
        go_wp2
        go_ret
        exact truly_of (HBe.out.trans (hBf.mono HBe.out.size))

end Go.Proofs.YtomdnhlcafpbfaaDoor
