/- The law AnswerTexts. -/
import Derived.Test.YtomdnhlcafpbfaaDoorAnsHear
import Derived.Test.YtomdnhlcafpbfaaDoorAnsRefT
import Derived.Test.YtomdnhlcafpbfaaDoorAnsRef
namespace Go.Proofs.YtomdnhlcafpbfaaDoor
open Go.RowKit

/-- What the law asks of a text: it leads to an answer that has it, or to none. -/
def ALeads (s : ByteArray) (y : An.Ans) (f : Int) : Prop := (f = 0 ∧ An.check y = 0 ∧ An.text y = s.data.toList ∧ y.val.length ≤ 4000000) ∨ (f = 3 ∧ y = An.zero)
theorem aleads_of (s : ByteArray) (hs : s.size ≤ 1000000) : ALeads s (An.parse s).1 (An.parse s).2 := by
  by_cases h : (An.parse s).2 = 0
  · obtain ⟨h1, h2⟩ := An.parse_ok s h
    exact .inl ⟨h, h1, h2, by have := (An.parse_inv s).2; omega⟩
  · have := An.parse_none s h
    rw [this]
    exact .inr ⟨rfl, rfl⟩

set_option maxRecDepth 4000 in
set_option maxHeartbeats 6400000 in
theorem answerTexts_any (a : An.Ans) (s : ByteArray) (w : World) (hp : PowIn w) (he : ErrsIn w) (hl : a.val.length ≤ 9223372036854775807) (hf : a.Fits) (hsm : s.size ≤ 9223372036854775807) :
    Calls Tryd.prog 5 #[.agg (An.cells a), .string s] w (Truly w) := by
  obtain ⟨w1, e1, hl1, hB1, hz1⟩ := box_ans w a
  obtain ⟨p0, p1, p2, p3, p4, p5⟩ := Anss.every hl1
  have k4 := str_size a.val
  obtain ⟨L, hL⟩ : ∃ L, L = a.val.length := ⟨_, rfl⟩
  rw [← hL] at k4
  have hl0 : L ≤ 9223372036854775807 := by rw [hL]; exact hl
  have HL1 := Lib.hid hl1; have HB1 := Lib.hid hB1
  have HP := Lib.hid hp; have HE := Lib.hid he; have HFF := Lib.hid hf; have HLL := Lib.hid hL
  have HAW := Lib.hid (fun W (h : Below w.heap.size w W) => awakeA_any W (HP.out.below h))
  clear hl1 hB1 hz1 hp he hf hL hl
  by_cases h3 : 300 < L
  · have d3 : decide ((300 : Int) < (L : Int)) = true := by simp; omega
    go_enter Tryd.func5, Tryd.ntmps5
    go_wp2_with fail
    refine (HAW.out _ HB1.out).mono ?_
    rintro e w3 ⟨rfl, hB3⟩
    go_wp2
    go_ret
    exact truly_of (HB1.out.trans (hB3.mono HB1.out.size))
  · have d3 : decide ((300 : Int) < (L : Int)) = false := by simp; omega
    have HS : Hid (a.val.length ≤ 300) := by show _ ≤ _; rw [← HLL.out]; omega
    clear h3
    by_cases h4 : 300 < s.size
    · have d4 : decide ((300 : Int) < (s.size : Int)) = true := by simp; omega
      go_enter Tryd.func5, Tryd.ntmps5
      go_wp2_with fail
      refine (HAW.out _ HB1.out).mono ?_
      rintro e w3 ⟨rfl, hB3⟩
      go_wp2
      go_ret
      exact truly_of (HB1.out.trans (hB3.mono HB1.out.size))
    · have d4 : decide ((300 : Int) < (s.size : Int)) = false := by simp; omega
      have HYS := Lib.hid (aleads_of s (by omega))
      have HSS : Hid (s.size ≤ 1000000) := by show _ ≤ _; omega
      clear h4 hsm
      obtain ⟨T, hT⟩ : ∃ T, T = ByteArray.mk (An.text a).toArray := ⟨_, rfl⟩
      have HTE : Hid (T = ByteArray.mk (An.text a).toArray) := hT
      have HTS : Hid (T.size ≤ 1000000) := by
        show _ ≤ _
        rw [hT, str_size]
        unfold An.text
        split
        · have := An.line_len a HFF.out HS.out; omega
        · simp
      have hTT : (T.toList == T.toList) = true := by simp
      obtain ⟨z, hz⟩ : ∃ z, z = An.check a := ⟨_, rfl⟩
      have HZ := Lib.hid hz
      clear hT hz
      go_enter Tryd.func5, Tryd.ntmps5
      go_wp2_with fail
      refine (arefCheck_any a _ (by have := HS.out; omega)).mono ?_
      rintro e w2 ⟨rfl, hB2⟩
      rw [← HZ.out]
      have hl2 := HL1.out.below hB2 HL1.out.lt
      obtain ⟨q0, q1, q2, q3, q4, q5⟩ := Anss.every hl2
      have HL3 := Lib.hid hl2
      have HB3 := Lib.hid (HB1.out.trans (hB2.mono HB1.out.size))
      clear hB2 hl2 p0 p1 p2 p3 p4 p5
      by_cases h0 : z = 0
      · have hz0 : (z == 0) = true := by simpa using h0
        have hzc : An.check a = 0 := HZ.out.symm.trans h0
        have HZC := Lib.hid hzc
        have HPT : Hid (An.parse T = (a, 0)) := by show _ = _; rw [HTE.out]; exact An.parse_text a hzc
        have hTe : T.toList.isEmpty = false := by rw [HTE.out, str_empty]; exact decide_eq_false (An.text_ne a hzc)
        clear h0 hzc
        go_wp2_with fail
        refine (arefText_any a _ HZC.out (by have := HS.out; omega)).mono ?_
        rintro e w4 ⟨rfl, hB4⟩
        rw [← HTE.out]
        have HL4 := Lib.hid (HL3.out.below hB4 HL3.out.lt)
        have HB4 := Lib.hid (HB3.out.trans (hB4.mono HB3.out.size))
        clear hB4 q0 q1 q2 q3 q4 q5
        go_wp2_with fail
        refine (aparse_any T _ (HP.out.below HB4.out) (HE.out.below HB4.out) HTS.out).mono ?_
        rintro e w5 ⟨rfl, hB5⟩
        rw [HPT.out]
        have HL5 := Lib.hid (HL4.out.below hB5 HL4.out.lt)
        have HB5 := Lib.hid (HB4.out.trans (hB5.mono HB4.out.size))
        clear hB5
        go_wp2_with (refine store_ans (by rfl) _ _ (by rfl) w5.heap.size An.zero a (by rfl) (by rfl) (Lies.new _ _ _) ?_; intro w6 hl6 hg6)
        have hb6 : Below w5.heap.size w5 w6 := ((Below.refl _ w5).alloc (Nat.le_refl _) _).grown hg6 (by simp) (by rintro j hj; cases hj; exact Nat.le_refl _)
        have HL6 := Lib.hid (HL5.out.below hb6 HL5.out.lt)
        have HX6 := Lib.hid hl6
        have HB6 := Lib.hid (HB5.out.trans (hb6.mono HB5.out.size))
        clear hb6 hl6 hg6
        refine (aparse_any s _ (HP.out.below HB6.out) (HE.out.below HB6.out) HSS.out).mono ?_
        rintro e w7 ⟨rfl, hB7⟩
        obtain ⟨r, hr⟩ : ∃ r, r = An.parse s := ⟨_, rfl⟩
        rw [← hr] at HYS ⊢
        clear hr
        obtain ⟨y, f⟩ := r
        dsimp only at HYS ⊢
        have HL7 := Lib.hid (HL6.out.below hB7 HL6.out.lt)
        have HB7 := Lib.hid (HB6.out.trans (hB7.mono HB6.out.size))
        have HX7 := Lib.hid (HX6.out.below hB7 HX6.out.lt)
        clear hB7
        go_wp2_with (refine store_ans (by rfl) _ _ (by rfl) w7.heap.size An.zero y (by rfl) (by rfl) (Lies.new _ _ _) ?_; intro w8 hl8 hg8; obtain ⟨p0, p1, p2, p3, p4, p5⟩ := Anss.every ((HL7.out.alloc _).kept hg8 (by have := HL7.out.lt; simp; omega)))
        have hb8 : Below w7.heap.size w7 w8 := ((Below.refl _ w7).alloc (Nat.le_refl _) _).grown hg8 (by simp) (by rintro j hj; cases hj; exact Nat.le_refl _)
        have HL8 := Lib.hid (HL7.out.below hb8 HL7.out.lt)
        have HX8 := Lib.hid (HX7.out.below hb8 HX7.out.lt)
        have HY8 := Lib.hid hl8
        have HB8 := Lib.hid (HB7.out.trans (hb8.mono HB7.out.size))
        clear hb8 hl8 hg8
        refine (atext_any a _ (HP.out.below HB8.out) HFF.out (by have := HS.out; omega)).mono ?_
        rintro e w9 ⟨rfl, hB9⟩
        rw [← HTE.out]
        obtain ⟨q0, q1, q2, q3, q4, q5⟩ := Anss.every (HL8.out.below hB9 HL8.out.lt)
        obtain ⟨x0, x1, x2, x3, x4, x5⟩ := Anss.every (HX8.out.below hB9 HX8.out.lt)
        have HY9 := Lib.hid (HY8.out.below hB9 HY8.out.lt)
        have HB9 := Lib.hid (HB8.out.trans (hB9.mono HB8.out.size))
        have hneq := fun W => run_neq_ans W a
        have hgd := guard_ans
        dsimp only [An.cells] at hneq
        clear hB9 p0 p1 p2 p3 p4 p5
        rcases HYS.out with ⟨rfl, hyc, hyt, hys⟩ | ⟨rfl, rfl⟩
        · have HYC := Lib.hid hyc
          have HYT : Hid (ByteArray.mk (An.text y).toArray = s) := by show _ = _; rw [hyt]
          have HYH := Lib.hid hys
          have hss : (s.toList == s.toList) = true := by simp
          obtain ⟨y0, y1, y2, y3, y4, y5⟩ := Anss.every HY9.out
          clear hyc hyt hys HYS
          go_wp2_with fail
          refine (arefCheck_any y _ (by have := HYH.out; omega)).mono ?_
          rintro e wa ⟨rfl, hBa⟩
          rw [HYC.out]
          have HYa := Lib.hid (HY9.out.below hBa HY9.out.lt)
          have HBa := Lib.hid (HB9.out.trans (hBa.mono HB9.out.size))
          obtain ⟨m0, m1, m2, m3, m4, m5⟩ := Anss.every HYa.out
          clear hBa y0 y1 y2 y3 y4 y5
          go_wp2_with fail
          refine (arefText_any y _ HYC.out HYH.out).mono ?_
          rintro e wb ⟨rfl, hBb⟩
          rw [HYT.out]
          have HBb := Lib.hid (HBa.out.trans (hBb.mono HBa.out.size))
          clear hBb
          go_wp2_with fail
          refine (HAW.out _ HBb.out).mono ?_
          rintro e wc ⟨rfl, hBc⟩
          go_wp2
          go_ret
          exact truly_of (HBb.out.trans (hBc.mono HBb.out.size))
        · have y0 : w9.cell? ⟨w7.heap.size, 0, none⟩ = some (.int .i64 0) := HY9.out.cell 0 _ rfl
          have y1 : w9.cell? ⟨w7.heap.size, 1, none⟩ = some (.int .i64 0) := HY9.out.cell 1 _ rfl
          have y2 : w9.cell? ⟨w7.heap.size, 2, none⟩ = some (.int .i64 0) := HY9.out.cell 2 _ rfl
          have y3 : w9.cell? ⟨w7.heap.size, 3, none⟩ = some (.bool false) := HY9.out.cell 3 _ rfl
          have y4 : w9.cell? ⟨w7.heap.size, 4, none⟩ = some (.string ⟨#[]⟩) := HY9.out.cell 4 _ rfl
          have y5 : w9.cell? ⟨w7.heap.size, 5, none⟩ = some (.int .i64 0) := HY9.out.cell 5 _ rfl
          clear HYS
          go_wp2_with fail
          refine (HAW.out _ HB9.out).mono ?_
          rintro e wc ⟨rfl, hBc⟩
          go_wp2
          go_ret
          exact truly_of (HB9.out.trans (hBc.mono HB9.out.size))
      · have HTZ : Hid (An.text a = []) := by show _ = _; unfold An.text; rw [if_neg (by rw [← HZ.out]; exact h0)]
        have heq0 : (z == 0) = false := by simpa using h0
        clear h0
        go_wp2_with fail
        refine (aparse_any ⟨#[]⟩ _ (HP.out.below HB3.out) (HE.out.below HB3.out) (by decide)).mono ?_
        rintro e w5 ⟨rfl, hB5⟩
        rw [An.parse_empty]
        have HL5 := Lib.hid (HL3.out.below hB5 HL3.out.lt)
        have HB5 := Lib.hid (HB3.out.trans (hB5.mono HB3.out.size))
        clear hB5 q0 q1 q2 q3 q4 q5
        go_wp2_with (refine store_ans (by rfl) _ _ (by rfl) w5.heap.size An.zero An.zero (by rfl) (by rfl) (Lies.new _ _ _) ?_; intro w6 hl6 hg6)
        have hb6 : Below w5.heap.size w5 w6 := ((Below.refl _ w5).alloc (Nat.le_refl _) _).grown hg6 (by simp) (by rintro j hj; cases hj; exact Nat.le_refl _)
        have HL6 := Lib.hid (HL5.out.below hb6 HL5.out.lt)
        have HB6 := Lib.hid (HB5.out.trans (hb6.mono HB5.out.size))
        clear hb6 hl6 hg6
        refine (aparse_any s _ (HP.out.below HB6.out) (HE.out.below HB6.out) HSS.out).mono ?_
        rintro e w7 ⟨rfl, hB7⟩
        obtain ⟨r, hr⟩ : ∃ r, r = An.parse s := ⟨_, rfl⟩
        rw [← hr] at HYS ⊢
        clear hr
        obtain ⟨y, f⟩ := r
        dsimp only at HYS ⊢
        have HL7 := Lib.hid (HL6.out.below hB7 HL6.out.lt)
        have HB7 := Lib.hid (HB6.out.trans (hB7.mono HB6.out.size))
        clear hB7
        go_wp2_with (refine store_ans (by rfl) _ _ (by rfl) w7.heap.size An.zero y (by rfl) (by rfl) (Lies.new _ _ _) ?_; intro w8 hl8 hg8; obtain ⟨p0, p1, p2, p3, p4, p5⟩ := Anss.every ((HL7.out.alloc _).kept hg8 (by have := HL7.out.lt; simp; omega)))
        have hb8 : Below w7.heap.size w7 w8 := ((Below.refl _ w7).alloc (Nat.le_refl _) _).grown hg8 (by simp) (by rintro j hj; cases hj; exact Nat.le_refl _)
        have HL8 := Lib.hid (HL7.out.below hb8 HL7.out.lt)
        have HY8 := Lib.hid hl8
        have HB8 := Lib.hid (HB7.out.trans (hb8.mono HB7.out.size))
        clear hb8 hl8 hg8
        refine (atext_any a _ (HP.out.below HB8.out) HFF.out (by have := HS.out; omega)).mono ?_
        rintro e w9 ⟨rfl, hB9⟩
        rw [HTZ.out]
        have HY9 := Lib.hid (HY8.out.below hB9 HY8.out.lt)
        have HB9 := Lib.hid (HB8.out.trans (hB9.mono HB8.out.size))
        have hgd := guard_ans
        clear hB9 p0 p1 p2 p3 p4 p5
        rcases HYS.out with ⟨rfl, hyc, hyt, hys⟩ | ⟨rfl, rfl⟩
        · have HYC := Lib.hid hyc
          have HYT : Hid (ByteArray.mk (An.text y).toArray = s) := by show _ = _; rw [hyt]
          have HYH := Lib.hid hys
          have hss : (s.toList == s.toList) = true := by simp
          obtain ⟨y0, y1, y2, y3, y4, y5⟩ := Anss.every HY9.out
          clear hyc hyt hys HYS
          go_wp2_with fail
          refine (arefCheck_any y _ (by have := HYH.out; omega)).mono ?_
          rintro e wa ⟨rfl, hBa⟩
          rw [HYC.out]
          have HYa := Lib.hid (HY9.out.below hBa HY9.out.lt)
          have HBa := Lib.hid (HB9.out.trans (hBa.mono HB9.out.size))
          obtain ⟨m0, m1, m2, m3, m4, m5⟩ := Anss.every HYa.out
          clear hBa y0 y1 y2 y3 y4 y5
          go_wp2_with fail
          refine (arefText_any y _ HYC.out HYH.out).mono ?_
          rintro e wb ⟨rfl, hBb⟩
          rw [HYT.out]
          have HBb := Lib.hid (HBa.out.trans (hBb.mono HBa.out.size))
          clear hBb
          go_wp2_with fail
          refine (HAW.out _ HBb.out).mono ?_
          rintro e wc ⟨rfl, hBc⟩
          go_wp2
          go_ret
          exact truly_of (HBb.out.trans (hBc.mono HBb.out.size))
        · have y0 : w9.cell? ⟨w7.heap.size, 0, none⟩ = some (.int .i64 0) := HY9.out.cell 0 _ rfl
          have y1 : w9.cell? ⟨w7.heap.size, 1, none⟩ = some (.int .i64 0) := HY9.out.cell 1 _ rfl
          have y2 : w9.cell? ⟨w7.heap.size, 2, none⟩ = some (.int .i64 0) := HY9.out.cell 2 _ rfl
          have y3 : w9.cell? ⟨w7.heap.size, 3, none⟩ = some (.bool false) := HY9.out.cell 3 _ rfl
          have y4 : w9.cell? ⟨w7.heap.size, 4, none⟩ = some (.string ⟨#[]⟩) := HY9.out.cell 4 _ rfl
          have y5 : w9.cell? ⟨w7.heap.size, 5, none⟩ = some (.int .i64 0) := HY9.out.cell 5 _ rfl
          clear HYS
          go_wp2_with fail
          refine (HAW.out _ HB9.out).mono ?_
          rintro e wc ⟨rfl, hBc⟩
          go_wp2
          go_ret
          exact truly_of (HB9.out.trans (hBc.mono HB9.out.size))

end Go.Proofs.YtomdnhlcafpbfaaDoor
