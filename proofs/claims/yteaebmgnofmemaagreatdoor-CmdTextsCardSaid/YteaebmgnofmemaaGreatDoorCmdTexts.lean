/- The law CmdTexts. -/
import Derived.Test.YteaebmgnofmemaaGreatDoorCmdRefT
import Derived.Test.YteaebmgnofmemaaGreatDoorCmdCame
import Derived.Test.YteaebmgnofmemaaGreatDoorCmdHas
namespace Go.Proofs.YteaebmgnofmemaaGreatDoor
open Go.RowKit

theorem run_neq_one (w : World) (c : Cm.Cmd) : (binOp .neq 23 (.agg (Cm.cells c)) (.agg (Cm.cells c))).run Tryz.prog w = .ok (.bool false) w := by
  have hu := Tryz.underlying23
  obtain ⟨k, cl, sq, nd, ky, od, vl⟩ := c
  dsimp only [Cm.cells]
  go_simp

/-- What the law asks of a text: it leads to a command that has it, or to none. -/
def Leads (s : ByteArray) (y : Cm.Cmd) (f : Int) : Prop := (f = 0 ∧ Cm.check y = 0 ∧ Cm.text y = s.data.toList ∧ y.Short 4000000 ∧ y.Fits) ∨ (f = 3 ∧ y = Cm.zero)
theorem leads_of (s : ByteArray) (hs : s.size ≤ 1000000) : Leads s (Cm.parse s).1 (Cm.parse s).2 := by
  by_cases h : (Cm.parse s).2 = 0
  · obtain ⟨h1, h2⟩ := Cm.parse_ok s h
    exact .inl ⟨h, h1, h2, (Cm.parse_inv s).2.mono (by omega), (Cm.parse_inv s).1⟩
  · have := Cm.parse_none s h
    rw [this]
    exact .inr ⟨rfl, rfl⟩

set_option maxRecDepth 4000 in
set_option maxHeartbeats 3200000 in
theorem cmdTexts_any (c : Cm.Cmd) (s : ByteArray) (w : World) (hv : WordsIn w) (hp : PowIn w) (he : ErrsIn w) (hl : c.Short 9223372036854775807) (hf : c.Fits) (hsm : s.size ≤ 9223372036854775807) :
    Calls Tryz.prog 3 #[.agg (Cm.cells c), .string s] w (Truly w) := by
  obtain ⟨w1, e1, hl1, hB1, hz1⟩ := box_cmd w c
  obtain ⟨p0, p1, p2, p3, p4, p5, p6⟩ := Cmds.all hl1
  have HL1 := Lib.hid hl1; have HB1 := Lib.hid hB1
  have HV := Lib.hid hv; have HP := Lib.hid hp; have HE := Lib.hid he
  have HAW := Lib.hid (fun W (h : Below w.heap.size w W) => awake_any W (HV.out.below h) (HP.out.below h))
  clear hl1 hB1 hz1 hv hp he
  go_enter Tryz.func3, Tryz.ntmps3
  go_wp2_with fail
  refine (large_any c _ hl).mono ?_
  rintro e w2 ⟨rfl, hB2⟩
  obtain ⟨t, ht⟩ : ∃ t, t = (decide (300 < c.key.length) || (decide (300 < c.old.length) || decide (300 < c.val.length))) := ⟨_, rfl⟩
  rw [← ht]
  have HT := Lib.hid ht
  have hl2 := HL1.out.below hB2 HL1.out.lt
  obtain ⟨q0, q1, q2, q3, q4, q5, q6⟩ := Cmds.all hl2
  have HL2 := Lib.hid hl2
  have HB2 := Lib.hid (HB1.out.trans (hB2.mono HB1.out.size))
  clear ht hB2 hl2 p0 p1 p2 p3 p4 p5 p6
  cases t with
  | true =>
    go_wp2_with fail
    refine (HAW.out _ HB2.out).mono ?_
    rintro e w3 ⟨rfl, hB3⟩
    go_wp2
    go_ret
    exact truly_of (HB2.out.trans (hB3.mono HB2.out.size))
  | false =>
    by_cases h3 : 300 < s.size
    · have d3 : decide ((300 : Int) < (s.size : Int)) = true := by simp; omega
      go_wp2_with fail
      refine (HAW.out _ HB2.out).mono ?_
      rintro e w3 ⟨rfl, hB3⟩
      go_wp2
      go_ret
      exact truly_of (HB2.out.trans (hB3.mono HB2.out.size))
    · have d3 : decide ((300 : Int) < (s.size : Int)) = false := by simp; omega
      have HS := Lib.hid (Cm.short_of HT.out.symm)
      obtain ⟨T, hT⟩ : ∃ T, T = ByteArray.mk (Cm.text c).toArray := ⟨_, rfl⟩
      have HTE : Hid (T = ByteArray.mk (Cm.text c).toArray) := hT
      have HTS : Hid (T.size ≤ 1000000) := by
        show _ ≤ _
        rw [hT, str_size]
        unfold Cm.text
        split
        · have := Cm.line_len c hf HS.out; omega
        · simp
      have HYS := Lib.hid (leads_of s (by omega))
      have HSS : Hid (s.size ≤ 1000000) := by show _ ≤ _; omega
      have HFF := Lib.hid hf
      have hTT : (T.toList == T.toList) = true := by simp
      clear hT hf h3 hsm
      go_wp2_with fail
      refine (refCheck_any c _ (HS.out.mono (by omega))).mono ?_
      rintro e w3 ⟨rfl, hB3⟩
      have hl3 := HL2.out.below hB3 HL2.out.lt
      obtain ⟨p0, p1, p2, p3, p4, p5, p6⟩ := Cmds.all hl3
      have HL3 := Lib.hid hl3
      have HB3 := Lib.hid (HB2.out.trans (hB3.mono HB2.out.size))
      clear hB3 hl3 q0 q1 q2 q3 q4 q5 q6
      obtain ⟨z, hz⟩ : ∃ z, z = Cm.check c := ⟨_, rfl⟩
      rw [← hz]
      have HZ := Lib.hid hz
      clear hz
      by_cases h0 : z = 0
      · subst h0
        have HPT : Hid (Cm.parse T = (c, 0)) := by show _ = _; rw [HTE.out]; exact Cm.parse_text c HZ.out.symm
        have hTe : T.toList.isEmpty = false := by rw [HTE.out, str_empty]; exact decide_eq_false (Cm.text_ne c HZ.out.symm)
        go_wp2_with fail
        refine (refText_any c _ HZ.out.symm (HS.out.mono (by omega)) HFF.out).mono ?_
        rintro e w4 ⟨rfl, hB4⟩
        rw [← HTE.out]
        have HL4 := Lib.hid (HL3.out.below hB4 HL3.out.lt)
        have HB4 := Lib.hid (HB3.out.trans (hB4.mono HB3.out.size))
        clear hB4 p0 p1 p2 p3 p4 p5 p6
        go_wp2_with fail
        refine (parse_any T _ (HV.out.below HB4.out) (HP.out.below HB4.out) (HE.out.below HB4.out) HTS.out).mono ?_
        rintro e w5 ⟨rfl, hB5⟩
        rw [HPT.out]
        have HL5 := Lib.hid (HL4.out.below hB5 HL4.out.lt)
        have HB5 := Lib.hid (HB4.out.trans (hB5.mono HB4.out.size))
        clear hB5
        go_wp2_with (refine store_cmd (by rfl) _ _ (by rfl) w5.heap.size Cm.zero c (by rfl) (by rfl) (Lies.new _ _ _) ?_; intro w6 hl6 hg6)
        have hb6 : Below w5.heap.size w5 w6 := ((Below.refl _ w5).alloc (Nat.le_refl _) _).grown hg6 (by simp) (by rintro j hj; cases hj; exact Nat.le_refl _)
        have HL6 := Lib.hid (HL5.out.below hb6 HL5.out.lt)
        have HX6 := Lib.hid hl6
        have HB6 := Lib.hid (HB5.out.trans (hb6.mono HB5.out.size))
        clear hb6 hl6 hg6
        refine (parse_any s _ (HV.out.below HB6.out) (HP.out.below HB6.out) (HE.out.below HB6.out) HSS.out).mono ?_
        rintro e w7 ⟨rfl, hB7⟩
        obtain ⟨r, hr⟩ : ∃ r, r = Cm.parse s := ⟨_, rfl⟩
        rw [← hr] at HYS ⊢
        clear hr
        obtain ⟨y, f⟩ := r
        dsimp only at HYS ⊢
        have HL7 := Lib.hid (HL6.out.below hB7 HL6.out.lt)
        have HX7 := Lib.hid (HX6.out.below hB7 HX6.out.lt)
        have HB7 := Lib.hid (HB6.out.trans (hB7.mono HB6.out.size))
        clear hB7
        go_wp2_with (refine store_cmd (by rfl) _ _ (by rfl) w7.heap.size Cm.zero y (by rfl) (by rfl) (Lies.new _ _ _) ?_; intro w8 hl8 hg8; obtain ⟨p0, p1, p2, p3, p4, p5, p6⟩ := Cmds.all ((HL7.out.alloc _).kept hg8 (by have := HL7.out.lt; simp; omega)))
        have hb8 : Below w7.heap.size w7 w8 := ((Below.refl _ w7).alloc (Nat.le_refl _) _).grown hg8 (by simp) (by rintro j hj; cases hj; exact Nat.le_refl _)
        have HL8 := Lib.hid (HL7.out.below hb8 HL7.out.lt)
        have HX8 := Lib.hid (HX7.out.below hb8 HX7.out.lt)
        have HY8 := Lib.hid hl8
        have HB8 := Lib.hid (HB7.out.trans (hb8.mono HB7.out.size))
        clear hb8 hl8 hg8
        refine (text_any c _ (HV.out.below HB8.out) (HP.out.below HB8.out) HFF.out (HS.out.mono (by omega))).mono ?_
        rintro e w9 ⟨rfl, hB9⟩
        rw [← HTE.out]
        obtain ⟨q0, q1, q2, q3, q4, q5, q6⟩ := Cmds.all (HL8.out.below hB9 HL8.out.lt)
        obtain ⟨x0, x1, x2, x3, x4, x5, x6⟩ := Cmds.all (HX8.out.below hB9 HX8.out.lt)
        have HY9 := Lib.hid (HY8.out.below hB9 HY8.out.lt)
        have HB9 := Lib.hid (HB8.out.trans (hB9.mono HB8.out.size))
        have hneq := fun W => run_neq_one W c
        have hgd := guard_cmd
        dsimp only [Cm.cells] at hneq
        clear hB9 p0 p1 p2 p3 p4 p5 p6
        rcases HYS.out with ⟨rfl, hyc, hyt, hys, hyf⟩ | ⟨rfl, rfl⟩
        · have HYC := Lib.hid hyc
          have HYT : Hid (ByteArray.mk (Cm.text y).toArray = s) := by show _ = _; rw [hyt]
          have HYH := Lib.hid hys; have HYF := Lib.hid hyf
          have hss : (s.toList == s.toList) = true := by simp
          obtain ⟨y0, y1, y2, y3, y4, y5, y6⟩ := Cmds.all HY9.out
          clear hyc hyt hys hyf HYS
          go_wp2_with fail
          refine (refCheck_any y _ (HYH.out.mono (by omega))).mono ?_
          rintro e wa ⟨rfl, hBa⟩
          rw [HYC.out]
          have HYa := Lib.hid (HY9.out.below hBa HY9.out.lt)
          have HBa := Lib.hid (HB9.out.trans (hBa.mono HB9.out.size))
          obtain ⟨m0, m1, m2, m3, m4, m5, m6⟩ := Cmds.all HYa.out
          clear hBa y0 y1 y2 y3 y4 y5 y6
          go_wp2_with fail
          refine (refText_any y _ HYC.out HYH.out HYF.out).mono ?_
          rintro e wb ⟨rfl, hBb⟩
          rw [HYT.out]
          have HBb := Lib.hid (HBa.out.trans (hBb.mono HBa.out.size))
          clear hBb
          go_wp2_with fail
          refine (HAW.out _ HBb.out).mono ?_
          rintro e wc ⟨rfl, hBc⟩
          go_wp2
          go_ret
          exact truly_of (HBb.out.trans (hBc.mono HBb.out.size))
        · have y0 : w9.cell? ⟨w7.heap.size, 0, none⟩ = some (.int .i64 0) := HY9.out.cell 0 _ rfl
          have y1 : w9.cell? ⟨w7.heap.size, 1, none⟩ = some (.int .i64 0) := HY9.out.cell 1 _ rfl
          have y2 : w9.cell? ⟨w7.heap.size, 2, none⟩ = some (.int .i64 0) := HY9.out.cell 2 _ rfl
          have y3 : w9.cell? ⟨w7.heap.size, 3, none⟩ = some (.string ⟨#[]⟩) := HY9.out.cell 3 _ rfl
          have y4 : w9.cell? ⟨w7.heap.size, 4, none⟩ = some (.string ⟨#[]⟩) := HY9.out.cell 4 _ rfl
          have y5 : w9.cell? ⟨w7.heap.size, 5, none⟩ = some (.string ⟨#[]⟩) := HY9.out.cell 5 _ rfl
          have y6 : w9.cell? ⟨w7.heap.size, 6, none⟩ = some (.int .i64 0) := HY9.out.cell 6 _ rfl
          clear HYS
          go_wp2_with fail
          refine (HAW.out _ HB9.out).mono ?_
          rintro e wc ⟨rfl, hBc⟩
          go_wp2
          go_ret
          exact truly_of (HB9.out.trans (hBc.mono HB9.out.size))
      · have HTZ : Hid (Cm.text c = []) := by show _ = _; unfold Cm.text; rw [if_neg (by rw [← HZ.out]; exact h0)]
        have heq0 : (z == 0) = false := by simpa using h0
        go_wp2_with fail
        refine (parse_any ⟨#[]⟩ _ (HV.out.below HB3.out) (HP.out.below HB3.out) (HE.out.below HB3.out) (by decide)).mono ?_
        rintro e w5 ⟨rfl, hB5⟩
        rw [Cm.parse_empty]
        have HL5 := Lib.hid (HL3.out.below hB5 HL3.out.lt)
        have HB5 := Lib.hid (HB3.out.trans (hB5.mono HB3.out.size))
        clear hB5 p0 p1 p2 p3 p4 p5 p6
        go_wp2_with (refine store_cmd (by rfl) _ _ (by rfl) w5.heap.size Cm.zero Cm.zero (by rfl) (by rfl) (Lies.new _ _ _) ?_; intro w6 hl6 hg6)
        have hb6 : Below w5.heap.size w5 w6 := ((Below.refl _ w5).alloc (Nat.le_refl _) _).grown hg6 (by simp) (by rintro j hj; cases hj; exact Nat.le_refl _)
        have HL6 := Lib.hid (HL5.out.below hb6 HL5.out.lt)
        have HB6 := Lib.hid (HB5.out.trans (hb6.mono HB5.out.size))
        clear hb6 hl6 hg6
        refine (parse_any s _ (HV.out.below HB6.out) (HP.out.below HB6.out) (HE.out.below HB6.out) HSS.out).mono ?_
        rintro e w7 ⟨rfl, hB7⟩
        obtain ⟨r, hr⟩ : ∃ r, r = Cm.parse s := ⟨_, rfl⟩
        rw [← hr] at HYS ⊢
        clear hr
        obtain ⟨y, f⟩ := r
        dsimp only at HYS ⊢
        have HL7 := Lib.hid (HL6.out.below hB7 HL6.out.lt)
        have HB7 := Lib.hid (HB6.out.trans (hB7.mono HB6.out.size))
        clear hB7
        go_wp2_with (refine store_cmd (by rfl) _ _ (by rfl) w7.heap.size Cm.zero y (by rfl) (by rfl) (Lies.new _ _ _) ?_; intro w8 hl8 hg8; obtain ⟨p0, p1, p2, p3, p4, p5, p6⟩ := Cmds.all ((HL7.out.alloc _).kept hg8 (by have := HL7.out.lt; simp; omega)))
        have hb8 : Below w7.heap.size w7 w8 := ((Below.refl _ w7).alloc (Nat.le_refl _) _).grown hg8 (by simp) (by rintro j hj; cases hj; exact Nat.le_refl _)
        have HL8 := Lib.hid (HL7.out.below hb8 HL7.out.lt)
        have HY8 := Lib.hid hl8
        have HB8 := Lib.hid (HB7.out.trans (hb8.mono HB7.out.size))
        clear hb8 hl8 hg8
        refine (text_any c _ (HV.out.below HB8.out) (HP.out.below HB8.out) HFF.out (HS.out.mono (by omega))).mono ?_
        rintro e w9 ⟨rfl, hB9⟩
        rw [HTZ.out]
        have HY9 := Lib.hid (HY8.out.below hB9 HY8.out.lt)
        have HB9 := Lib.hid (HB8.out.trans (hB9.mono HB8.out.size))
        have hgd := guard_cmd
        clear hB9 p0 p1 p2 p3 p4 p5 p6
        rcases HYS.out with ⟨rfl, hyc, hyt, hys, hyf⟩ | ⟨rfl, rfl⟩
        · have HYC := Lib.hid hyc
          have HYT : Hid (ByteArray.mk (Cm.text y).toArray = s) := by show _ = _; rw [hyt]
          have HYH := Lib.hid hys; have HYF := Lib.hid hyf
          have hss : (s.toList == s.toList) = true := by simp
          obtain ⟨y0, y1, y2, y3, y4, y5, y6⟩ := Cmds.all HY9.out
          clear hyc hyt hys hyf HYS
          go_wp2_with fail
          refine (refCheck_any y _ (HYH.out.mono (by omega))).mono ?_
          rintro e wa ⟨rfl, hBa⟩
          rw [HYC.out]
          have HYa := Lib.hid (HY9.out.below hBa HY9.out.lt)
          have HBa := Lib.hid (HB9.out.trans (hBa.mono HB9.out.size))
          obtain ⟨m0, m1, m2, m3, m4, m5, m6⟩ := Cmds.all HYa.out
          clear hBa y0 y1 y2 y3 y4 y5 y6
          go_wp2_with fail
          refine (refText_any y _ HYC.out HYH.out HYF.out).mono ?_
          rintro e wb ⟨rfl, hBb⟩
          rw [HYT.out]
          have HBb := Lib.hid (HBa.out.trans (hBb.mono HBa.out.size))
          clear hBb
          go_wp2_with fail
          refine (HAW.out _ HBb.out).mono ?_
          rintro e wc ⟨rfl, hBc⟩
          go_wp2
          go_ret
          exact truly_of (HBb.out.trans (hBc.mono HBb.out.size))
        · have y0 : w9.cell? ⟨w7.heap.size, 0, none⟩ = some (.int .i64 0) := HY9.out.cell 0 _ rfl
          have y1 : w9.cell? ⟨w7.heap.size, 1, none⟩ = some (.int .i64 0) := HY9.out.cell 1 _ rfl
          have y2 : w9.cell? ⟨w7.heap.size, 2, none⟩ = some (.int .i64 0) := HY9.out.cell 2 _ rfl
          have y3 : w9.cell? ⟨w7.heap.size, 3, none⟩ = some (.string ⟨#[]⟩) := HY9.out.cell 3 _ rfl
          have y4 : w9.cell? ⟨w7.heap.size, 4, none⟩ = some (.string ⟨#[]⟩) := HY9.out.cell 4 _ rfl
          have y5 : w9.cell? ⟨w7.heap.size, 5, none⟩ = some (.string ⟨#[]⟩) := HY9.out.cell 5 _ rfl
          have y6 : w9.cell? ⟨w7.heap.size, 6, none⟩ = some (.int .i64 0) := HY9.out.cell 6 _ rfl
          clear HYS
          go_wp2_with fail
          refine (HAW.out _ HB9.out).mono ?_
          rintro e wc ⟨rfl, hBc⟩
          go_wp2
          go_ret
          exact truly_of (HB9.out.trans (hBc.mono HB9.out.size))

end Go.Proofs.YteaebmgnofmemaaGreatDoor
