/- The document's Bytes of an answer. -/
import Derived.Test.YtammfmmpldahhaaGreatAnsPut
import Derived.Test.YtammfmmpldahhaaGreatAnsRefC
import Derived.Test.YtammfmmpldahhaaGreatGPb
namespace Go.Proofs.YtammfmmpldahhaaGreat
open Go.RowKit

set_option maxRecDepth 4000 in
set_option maxHeartbeats 3200000 in
theorem arefBytes_any (v : Int) (a : An.Ans) (w : World) (hf : a.Fits) (hs : a.val.length ≤ 1000) :
    Calls Tryz.prog 33 #[.int .i64 v, .agg (An.cells a)] w (Makes w 5 (An.bytes v a)) := by
  obtain ⟨w1, e1, hl1, hB1, hz1⟩ := box_ans w a
  obtain ⟨p0, p1, p2, p3, p4, p5⟩ := Anss.every hl1
  have HRES : Hid (An.bytes v a = enc a.client.toNat ++ enc a.seq.toNat ++ enc a.err.toNat ++ Pk.flag a.found ++ Pk.text a.val ++ An.tail v a) := rfl
  have HK := Lib.hid hf
  have HS := Lib.hid hs
  have hlen0 : (enc a.client.toNat).length ≤ 9 := enc_nine (by have := hf.c1; omega)
  obtain ⟨P0, hP0⟩ : ∃ P0, P0 = enc a.client.toNat := ⟨_, rfl⟩
  rw [← hP0] at hlen0
  have HL1 := Lib.hid hl1; have HB1 := Lib.hid hB1
  have HP0 := Lib.hid hP0
  clear hl1 hB1 hz1 hf hs hP0
  go_enter Tryz.func33, Tryz.ntmps33
  go_wp2_with fail
  refine (bytes_any a.client _ HK.out.c0 HK.out.c1).mono ?_
  rintro e w2 ⟨v0, rfl, ho2, hb2⟩
  have ho0 : Owns w2 w.heap.size 5 v0 P0 := by
    have := ho2.mono HB1.out.size
    rw [HP0.out]; exact this
  have hl2 := HL1.out.below hb2 HL1.out.lt
  obtain ⟨p0, p1, p2, p3, p4, p5⟩ := Anss.every hl2
  have HO0 := Lib.hid ho0; have HL2 := Lib.hid hl2; have HB2 := Lib.hid (HB1.out.trans (hb2.mono HB1.out.size))
  clear ho0 ho2 hb2 hl2
  go_wp2_with fail
  refine (bytes_any a.seq _ HK.out.q0 HK.out.q1).mono ?_
  rintro e wa0 ⟨ua0, rfl, hoa0, hba0⟩
  have hln0 : (enc a.seq.toNat).length ≤ 9 := enc_nine (by have := HK.out.q1; omega)
  obtain ⟨M0, hM0⟩ : ∃ M0, M0 = enc a.seq.toNat := ⟨_, rfl⟩
  rw [← hM0] at hoa0 hln0
  have HM0 := Lib.hid hM0
  have hown0 := HO0.out.keep hba0 (Nat.le_refl _)
  have hBa0 := HB2.out.trans (hba0.mono HB2.out.size)
  have hLa0 := HL2.out.below hba0 HL2.out.lt
  clear hM0 hba0
  go_wp2_with (at_builtin; refine append_bytes rfl _ _ 28 5 rfl Tryz.underlying28 info_u8 w.heap.size P0 M0 _ _ rfl rfl hown0 hoa0.reads (by omega) w hBa0 (Nat.le_refl _) ?_; intro v1 w3 ho1 hb3 hg0; have hl3 := hLa0.kept hg0 (hLa0.not_row (by decide) hown0); obtain ⟨p0, p1, p2, p3, p4, p5⟩ := Anss.every hl3)
  obtain ⟨P1, hP1⟩ : ∃ P1, P1 = P0 ++ M0 := ⟨_, rfl⟩
  have hlen1 : P1.length ≤ 18 := by rw [hP1, List.length_append]; omega
  rw [← hP1] at ho1
  have HP1 := Lib.hid hP1; have HO1 := Lib.hid ho1; have HL3 := Lib.hid hl3; have HB3 := Lib.hid hb3
  clear hP1 ho1 hl3 hb3 hg0 hown0 hLa0 hBa0 hoa0
  go_wp2_with fail
  refine (bytes_any a.err _ HK.out.e0 HK.out.e1).mono ?_
  rintro e wa1 ⟨ua1, rfl, hoa1, hba1⟩
  have hln1 : (enc a.err.toNat).length ≤ 9 := enc_nine (by have := HK.out.e1; omega)
  obtain ⟨M1, hM1⟩ : ∃ M1, M1 = enc a.err.toNat := ⟨_, rfl⟩
  rw [← hM1] at hoa1 hln1
  have HM1 := Lib.hid hM1
  have hown1 := HO1.out.keep hba1 (Nat.le_refl _)
  have hBa1 := HB3.out.trans (hba1.mono HB3.out.size)
  have hLa1 := HL3.out.below hba1 HL3.out.lt
  clear hM1 hba1
  go_wp2_with (at_builtin; refine append_bytes rfl _ _ 28 5 rfl Tryz.underlying28 info_u8 w.heap.size P1 M1 _ _ rfl rfl hown1 hoa1.reads (by omega) w hBa1 (Nat.le_refl _) ?_; intro v2 w4 ho2 hb4 hg1; have hl4 := hLa1.kept hg1 (hLa1.not_row (by decide) hown1); obtain ⟨p0, p1, p2, p3, p4, p5⟩ := Anss.every hl4)
  obtain ⟨P2, hP2⟩ : ∃ P2, P2 = P1 ++ M1 := ⟨_, rfl⟩
  have hlen2 : P2.length ≤ 27 := by rw [hP2, List.length_append]; omega
  rw [← hP2] at ho2
  have HP2 := Lib.hid hP2; have HO2 := Lib.hid ho2; have HL4 := Lib.hid hl4; have HB4 := Lib.hid hb4
  clear hP2 ho2 hl4 hb4 hg1 hown1 hLa1 hBa1 hoa1
  go_wp2_with fail
  refine (refFlag_any a.found _).mono ?_
  rintro e wa2 ⟨ua2, rfl, hra2, hba2⟩
  have hln2 : (Pk.flag a.found).length ≤ 9 := (by simp [Pk.flag])
  obtain ⟨M2, hM2⟩ : ∃ M2, M2 = Pk.flag a.found := ⟨_, rfl⟩
  rw [← hM2] at hra2 hln2
  have HM2 := Lib.hid hM2
  have hown2 := HO2.out.keep hba2 (Nat.le_refl _)
  have hBa2 := HB4.out.trans (hba2.mono HB4.out.size)
  have hLa2 := HL4.out.below hba2 HL4.out.lt
  clear hM2 hba2
  go_wp2_with (at_builtin; refine append_bytes rfl _ _ 28 5 rfl Tryz.underlying28 info_u8 w.heap.size P2 M2 _ _ rfl rfl hown2 hra2 (by omega) w hBa2 (Nat.le_refl _) ?_; intro v3 w5 ho3 hb5 hg2; have hl5 := hLa2.kept hg2 (hLa2.not_row (by decide) hown2); obtain ⟨p0, p1, p2, p3, p4, p5⟩ := Anss.every hl5)
  obtain ⟨P3, hP3⟩ : ∃ P3, P3 = P2 ++ M2 := ⟨_, rfl⟩
  have hlen3 : P3.length ≤ 36 := by rw [hP3, List.length_append]; omega
  rw [← hP3] at ho3
  have HP3 := Lib.hid hP3; have HO3 := Lib.hid ho3; have HL5 := Lib.hid hl5; have HB5 := Lib.hid hb5
  clear hP3 ho3 hl5 hb5 hg2 hown2 hLa2 hBa2 hra2
  by_cases hv : v = 2
  · have hv2 : (v == 2) = true := by simpa using hv
    have HT : Hid (An.tail v a = enc a.rev.toNat) := if_pos hv
    clear hv
    go_wp2_with fail
    refine (refText_any a.val _ (by have := HS.out; omega)).mono ?_
    rintro e wa3 ⟨ua3, rfl, hoa3, hba3⟩
    have hln3 : (Pk.text a.val).length ≤ 1009 := (by have := HS.out; have h9 := enc_nine (n := a.val.length) (by omega); simp [Pk.text]; omega)
    obtain ⟨M3, hM3⟩ : ∃ M3, M3 = Pk.text a.val := ⟨_, rfl⟩
    rw [← hM3] at hoa3 hln3
    have HM3 := Lib.hid hM3
    have hown3 := HO3.out.keep hba3 (Nat.le_refl _)
    have hBa3 := HB5.out.trans (hba3.mono HB5.out.size)
    have hLa3 := HL5.out.below hba3 HL5.out.lt
    clear hM3 hba3
    go_wp2_with (at_builtin; refine append_bytes rfl _ _ 28 5 rfl Tryz.underlying28 info_u8 w.heap.size P3 M3 _ _ rfl rfl hown3 hoa3.reads (by omega) w hBa3 (Nat.le_refl _) ?_; intro v4 w6 ho4 hb6 hg3; have hl6 := hLa3.kept hg3 (hLa3.not_row (by decide) hown3); obtain ⟨p0, p1, p2, p3, p4, p5⟩ := Anss.every hl6)
    obtain ⟨P4, hP4⟩ : ∃ P4, P4 = P3 ++ M3 := ⟨_, rfl⟩
    have hlen4 : P4.length ≤ 1045 := by rw [hP4, List.length_append]; omega
    rw [← hP4] at ho4
    have HP4 := Lib.hid hP4; have HO4 := Lib.hid ho4; have HL6 := Lib.hid hl6; have HB6 := Lib.hid hb6
    clear hP4 ho4 hl6 hb6 hg3 hown3 hLa3 hBa3 hoa3
    go_wp2_with fail
    refine (bytes_any a.rev _ HK.out.r0 HK.out.r1).mono ?_
    rintro e wa4 ⟨ua4, rfl, hoa4, hba4⟩
    have hln4 : (enc a.rev.toNat).length ≤ 9 := enc_nine (by have := HK.out.r1; omega)
    obtain ⟨M4, hM4⟩ : ∃ M4, M4 = enc a.rev.toNat := ⟨_, rfl⟩
    rw [← hM4] at hoa4 hln4
    have HM4 := Lib.hid hM4
    have hown4 := HO4.out.keep hba4 (Nat.le_refl _)
    have hBa4 := HB6.out.trans (hba4.mono HB6.out.size)
    have hLa4 := HL6.out.below hba4 HL6.out.lt
    clear hM4 hba4
    go_wp2_with (at_builtin; refine append_bytes rfl _ _ 28 5 rfl Tryz.underlying28 info_u8 w.heap.size P4 M4 _ _ rfl rfl hown4 hoa4.reads (by omega) w hBa4 (Nat.le_refl _) ?_; intro v5 w7 ho5 hb7 hg4; have hl7 := hLa4.kept hg4 (hLa4.not_row (by decide) hown4); obtain ⟨p0, p1, p2, p3, p4, p5⟩ := Anss.every hl7)
    obtain ⟨P5, hP5⟩ : ∃ P5, P5 = P4 ++ M4 := ⟨_, rfl⟩
    have hlen5 : P5.length ≤ 1054 := by rw [hP5, List.length_append]; omega
    rw [← hP5] at ho5
    have HP5 := Lib.hid hP5; have HO5 := Lib.hid ho5; have HL7 := Lib.hid hl7; have HB7 := Lib.hid hb7
    clear hP5 ho5 hl7 hb7 hg4 hown4 hLa4 hBa4 hoa4
    go_ret
    refine ⟨v5, rfl, ?_, HB7.out⟩
    rw [HRES.out, HT.out, ← HP0.out, ← HM0.out, ← HP1.out, ← HM1.out, ← HP2.out, ← HM2.out, ← HP3.out, ← HM3.out, ← HP4.out, ← HM4.out, ← HP5.out]
    exact HO5.out
  · have hv2 : (v == 2) = false := by simpa using hv
    have HT : Hid (An.tail v a = []) := if_neg hv
    clear hv
    go_wp2_with fail
    refine (refText_any a.val _ (by have := HS.out; omega)).mono ?_
    rintro e wa3 ⟨ua3, rfl, hoa3, hba3⟩
    have hln3 : (Pk.text a.val).length ≤ 1009 := (by have := HS.out; have h9 := enc_nine (n := a.val.length) (by omega); simp [Pk.text]; omega)
    obtain ⟨M3, hM3⟩ : ∃ M3, M3 = Pk.text a.val := ⟨_, rfl⟩
    rw [← hM3] at hoa3 hln3
    have HM3 := Lib.hid hM3
    have hown3 := HO3.out.keep hba3 (Nat.le_refl _)
    have hBa3 := HB5.out.trans (hba3.mono HB5.out.size)
    have hLa3 := HL5.out.below hba3 HL5.out.lt
    clear hM3 hba3
    go_wp2_with (at_builtin; refine append_bytes rfl _ _ 28 5 rfl Tryz.underlying28 info_u8 w.heap.size P3 M3 _ _ rfl rfl hown3 hoa3.reads (by omega) w hBa3 (Nat.le_refl _) ?_; intro v4 w6 ho4 hb6 hg3; have hl6 := hLa3.kept hg3 (hLa3.not_row (by decide) hown3); obtain ⟨p0, p1, p2, p3, p4, p5⟩ := Anss.every hl6)
    obtain ⟨P4, hP4⟩ : ∃ P4, P4 = P3 ++ M3 := ⟨_, rfl⟩
    have hlen4 : P4.length ≤ 1045 := by rw [hP4, List.length_append]; omega
    rw [← hP4] at ho4
    have HP4 := Lib.hid hP4; have HO4 := Lib.hid ho4; have HL6 := Lib.hid hl6; have HB6 := Lib.hid hb6
    clear hP4 ho4 hl6 hb6 hg3 hown3 hLa3 hBa3 hoa3
    go_ret
    refine ⟨v4, rfl, ?_, HB6.out⟩
    rw [HRES.out, HT.out, List.append_nil, ← HP0.out, ← HM0.out, ← HP1.out, ← HM1.out, ← HP2.out, ← HM2.out, ← HP3.out, ← HM3.out, ← HP4.out]
    exact HO4.out

end Go.Proofs.YtammfmmpldahhaaGreat
