/- What is wrong with a message, as the document says: some sets of fields. Written by wip/tools/genrefc13.py. -/
import Derived.Test.YtndicjpbanmpjaaGreatDoorGMr
namespace Go.Proofs.YtndicjpbanmpjaaGreatDoor
open Go.RowKit

set_option maxRecDepth 20000 in
set_option maxHeartbeats 12800000 in
theorem refCheck_010010 (m : Ms.Msg) (ve vi : Value) (w : World) (he : ReadsE w ve m.ents) (hi : Reads w vi m.img) (hs : ∀ e ∈ m.ents, e.cmd.Short 140737488355328) (hk : Ms.known m.kind = true) (g1 : Ms.hv m.kind = false) (g2 : Ms.hb m.kind = true) (g3 : Ms.hi m.kind = false) (g4 : Ms.hc m.kind = false) (g5 : Ms.he m.kind = true) (g6 : Ms.hm m.kind = false) :
    Calls Tryz.prog 21 #[.agg (Ms.cells m ve vi)] w (Looks w (.int .i64 (Ms.check m))) := by
  obtain ⟨w1, e1, hl1, hB1, hz1⟩ := box_msg w m ve vi
  obtain ⟨eo, ec, rfl, hc1, hc2⟩ := ReadsE.shape he
  obtain ⟨io, ic, rfl⟩ := hi.shape
  have HCRE := Lib.hid (fun W (h : ReadsE W (.slice eo m.ents.length ec) m.ents) => refCheckE_any _ m.ents W h hs)
  have HE := Lib.hid (he.below hB1)
  have hkl := hi.len
  obtain ⟨r, hr⟩ : ∃ r, r = Ms.check m := ⟨_, rfl⟩
  rw [← hr]
  unfold Ms.check at hr
  rw [if_neg (by rw [hk]; simp)] at hr
  obtain ⟨n, hn⟩ : ∃ n, n = m.ents.length := ⟨_, rfl⟩
  obtain ⟨k, hkk⟩ : ∃ k, k = m.img.length := ⟨_, rfl⟩
  rw [← hn] at hl1 hc1 e1 HE ⊢
  rw [← hkk] at hl1 hkl e1 ⊢
  obtain ⟨x, hx⟩ : ∃ x, x = Ms.nodes m.frm m.dst := ⟨_, rfl⟩
  obtain ⟨y, hy⟩ : ∃ y, y = Ms.ranged m := ⟨_, rfl⟩
  obtain ⟨z, hz⟩ : ∃ z, z = Ms.long m := ⟨_, rfl⟩
  obtain ⟨l, hl⟩ : ∃ l, l = En.check 0 (Ms.own m).ents := ⟨_, rfl⟩
  rw [Ms.form_split] at hr
  obtain ⟨f, hf⟩ : ∃ f, f = Ms.f1 m := ⟨_, rfl⟩
  obtain ⟨g, hg⟩ : ∃ g, g = Ms.f2 m := ⟨_, rfl⟩
  rw [← hx, ← hy, ← hz, ← hl, ← hf, ← hg] at hr
  have HR := Lib.hid hr; have HX := Lib.hid hx; have HY := Lib.hid hy; have HZZ := Lib.hid hz; have HL := Lib.hid hl; have HF := Lib.hid hf; have HG := Lib.hid hg; have HN := Lib.hid hn; have HK := Lib.hid hkk
  obtain ⟨p0, p1, p2, p3, p4, p5, p6, p7, p8, p9⟩ := Msgs.ten hl1
  have HM1 := Lib.hid hl1; have HB1 := Lib.hid hB1; have HE1 := HE
  have hlet := Ms.letters_empty m.kind
  rw [hk, Bool.not_true] at hlet
  have HOWN := Lib.hid (Ms.own_iff m)
  have hnb : n ≤ 9223372036854775807 := by omega
  have hkb : k ≤ 9223372036854775807 := by omega
  clear hl1 hB1 hz1 he hi hs hr hx hy hz hl hf hg hn hkk hc1 hc2 hkl hk HE
  go_enter Tryz.func21, Tryz.ntmps21
  go_wp2_with fail
  refine (refLetters_any m.kind _).mono ?_
  rintro e2 w2 ⟨rfl, hb⟩
  have HM2 := Lib.hid (HM1.out.below hb HM1.out.lt); have HE2 := Lib.hid (HE1.out.below hb); have HB2 := Lib.hid (HB1.out.trans (hb.mono HB1.out.size))
  clear hb p0 p1 p2 p3 p4 p5 p6 p7 p8 p9
  obtain ⟨p0, p1, p2, p3, p4, p5, p6, p7, p8, p9⟩ := Msgs.ten HM2.out
  have hxx := HX.out
  unfold Ms.nodes Ms.within at hxx
  clear HX
  by_cases ht0 : m.frm < 1
  · have d0 : decide (m.frm < 1) = true := decide_eq_true ht0
    have HV : Hid (x = false) := hxx.trans (by simp only [Bool.and_eq_false_iff, decide_eq_false_iff_not]; omega)
    clear hxx
    have HZ : Hid (r = 6) := HR.out.trans (if_pos (by rw [HV.out]; rfl))
    go_wp2
    go_ret
    exact ⟨by rw [HZ.out]; rfl, HB2.out⟩
  have d0 : decide (m.frm < 1) = false := decide_eq_false ht0
  by_cases ht1 : 9 < m.frm
  · have d1 : decide (9 < m.frm) = true := decide_eq_true ht1
    have HV : Hid (x = false) := hxx.trans (by simp only [Bool.and_eq_false_iff, decide_eq_false_iff_not]; omega)
    clear hxx
    have HZ : Hid (r = 6) := HR.out.trans (if_pos (by rw [HV.out]; rfl))
    go_wp2
    go_ret
    exact ⟨by rw [HZ.out]; rfl, HB2.out⟩
  have d1 : decide (9 < m.frm) = false := decide_eq_false ht1
  by_cases ht2 : m.dst < 1
  · have d2 : decide (m.dst < 1) = true := decide_eq_true ht2
    have HV : Hid (x = false) := hxx.trans (by simp only [Bool.and_eq_false_iff, decide_eq_false_iff_not]; omega)
    clear hxx
    have HZ : Hid (r = 6) := HR.out.trans (if_pos (by rw [HV.out]; rfl))
    go_wp2
    go_ret
    exact ⟨by rw [HZ.out]; rfl, HB2.out⟩
  have d2 : decide (m.dst < 1) = false := decide_eq_false ht2
  by_cases ht3 : 9 < m.dst
  · have d3 : decide (9 < m.dst) = true := decide_eq_true ht3
    have HV : Hid (x = false) := hxx.trans (by simp only [Bool.and_eq_false_iff, decide_eq_false_iff_not]; omega)
    clear hxx
    have HZ : Hid (r = 6) := HR.out.trans (if_pos (by rw [HV.out]; rfl))
    go_wp2
    go_ret
    exact ⟨by rw [HZ.out]; rfl, HB2.out⟩
  have d3 : decide (9 < m.dst) = false := decide_eq_false ht3
  by_cases ht4 : m.frm = m.dst
  · have d4 : (m.frm == m.dst) = true := by simpa using ht4
    have HV : Hid (x = false) := hxx.trans (by simp only [Bool.and_eq_false_iff, decide_eq_false_iff_not]; omega)
    clear hxx ht4
    have HZ : Hid (r = 6) := HR.out.trans (if_pos (by rw [HV.out]; rfl))
    go_wp2
    go_ret
    exact ⟨by rw [HZ.out]; rfl, HB2.out⟩
  have d4 : (m.frm == m.dst) = false := by simpa using ht4
  have HVX : Hid (x = true) := hxx.trans (by simp only [Bool.and_eq_true, decide_eq_true_eq]; omega)
  clear hxx ht0 ht1 ht2 ht3 ht4
  have HYY : Hid (y = Ms.owned m.bal) := HY.out.trans (by unfold Ms.ranged; simp [g1, g2, g3, g4])
  clear HY
  go_wp2_with fail
  refine (refHas_b' m.kind true g2 _).mono ?_
  rintro e3 w3 ⟨rfl, hb⟩
  have HM3 := Lib.hid (HM2.out.below hb HM2.out.lt); have HE3 := Lib.hid (HE2.out.below hb); have HB3 := Lib.hid (HB2.out.trans (hb.mono HB2.out.size))
  clear hb p0 p1 p2 p3 p4 p5 p6 p7 p8 p9
  obtain ⟨p0, p1, p2, p3, p4, p5, p6, p7, p8, p9⟩ := Msgs.ten HM3.out
  clear d0 d1 d2 d3 d4 hlet
  go_wp2_with fail
  refine (refOwned_ms m.bal _).mono ?_
  rintro e4 w4 ⟨rfl, hb⟩
  have HM4 := Lib.hid (HM3.out.below hb HM3.out.lt); have HE4 := Lib.hid (HE3.out.below hb); have HB4 := Lib.hid (HB3.out.trans (hb.mono HB3.out.size))
  clear hb p0 p1 p2 p3 p4 p5 p6 p7 p8 p9
  obtain ⟨p0, p1, p2, p3, p4, p5, p6, p7, p8, p9⟩ := Msgs.ten HM4.out
  cases ht : Ms.owned m.bal with
  | false =>
    have HV : Hid (y = false) := HYY.out.trans (by rw [ht])
    clear ht
    have HZ : Hid (r = 6) := HR.out.trans (if_pos (by rw [HVX.out, HV.out]; rfl))
    go_wp2
    go_ret
    exact ⟨by rw [HZ.out]; rfl, HB4.out⟩
  | true =>
    have HYY1 : Hid (y = true) := HYY.out.trans (by rw [ht])
    clear ht
    go_wp2_with fail
    refine (refHas_i' m.kind false g3 _).mono ?_
    rintro e5 w5 ⟨rfl, hb⟩
    have HM5 := Lib.hid (HM4.out.below hb HM4.out.lt); have HE5 := Lib.hid (HE4.out.below hb); have HB5 := Lib.hid (HB4.out.trans (hb.mono HB4.out.size))
    clear hb p0 p1 p2 p3 p4 p5 p6 p7 p8 p9
    obtain ⟨p0, p1, p2, p3, p4, p5, p6, p7, p8, p9⟩ := Msgs.ten HM5.out
    go_wp2_with fail
    refine (refHas_c' m.kind false g4 _).mono ?_
    rintro e6 w6 ⟨rfl, hb⟩
    have HM6 := Lib.hid (HM5.out.below hb HM5.out.lt); have HE6 := Lib.hid (HE5.out.below hb); have HB6 := Lib.hid (HB5.out.trans (hb.mono HB5.out.size))
    clear hb p0 p1 p2 p3 p4 p5 p6 p7 p8 p9
    obtain ⟨p0, p1, p2, p3, p4, p5, p6, p7, p8, p9⟩ := Msgs.ten HM6.out
    go_wp2_with fail
    refine (refHas_v' m.kind false g1 _).mono ?_
    rintro e7 w7 ⟨rfl, hb⟩
    have HM7 := Lib.hid (HM6.out.below hb HM6.out.lt); have HE7 := Lib.hid (HE6.out.below hb); have HB7 := Lib.hid (HB6.out.trans (hb.mono HB6.out.size))
    clear hb p0 p1 p2 p3 p4 p5 p6 p7 p8 p9
    obtain ⟨p0, p1, p2, p3, p4, p5, p6, p7, p8, p9⟩ := Msgs.ten HM7.out
    have HVY : Hid (y = true) := HYY1.out
    have HR2 := Lib.hid (HR.out.trans (if_neg (by rw [HVX.out, HVY.out]; simp)))
    clear HR
    have hzz := HZZ.out
    unfold Ms.long at hzz
    rw [show (Ms.own m).ents = if Ms.he m.kind = true then m.ents else [] from rfl, show (Ms.own m).img = if Ms.hm m.kind = true then m.img else [] from rfl, g5, g6] at hzz
    clear HZZ
    go_wp2_with fail
    refine (refHas_e' m.kind true g5 _).mono ?_
    rintro e8 w8 ⟨rfl, hb⟩
    have HM8 := Lib.hid (HM7.out.below hb HM7.out.lt); have HE8 := Lib.hid (HE7.out.below hb); have HB8 := Lib.hid (HB7.out.trans (hb.mono HB7.out.size))
    clear hb p0 p1 p2 p3 p4 p5 p6 p7 p8 p9
    obtain ⟨p0, p1, p2, p3, p4, p5, p6, p7, p8, p9⟩ := Msgs.ten HM8.out
    rw [if_pos trivial, ← HN.out] at hzz
    by_cases ht : 256 < n
    · have d : decide ((256 : Int) < (n : Int)) = true := by simp; omega
      have HV : Hid (z = true) := hzz.trans (by rw [decide_eq_true ht]; rfl)
      clear hzz
      have HZ : Hid (r = 2) := HR2.out.trans (if_pos HV.out)
      go_wp2
      go_ret
      exact ⟨by rw [HZ.out]; rfl, HB8.out⟩
    have de : decide ((256 : Int) < (n : Int)) = false := by simp; omega
    have HVZ : Hid (z = false) := hzz.trans (by rw [decide_eq_false ht]; rfl)
    have hte := ht
    clear hzz ht
    go_wp2_with fail
    refine (refHas_m' m.kind false g6 _).mono ?_
    rintro e9 w9 ⟨rfl, hb⟩
    have HM9 := Lib.hid (HM8.out.below hb HM8.out.lt); have HE9 := Lib.hid (HE8.out.below hb); have HB9 := Lib.hid (HB8.out.trans (hb.mono HB8.out.size))
    clear hb p0 p1 p2 p3 p4 p5 p6 p7 p8 p9
    obtain ⟨p0, p1, p2, p3, p4, p5, p6, p7, p8, p9⟩ := Msgs.ten HM9.out
    have HR3 := Lib.hid (HR2.out.trans (if_neg (by rw [HVZ.out]; simp)))
    clear HR2
    go_wp2_with fail
    refine (refHas_e' m.kind true g5 _).mono ?_
    rintro e10 w10 ⟨rfl, hb⟩
    have HM10 := Lib.hid (HM9.out.below hb HM9.out.lt); have HE10 := Lib.hid (HE9.out.below hb); have HB10 := Lib.hid (HB9.out.trans (hb.mono HB9.out.size))
    clear hb p0 p1 p2 p3 p4 p5 p6 p7 p8 p9
    obtain ⟨p0, p1, p2, p3, p4, p5, p6, p7, p8, p9⟩ := Msgs.ten HM10.out
    have hcall := HCRE.out _ (by have h := HE10.out; rw [HN.out] at h; exact h)
    rw [show m.ents = (Ms.own m).ents from (if_pos g5).symm, ← HL.out, show (Ms.own m).ents = m.ents from if_pos g5, ← HN.out] at hcall
    go_wp2_with fail
    refine hcall.mono ?_
    rintro e11 w11 ⟨rfl, hb⟩
    have HM11 := Lib.hid (HM10.out.below hb HM10.out.lt); have HE11 := Lib.hid (HE10.out.below hb); have HB11 := Lib.hid (HB10.out.trans (hb.mono HB10.out.size))
    clear hb p0 p1 p2 p3 p4 p5 p6 p7 p8 p9
    obtain ⟨p0, p1, p2, p3, p4, p5, p6, p7, p8, p9⟩ := Msgs.ten HM11.out
    clear hcall
    by_cases h0 : l = 0
    rotate_left
    · have d : (l != 0) = true := by simpa using h0
      have HZ : Hid (r = l) := HR3.out.trans (if_pos h0)
      clear h0
      go_wp2
      go_ret
      exact ⟨by rw [HZ.out]; rfl, HB11.out⟩
    have dl : (l != 0) = false := by simpa using h0
    have HR4 : Hid (r = if (f && g) = false then 3 else 0) := HR3.out.trans (if_neg (by rw [h0]; simp))
    clear h0 HR3
    have hff := HF.out
    unfold Ms.f1 at hff
    rw [g6] at hff
    clear HF
    have k3 := fun p : Behind w11 => Msgs.c3 (HM11.out.below p.below HM11.out.lt)
    have k4 := fun p : Behind w11 => Msgs.c4 (HM11.out.below p.below HM11.out.lt)
    have k5 := fun p : Behind w11 => Msgs.c5 (HM11.out.below p.below HM11.out.lt)
    have k6 := fun p : Behind w11 => Msgs.c6 (HM11.out.below p.below HM11.out.lt)
    have k7 := fun p : Behind w11 => Msgs.c7 (HM11.out.below p.below HM11.out.lt)
    have k8 := fun p : Behind w11 => Msgs.c8 (HM11.out.below p.below HM11.out.lt)
    have k9 := fun p : Behind w11 => Msgs.c9 (HM11.out.below p.below HM11.out.lt)
    have hXb := Ms.hasX_b g2
    have hXi := Ms.hasX_i g3
    have hXc := Ms.hasX_c g4
    have hXv := Ms.hasX_v g1
    have hXe := Ms.hasX_e g5
    have hXm := Ms.hasX_m g6
    clear p0 p1 p2 p3 p4 p5 p6 p7 p8 p9
    by_cases hxi : m.index = 0
    rotate_left
    · have d : (m.index != 0) = true := by simpa using hxi
      have HV : Hid (f = false) := hff.trans (by rw [decide_eq_false fun h => (((HOWN.out.1 h).2.1).elim (fun q => by rw [g3] at q; cases q) (fun q => hxi q) : False)]; rfl)
      clear hff
      have HZ : Hid (r = 3) := HR4.out.trans (if_pos (by rw [HV.out]; rfl))
      go_wp2
      dsimp only [List.append]
      refine wp_region_behind (by kernel_rfl) (by kernel_rfl) ?_
      repeat (go_big_quiet_step ((go_at_call 38; exact Looks.behind (refHasX _ _ (by decide) _))))
      refine wpQuiet_nil ?_
      rintro w12 ⟨⟨w12, hb⟩, rfl⟩
      (try dsimp only)
      clear k3 k4 k5 k6 k7 k8 k9
      go_wp2
      go_ret
      exact ⟨by rw [HZ.out]; rfl, HB11.out.trans (hb.mono HB11.out.size)⟩
    have dxi : (m.index != 0) = false := by simpa using hxi
    have Hxi := Lib.hid hxi
    clear hxi
    by_cases hxc : m.commit = 0
    rotate_left
    · have d : (m.commit != 0) = true := by simpa using hxc
      have HV : Hid (f = false) := hff.trans (by rw [decide_eq_false fun h => (((HOWN.out.1 h).2.2.1).elim (fun q => by rw [g4] at q; cases q) (fun q => hxc q) : False)]; rfl)
      clear hff
      have HZ : Hid (r = 3) := HR4.out.trans (if_pos (by rw [HV.out]; rfl))
      go_wp2
      dsimp only [List.append]
      refine wp_region_behind (by kernel_rfl) (by kernel_rfl) ?_
      repeat (go_big_quiet_step ((go_at_call 38; exact Looks.behind (refHasX _ _ (by decide) _))))
      refine wpQuiet_nil ?_
      rintro w12 ⟨⟨w12, hb⟩, rfl⟩
      (try dsimp only)
      clear k3 k4 k5 k6 k7 k8 k9
      go_wp2
      go_ret
      exact ⟨by rw [HZ.out]; rfl, HB11.out.trans (hb.mono HB11.out.size)⟩
    have dxc : (m.commit != 0) = false := by simpa using hxc
    have Hxc := Lib.hid hxc
    clear hxc
    by_cases hxv : m.version = 0
    rotate_left
    · have d : (m.version != 0) = true := by simpa using hxv
      have HV : Hid (f = false) := hff.trans (by rw [decide_eq_false fun h => (((HOWN.out.1 h).2.2.2.1).elim (fun q => by rw [g1] at q; cases q) (fun q => hxv q) : False)]; rfl)
      clear hff
      have HZ : Hid (r = 3) := HR4.out.trans (if_pos (by rw [HV.out]; rfl))
      go_wp2
      dsimp only [List.append]
      refine wp_region_behind (by kernel_rfl) (by kernel_rfl) ?_
      repeat (go_big_quiet_step ((go_at_call 38; exact Looks.behind (refHasX _ _ (by decide) _))))
      refine wpQuiet_nil ?_
      rintro w12 ⟨⟨w12, hb⟩, rfl⟩
      (try dsimp only)
      clear k3 k4 k5 k6 k7 k8 k9
      go_wp2
      go_ret
      exact ⟨by rw [HZ.out]; rfl, HB11.out.trans (hb.mono HB11.out.size)⟩
    have dxv : (m.version != 0) = false := by simpa using hxv
    have Hxv := Lib.hid hxv
    clear hxv
    by_cases hxm : k = 0
    rotate_left
    · have d : decide (0 < k) = true := decide_eq_true (by omega)
      have d' : decide ((0 : Int) < (k : Int)) = true := decide_eq_true (by omega)
      have HV : Hid (f = false) := hff.trans (by rw [decide_eq_false fun h => (((HOWN.out.1 h).2.2.2.2.2).elim (fun q => by rw [g6] at q; cases q) (fun q => hxm (by rw [HK.out, q]; rfl)) : False)]; rfl)
      clear hff
      have HZ : Hid (r = 3) := HR4.out.trans (if_pos (by rw [HV.out]; rfl))
      go_wp2
      dsimp only [List.append]
      refine wp_region_behind (by kernel_rfl) (by kernel_rfl) ?_
      repeat (go_big_quiet_step ((go_at_call 38; exact Looks.behind (refHasX _ _ (by decide) _))))
      refine wpQuiet_nil ?_
      rintro w12 ⟨⟨w12, hb⟩, rfl⟩
      (try dsimp only)
      clear k3 k4 k5 k6 k7 k8 k9
      go_wp2
      go_ret
      exact ⟨by rw [HZ.out]; rfl, HB11.out.trans (hb.mono HB11.out.size)⟩
    have dxm : decide (0 < k) = false := decide_eq_false (by omega)
    have dxm' : decide ((0 : Int) < (k : Int)) = false := decide_eq_false (by omega)
    have Hxm : Hid (m.img = []) := List.eq_nil_of_length_eq_zero (by rw [← HK.out]; exact hxm)
    clear hxm
    have HVF : Hid (f = true) := hff.trans (by rw [decide_eq_true (HOWN.out.2 ⟨.inl g2, .inr Hxi.out, .inr Hxc.out, .inr Hxv.out, .inl g5, .inr Hxm.out⟩)]; rfl)
    clear hff
    go_wp2
    dsimp only [List.append]
    refine wp_region_behind (by kernel_rfl) (by kernel_rfl) ?_
    repeat (go_big_quiet_step ((go_at_call 38; exact Looks.behind (refHasX _ _ (by decide) _))))
    refine wpQuiet_nil ?_
    rintro w12 ⟨⟨w12, hb⟩, rfl⟩
    (try dsimp only)
    clear k3 k4 k5 k6 k7 k8 k9
    have HM12 := Lib.hid (HM11.out.below hb HM11.out.lt); have HE12 := Lib.hid (HE11.out.below hb); have HB12 := Lib.hid (HB11.out.trans (hb.mono HB11.out.size))
    clear hb
    have hgg := HG.out
    unfold Ms.f2 at hgg
    have h5 : m.kind = 5 := by
      rcases Ms.kinds m.kind with h | h | h | h | h | h | h | h | h | h | h | h
      rotate_right
      · rw [(Ms.has_no h).2.1] at g2; cases g2
      all_goals first | exact h | (exfalso; rw [h] at g2 g3 g5; revert g2 g3 g5; decide)
    have d5 : (m.kind == 5) = true := by simpa using h5
    rw [if_pos h5] at hgg
    by_cases hn1 : n = 1
    · subst hn1
      obtain ⟨e, hme⟩ : ∃ e, m.ents = [e] := by
        have := HN.out
        match hm : m.ents, this with
        | [e], _ => exact ⟨e, rfl⟩
      have h0 : m.ents[0]? = some e := by rw [hme]; rfl
      obtain ⟨gb, off, rfl, hgl, hcell⟩ := ReadsE.places HE12.out (by rw [hme]; simp)
      have HC := Lib.hid (fun W h => hcell W h 0 e h0)
      have hgb := guard_bal
      have hneq := fun W => run_neq_bal W e.bal m.bal
      obtain ⟨q, hq⟩ : ∃ q, q = decide (e.bal = m.bal) := ⟨_, rfl⟩
      rw [← hq] at hneq
      have HGV : Hid (g = q) := by
        show _ = _
        rw [hgg, hq]
        unfold Ms.sole
        rw [hme]
      dsimp only [Bl.cells] at hneq
      clear h5 hme h0 hq hcell hgg
      have k1 := fun p : Behind w12 => (HC.out p.world p.below).c1
      have k2 := fun p : Behind w12 => (HC.out p.world p.below).c2
      simp only [Nat.zero_mul, Nat.add_zero] at k1 k2
      have k3 := fun p : Behind w12 => Msgs.c3 (HM12.out.below p.below HM12.out.lt)
      have k4 := fun p : Behind w12 => Msgs.c4 (HM12.out.below p.below HM12.out.lt)
      have k8 := fun p : Behind w12 => Msgs.c8 (HM12.out.below p.below HM12.out.lt)
      cases q with
      | true =>
        have HZ : Hid (r = 0) := HR4.out.trans (if_neg (by rw [HVF.out, HGV.out]; simp))
        simp only [Bool.not_true] at hneq
        go_wp2
        refine wp_region_behind (by kernel_rfl) (by kernel_rfl) ?_
        repeat (go_big_quiet_step (fail))
        refine wpQuiet_nil ?_
        rintro w99 ⟨⟨w99, hB9⟩, rfl⟩
        (try dsimp only)
        clear k1 k2 k3 k4 k8
        all_goals
          go_wp2
          go_ret
          exact ⟨by rw [HZ.out]; rfl, HB12.out.trans (hB9.mono HB12.out.size)⟩
      | false =>
        have HZ : Hid (r = 3) := HR4.out.trans (if_pos (by rw [HVF.out, HGV.out]; rfl))
        simp only [Bool.not_false] at hneq
        go_wp2
        refine wp_region_behind (by kernel_rfl) (by kernel_rfl) ?_
        repeat (go_big_quiet_step (fail))
        refine wpQuiet_nil ?_
        rintro w99 ⟨⟨w99, hB9⟩, rfl⟩
        (try dsimp only)
        clear k1 k2 k3 k4 k8
        all_goals
          go_wp2
          go_ret
          exact ⟨by rw [HZ.out]; rfl, HB12.out.trans (hB9.mono HB12.out.size)⟩
    · have dn : ((n : Int) != 1) = true := by simp; omega
      have HGV : Hid (g = false) := by
        show _ = _
        rw [hgg]
        unfold Ms.sole
        match hm : m.ents with
        | [] => rfl
        | [e] => have := HN.out; rw [hm] at this; simp at this; exact absurd this hn1
        | a :: b :: c => rfl
      have HZ : Hid (r = 3) := HR4.out.trans (if_pos (by rw [HGV.out]; simp))
      clear h5 hgg
      have k8 := fun p : Behind w12 => Msgs.c8 (HM12.out.below p.below HM12.out.lt)
      go_wp2
      refine wp_region_behind (by kernel_rfl) (by kernel_rfl) ?_
      repeat (go_big_quiet_step (fail))
      refine wpQuiet_nil ?_
      rintro w99 ⟨⟨w99, hB9⟩, rfl⟩
      (try dsimp only)
      clear k8
      all_goals
        go_wp2
        go_ret
        exact ⟨by rw [HZ.out]; rfl, HB12.out.trans (hB9.mono HB12.out.size)⟩

set_option maxRecDepth 20000 in
set_option maxHeartbeats 12800000 in
theorem refCheck_000001 (m : Ms.Msg) (ve vi : Value) (w : World) (he : ReadsE w ve m.ents) (hi : Reads w vi m.img) (hs : ∀ e ∈ m.ents, e.cmd.Short 140737488355328) (hk : Ms.known m.kind = true) (g1 : Ms.hv m.kind = false) (g2 : Ms.hb m.kind = false) (g3 : Ms.hi m.kind = false) (g4 : Ms.hc m.kind = false) (g5 : Ms.he m.kind = false) (g6 : Ms.hm m.kind = true) :
    Calls Tryz.prog 21 #[.agg (Ms.cells m ve vi)] w (Looks w (.int .i64 (Ms.check m))) := by
  obtain ⟨w1, e1, hl1, hB1, hz1⟩ := box_msg w m ve vi
  obtain ⟨eo, ec, rfl, hc1, hc2⟩ := ReadsE.shape he
  obtain ⟨io, ic, rfl⟩ := hi.shape
  have HCRE := Lib.hid (fun W (h : ReadsE W (.slice eo m.ents.length ec) m.ents) => refCheckE_any _ m.ents W h hs)
  have HE := Lib.hid (he.below hB1)
  have hkl := hi.len
  obtain ⟨r, hr⟩ : ∃ r, r = Ms.check m := ⟨_, rfl⟩
  rw [← hr]
  unfold Ms.check at hr
  rw [if_neg (by rw [hk]; simp)] at hr
  obtain ⟨n, hn⟩ : ∃ n, n = m.ents.length := ⟨_, rfl⟩
  obtain ⟨k, hkk⟩ : ∃ k, k = m.img.length := ⟨_, rfl⟩
  rw [← hn] at hl1 hc1 e1 HE ⊢
  rw [← hkk] at hl1 hkl e1 ⊢
  obtain ⟨x, hx⟩ : ∃ x, x = Ms.nodes m.frm m.dst := ⟨_, rfl⟩
  obtain ⟨y, hy⟩ : ∃ y, y = Ms.ranged m := ⟨_, rfl⟩
  obtain ⟨z, hz⟩ : ∃ z, z = Ms.long m := ⟨_, rfl⟩
  obtain ⟨l, hl⟩ : ∃ l, l = En.check 0 (Ms.own m).ents := ⟨_, rfl⟩
  rw [Ms.form_split] at hr
  obtain ⟨f, hf⟩ : ∃ f, f = Ms.f1 m := ⟨_, rfl⟩
  obtain ⟨g, hg⟩ : ∃ g, g = Ms.f2 m := ⟨_, rfl⟩
  rw [← hx, ← hy, ← hz, ← hl, ← hf, ← hg] at hr
  have HR := Lib.hid hr; have HX := Lib.hid hx; have HY := Lib.hid hy; have HZZ := Lib.hid hz; have HL := Lib.hid hl; have HF := Lib.hid hf; have HG := Lib.hid hg; have HN := Lib.hid hn; have HK := Lib.hid hkk
  obtain ⟨p0, p1, p2, p3, p4, p5, p6, p7, p8, p9⟩ := Msgs.ten hl1
  have HM1 := Lib.hid hl1; have HB1 := Lib.hid hB1; have HE1 := HE
  have hlet := Ms.letters_empty m.kind
  rw [hk, Bool.not_true] at hlet
  have HOWN := Lib.hid (Ms.own_iff m)
  have hnb : n ≤ 9223372036854775807 := by omega
  have hkb : k ≤ 9223372036854775807 := by omega
  clear hl1 hB1 hz1 he hi hs hr hx hy hz hl hf hg hn hkk hc1 hc2 hkl hk HE
  go_enter Tryz.func21, Tryz.ntmps21
  go_wp2_with fail
  refine (refLetters_any m.kind _).mono ?_
  rintro e2 w2 ⟨rfl, hb⟩
  have HM2 := Lib.hid (HM1.out.below hb HM1.out.lt); have HE2 := Lib.hid (HE1.out.below hb); have HB2 := Lib.hid (HB1.out.trans (hb.mono HB1.out.size))
  clear hb p0 p1 p2 p3 p4 p5 p6 p7 p8 p9
  obtain ⟨p0, p1, p2, p3, p4, p5, p6, p7, p8, p9⟩ := Msgs.ten HM2.out
  have hxx := HX.out
  unfold Ms.nodes Ms.within at hxx
  clear HX
  by_cases ht0 : m.frm < 1
  · have d0 : decide (m.frm < 1) = true := decide_eq_true ht0
    have HV : Hid (x = false) := hxx.trans (by simp only [Bool.and_eq_false_iff, decide_eq_false_iff_not]; omega)
    clear hxx
    have HZ : Hid (r = 6) := HR.out.trans (if_pos (by rw [HV.out]; rfl))
    go_wp2
    go_ret
    exact ⟨by rw [HZ.out]; rfl, HB2.out⟩
  have d0 : decide (m.frm < 1) = false := decide_eq_false ht0
  by_cases ht1 : 9 < m.frm
  · have d1 : decide (9 < m.frm) = true := decide_eq_true ht1
    have HV : Hid (x = false) := hxx.trans (by simp only [Bool.and_eq_false_iff, decide_eq_false_iff_not]; omega)
    clear hxx
    have HZ : Hid (r = 6) := HR.out.trans (if_pos (by rw [HV.out]; rfl))
    go_wp2
    go_ret
    exact ⟨by rw [HZ.out]; rfl, HB2.out⟩
  have d1 : decide (9 < m.frm) = false := decide_eq_false ht1
  by_cases ht2 : m.dst < 1
  · have d2 : decide (m.dst < 1) = true := decide_eq_true ht2
    have HV : Hid (x = false) := hxx.trans (by simp only [Bool.and_eq_false_iff, decide_eq_false_iff_not]; omega)
    clear hxx
    have HZ : Hid (r = 6) := HR.out.trans (if_pos (by rw [HV.out]; rfl))
    go_wp2
    go_ret
    exact ⟨by rw [HZ.out]; rfl, HB2.out⟩
  have d2 : decide (m.dst < 1) = false := decide_eq_false ht2
  by_cases ht3 : 9 < m.dst
  · have d3 : decide (9 < m.dst) = true := decide_eq_true ht3
    have HV : Hid (x = false) := hxx.trans (by simp only [Bool.and_eq_false_iff, decide_eq_false_iff_not]; omega)
    clear hxx
    have HZ : Hid (r = 6) := HR.out.trans (if_pos (by rw [HV.out]; rfl))
    go_wp2
    go_ret
    exact ⟨by rw [HZ.out]; rfl, HB2.out⟩
  have d3 : decide (9 < m.dst) = false := decide_eq_false ht3
  by_cases ht4 : m.frm = m.dst
  · have d4 : (m.frm == m.dst) = true := by simpa using ht4
    have HV : Hid (x = false) := hxx.trans (by simp only [Bool.and_eq_false_iff, decide_eq_false_iff_not]; omega)
    clear hxx ht4
    have HZ : Hid (r = 6) := HR.out.trans (if_pos (by rw [HV.out]; rfl))
    go_wp2
    go_ret
    exact ⟨by rw [HZ.out]; rfl, HB2.out⟩
  have d4 : (m.frm == m.dst) = false := by simpa using ht4
  have HVX : Hid (x = true) := hxx.trans (by simp only [Bool.and_eq_true, decide_eq_true_eq]; omega)
  clear hxx ht0 ht1 ht2 ht3 ht4
  have HYY : Hid (y = true) := HY.out.trans (by unfold Ms.ranged; simp [g1, g2, g3, g4])
  clear HY
  go_wp2_with fail
  refine (refHas_b' m.kind false g2 _).mono ?_
  rintro e3 w3 ⟨rfl, hb⟩
  have HM3 := Lib.hid (HM2.out.below hb HM2.out.lt); have HE3 := Lib.hid (HE2.out.below hb); have HB3 := Lib.hid (HB2.out.trans (hb.mono HB2.out.size))
  clear hb p0 p1 p2 p3 p4 p5 p6 p7 p8 p9
  obtain ⟨p0, p1, p2, p3, p4, p5, p6, p7, p8, p9⟩ := Msgs.ten HM3.out
  clear d0 d1 d2 d3 d4 hlet
  go_wp2_with fail
  refine (refHas_i' m.kind false g3 _).mono ?_
  rintro e4 w4 ⟨rfl, hb⟩
  have HM4 := Lib.hid (HM3.out.below hb HM3.out.lt); have HE4 := Lib.hid (HE3.out.below hb); have HB4 := Lib.hid (HB3.out.trans (hb.mono HB3.out.size))
  clear hb p0 p1 p2 p3 p4 p5 p6 p7 p8 p9
  obtain ⟨p0, p1, p2, p3, p4, p5, p6, p7, p8, p9⟩ := Msgs.ten HM4.out
  go_wp2_with fail
  refine (refHas_c' m.kind false g4 _).mono ?_
  rintro e5 w5 ⟨rfl, hb⟩
  have HM5 := Lib.hid (HM4.out.below hb HM4.out.lt); have HE5 := Lib.hid (HE4.out.below hb); have HB5 := Lib.hid (HB4.out.trans (hb.mono HB4.out.size))
  clear hb p0 p1 p2 p3 p4 p5 p6 p7 p8 p9
  obtain ⟨p0, p1, p2, p3, p4, p5, p6, p7, p8, p9⟩ := Msgs.ten HM5.out
  go_wp2_with fail
  refine (refHas_v' m.kind false g1 _).mono ?_
  rintro e6 w6 ⟨rfl, hb⟩
  have HM6 := Lib.hid (HM5.out.below hb HM5.out.lt); have HE6 := Lib.hid (HE5.out.below hb); have HB6 := Lib.hid (HB5.out.trans (hb.mono HB5.out.size))
  clear hb p0 p1 p2 p3 p4 p5 p6 p7 p8 p9
  obtain ⟨p0, p1, p2, p3, p4, p5, p6, p7, p8, p9⟩ := Msgs.ten HM6.out
  have HVY : Hid (y = true) := HYY.out
  have HR2 := Lib.hid (HR.out.trans (if_neg (by rw [HVX.out, HVY.out]; simp)))
  clear HR
  have hzz := HZZ.out
  unfold Ms.long at hzz
  rw [show (Ms.own m).ents = if Ms.he m.kind = true then m.ents else [] from rfl, show (Ms.own m).img = if Ms.hm m.kind = true then m.img else [] from rfl, g5, g6] at hzz
  clear HZZ
  go_wp2_with fail
  refine (refHas_e' m.kind false g5 _).mono ?_
  rintro e7 w7 ⟨rfl, hb⟩
  have HM7 := Lib.hid (HM6.out.below hb HM6.out.lt); have HE7 := Lib.hid (HE6.out.below hb); have HB7 := Lib.hid (HB6.out.trans (hb.mono HB6.out.size))
  clear hb p0 p1 p2 p3 p4 p5 p6 p7 p8 p9
  obtain ⟨p0, p1, p2, p3, p4, p5, p6, p7, p8, p9⟩ := Msgs.ten HM7.out
  go_wp2_with fail
  refine (refHas_m' m.kind true g6 _).mono ?_
  rintro e8 w8 ⟨rfl, hb⟩
  have HM8 := Lib.hid (HM7.out.below hb HM7.out.lt); have HE8 := Lib.hid (HE7.out.below hb); have HB8 := Lib.hid (HB7.out.trans (hb.mono HB7.out.size))
  clear hb p0 p1 p2 p3 p4 p5 p6 p7 p8 p9
  obtain ⟨p0, p1, p2, p3, p4, p5, p6, p7, p8, p9⟩ := Msgs.ten HM8.out
  rw [if_pos trivial, ← HK.out] at hzz
  by_cases ht : 32768 < k
  · have d : decide ((32768 : Int) < (k : Int)) = true := by simp; omega
    have HV : Hid (z = true) := hzz.trans (by rw [decide_eq_true ht]; rfl)
    clear hzz
    have HZ : Hid (r = 2) := HR2.out.trans (if_pos HV.out)
    go_wp2
    go_ret
    exact ⟨by rw [HZ.out]; rfl, HB8.out⟩
  have dm : decide ((32768 : Int) < (k : Int)) = false := by simp; omega
  have HVZ : Hid (z = false) := hzz.trans (by rw [decide_eq_false ht]; rfl)
  have htm := ht
  clear hzz ht
  have HR3 := Lib.hid (HR2.out.trans (if_neg (by rw [HVZ.out]; simp)))
  clear HR2
  go_wp2_with fail
  refine (refHas_e' m.kind false g5 _).mono ?_
  rintro e9 w9 ⟨rfl, hb⟩
  have HM9 := Lib.hid (HM8.out.below hb HM8.out.lt); have HE9 := Lib.hid (HE8.out.below hb); have HB9 := Lib.hid (HB8.out.trans (hb.mono HB8.out.size))
  clear hb p0 p1 p2 p3 p4 p5 p6 p7 p8 p9
  obtain ⟨p0, p1, p2, p3, p4, p5, p6, p7, p8, p9⟩ := Msgs.ten HM9.out
  have HR4 : Hid (r = if (f && g) = false then 3 else 0) := HR3.out.trans (if_neg (by rw [HL.out, show (Ms.own m).ents = [] from if_neg (by rw [g5]; simp)]; decide))
  clear HR3
  have hff := HF.out
  unfold Ms.f1 at hff
  rw [g6] at hff
  clear HF
  have k3 := fun p : Behind w9 => Msgs.c3 (HM9.out.below p.below HM9.out.lt)
  have k4 := fun p : Behind w9 => Msgs.c4 (HM9.out.below p.below HM9.out.lt)
  have k5 := fun p : Behind w9 => Msgs.c5 (HM9.out.below p.below HM9.out.lt)
  have k6 := fun p : Behind w9 => Msgs.c6 (HM9.out.below p.below HM9.out.lt)
  have k7 := fun p : Behind w9 => Msgs.c7 (HM9.out.below p.below HM9.out.lt)
  have k8 := fun p : Behind w9 => Msgs.c8 (HM9.out.below p.below HM9.out.lt)
  have k9 := fun p : Behind w9 => Msgs.c9 (HM9.out.below p.below HM9.out.lt)
  have hXb := Ms.hasX_b g2
  have hXi := Ms.hasX_i g3
  have hXc := Ms.hasX_c g4
  have hXv := Ms.hasX_v g1
  have hXe := Ms.hasX_e g5
  have hXm := Ms.hasX_m g6
  clear p0 p1 p2 p3 p4 p5 p6 p7 p8 p9
  by_cases hxr : m.bal.round = 0
  rotate_left
  · have d : (m.bal.round != 0) = true := by simpa using hxr
    have HV : Hid (f = false) := hff.trans (by rw [decide_eq_false fun h => (((HOWN.out.1 h).1).elim (fun q => by rw [g2] at q; cases q) (fun q => hxr (by rw [q]; rfl)) : False)]; rfl)
    clear hff
    have HZ : Hid (r = 3) := HR4.out.trans (if_pos (by rw [HV.out]; rfl))
    go_wp2
    dsimp only [List.append]
    refine wp_region_behind (by kernel_rfl) (by kernel_rfl) ?_
    repeat (go_big_quiet_step ((go_at_call 38; exact Looks.behind (refHasX _ _ (by decide) _))))
    refine wpQuiet_nil ?_
    rintro w10 ⟨⟨w10, hb⟩, rfl⟩
    (try dsimp only)
    clear k3 k4 k5 k6 k7 k8 k9
    go_wp2
    go_ret
    exact ⟨by rw [HZ.out]; rfl, HB9.out.trans (hb.mono HB9.out.size)⟩
  have dxr : (m.bal.round != 0) = false := by simpa using hxr
  have Hxr := Lib.hid hxr
  clear hxr
  by_cases hxn : m.bal.node = 0
  rotate_left
  · have d : (m.bal.node != 0) = true := by simpa using hxn
    have HV : Hid (f = false) := hff.trans (by rw [decide_eq_false fun h => (((HOWN.out.1 h).1).elim (fun q => by rw [g2] at q; cases q) (fun q => hxn (by rw [q]; rfl)) : False)]; rfl)
    clear hff
    have HZ : Hid (r = 3) := HR4.out.trans (if_pos (by rw [HV.out]; rfl))
    go_wp2
    dsimp only [List.append]
    refine wp_region_behind (by kernel_rfl) (by kernel_rfl) ?_
    repeat (go_big_quiet_step ((go_at_call 38; exact Looks.behind (refHasX _ _ (by decide) _))))
    refine wpQuiet_nil ?_
    rintro w10 ⟨⟨w10, hb⟩, rfl⟩
    (try dsimp only)
    clear k3 k4 k5 k6 k7 k8 k9
    go_wp2
    go_ret
    exact ⟨by rw [HZ.out]; rfl, HB9.out.trans (hb.mono HB9.out.size)⟩
  have dxn : (m.bal.node != 0) = false := by simpa using hxn
  have Hxn := Lib.hid hxn
  clear hxn
  by_cases hxi : m.index = 0
  rotate_left
  · have d : (m.index != 0) = true := by simpa using hxi
    have HV : Hid (f = false) := hff.trans (by rw [decide_eq_false fun h => (((HOWN.out.1 h).2.1).elim (fun q => by rw [g3] at q; cases q) (fun q => hxi q) : False)]; rfl)
    clear hff
    have HZ : Hid (r = 3) := HR4.out.trans (if_pos (by rw [HV.out]; rfl))
    go_wp2
    dsimp only [List.append]
    refine wp_region_behind (by kernel_rfl) (by kernel_rfl) ?_
    repeat (go_big_quiet_step ((go_at_call 38; exact Looks.behind (refHasX _ _ (by decide) _))))
    refine wpQuiet_nil ?_
    rintro w10 ⟨⟨w10, hb⟩, rfl⟩
    (try dsimp only)
    clear k3 k4 k5 k6 k7 k8 k9
    go_wp2
    go_ret
    exact ⟨by rw [HZ.out]; rfl, HB9.out.trans (hb.mono HB9.out.size)⟩
  have dxi : (m.index != 0) = false := by simpa using hxi
  have Hxi := Lib.hid hxi
  clear hxi
  by_cases hxc : m.commit = 0
  rotate_left
  · have d : (m.commit != 0) = true := by simpa using hxc
    have HV : Hid (f = false) := hff.trans (by rw [decide_eq_false fun h => (((HOWN.out.1 h).2.2.1).elim (fun q => by rw [g4] at q; cases q) (fun q => hxc q) : False)]; rfl)
    clear hff
    have HZ : Hid (r = 3) := HR4.out.trans (if_pos (by rw [HV.out]; rfl))
    go_wp2
    dsimp only [List.append]
    refine wp_region_behind (by kernel_rfl) (by kernel_rfl) ?_
    repeat (go_big_quiet_step ((go_at_call 38; exact Looks.behind (refHasX _ _ (by decide) _))))
    refine wpQuiet_nil ?_
    rintro w10 ⟨⟨w10, hb⟩, rfl⟩
    (try dsimp only)
    clear k3 k4 k5 k6 k7 k8 k9
    go_wp2
    go_ret
    exact ⟨by rw [HZ.out]; rfl, HB9.out.trans (hb.mono HB9.out.size)⟩
  have dxc : (m.commit != 0) = false := by simpa using hxc
  have Hxc := Lib.hid hxc
  clear hxc
  by_cases hxv : m.version = 0
  rotate_left
  · have d : (m.version != 0) = true := by simpa using hxv
    have HV : Hid (f = false) := hff.trans (by rw [decide_eq_false fun h => (((HOWN.out.1 h).2.2.2.1).elim (fun q => by rw [g1] at q; cases q) (fun q => hxv q) : False)]; rfl)
    clear hff
    have HZ : Hid (r = 3) := HR4.out.trans (if_pos (by rw [HV.out]; rfl))
    go_wp2
    dsimp only [List.append]
    refine wp_region_behind (by kernel_rfl) (by kernel_rfl) ?_
    repeat (go_big_quiet_step ((go_at_call 38; exact Looks.behind (refHasX _ _ (by decide) _))))
    refine wpQuiet_nil ?_
    rintro w10 ⟨⟨w10, hb⟩, rfl⟩
    (try dsimp only)
    clear k3 k4 k5 k6 k7 k8 k9
    go_wp2
    go_ret
    exact ⟨by rw [HZ.out]; rfl, HB9.out.trans (hb.mono HB9.out.size)⟩
  have dxv : (m.version != 0) = false := by simpa using hxv
  have Hxv := Lib.hid hxv
  clear hxv
  by_cases hxe : n = 0
  rotate_left
  · have d : decide (0 < n) = true := decide_eq_true (by omega)
    have d' : decide ((0 : Int) < (n : Int)) = true := decide_eq_true (by omega)
    have HV : Hid (f = false) := hff.trans (by rw [decide_eq_false fun h => (((HOWN.out.1 h).2.2.2.2.1).elim (fun q => by rw [g5] at q; cases q) (fun q => hxe (by rw [HN.out, q]; rfl)) : False)]; rfl)
    clear hff
    have HZ : Hid (r = 3) := HR4.out.trans (if_pos (by rw [HV.out]; rfl))
    go_wp2
    dsimp only [List.append]
    refine wp_region_behind (by kernel_rfl) (by kernel_rfl) ?_
    repeat (go_big_quiet_step ((go_at_call 38; exact Looks.behind (refHasX _ _ (by decide) _))))
    refine wpQuiet_nil ?_
    rintro w10 ⟨⟨w10, hb⟩, rfl⟩
    (try dsimp only)
    clear k3 k4 k5 k6 k7 k8 k9
    go_wp2
    go_ret
    exact ⟨by rw [HZ.out]; rfl, HB9.out.trans (hb.mono HB9.out.size)⟩
  have dxe : decide (0 < n) = false := decide_eq_false (by omega)
  have dxe' : decide ((0 : Int) < (n : Int)) = false := decide_eq_false (by omega)
  have Hxe : Hid (m.ents = []) := List.eq_nil_of_length_eq_zero (by rw [← HN.out]; exact hxe)
  clear hxe
  rw [decide_eq_true (HOWN.out.2 ⟨.inr (Ms.bal_zero Hxr.out Hxn.out), .inr Hxi.out, .inr Hxc.out, .inr Hxv.out, .inr Hxe.out, .inl g6⟩)] at hff
  by_cases hm0 : k = 0
  · have d : decide (0 < k) = false := decide_eq_false (by omega)
    have d' : decide ((0 : Int) < (k : Int)) = false := decide_eq_false (by omega)
    have HV : Hid (f = false) := hff.trans (by rw [← HK.out, d]; rfl)
    clear hff hm0
    have HZ : Hid (r = 3) := HR4.out.trans (if_pos (by rw [HV.out]; rfl))
    go_wp2
    dsimp only [List.append]
    refine wp_region_behind (by kernel_rfl) (by kernel_rfl) ?_
    repeat (go_big_quiet_step ((go_at_call 38; exact Looks.behind (refHasX _ _ (by decide) _))))
    refine wpQuiet_nil ?_
    rintro w10 ⟨⟨w10, hb⟩, rfl⟩
    (try dsimp only)
    clear k3 k4 k5 k6 k7 k8 k9
    go_wp2
    go_ret
    exact ⟨by rw [HZ.out]; rfl, HB9.out.trans (hb.mono HB9.out.size)⟩
  have d : decide (0 < k) = true := decide_eq_true (by omega)
  have d' : decide ((0 : Int) < (k : Int)) = true := decide_eq_true (by omega)
  have HVF : Hid (f = true) := hff.trans (by rw [← HK.out, d]; rfl)
  clear hff hm0
  go_wp2
  dsimp only [List.append]
  refine wp_region_behind (by kernel_rfl) (by kernel_rfl) ?_
  repeat (go_big_quiet_step ((go_at_call 38; exact Looks.behind (refHasX _ _ (by decide) _))))
  refine wpQuiet_nil ?_
  rintro w10 ⟨⟨w10, hb⟩, rfl⟩
  (try dsimp only)
  clear k3 k4 k5 k6 k7 k8 k9
  have HM10 := Lib.hid (HM9.out.below hb HM9.out.lt); have HE10 := Lib.hid (HE9.out.below hb); have HB10 := Lib.hid (HB9.out.trans (hb.mono HB9.out.size))
  clear hb
  have hgg := HG.out
  unfold Ms.f2 at hgg
  have h5 : m.kind ≠ 5 := fun h => by rw [h] at g6; revert g6; decide
  have d5 : (m.kind == 5) = false := by simpa using h5
  rw [if_neg h5] at hgg
  have HZ : Hid (r = 0) := HR4.out.trans (if_neg (by rw [HVF.out, hgg]; simp))
  clear h5 hgg
  go_wp2
  refine wp_region_behind (by kernel_rfl) (by kernel_rfl) ?_
  repeat (go_big_quiet_step (fail))
  refine wpQuiet_nil ?_
  rintro w99 ⟨⟨w99, hB9⟩, rfl⟩
  (try dsimp only)
  all_goals
    go_wp2
    go_ret
    exact ⟨by rw [HZ.out]; rfl, HB10.out.trans (hB9.mono HB10.out.size)⟩

end Go.Proofs.YtndicjpbanmpjaaGreatDoor
