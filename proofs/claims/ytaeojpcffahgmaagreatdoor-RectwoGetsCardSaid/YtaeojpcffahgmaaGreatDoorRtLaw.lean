/- RectwoPuts, RectwoGets, RectwoRewrites. Written by wip/tools/genlaw17.py. -/
import Derived.Test.YtaeojpcffahgmaaGreatDoorGRu
import Derived.Test.YtaeojpcffahgmaaGreatDoorRtRef
import Derived.Test.YtaeojpcffahgmaaGreatDoorReLaw
namespace Go.Proofs.YtaeojpcffahgmaaGreatDoor
open Go.RowKit

/-! In either format. -/
theorem Rt.in_1 : (1 : Int) = 1 ∨ (1 : Int) = 2 := .inl rfl
theorem Rt.in_2 : (2 : Int) = 1 ∨ (2 : Int) = 2 := .inr rfl
theorem Rt.get_back {v : Int} (hv : v = 1 ∨ v = 2) {x : Re.Rec} (h : Re.olderIn v x = 0) (hf : x.Fits) {s : Nat} (hs : x.cmd.Short s) (hs2 : s ≤ 9223372036854775807) : Rt.get v (Rt.bytesIn v x) = (x, 0) := by
  rcases hv with rfl | rfl
  · rw [show Re.olderIn 1 x = Re.older x from Re.olderIn_one x] at h
    exact Re.decode_back h hf hs hs2
  · rw [Rt.older_two] at h
    exact Rt.decode_back h hf hs hs2
theorem Rt.get_apart {v : Int} (hv : v = 1 ∨ v = 2) {x : Re.Rec} (h : Re.olderIn v x = 0) (hf : x.Fits) {s : Nat} (hs : x.cmd.Short s) (hs2 : s ≤ 9223372036854775807) : (Rt.get (3 - v) (Rt.bytesIn v x)).2 ≠ 0 := by
  rcases hv with rfl | rfl
  · rw [show Re.olderIn 1 x = Re.older x from Re.olderIn_one x] at h
    exact Rt.apart_one h hf hs hs2
  · rw [Rt.older_two] at h
    exact Rt.apart_two h hf hs hs2
theorem Re.olderIn_check {v : Int} {x : Re.Rec} (h : Re.olderIn v x = 0) : Re.check x = 0 := by
  unfold Re.olderIn at h
  by_cases hc : Re.check x = 0
  · exact hc
  · rw [if_pos hc] at h; exact absurd h hc
theorem Rt.bytesIn_len {v : Int} {x : Re.Rec} (h : Re.olderIn v x = 0) (hf : x.Fits) (hs : x.cmd.Short 1000) (hm : x.img.length ≤ 100000) : (Rt.bytesIn v x).length ≤ 110000 := by
  have hk := (Re.check_good (Re.olderIn_check h)).kind
  unfold Rt.bytesIn
  split
  · exact Rt.bytes_len hk hf hs hm
  · exact Re.bytes_len hf hs hm
theorem Rt.get_none {v : Int} (hv : v = 1 ∨ v = 2) {s : List UInt8} (h : (Rt.get v s).2 ≠ 0) : (Rt.get v s).1 = Re.zero := by
  rcases hv with rfl | rfl
  · exact Re.decode_none s h
  · exact Rt.decode_none s h
theorem Rt.get_ok {v : Int} (hv : v = 1 ∨ v = 2) {s : List UInt8} (h : (Rt.get v s).2 = 0) :
    Re.olderIn v (Rt.get v s).1 = 0 ∧ Rt.bytesIn v (Rt.get v s).1 = s ∧ (Rt.get v s).1.Fits ∧ (Rt.get v s).1.cmd.Short 1000 ∧ (Rt.get v s).1.img.length ≤ 32768 := by
  rcases hv with rfl | rfl
  · have h' : (Re.decode s).2 = 0 := h
    obtain ⟨h1, h2, h3⟩ := Re.decode_ok s h'
    obtain ⟨s1, s2, s3, _⟩ := Re.decoded_small h'
    refine ⟨?_, ?_, s1, s2, s3⟩
    · rw [show Re.olderIn 1 _ = Re.older _ from Re.olderIn_one _]
      show Re.older (Re.decode s).1 = 0
      rw [h1]; exact h2
    · show Re.bytes (Re.decode s).1 = s
      rw [h1]; exact h3
  · have h' : (Rt.decode s).2 = 0 := h
    obtain ⟨h1, h2, h3⟩ := Rt.decode_ok s h'
    have hg := Re.check_good h2
    obtain ⟨s1, _, _⟩ := Rt.got_inv s
    have hM : (Rt.get 2 s).1 = Rt.gotR s := h1
    rw [hM]
    refine ⟨by rw [Rt.older_two]; exact h2, h3, s1, ?_, Re.good_len hg⟩
    by_cases hk : Re.hc (Rt.gotR s).kind = true
    · exact Short.up (Cm.check_short (hg.cmd hk)) (by omega)
    · rw [Re.good_cmd hg (by simpa using hk)]
      exact Re.short_cmd0 _

set_option maxRecDepth 4000 in
set_option maxHeartbeats 1600000 in
theorem awakeRt_any (w : World) (hW : WordsIn w) : Calls Tryz.prog 7 #[] w (Truly w) := by
  have hcall := encodeRt_any Re.ask (.slice none 0 0) w hW (Reads.empty w) ⟨by decide +kernel, Re.fits_cmd0⟩ (Re.short_cmd0 _) (by simp [Re.ask])
  rw [show Rt.encode Re.ask = ([17, 2, 3], 0) by decide +kernel] at hcall
  have HCALL := Lib.hid hcall
  clear hcall hW
  go_enter Tryz.func7, Tryz.ntmps7
  go_wp2_with fail
  refine HCALL.out.mono ?_
  rintro e1 w1 ⟨hB1, u, rfl, hu⟩
  obtain ⟨ao, cap, rfl⟩ := hu.shape
  obtain ⟨b, off, rfl, hcell⟩ := hu.place (by simp)
  have c0 := hcell 0 17 rfl
  rw [Nat.add_zero] at c0
  have hlen := hu.len
  have HB1 := Lib.hid hB1
  clear hu hcell hB1
  go_wp2
  go_ret
  exact truly_of HB1.out

set_option maxRecDepth 4000 in
set_option maxHeartbeats 6400000 in
theorem rectwoPuts_no (v : Int) (m : Re.Rec) (vi : Value) (w : World) (hW : WordsIn w) (hi : Reads w vi m.img) (hf : m.Fits) (hs : m.cmd.Short 9223372036854775807) (hv : ¬ (v = 1 ∨ v = 2)) (hx : Re.large m = false) :
    Calls Tryz.prog 3 #[.int .i64 v, .agg (Re.cells m vi)] w (Truly w) := by
  obtain ⟨w1, e1, hl1, hB1, hz1⟩ := box_rec w m vi
  obtain ⟨p0, p1, p2, p3, p4, p5, p6, p7, p8, p9, p10, p11⟩ := Recs.all hl1
  have HM1 := Lib.hid hl1; have HB1 := Lib.hid hB1
  have HI := Lib.hid (fun W (h : Below w.heap.size w W) => hi.below h)
  have HFW := Lib.hid (fun W (h : Below w.heap.size w W) => hW.below h)
  have HFIT := Lib.hid hf
  obtain ⟨hsm, himg⟩ := Re.small hx
  have HSM := Lib.hid hsm; have HIM := Lib.hid himg
  have hlarge := largeRe_any m vi w1 (HI.out _ hB1) hs
  rw [hx] at hlarge
  have HLARGE := Lib.hid hlarge
  have d1 : (v == 1) = false := by simp; omega
  have d2 : (v == 2) = false := by simp; omega
  have HP : Hid (Rt.put v m = ([], 8)) := by show _ = _; unfold Rt.put; rw [if_neg hv]
  clear hl1 hB1 hz1 hW hi hf hs hx hlarge himg hsm hv
  go_enter Tryz.func3, Tryz.ntmps3
  go_wp2_with fail
  refine HLARGE.out.mono ?_
  rintro e2 w2 ⟨rfl, hb⟩
  have HM2 := Lib.hid (HM1.out.below hb HM1.out.lt); have HB2 := Lib.hid (HB1.out.trans (hb.mono HB1.out.size))
  clear hb p0 p1 p2 p3 p4 p5 p6 p7 p8 p9 p10 p11 HLARGE
  obtain ⟨p0, p1, p2, p3, p4, p5, p6, p7, p8, p9, p10, p11⟩ := Recs.all HM2.out
  go_wp2_with fail
  refine (putRt_any v m vi _ (HFW.out _ HB2.out) (HI.out _ HB2.out) HFIT.out (Short.up HSM.out (by omega)) (by have := HIM.out; omega)).mono ?_
  rintro e3 w3 ⟨hb, ub, rfl, hub⟩
  rw [HP.out] at hub ⊢
  dsimp only at hub ⊢
  obtain ⟨bo, bc, rfl⟩ := hub.shape
  have HB3 := Lib.hid (HB2.out.trans (hb.mono HB2.out.size))
  clear hb hub p0 p1 p2 p3 p4 p5 p6 p7 p8 p9 p10 p11
  go_wp2_with fail
  refine (awakeRt_any _ (HFW.out _ HB3.out)).mono ?_
  rintro ea wa ⟨rfl, hb⟩
  go_wp2
  go_ret
  exact truly_of (HB3.out.trans (hb.mono HB3.out.size))

set_option maxRecDepth 4000 in
set_option maxHeartbeats 6400000 in
theorem rectwoPuts_1 (m : Re.Rec) (vi : Value) (w : World) (hW : WordsIn w) (hi : Reads w vi m.img) (hf : m.Fits) (hs : m.cmd.Short 9223372036854775807) (hx : Re.large m = false) :
    Calls Tryz.prog 3 #[.int .i64 1, .agg (Re.cells m vi)] w (Truly w) := by
  obtain ⟨w1, e1, hl1, hB1, hz1⟩ := box_rec w m vi
  obtain ⟨p0, p1, p2, p3, p4, p5, p6, p7, p8, p9, p10, p11⟩ := Recs.all hl1
  have HM1 := Lib.hid hl1; have HB1 := Lib.hid hB1
  have HI := Lib.hid (fun W (h : Below w.heap.size w W) => hi.below h)
  have HFW := Lib.hid (fun W (h : Below w.heap.size w W) => hW.below h)
  have HFIT := Lib.hid hf
  obtain ⟨hsm, himg⟩ := Re.small hx
  have HSM := Lib.hid hsm; have HIM := Lib.hid himg
  have hlarge := largeRe_any m vi w1 (HI.out _ hB1) hs
  rw [hx] at hlarge
  have HLARGE := Lib.hid hlarge
  obtain ⟨c, hc⟩ : ∃ c, c = Re.olderIn 1 m := ⟨_, rfl⟩
  have HP : Hid (Rt.put 1 m = if c ≠ 0 then ([], c) else (Rt.bytesIn 1 m, 0)) := by show _ = _; unfold Rt.put; rw [if_pos Rt.in_1, hc]
  have HC := Lib.hid hc
  clear hl1 hB1 hz1 hW hi hf hs hx hlarge himg hsm hc
  go_enter Tryz.func3, Tryz.ntmps3
  go_wp2_with fail
  refine HLARGE.out.mono ?_
  rintro e2 w2 ⟨rfl, hb⟩
  have HM2 := Lib.hid (HM1.out.below hb HM1.out.lt); have HB2 := Lib.hid (HB1.out.trans (hb.mono HB1.out.size))
  clear hb p0 p1 p2 p3 p4 p5 p6 p7 p8 p9 p10 p11 HLARGE
  obtain ⟨p0, p1, p2, p3, p4, p5, p6, p7, p8, p9, p10, p11⟩ := Recs.all HM2.out
  go_wp2_with fail
  refine (putRt_any 1 m vi _ (HFW.out _ HB2.out) (HI.out _ HB2.out) HFIT.out (Short.up HSM.out (by omega)) (by have := HIM.out; omega)).mono ?_
  rintro e3 w3 ⟨hb, ub, rfl, hub⟩
  rw [HP.out] at hub ⊢
  have HM3 := Lib.hid (HM2.out.below hb HM2.out.lt); have HB3 := Lib.hid (HB2.out.trans (hb.mono HB2.out.size))
  clear hb p0 p1 p2 p3 p4 p5 p6 p7 p8 p9 p10 p11
  obtain ⟨p0, p1, p2, p3, p4, p5, p6, p7, p8, p9, p10, p11⟩ := Recs.all HM3.out
  have hold := refHasRe_any 1 m vi w3 (HI.out _ HB3.out) (Short.up HSM.out (by omega))
  rw [← HC.out] at hold
  have HOLD := Lib.hid hold
  clear hold
  by_cases h0 : c = 0
  · subst h0
    rw [if_neg (by simp)] at hub ⊢
    dsimp only at hub ⊢
    have HUB3 := Lib.hid hub
    obtain ⟨bo, bc, rfl⟩ := hub.shape
    have HBL : Hid ((Rt.bytesIn 1 m).length ≤ 110000) := Rt.bytesIn_len HC.out.symm HFIT.out (Short.up HSM.out (by omega)) (by have := HIM.out; omega)
    obtain ⟨bn, hbn⟩ : ∃ bn, bn = (Rt.bytesIn 1 m).length := ⟨_, rfl⟩
    rw [← hbn] at HUB3 ⊢
    clear hub hbn
    go_wp2_with fail
    refine HOLD.out.mono ?_
    rintro e4 w4 ⟨rfl, hb⟩
    have HM4 := Lib.hid (HM3.out.below hb HM3.out.lt); have HB4 := Lib.hid (HB3.out.trans (hb.mono HB3.out.size)); have HUB4 := Lib.hid (HUB3.out.below hb)
    clear hb p0 p1 p2 p3 p4 p5 p6 p7 p8 p9 p10 p11 HOLD
    have hdec := getRt_any 1 (.slice bo bn bc) (Rt.bytesIn 1 m) w4 (HFW.out _ HB4.out) HUB4.out (by have := HBL.out; omega)
    rw [Rt.get_back Rt.in_1 HC.out.symm HFIT.out HSM.out (by omega)] at hdec
    have HDEC := Lib.hid hdec
    clear hdec
    go_wp2_with fail
    refine HDEC.out.mono ?_
    rintro e5 w5 ⟨hb, xi, rfl, hxi, h1xi⟩
    dsimp only at hxi ⊢
    have HM5 := Lib.hid (HM4.out.below hb HM4.out.lt); have HB5 := Lib.hid (HB4.out.trans (hb.mono HB4.out.size)); have HUB5 := Lib.hid (HUB4.out.below hb)
    have HXI5 := Lib.hid hxi; have H2 := Lib.hid h1xi
    clear hb hxi h1xi
    go_wp2_with (first
      | (refine store_rec (by rfl) _ _ (by rfl) w5.heap.size Re.zero _ m xi (by rfl) (by rfl) H2.out (Lies.new _ _ _) ?_
         intro w6 hl6 hg6
         have hb := fresh_below hg6
         have HX6 := Lib.hid hl6; have HM6 := Lib.hid (HM5.out.below hb HM5.out.lt); have HB6 := Lib.hid (HB5.out.trans (hb.mono HB5.out.size)); have HUB6 := Lib.hid (HUB5.out.below hb)
         have HXI6 := Lib.hid (HXI5.out.below hb)
         clear hl6 hg6 hb)
      | fail)
    have hap := Rt.get_apart Rt.in_1 HC.out.symm HFIT.out HSM.out (by omega)
    rw [show (3 : Int) - 1 = 2 from rfl] at hap
    have hdec := getRt_any 2 (.slice bo bn bc) (Rt.bytesIn 1 m) w6 (HFW.out _ HB6.out) HUB6.out (by have := HBL.out; omega)
    obtain ⟨r, hr⟩ : ∃ r, r = Rt.get 2 (Rt.bytesIn 1 m) := ⟨_, rfl⟩
    rw [← hr] at hdec hap
    obtain ⟨rz, hrz⟩ : ∃ rz, rz = r.2 := ⟨_, rfl⟩
    rw [← hrz] at hap
    have hne : (rz != 0) = true := by simpa using hap
    have HRZ := Lib.hid hrz
    refine hdec.mono ?_
    rintro e7 w7 ⟨hb, yi, rfl, hyi, h1yi⟩
    rw [← HRZ.out]
    have HX7 := Lib.hid (HX6.out.below hb HX6.out.lt); have HM7 := Lib.hid (HM6.out.below hb HM6.out.lt); have HB7 := Lib.hid (HB6.out.trans (hb.mono HB6.out.size)); have HUB7 := Lib.hid (HUB6.out.below hb)
    have HXI7 := Lib.hid (HXI6.out.below hb); have HY7 := Lib.hid hyi; have H3 := Lib.hid h1yi
    clear hb hyi h1yi hdec hr hrz hap
    go_wp2_with (first
      | (refine store_rec (by rfl) _ _ (by rfl) w7.heap.size Re.zero _ r.1 yi (by rfl) (by rfl) H3.out (Lies.new _ _ _) ?_
         intro w8 hl8 hg8
         have hb := fresh_below hg8
         have HX8 := Lib.hid (HX7.out.below hb HX7.out.lt); have HM8 := Lib.hid (HM7.out.below hb HM7.out.lt); have HB8 := Lib.hid (HB7.out.trans (hb.mono HB7.out.size)); have HUB8 := Lib.hid (HUB7.out.below hb)
         have HXI8 := Lib.hid (HXI7.out.below hb)
         clear hl8 hg8 hb
         obtain ⟨p0, p1, p2, p3, p4, p5, p6, p7, p8, p9, p10, p11⟩ := Recs.all HM8.out)
      | fail)
    refine (refBytesRt_any 1 m vi _ Rt.in_1 HC.out.symm (HI.out _ HB8.out) HFIT.out (Short.up HSM.out (by omega)) (by have := HIM.out; omega)).mono ?_
    rintro e9 w9 ⟨ur, rfl, hur, hb⟩
    have HX9 := Lib.hid (HX8.out.below hb HX8.out.lt); have HM9 := Lib.hid (HM8.out.below hb HM8.out.lt); have HB9 := Lib.hid (HB8.out.trans (hb.mono HB8.out.size)); have HUB9 := Lib.hid (HUB8.out.below hb)
    have HXI9 := Lib.hid (HXI8.out.below hb); have HUR9 := Lib.hid hur.reads
    clear hb hur p0 p1 p2 p3 p4 p5 p6 p7 p8 p9 p10 p11
    have hsame := sameB_any (.slice bo bn bc) ur (Rt.bytesIn 1 m) (Rt.bytesIn 1 m) w9 HUB9.out HUR9.out
    rw [show (Rt.bytesIn 1 m == Rt.bytesIn 1 m) = true by simp] at hsame
    have HSAME := Lib.hid hsame
    clear hsame
    go_wp2_with fail
    refine HSAME.out.mono ?_
    rintro e10 w10 ⟨rfl, hb⟩
    have HX10 := Lib.hid (HX9.out.below hb HX9.out.lt); have HM10 := Lib.hid (HM9.out.below hb HM9.out.lt); have HB10 := Lib.hid (HB9.out.trans (hb.mono HB9.out.size))
    have HXI10 := Lib.hid (HXI9.out.below hb)
    clear hb
    obtain ⟨p0, p1, p2, p3, p4, p5, p6, p7, p8, p9, p10, p11⟩ := Recs.all HM10.out
    obtain ⟨q0, q1, q2, q3, q4, q5, q6, q7, q8, q9, q10, q11⟩ := Recs.all HX10.out
    have hsm := refSameRe_any m m xi vi w10 HXI10.out (HI.out _ HB10.out)
    rw [show decide (m = m) = true from decide_eq_true rfl] at hsm
    have HSM2 := Lib.hid hsm
    clear hsm
    go_wp2_with fail
    refine HSM2.out.mono ?_
    rintro e11 w11 ⟨rfl, hb⟩
    have HB11 := Lib.hid (HB10.out.trans (hb.mono HB10.out.size))
    clear hb p0 p1 p2 p3 p4 p5 p6 p7 p8 p9 p10 p11 q0 q1 q2 q3 q4 q5 q6 q7 q8 q9 q10 q11
    go_wp2_with fail
    refine (awakeRt_any _ (HFW.out _ HB11.out)).mono ?_
    rintro ea wa ⟨rfl, hb⟩
    go_wp2
    go_ret
    exact truly_of (HB11.out.trans (hb.mono HB11.out.size))
  · rw [if_pos h0] at hub ⊢
    dsimp only at hub ⊢
    obtain ⟨bo, bc, rfl⟩ := hub.shape
    have hne : (c != 0) = true := by simpa using h0
    have hcc : (c == c) = true := by simp
    clear hub h0
    go_wp2_with fail
    refine HOLD.out.mono ?_
    rintro e4 w4 ⟨rfl, hb⟩
    have HB4 := Lib.hid (HB3.out.trans (hb.mono HB3.out.size))
    clear hb p0 p1 p2 p3 p4 p5 p6 p7 p8 p9 p10 p11
    go_wp2_with fail
    refine (awakeRt_any _ (HFW.out _ HB4.out)).mono ?_
    rintro ea wa ⟨rfl, hb⟩
    go_wp2
    go_ret
    exact truly_of (HB4.out.trans (hb.mono HB4.out.size))

set_option maxRecDepth 4000 in
set_option maxHeartbeats 6400000 in
theorem rectwoPuts_2 (m : Re.Rec) (vi : Value) (w : World) (hW : WordsIn w) (hi : Reads w vi m.img) (hf : m.Fits) (hs : m.cmd.Short 9223372036854775807) (hx : Re.large m = false) :
    Calls Tryz.prog 3 #[.int .i64 2, .agg (Re.cells m vi)] w (Truly w) := by
  obtain ⟨w1, e1, hl1, hB1, hz1⟩ := box_rec w m vi
  obtain ⟨p0, p1, p2, p3, p4, p5, p6, p7, p8, p9, p10, p11⟩ := Recs.all hl1
  have HM1 := Lib.hid hl1; have HB1 := Lib.hid hB1
  have HI := Lib.hid (fun W (h : Below w.heap.size w W) => hi.below h)
  have HFW := Lib.hid (fun W (h : Below w.heap.size w W) => hW.below h)
  have HFIT := Lib.hid hf
  obtain ⟨hsm, himg⟩ := Re.small hx
  have HSM := Lib.hid hsm; have HIM := Lib.hid himg
  have hlarge := largeRe_any m vi w1 (HI.out _ hB1) hs
  rw [hx] at hlarge
  have HLARGE := Lib.hid hlarge
  obtain ⟨c, hc⟩ : ∃ c, c = Re.olderIn 2 m := ⟨_, rfl⟩
  have HP : Hid (Rt.put 2 m = if c ≠ 0 then ([], c) else (Rt.bytesIn 2 m, 0)) := by show _ = _; unfold Rt.put; rw [if_pos Rt.in_2, hc]
  have HC := Lib.hid hc
  clear hl1 hB1 hz1 hW hi hf hs hx hlarge himg hsm hc
  go_enter Tryz.func3, Tryz.ntmps3
  go_wp2_with fail
  refine HLARGE.out.mono ?_
  rintro e2 w2 ⟨rfl, hb⟩
  have HM2 := Lib.hid (HM1.out.below hb HM1.out.lt); have HB2 := Lib.hid (HB1.out.trans (hb.mono HB1.out.size))
  clear hb p0 p1 p2 p3 p4 p5 p6 p7 p8 p9 p10 p11 HLARGE
  obtain ⟨p0, p1, p2, p3, p4, p5, p6, p7, p8, p9, p10, p11⟩ := Recs.all HM2.out
  go_wp2_with fail
  refine (putRt_any 2 m vi _ (HFW.out _ HB2.out) (HI.out _ HB2.out) HFIT.out (Short.up HSM.out (by omega)) (by have := HIM.out; omega)).mono ?_
  rintro e3 w3 ⟨hb, ub, rfl, hub⟩
  rw [HP.out] at hub ⊢
  have HM3 := Lib.hid (HM2.out.below hb HM2.out.lt); have HB3 := Lib.hid (HB2.out.trans (hb.mono HB2.out.size))
  clear hb p0 p1 p2 p3 p4 p5 p6 p7 p8 p9 p10 p11
  obtain ⟨p0, p1, p2, p3, p4, p5, p6, p7, p8, p9, p10, p11⟩ := Recs.all HM3.out
  have hold := refHasRe_any 2 m vi w3 (HI.out _ HB3.out) (Short.up HSM.out (by omega))
  rw [← HC.out] at hold
  have HOLD := Lib.hid hold
  clear hold
  by_cases h0 : c = 0
  · subst h0
    rw [if_neg (by simp)] at hub ⊢
    dsimp only at hub ⊢
    have HUB3 := Lib.hid hub
    obtain ⟨bo, bc, rfl⟩ := hub.shape
    have HBL : Hid ((Rt.bytesIn 2 m).length ≤ 110000) := Rt.bytesIn_len HC.out.symm HFIT.out (Short.up HSM.out (by omega)) (by have := HIM.out; omega)
    obtain ⟨bn, hbn⟩ : ∃ bn, bn = (Rt.bytesIn 2 m).length := ⟨_, rfl⟩
    rw [← hbn] at HUB3 ⊢
    clear hub hbn
    go_wp2_with fail
    refine HOLD.out.mono ?_
    rintro e4 w4 ⟨rfl, hb⟩
    have HM4 := Lib.hid (HM3.out.below hb HM3.out.lt); have HB4 := Lib.hid (HB3.out.trans (hb.mono HB3.out.size)); have HUB4 := Lib.hid (HUB3.out.below hb)
    clear hb p0 p1 p2 p3 p4 p5 p6 p7 p8 p9 p10 p11 HOLD
    have hdec := getRt_any 2 (.slice bo bn bc) (Rt.bytesIn 2 m) w4 (HFW.out _ HB4.out) HUB4.out (by have := HBL.out; omega)
    rw [Rt.get_back Rt.in_2 HC.out.symm HFIT.out HSM.out (by omega)] at hdec
    have HDEC := Lib.hid hdec
    clear hdec
    go_wp2_with fail
    refine HDEC.out.mono ?_
    rintro e5 w5 ⟨hb, xi, rfl, hxi, h1xi⟩
    dsimp only at hxi ⊢
    have HM5 := Lib.hid (HM4.out.below hb HM4.out.lt); have HB5 := Lib.hid (HB4.out.trans (hb.mono HB4.out.size)); have HUB5 := Lib.hid (HUB4.out.below hb)
    have HXI5 := Lib.hid hxi; have H2 := Lib.hid h1xi
    clear hb hxi h1xi
    go_wp2_with (first
      | (refine store_rec (by rfl) _ _ (by rfl) w5.heap.size Re.zero _ m xi (by rfl) (by rfl) H2.out (Lies.new _ _ _) ?_
         intro w6 hl6 hg6
         have hb := fresh_below hg6
         have HX6 := Lib.hid hl6; have HM6 := Lib.hid (HM5.out.below hb HM5.out.lt); have HB6 := Lib.hid (HB5.out.trans (hb.mono HB5.out.size)); have HUB6 := Lib.hid (HUB5.out.below hb)
         have HXI6 := Lib.hid (HXI5.out.below hb)
         clear hl6 hg6 hb)
      | fail)
    have hap := Rt.get_apart Rt.in_2 HC.out.symm HFIT.out HSM.out (by omega)
    rw [show (3 : Int) - 2 = 1 from rfl] at hap
    have hdec := getRt_any 1 (.slice bo bn bc) (Rt.bytesIn 2 m) w6 (HFW.out _ HB6.out) HUB6.out (by have := HBL.out; omega)
    obtain ⟨r, hr⟩ : ∃ r, r = Rt.get 1 (Rt.bytesIn 2 m) := ⟨_, rfl⟩
    rw [← hr] at hdec hap
    obtain ⟨rz, hrz⟩ : ∃ rz, rz = r.2 := ⟨_, rfl⟩
    rw [← hrz] at hap
    have hne : (rz != 0) = true := by simpa using hap
    have HRZ := Lib.hid hrz
    refine hdec.mono ?_
    rintro e7 w7 ⟨hb, yi, rfl, hyi, h1yi⟩
    rw [← HRZ.out]
    have HX7 := Lib.hid (HX6.out.below hb HX6.out.lt); have HM7 := Lib.hid (HM6.out.below hb HM6.out.lt); have HB7 := Lib.hid (HB6.out.trans (hb.mono HB6.out.size)); have HUB7 := Lib.hid (HUB6.out.below hb)
    have HXI7 := Lib.hid (HXI6.out.below hb); have HY7 := Lib.hid hyi; have H3 := Lib.hid h1yi
    clear hb hyi h1yi hdec hr hrz hap
    go_wp2_with (first
      | (refine store_rec (by rfl) _ _ (by rfl) w7.heap.size Re.zero _ r.1 yi (by rfl) (by rfl) H3.out (Lies.new _ _ _) ?_
         intro w8 hl8 hg8
         have hb := fresh_below hg8
         have HX8 := Lib.hid (HX7.out.below hb HX7.out.lt); have HM8 := Lib.hid (HM7.out.below hb HM7.out.lt); have HB8 := Lib.hid (HB7.out.trans (hb.mono HB7.out.size)); have HUB8 := Lib.hid (HUB7.out.below hb)
         have HXI8 := Lib.hid (HXI7.out.below hb)
         clear hl8 hg8 hb
         obtain ⟨p0, p1, p2, p3, p4, p5, p6, p7, p8, p9, p10, p11⟩ := Recs.all HM8.out)
      | fail)
    refine (refBytesRt_any 2 m vi _ Rt.in_2 HC.out.symm (HI.out _ HB8.out) HFIT.out (Short.up HSM.out (by omega)) (by have := HIM.out; omega)).mono ?_
    rintro e9 w9 ⟨ur, rfl, hur, hb⟩
    have HX9 := Lib.hid (HX8.out.below hb HX8.out.lt); have HM9 := Lib.hid (HM8.out.below hb HM8.out.lt); have HB9 := Lib.hid (HB8.out.trans (hb.mono HB8.out.size)); have HUB9 := Lib.hid (HUB8.out.below hb)
    have HXI9 := Lib.hid (HXI8.out.below hb); have HUR9 := Lib.hid hur.reads
    clear hb hur p0 p1 p2 p3 p4 p5 p6 p7 p8 p9 p10 p11
    have hsame := sameB_any (.slice bo bn bc) ur (Rt.bytesIn 2 m) (Rt.bytesIn 2 m) w9 HUB9.out HUR9.out
    rw [show (Rt.bytesIn 2 m == Rt.bytesIn 2 m) = true by simp] at hsame
    have HSAME := Lib.hid hsame
    clear hsame
    go_wp2_with fail
    refine HSAME.out.mono ?_
    rintro e10 w10 ⟨rfl, hb⟩
    have HX10 := Lib.hid (HX9.out.below hb HX9.out.lt); have HM10 := Lib.hid (HM9.out.below hb HM9.out.lt); have HB10 := Lib.hid (HB9.out.trans (hb.mono HB9.out.size))
    have HXI10 := Lib.hid (HXI9.out.below hb)
    clear hb
    obtain ⟨p0, p1, p2, p3, p4, p5, p6, p7, p8, p9, p10, p11⟩ := Recs.all HM10.out
    obtain ⟨q0, q1, q2, q3, q4, q5, q6, q7, q8, q9, q10, q11⟩ := Recs.all HX10.out
    have hsm := refSameRe_any m m xi vi w10 HXI10.out (HI.out _ HB10.out)
    rw [show decide (m = m) = true from decide_eq_true rfl] at hsm
    have HSM2 := Lib.hid hsm
    clear hsm
    go_wp2_with fail
    refine HSM2.out.mono ?_
    rintro e11 w11 ⟨rfl, hb⟩
    have HB11 := Lib.hid (HB10.out.trans (hb.mono HB10.out.size))
    clear hb p0 p1 p2 p3 p4 p5 p6 p7 p8 p9 p10 p11 q0 q1 q2 q3 q4 q5 q6 q7 q8 q9 q10 q11
    go_wp2_with fail
    refine (awakeRt_any _ (HFW.out _ HB11.out)).mono ?_
    rintro ea wa ⟨rfl, hb⟩
    go_wp2
    go_ret
    exact truly_of (HB11.out.trans (hb.mono HB11.out.size))
  · rw [if_pos h0] at hub ⊢
    dsimp only at hub ⊢
    obtain ⟨bo, bc, rfl⟩ := hub.shape
    have hne : (c != 0) = true := by simpa using h0
    have hcc : (c == c) = true := by simp
    clear hub h0
    go_wp2_with fail
    refine HOLD.out.mono ?_
    rintro e4 w4 ⟨rfl, hb⟩
    have HB4 := Lib.hid (HB3.out.trans (hb.mono HB3.out.size))
    clear hb p0 p1 p2 p3 p4 p5 p6 p7 p8 p9 p10 p11
    go_wp2_with fail
    refine (awakeRt_any _ (HFW.out _ HB4.out)).mono ?_
    rintro ea wa ⟨rfl, hb⟩
    go_wp2
    go_ret
    exact truly_of (HB4.out.trans (hb.mono HB4.out.size))

set_option maxRecDepth 4000 in
set_option maxHeartbeats 6400000 in
theorem rectwoPuts_any (v : Int) (m : Re.Rec) (vi : Value) (w : World) (hW : WordsIn w) (hi : Reads w vi m.img) (hf : m.Fits) (hs : m.cmd.Short 9223372036854775807) :
    Calls Tryz.prog 3 #[.int .i64 v, .agg (Re.cells m vi)] w (Truly w) := by
  by_cases hx : Re.large m = false
  · by_cases h1 : v = 1
    · subst h1; exact rectwoPuts_1 m vi w hW hi hf hs hx
    · by_cases h2 : v = 2
      · subst h2; exact rectwoPuts_2 m vi w hW hi hf hs hx
      · exact rectwoPuts_no v m vi w hW hi hf hs (by omega) hx
  · obtain ⟨w1, e1, hl1, hB1, hz1⟩ := box_rec w m vi
    obtain ⟨p0, p1, p2, p3, p4, p5, p6, p7, p8, p9, p10, p11⟩ := Recs.all hl1
    have HB1 := Lib.hid hB1
    have HFW := Lib.hid (fun W (h : Below w.heap.size w W) => hW.below h)
    have hlarge := largeRe_any m vi w1 (hi.below hB1) hs
    rw [show Re.large m = true by simpa using hx] at hlarge
    have HLARGE := Lib.hid hlarge
    clear hl1 hB1 hz1 hW hi hf hs hx hlarge
    go_enter Tryz.func3, Tryz.ntmps3
    go_wp2_with fail
    refine HLARGE.out.mono ?_
    rintro e2 w2 ⟨rfl, hb⟩
    have HB2 := Lib.hid (HB1.out.trans (hb.mono HB1.out.size))
    clear hb p0 p1 p2 p3 p4 p5 p6 p7 p8 p9 p10 p11
    go_wp2_with fail
    refine (awakeRt_any _ (HFW.out _ HB2.out)).mono ?_
    rintro ea wa ⟨rfl, hb⟩
    go_wp2
    go_ret
    exact truly_of (HB2.out.trans (hb.mono HB2.out.size))

set_option maxRecDepth 4000 in
set_option maxHeartbeats 6400000 in
theorem rectwoGets_lo (v : Int) (u : Value) (s : List UInt8) (w : World) (hW : WordsIn w) (hu : Reads w u s) (hn : s.length ≤ 2000) (hv : v < 1) :
    Calls Tryz.prog 4 #[.int .i64 v, u] w (Truly w) := by
  have HU := Lib.hid (fun W (h : Below w.heap.size w W) => hu.below h)
  have HFW := Lib.hid (fun W (h : Below w.heap.size w W) => hW.below h)
  have HDEC := Lib.hid (getRt_any v u s w hW hu (by omega))
  obtain ⟨ao, cap, rfl⟩ := hu.shape
  obtain ⟨n, hnn⟩ : ∃ n, n = s.length := ⟨_, rfl⟩
  have HN := Lib.hid hnn
  rw [← hnn] at HU HDEC hn ⊢
  have d : decide ((2000 : Int) < (n : Int)) = false := by simp; omega
  have d1 : decide (v < 1) = true := by simp; omega
  have HR : Hid (Rt.get v s = (Re.zero, 8)) := by show _ = _; unfold Rt.get; rw [if_neg (by omega), if_neg (by omega)]
  clear hW hu hn hnn hv
  go_enter Tryz.func4, Tryz.ntmps4
  go_wp2_with fail
  refine HDEC.out.mono ?_
  rintro e2 w2 ⟨hB2, vi, rfl, hvi, h2⟩
  rw [HR.out] at hvi ⊢
  dsimp only at hvi ⊢
  have HB2 := Lib.hid hB2; have HVI2 := Lib.hid hvi; have H2 := Lib.hid h2
  clear hB2 hvi h2 HDEC
  go_wp2_with (first
    | (refine store_rec (by rfl) _ _ (by rfl) w2.heap.size Re.zero _ Re.zero vi (by rfl) (by rfl) H2.out (Lies.new _ _ _) ?_
       intro w3 hl3 hg3
       have hb := fresh_below hg3
       have HM3 := Lib.hid hl3; have HB3 := Lib.hid (HB2.out.trans (hb.mono HB2.out.size)); have HVI3 := Lib.hid (HVI2.out.below hb)
       clear hl3 hg3 hb
       obtain ⟨p0, p1, p2, p3, p4, p5, p6, p7, p8, p9, p10, p11⟩ := Recs.all HM3.out)
    | fail)
  have hsm := refSameRe_any Re.zero Re.zero vi (.slice none 0 0) w3 HVI3.out (Reads.empty _)
  rw [show decide (Re.zero = Re.zero) = true from decide_eq_true rfl] at hsm
  refine hsm.mono ?_
  rintro e4 w4 ⟨rfl, hb⟩
  have HB4 := Lib.hid (HB3.out.trans (hb.mono HB3.out.size))
  clear hb hsm p0 p1 p2 p3 p4 p5 p6 p7 p8 p9 p10 p11
  go_wp2_with fail
  refine (awakeRt_any _ (HFW.out _ HB4.out)).mono ?_
  rintro ea wa ⟨rfl, hb⟩
  go_wp2
  go_ret
  exact truly_of (HB4.out.trans (hb.mono HB4.out.size))

set_option maxRecDepth 4000 in
set_option maxHeartbeats 6400000 in
theorem rectwoGets_hi (v : Int) (u : Value) (s : List UInt8) (w : World) (hW : WordsIn w) (hu : Reads w u s) (hn : s.length ≤ 2000) (hv : 2 < v) :
    Calls Tryz.prog 4 #[.int .i64 v, u] w (Truly w) := by
  have HU := Lib.hid (fun W (h : Below w.heap.size w W) => hu.below h)
  have HFW := Lib.hid (fun W (h : Below w.heap.size w W) => hW.below h)
  have HDEC := Lib.hid (getRt_any v u s w hW hu (by omega))
  obtain ⟨ao, cap, rfl⟩ := hu.shape
  obtain ⟨n, hnn⟩ : ∃ n, n = s.length := ⟨_, rfl⟩
  have HN := Lib.hid hnn
  rw [← hnn] at HU HDEC hn ⊢
  have d : decide ((2000 : Int) < (n : Int)) = false := by simp; omega
  have d1 : decide (v < 1) = false := by simp; omega
  have d2 : decide (2 < v) = true := by simp; omega
  have HR : Hid (Rt.get v s = (Re.zero, 8)) := by show _ = _; unfold Rt.get; rw [if_neg (by omega), if_neg (by omega)]
  clear hW hu hn hnn hv
  go_enter Tryz.func4, Tryz.ntmps4
  go_wp2_with fail
  refine HDEC.out.mono ?_
  rintro e2 w2 ⟨hB2, vi, rfl, hvi, h2⟩
  rw [HR.out] at hvi ⊢
  dsimp only at hvi ⊢
  have HB2 := Lib.hid hB2; have HVI2 := Lib.hid hvi; have H2 := Lib.hid h2
  clear hB2 hvi h2 HDEC
  go_wp2_with (first
    | (refine store_rec (by rfl) _ _ (by rfl) w2.heap.size Re.zero _ Re.zero vi (by rfl) (by rfl) H2.out (Lies.new _ _ _) ?_
       intro w3 hl3 hg3
       have hb := fresh_below hg3
       have HM3 := Lib.hid hl3; have HB3 := Lib.hid (HB2.out.trans (hb.mono HB2.out.size)); have HVI3 := Lib.hid (HVI2.out.below hb)
       clear hl3 hg3 hb
       obtain ⟨p0, p1, p2, p3, p4, p5, p6, p7, p8, p9, p10, p11⟩ := Recs.all HM3.out)
    | fail)
  have hsm := refSameRe_any Re.zero Re.zero vi (.slice none 0 0) w3 HVI3.out (Reads.empty _)
  rw [show decide (Re.zero = Re.zero) = true from decide_eq_true rfl] at hsm
  refine hsm.mono ?_
  rintro e4 w4 ⟨rfl, hb⟩
  have HB4 := Lib.hid (HB3.out.trans (hb.mono HB3.out.size))
  clear hb hsm p0 p1 p2 p3 p4 p5 p6 p7 p8 p9 p10 p11
  go_wp2_with fail
  refine (awakeRt_any _ (HFW.out _ HB4.out)).mono ?_
  rintro ea wa ⟨rfl, hb⟩
  go_wp2
  go_ret
  exact truly_of (HB4.out.trans (hb.mono HB4.out.size))

set_option maxRecDepth 4000 in
set_option maxHeartbeats 6400000 in
theorem rectwoGets_1 (u : Value) (s : List UInt8) (w : World) (hW : WordsIn w) (hu : Reads w u s) (hn : s.length ≤ 2000) :
    Calls Tryz.prog 4 #[.int .i64 1, u] w (Truly w) := by
  have HU := Lib.hid (fun W (h : Below w.heap.size w W) => hu.below h)
  have HFW := Lib.hid (fun W (h : Below w.heap.size w W) => hW.below h)
  have HDEC := Lib.hid (getRt_any 1 u s w hW hu (by omega))
  obtain ⟨ao, cap, rfl⟩ := hu.shape
  obtain ⟨n, hnn⟩ : ∃ n, n = s.length := ⟨_, rfl⟩
  have HN := Lib.hid hnn
  rw [← hnn] at HU HDEC hn ⊢
  have d : decide ((2000 : Int) < (n : Int)) = false := by simp; omega
  obtain ⟨r, hr⟩ : ∃ r, r = Rt.get 1 s := ⟨_, rfl⟩
  have hok := @Rt.get_ok 1 Rt.in_1 s
  have hnone := @Rt.get_none 1 Rt.in_1 s
  rw [← hr] at hok hnone HDEC
  have HOK := Lib.hid hok; have HNONE := Lib.hid hnone
  clear hW hu hn hnn hok hnone hr
  go_enter Tryz.func4, Tryz.ntmps4
  go_wp2_with fail
  refine HDEC.out.mono ?_
  rintro e2 w2 ⟨hB2, vi, rfl, hvi, h2⟩
  have HB2 := Lib.hid hB2; have HVI2 := Lib.hid hvi; have H2 := Lib.hid h2
  clear hB2 hvi h2 HDEC
  obtain ⟨e, he⟩ : ∃ e, e = r.2 := ⟨_, rfl⟩
  obtain ⟨M, hM⟩ : ∃ M, M = r.1 := ⟨_, rfl⟩
  rw [← he] at HOK HNONE ⊢
  rw [← hM] at HOK HNONE HVI2 ⊢
  clear he hM
  by_cases h0 : e = 0
  · obtain ⟨hold, hby, hfit, hsh, him⟩ := HOK.out h0
    subst h0
    have HOL := Lib.hid hold; have HBY := Lib.hid hby; have HFIT := Lib.hid hfit; have HSH := Lib.hid hsh; have HIM := Lib.hid him
    clear hold hby hfit hsh him HOK HNONE
    go_wp2_with (first
      | (refine store_rec (by rfl) _ _ (by rfl) w2.heap.size Re.zero _ M vi (by rfl) (by rfl) H2.out (Lies.new _ _ _) ?_
         intro w3 hl3 hg3
         have hb := fresh_below hg3
         have HM3 := Lib.hid hl3; have HB3 := Lib.hid (HB2.out.trans (hb.mono HB2.out.size)); have HVI3 := Lib.hid (HVI2.out.below hb)
         clear hl3 hg3 hb
         obtain ⟨p0, p1, p2, p3, p4, p5, p6, p7, p8, p9, p10, p11⟩ := Recs.all HM3.out)
      | fail)
    have hcall := refHasRe_any 1 M vi w3 HVI3.out (Short.up HSH.out (by omega))
    rw [HOL.out] at hcall
    refine hcall.mono ?_
    rintro e4 w4 ⟨rfl, hb⟩
    have HM4 := Lib.hid (HM3.out.below hb HM3.out.lt); have HB4 := Lib.hid (HB3.out.trans (hb.mono HB3.out.size)); have HVI4 := Lib.hid (HVI3.out.below hb)
    clear hb hcall p0 p1 p2 p3 p4 p5 p6 p7 p8 p9 p10 p11
    obtain ⟨p0, p1, p2, p3, p4, p5, p6, p7, p8, p9, p10, p11⟩ := Recs.all HM4.out
    go_wp2_with fail
    refine (refBytesRt_any 1 M vi _ Rt.in_1 HOL.out HVI4.out HFIT.out HSH.out (by have := HIM.out; omega)).mono ?_
    rintro e5 w5 ⟨ur, rfl, hur, hb⟩
    have HB5 := Lib.hid (HB4.out.trans (hb.mono HB4.out.size)); have HUR5 := Lib.hid hur.reads
    clear hb hur p0 p1 p2 p3 p4 p5 p6 p7 p8 p9 p10 p11
    have hsame := sameB_any ur (.slice ao n cap) (Rt.bytesIn 1 M) s w5 HUR5.out (HU.out _ HB5.out)
    rw [HBY.out, show (s == s) = true by simp] at hsame
    have HSAME := Lib.hid hsame
    clear hsame
    go_wp2_with fail
    refine HSAME.out.mono ?_
    rintro e8 w8 ⟨rfl, hb⟩
    have HB8 := Lib.hid (HB5.out.trans (hb.mono HB5.out.size))
    clear hb
    go_wp2_with fail
    refine (awakeRt_any _ (HFW.out _ HB8.out)).mono ?_
    rintro ea wa ⟨rfl, hb⟩
    go_wp2
    go_ret
    exact truly_of (HB8.out.trans (hb.mono HB8.out.size))
  · have hne : (e != 0) = true := by simpa using h0
    have hz := HNONE.out h0
    subst hz
    clear h0 HOK HNONE
    go_wp2_with (first
      | (refine store_rec (by rfl) _ _ (by rfl) w2.heap.size Re.zero _ Re.zero vi (by rfl) (by rfl) H2.out (Lies.new _ _ _) ?_
         intro w3 hl3 hg3
         have hb := fresh_below hg3
         have HM3 := Lib.hid hl3; have HB3 := Lib.hid (HB2.out.trans (hb.mono HB2.out.size)); have HVI3 := Lib.hid (HVI2.out.below hb)
         clear hl3 hg3 hb
         obtain ⟨p0, p1, p2, p3, p4, p5, p6, p7, p8, p9, p10, p11⟩ := Recs.all HM3.out)
      | fail)
    have hsm := refSameRe_any Re.zero Re.zero vi (.slice none 0 0) w3 HVI3.out (Reads.empty _)
    rw [show decide (Re.zero = Re.zero) = true from decide_eq_true rfl] at hsm
    refine hsm.mono ?_
    rintro e4 w4 ⟨rfl, hb⟩
    have HB4 := Lib.hid (HB3.out.trans (hb.mono HB3.out.size))
    clear hb hsm p0 p1 p2 p3 p4 p5 p6 p7 p8 p9 p10 p11
    go_wp2_with fail
    refine (awakeRt_any _ (HFW.out _ HB4.out)).mono ?_
    rintro ea wa ⟨rfl, hb⟩
    go_wp2
    go_ret
    exact truly_of (HB4.out.trans (hb.mono HB4.out.size))

set_option maxRecDepth 4000 in
set_option maxHeartbeats 6400000 in
theorem rectwoGets_2 (u : Value) (s : List UInt8) (w : World) (hW : WordsIn w) (hu : Reads w u s) (hn : s.length ≤ 2000) :
    Calls Tryz.prog 4 #[.int .i64 2, u] w (Truly w) := by
  have HU := Lib.hid (fun W (h : Below w.heap.size w W) => hu.below h)
  have HFW := Lib.hid (fun W (h : Below w.heap.size w W) => hW.below h)
  have HDEC := Lib.hid (getRt_any 2 u s w hW hu (by omega))
  obtain ⟨ao, cap, rfl⟩ := hu.shape
  obtain ⟨n, hnn⟩ : ∃ n, n = s.length := ⟨_, rfl⟩
  have HN := Lib.hid hnn
  rw [← hnn] at HU HDEC hn ⊢
  have d : decide ((2000 : Int) < (n : Int)) = false := by simp; omega
  obtain ⟨r, hr⟩ : ∃ r, r = Rt.get 2 s := ⟨_, rfl⟩
  have hok := @Rt.get_ok 2 Rt.in_2 s
  have hnone := @Rt.get_none 2 Rt.in_2 s
  rw [← hr] at hok hnone HDEC
  have HOK := Lib.hid hok; have HNONE := Lib.hid hnone
  clear hW hu hn hnn hok hnone hr
  go_enter Tryz.func4, Tryz.ntmps4
  go_wp2_with fail
  refine HDEC.out.mono ?_
  rintro e2 w2 ⟨hB2, vi, rfl, hvi, h2⟩
  have HB2 := Lib.hid hB2; have HVI2 := Lib.hid hvi; have H2 := Lib.hid h2
  clear hB2 hvi h2 HDEC
  obtain ⟨e, he⟩ : ∃ e, e = r.2 := ⟨_, rfl⟩
  obtain ⟨M, hM⟩ : ∃ M, M = r.1 := ⟨_, rfl⟩
  rw [← he] at HOK HNONE ⊢
  rw [← hM] at HOK HNONE HVI2 ⊢
  clear he hM
  by_cases h0 : e = 0
  · obtain ⟨hold, hby, hfit, hsh, him⟩ := HOK.out h0
    subst h0
    have HOL := Lib.hid hold; have HBY := Lib.hid hby; have HFIT := Lib.hid hfit; have HSH := Lib.hid hsh; have HIM := Lib.hid him
    clear hold hby hfit hsh him HOK HNONE
    go_wp2_with (first
      | (refine store_rec (by rfl) _ _ (by rfl) w2.heap.size Re.zero _ M vi (by rfl) (by rfl) H2.out (Lies.new _ _ _) ?_
         intro w3 hl3 hg3
         have hb := fresh_below hg3
         have HM3 := Lib.hid hl3; have HB3 := Lib.hid (HB2.out.trans (hb.mono HB2.out.size)); have HVI3 := Lib.hid (HVI2.out.below hb)
         clear hl3 hg3 hb
         obtain ⟨p0, p1, p2, p3, p4, p5, p6, p7, p8, p9, p10, p11⟩ := Recs.all HM3.out)
      | fail)
    have hcall := refHasRe_any 2 M vi w3 HVI3.out (Short.up HSH.out (by omega))
    rw [HOL.out] at hcall
    refine hcall.mono ?_
    rintro e4 w4 ⟨rfl, hb⟩
    have HM4 := Lib.hid (HM3.out.below hb HM3.out.lt); have HB4 := Lib.hid (HB3.out.trans (hb.mono HB3.out.size)); have HVI4 := Lib.hid (HVI3.out.below hb)
    clear hb hcall p0 p1 p2 p3 p4 p5 p6 p7 p8 p9 p10 p11
    obtain ⟨p0, p1, p2, p3, p4, p5, p6, p7, p8, p9, p10, p11⟩ := Recs.all HM4.out
    go_wp2_with fail
    refine (refBytesRt_any 2 M vi _ Rt.in_2 HOL.out HVI4.out HFIT.out HSH.out (by have := HIM.out; omega)).mono ?_
    rintro e5 w5 ⟨ur, rfl, hur, hb⟩
    have HB5 := Lib.hid (HB4.out.trans (hb.mono HB4.out.size)); have HUR5 := Lib.hid hur.reads
    clear hb hur p0 p1 p2 p3 p4 p5 p6 p7 p8 p9 p10 p11
    have hsame := sameB_any ur (.slice ao n cap) (Rt.bytesIn 2 M) s w5 HUR5.out (HU.out _ HB5.out)
    rw [HBY.out, show (s == s) = true by simp] at hsame
    have HSAME := Lib.hid hsame
    clear hsame
    go_wp2_with fail
    refine HSAME.out.mono ?_
    rintro e8 w8 ⟨rfl, hb⟩
    have HB8 := Lib.hid (HB5.out.trans (hb.mono HB5.out.size))
    clear hb
    go_wp2_with fail
    refine (awakeRt_any _ (HFW.out _ HB8.out)).mono ?_
    rintro ea wa ⟨rfl, hb⟩
    go_wp2
    go_ret
    exact truly_of (HB8.out.trans (hb.mono HB8.out.size))
  · have hne : (e != 0) = true := by simpa using h0
    have hz := HNONE.out h0
    subst hz
    clear h0 HOK HNONE
    go_wp2_with (first
      | (refine store_rec (by rfl) _ _ (by rfl) w2.heap.size Re.zero _ Re.zero vi (by rfl) (by rfl) H2.out (Lies.new _ _ _) ?_
         intro w3 hl3 hg3
         have hb := fresh_below hg3
         have HM3 := Lib.hid hl3; have HB3 := Lib.hid (HB2.out.trans (hb.mono HB2.out.size)); have HVI3 := Lib.hid (HVI2.out.below hb)
         clear hl3 hg3 hb
         obtain ⟨p0, p1, p2, p3, p4, p5, p6, p7, p8, p9, p10, p11⟩ := Recs.all HM3.out)
      | fail)
    have hsm := refSameRe_any Re.zero Re.zero vi (.slice none 0 0) w3 HVI3.out (Reads.empty _)
    rw [show decide (Re.zero = Re.zero) = true from decide_eq_true rfl] at hsm
    refine hsm.mono ?_
    rintro e4 w4 ⟨rfl, hb⟩
    have HB4 := Lib.hid (HB3.out.trans (hb.mono HB3.out.size))
    clear hb hsm p0 p1 p2 p3 p4 p5 p6 p7 p8 p9 p10 p11
    go_wp2_with fail
    refine (awakeRt_any _ (HFW.out _ HB4.out)).mono ?_
    rintro ea wa ⟨rfl, hb⟩
    go_wp2
    go_ret
    exact truly_of (HB4.out.trans (hb.mono HB4.out.size))

set_option maxRecDepth 4000 in
set_option maxHeartbeats 1600000 in
theorem rectwoGets_any (v : Int) (u : Value) (s : List UInt8) (w : World) (hW : WordsIn w) (hu : Reads w u s) : Calls Tryz.prog 4 #[.int .i64 v, u] w (Truly w) := by
  by_cases hbig : s.length ≤ 2000
  · by_cases h1 : v = 1
    · subst h1; exact rectwoGets_1 u s w hW hu hbig
    · by_cases h2 : v = 2
      · subst h2; exact rectwoGets_2 u s w hW hu hbig
      · by_cases h3 : v < 1
        · exact rectwoGets_lo v u s w hW hu hbig h3
        · exact rectwoGets_hi v u s w hW hu hbig (by omega)
  · have HFW := Lib.hid (fun W (h : Below w.heap.size w W) => hW.below h)
    obtain ⟨ao, cap, rfl⟩ := hu.shape
    have hlen := hu.len
    obtain ⟨n, hn⟩ : ∃ n, n = s.length := ⟨_, rfl⟩
    rw [← hn] at hlen hbig ⊢
    have d : decide ((2000 : Int) < (n : Int)) = true := by simp; omega
    have HB0 : Hid (Below w.heap.size w w) := Below.refl _ _
    have hnb : n ≤ 9223372036854775807 := by omega
    clear hW hu hn hlen hbig
    go_enter Tryz.func4, Tryz.ntmps4
    go_wp2_with fail
    refine (awakeRt_any _ (HFW.out _ HB0.out)).mono ?_
    rintro ea wa ⟨rfl, hb⟩
    go_wp2
    go_ret
    exact truly_of (HB0.out.trans (hb.mono HB0.out.size))

set_option maxRecDepth 4000 in
set_option maxHeartbeats 6400000 in
theorem rectwoRewrites_any (m : Re.Rec) (vi : Value) (w : World) (hW : WordsIn w) (hi : Reads w vi m.img) (hf : m.Fits) (hs : m.cmd.Short 9223372036854775807) :
    Calls Tryz.prog 5 #[.agg (Re.cells m vi)] w (Truly w) := by
  obtain ⟨w1, e1, hl1, hB1, hz1⟩ := box_rec w m vi
  obtain ⟨p0, p1, p2, p3, p4, p5, p6, p7, p8, p9, p10, p11⟩ := Recs.all hl1
  have HM1 := Lib.hid hl1; have HB1 := Lib.hid hB1
  have HI := Lib.hid (fun W (h : Below w.heap.size w W) => hi.below h)
  have HFW := Lib.hid (fun W (h : Below w.heap.size w W) => hW.below h)
  have HFIT := Lib.hid hf
  obtain ⟨x, hx⟩ : ∃ x, x = Re.large m := ⟨_, rfl⟩
  have HX := Lib.hid hx
  have hlarge := largeRe_any m vi w1 (HI.out _ hB1) hs
  rw [← hx] at hlarge
  have HLARGE := Lib.hid hlarge
  clear hl1 hB1 hz1 hi hW hf hs hx hlarge
  cases x with
  | true =>
    go_enter Tryz.func5, Tryz.ntmps5
    go_wp2_with fail
    refine HLARGE.out.mono ?_
    rintro e2 w2 ⟨rfl, hb⟩
    have HB2 := Lib.hid (HB1.out.trans (hb.mono HB1.out.size))
    clear hb p0 p1 p2 p3 p4 p5 p6 p7 p8 p9 p10 p11
    go_wp2_with fail
    refine (awakeRt_any _ (HFW.out _ HB2.out)).mono ?_
    rintro ea wa ⟨rfl, hb⟩
    go_wp2
    go_ret
    exact truly_of (HB2.out.trans (hb.mono HB2.out.size))
  | false =>
    obtain ⟨hsm, himg⟩ := Re.small HX.out.symm
    have HSM := Lib.hid hsm; have HIM := Lib.hid himg
    clear himg hsm
    obtain ⟨c, hc⟩ : ∃ c, c = Re.olderIn 1 m := ⟨_, rfl⟩
    have HC := Lib.hid hc
    clear hc
    go_enter Tryz.func5, Tryz.ntmps5
    go_wp2_with fail
    refine HLARGE.out.mono ?_
    rintro e2 w2 ⟨rfl, hb⟩
    have HM2 := Lib.hid (HM1.out.below hb HM1.out.lt); have HB2 := Lib.hid (HB1.out.trans (hb.mono HB1.out.size))
    clear hb p0 p1 p2 p3 p4 p5 p6 p7 p8 p9 p10 p11 HLARGE
    obtain ⟨p0, p1, p2, p3, p4, p5, p6, p7, p8, p9, p10, p11⟩ := Recs.all HM2.out
    have hold := refHasRe_any 1 m vi w2 (HI.out _ HB2.out) (Short.up HSM.out (by omega))
    rw [← HC.out] at hold
    have HOLD := Lib.hid hold
    clear hold
    go_wp2_with fail
    refine HOLD.out.mono ?_
    rintro e3 w3 ⟨rfl, hb⟩
    have HM3 := Lib.hid (HM2.out.below hb HM2.out.lt); have HB3 := Lib.hid (HB2.out.trans (hb.mono HB2.out.size))
    clear hb p0 p1 p2 p3 p4 p5 p6 p7 p8 p9 p10 p11 HOLD
    by_cases h0 : c = 0
    · subst h0
      have hold0 : Re.older m = 0 := (Re.olderIn_one m).symm.trans HC.out.symm
      have hck : Re.check m = 0 := (Re.older_good hold0).1
      have HCK := Lib.hid hck
      have HOL := Lib.hid hold0
      have HAL : Hid ((Re.bytes m).length ≤ 110000) := Re.bytes_len HFIT.out (Short.up HSM.out (by omega)) (by have := HIM.out; omega)
      have HBLL : Hid ((Rt.bytes m).length ≤ 110000) := Rt.bytes_len (Re.check_good hck).kind HFIT.out (Short.up HSM.out (by omega)) (by have := HIM.out; omega)
      have HLE := Lib.hid (Rt.less hold0)
      clear hold0 hck
      obtain ⟨p0, p1, p2, p3, p4, p5, p6, p7, p8, p9, p10, p11⟩ := Recs.all HM3.out
      go_wp2_with fail
      refine (refBytesRt_any 1 m vi _ (.inl rfl) HC.out.symm (HI.out _ HB3.out) HFIT.out (Short.up HSM.out (by omega)) (by have := HIM.out; omega)).mono ?_
      rintro e4 w4 ⟨ua, rfl, hua, hb⟩
      have hua1 : Reads w4 ua (Re.bytes m) := hua.reads
      obtain ⟨ao, ac, rfl⟩ := hua1.shape
      obtain ⟨an, han⟩ : ∃ an, an = (Re.bytes m).length := ⟨_, rfl⟩
      have HAN := Lib.hid han
      rw [← han] at hua1 ⊢
      have HUA4 := Lib.hid hua1
      have HM4 := Lib.hid (HM3.out.below hb HM3.out.lt); have HB4 := Lib.hid (HB3.out.trans (hb.mono HB3.out.size))
      clear hb hua hua1 han p0 p1 p2 p3 p4 p5 p6 p7 p8 p9 p10 p11
      have hrw := rewriteRt_any (.slice ao an ac) (Re.bytes m) w4 (HFW.out _ HB4.out) HUA4.out (by have := HAL.out; omega)
      rw [Rt.rewrite_back HOL.out HFIT.out HSM.out (by omega)] at hrw
      have HRW := Lib.hid hrw
      clear hrw
      go_wp2_with fail
      refine HRW.out.mono ?_
      rintro e5 w5 ⟨hb, ub, rfl, hub⟩
      dsimp only at hub ⊢
      obtain ⟨bo, bc, rfl⟩ := hub.shape
      obtain ⟨bn, hbn⟩ : ∃ bn, bn = (Rt.bytes m).length := ⟨_, rfl⟩
      have HBN := Lib.hid hbn
      rw [← hbn] at hub ⊢
      have HUB5 := Lib.hid hub
      have HM5 := Lib.hid (HM4.out.below hb HM4.out.lt); have HB5 := Lib.hid (HB4.out.trans (hb.mono HB4.out.size))
      clear hb hub hbn
      have hdec := decodeRt_any (.slice bo bn bc) (Rt.bytes m) w5 (HFW.out _ HB5.out) HUB5.out (by have := HBLL.out; omega)
      rw [Rt.decode_back HCK.out HFIT.out HSM.out (by omega)] at hdec
      have HDEC := Lib.hid hdec
      clear hdec
      go_wp2_with fail
      refine HDEC.out.mono ?_
      rintro e6 w6 ⟨hb, xi, rfl, hxi, h1xi⟩
      dsimp only at hxi ⊢
      have HM6 := Lib.hid (HM5.out.below hb HM5.out.lt); have HB6 := Lib.hid (HB5.out.trans (hb.mono HB5.out.size)); have HUB6 := Lib.hid (HUB5.out.below hb)
      have HXI6 := Lib.hid hxi; have H2 := Lib.hid h1xi
      clear hb hxi h1xi
      go_wp2_with (first
        | (refine store_rec (by rfl) _ _ (by rfl) w6.heap.size Re.zero _ m xi (by rfl) (by rfl) H2.out (Lies.new _ _ _) ?_
           intro w7 hl7 hg7
           have hb := fresh_below hg7
           have HX7 := Lib.hid hl7; have HM7 := Lib.hid (HM6.out.below hb HM6.out.lt); have HB7 := Lib.hid (HB6.out.trans (hb.mono HB6.out.size)); have HUB7 := Lib.hid (HUB6.out.below hb)
           have HXI7 := Lib.hid (HXI6.out.below hb)
           clear hl7 hg7 hb)
        | fail)
      have hrw := rewriteRt_any (.slice bo bn bc) (Rt.bytes m) w7 (HFW.out _ HB7.out) HUB7.out (by have := HBLL.out; omega)
      have hap := Rt.apart_two HCK.out HFIT.out HSM.out (by omega)
      have hrr : (Rt.rewrite (Rt.bytes m)).2 = (Re.decode (Rt.bytes m)).2 := by unfold Rt.rewrite; rw [if_pos hap]
      rw [← hrr] at hap
      obtain ⟨r, hr⟩ : ∃ r, r = Rt.rewrite (Rt.bytes m) := ⟨_, rfl⟩
      rw [← hr] at hrw hap
      obtain ⟨rz, hrz⟩ : ∃ rz, rz = r.2 := ⟨_, rfl⟩
      rw [← hrz] at hap
      have hne : (rz != 0) = true := by simpa using hap
      have HRZ := Lib.hid hrz
      refine hrw.mono ?_
      rintro e8 w8 ⟨hb, uc, rfl, huc⟩
      rw [← HRZ.out]
      obtain ⟨co, cc, rfl⟩ := huc.shape
      have HX8 := Lib.hid (HX7.out.below hb HX7.out.lt); have HM8 := Lib.hid (HM7.out.below hb HM7.out.lt); have HB8 := Lib.hid (HB7.out.trans (hb.mono HB7.out.size)); have HUB8 := Lib.hid (HUB7.out.below hb)
      have HXI8 := Lib.hid (HXI7.out.below hb)
      clear hb huc hrw hr hrz hap hrr
      obtain ⟨p0, p1, p2, p3, p4, p5, p6, p7, p8, p9, p10, p11⟩ := Recs.all HM8.out
      obtain ⟨q0, q1, q2, q3, q4, q5, q6, q7, q8, q9, q10, q11⟩ := Recs.all HX8.out
      have hsm := refSameRe_any m m xi vi w8 HXI8.out (HI.out _ HB8.out)
      rw [show decide (m = m) = true from decide_eq_true rfl] at hsm
      have HSM2 := Lib.hid hsm
      clear hsm
      go_wp2_with fail
      refine HSM2.out.mono ?_
      rintro e9 w9 ⟨rfl, hb⟩
      have HM9 := Lib.hid (HM8.out.below hb HM8.out.lt); have HB9 := Lib.hid (HB8.out.trans (hb.mono HB8.out.size)); have HUB9 := Lib.hid (HUB8.out.below hb)
      clear hb p0 p1 p2 p3 p4 p5 p6 p7 p8 p9 p10 p11 q0 q1 q2 q3 q4 q5 q6 q7 q8 q9 q10 q11
      obtain ⟨p0, p1, p2, p3, p4, p5, p6, p7, p8, p9, p10, p11⟩ := Recs.all HM9.out
      go_wp2_with fail
      refine (refBytesRt_any 2 m vi _ (.inr rfl) (by rw [Rt.older_two]; exact HCK.out) (HI.out _ HB9.out) HFIT.out (Short.up HSM.out (by omega)) (by have := HIM.out; omega)).mono ?_
      rintro e10 w10 ⟨ur, rfl, hur, hb⟩
      have HB10 := Lib.hid (HB9.out.trans (hb.mono HB9.out.size)); have HUB10 := Lib.hid (HUB9.out.below hb)
      have hur1 : Reads w10 ur (Rt.bytes m) := hur.reads
      have HUR10 := Lib.hid hur1
      clear hb hur hur1 p0 p1 p2 p3 p4 p5 p6 p7 p8 p9 p10 p11
      have hsame := sameB_any (.slice bo bn bc) ur (Rt.bytes m) (Rt.bytes m) w10 HUB10.out HUR10.out
      rw [show (Rt.bytes m == Rt.bytes m) = true by simp] at hsame
      have HSAME := Lib.hid hsame
      clear hsame
      have hle : bn ≤ an := by have := HLE.out; have := HBN.out; have := HAN.out; omega
      have dle : decide ((bn : Int) ≤ (an : Int)) = true := by simp; omega
      go_wp2_with fail
      refine HSAME.out.mono ?_
      rintro e11 w11 ⟨rfl, hb⟩
      have HB11 := Lib.hid (HB10.out.trans (hb.mono HB10.out.size))
      clear hb
      go_wp2_with fail
      refine (awakeRt_any _ (HFW.out _ HB11.out)).mono ?_
      rintro ea wa ⟨rfl, hb⟩
      go_wp2
      go_ret
      exact truly_of (HB11.out.trans (hb.mono HB11.out.size))
    · have hne : (c != 0) = true := by simpa using h0
      clear h0
      go_wp2_with fail
      refine (awakeRt_any _ (HFW.out _ HB3.out)).mono ?_
      rintro ea wa ⟨rfl, hb⟩
      go_wp2
      go_ret
      exact truly_of (HB3.out.trans (hb.mono HB3.out.size))

end Go.Proofs.YtaeojpcffahgmaaGreatDoor
