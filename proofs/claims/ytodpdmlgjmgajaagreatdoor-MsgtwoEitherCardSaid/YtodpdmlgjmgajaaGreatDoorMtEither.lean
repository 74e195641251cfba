/- MsgtwoEither. -/
import Derived.Test.YtodpdmlgjmgajaaGreatDoorMtLaw
namespace Go.Proofs.YtodpdmlgjmgajaaGreatDoor
open Go.RowKit

set_option maxRecDepth 4000 in
set_option maxHeartbeats 6400000 in
theorem msgtwoEither_any (m : Ms.Msg) (ve vi : Value) (w : World) (hF : FieldsIn w) (hW : WordsIn w) (he : ReadsE w ve m.ents) (hi : Reads w vi m.img) (hf : m.Fits) (hs : ∀ e ∈ m.ents, e.cmd.Short 9223372036854775807) :
    Calls Tryz.prog 5 #[.agg (Ms.cells m ve vi)] w (Truly w) := by
  obtain ⟨w1, e1, hl1, hB1, hz1⟩ := box_msg w m ve vi
  obtain ⟨p0, p1, p2, p3, p4, p5, p6, p7, p8, p9⟩ := Msgs.ten hl1
  have HM1 := Lib.hid hl1; have HB1 := Lib.hid hB1
  have HE := Lib.hid (fun W (h : Below w.heap.size w W) => (ReadsR.below he h : ReadsE W ve m.ents)); have HI := Lib.hid (fun W (h : Below w.heap.size w W) => hi.below h)
  have HFW := Lib.hid (fun W (h : Below w.heap.size w W) => And.intro (hF.below h) (hW.below h))
  have HFIT := Lib.hid hf
  obtain ⟨x, hx⟩ : ∃ x, x = Ms.large m := ⟨_, rfl⟩
  have HX := Lib.hid hx
  have hlarge := largeM_any m ve vi w1 (HE.out _ hB1) (HI.out _ hB1) hs
  rw [← hx] at hlarge
  have HLARGE := Lib.hid hlarge
  clear hl1 hB1 hz1 hF hW he hi hf hs hx hlarge
  cases x with
  | true =>
    go_enter Tryz.func5, Tryz.ntmps5
    go_wp2_with fail
    refine HLARGE.out.mono ?_
    rintro e2 w2 ⟨rfl, hb⟩
    have HB2 := Lib.hid (HB1.out.trans (hb.mono HB1.out.size))
    clear hb
    go_wp2_with fail
    refine (awakeMt_any _ (HFW.out _ HB2.out).1 (HFW.out _ HB2.out).2).mono ?_
    rintro e3 w3 ⟨rfl, hb⟩
    go_wp2
    go_ret
    exact truly_of (HB2.out.trans (hb.mono HB2.out.size))
  | false =>
    obtain ⟨hn40, himg, hsm⟩ := Ms.small2 HX.out.symm
    have HSM := Lib.hid hsm; have HN := Lib.hid hn40; have HIM := Lib.hid himg
    clear hn40 himg hsm
    go_enter Tryz.func5, Tryz.ntmps5
    go_wp2_with fail
    refine HLARGE.out.mono ?_
    rintro e2 w2 ⟨rfl, hb⟩
    have HM2 := Lib.hid (HM1.out.below hb HM1.out.lt); have HB2 := Lib.hid (HB1.out.trans (hb.mono HB1.out.size))
    clear hb p0 p1 p2 p3 p4 p5 p6 p7 p8 p9 HLARGE
    obtain ⟨p0, p1, p2, p3, p4, p5, p6, p7, p8, p9⟩ := Msgs.ten HM2.out
    obtain ⟨c, hc⟩ : ∃ c, c = Ms.older m := ⟨_, rfl⟩
    have HC := Lib.hid hc
    have hold := refOlderM_any m ve vi w2 (HE.out _ HB2.out) (HI.out _ HB2.out) (fun e h => Short.up (HSM.out e h) (by omega))
    rw [← hc] at hold
    have HOLD := Lib.hid hold
    clear hc hold
    go_wp2_with fail
    refine HOLD.out.mono ?_
    rintro e3 w3 ⟨rfl, hb⟩
    have HM3 := Lib.hid (HM2.out.below hb HM2.out.lt); have HB3 := Lib.hid (HB2.out.trans (hb.mono HB2.out.size))
    clear hb p0 p1 p2 p3 p4 p5 p6 p7 p8 p9 HOLD
    by_cases h0 : c = 0
    · subst h0
      have hck := (Ms.older_good HC.out.symm).1
      have HCK := Lib.hid hck
      have HLESS := Lib.hid (Mt.less HC.out.symm)
      clear hck
      obtain ⟨p0, p1, p2, p3, p4, p5, p6, p7, p8, p9⟩ := Msgs.ten HM3.out
      go_wp2_with fail
      refine (encodeM_any m ve vi _ (HFW.out _ HB3.out).1 (HFW.out _ HB3.out).2 (HE.out _ HB3.out) (HI.out _ HB3.out) HFIT.out (fun e h => Short.up (HSM.out e h) (by omega)) (by have := HN.out; omega) (by have := HIM.out; omega)).mono ?_
      rintro e4 w4 ⟨hb, ua, rfl, hua⟩
      rw [← HC.out, if_pos rfl] at hua
      rw [← HC.out]
      have HM4 := Lib.hid (HM3.out.below hb HM3.out.lt); have HB4 := Lib.hid (HB3.out.trans (hb.mono HB3.out.size)); have HUA4 := Lib.hid hua
      obtain ⟨ao, ac, rfl⟩ := hua.shape
      clear hb hua p0 p1 p2 p3 p4 p5 p6 p7 p8 p9
      obtain ⟨p0, p1, p2, p3, p4, p5, p6, p7, p8, p9⟩ := Msgs.ten HM4.out
      go_wp2_with fail
      refine (encodeMt_any m ve vi _ (HFW.out _ HB4.out).1 (HFW.out _ HB4.out).2 (HE.out _ HB4.out) (HI.out _ HB4.out) HFIT.out (fun e h => Short.up (HSM.out e h) (by omega))).mono ?_
      rintro e5 w5 ⟨hb, ub, rfl, hub⟩
      rw [HCK.out, if_pos rfl] at hub
      rw [HCK.out]
      have HB5 := Lib.hid (HB4.out.trans (hb.mono HB4.out.size)); have HUA5 := Lib.hid (HUA4.out.below hb); have HUB5 := Lib.hid hub
      obtain ⟨bo, bc, rfl⟩ := hub.shape
      have hBA := Ms.bytes_len HFIT.out HSM.out HN.out HIM.out
      have hBB := Mt.bytes_small HCK.out fun e h => ⟨HFIT.out.e e h, Short.up (HSM.out e h) (by omega)⟩
      obtain ⟨an, han⟩ : ∃ an, an = (Ms.bytes m).length := ⟨_, rfl⟩
      obtain ⟨bn, hbn⟩ : ∃ bn, bn = (Mt.bytes m).length := ⟨_, rfl⟩
      rw [← han] at HUA5 HLESS ⊢
      rw [← hbn] at HUB5 HLESS ⊢
      have HBA : Hid ((Ms.bytes m).length ≤ 100000) := hBA
      have HBB : Hid ((Mt.bytes m).length ≤ 16000000) := hBB
      have hle : (bn : Int) ≤ (an : Int) := by have := HLESS.out; omega
      clear hb hub han hbn hBA hBB p0 p1 p2 p3 p4 p5 p6 p7 p8 p9 HM4 HM3 HM2 HM1 HUA4
      have hdec := decodeM_any (.slice ao an ac) (Ms.bytes m) w5 (HFW.out _ HB5.out).1 (HFW.out _ HB5.out).2 HUA5.out HBA.out
      rw [Ms.decode_back HC.out.symm HFIT.out HSM.out (by omega)] at hdec
      have HDEC := Lib.hid hdec
      clear hdec
      go_wp2_with fail
      refine HDEC.out.mono ?_
      rintro e6 w6 ⟨hb, xe, xi, rfl, hxe, hxi, h1xe, h1xi⟩
      dsimp only at hxe hxi ⊢
      have HB6 := Lib.hid (HB5.out.trans (hb.mono HB5.out.size)); have HUB6 := Lib.hid (HUB5.out.below hb)
      have HXE6 := Lib.hid hxe; have HXI6 := Lib.hid hxi; have H1 := Lib.hid h1xe; have H2 := Lib.hid h1xi
      clear hb hxe hxi h1xe h1xi HDEC
      go_wp2_with (first
        | (refine store_msg (by rfl) _ _ (by rfl) w6.heap.size Ms.zero _ _ m xe xi (by rfl) (by rfl) H1.out H2.out (Lies.new _ _ _) ?_
           intro w7 hl7 hg7
           have hb := fresh_below hg7
           have HX7 := Lib.hid hl7; have HB7 := Lib.hid (HB6.out.trans (hb.mono HB6.out.size)); have HUB7 := Lib.hid (HUB6.out.below hb)
           have HXE7 := Lib.hid (HXE6.out.below hb); have HXI7 := Lib.hid (HXI6.out.below hb)
           clear hl7 hg7 hb)
        | fail)
      have hdec := decodeMt_any (.slice bo bn bc) (Mt.bytes m) w7 (HFW.out _ HB7.out).1 (HFW.out _ HB7.out).2 HUB7.out (by have := HBB.out; omega)
      rw [Mt.decode_back HCK.out HFIT.out HSM.out (by omega)] at hdec
      have HDEC := Lib.hid hdec
      clear hdec
      refine HDEC.out.mono ?_
      rintro e8 w8 ⟨hb, ye, yi, rfl, hye, hyi, h1ye, h1yi⟩
      dsimp only at hye hyi ⊢
      have HX8 := Lib.hid (HX7.out.below hb HX7.out.lt); have HB8 := Lib.hid (HB7.out.trans (hb.mono HB7.out.size))
      have HXE8 := Lib.hid (HXE7.out.below hb); have HXI8 := Lib.hid (HXI7.out.below hb)
      have HYE8 := Lib.hid hye; have HYI8 := Lib.hid hyi; have H3 := Lib.hid h1ye; have H4 := Lib.hid h1yi
      clear hb hye hyi h1ye h1yi HDEC
      go_wp2_with (first
        | (refine store_msg (by rfl) _ _ (by rfl) w8.heap.size Ms.zero _ _ m ye yi (by rfl) (by rfl) H3.out H4.out (Lies.new _ _ _) ?_
           intro w9 hl9 hg9
           have hb := fresh_below hg9
           have HY9 := Lib.hid hl9; have HX9 := Lib.hid (HX8.out.below hb HX8.out.lt); have HB9 := Lib.hid (HB8.out.trans (hb.mono HB8.out.size))
           have HXE9 := Lib.hid (HXE8.out.below hb); have HXI9 := Lib.hid (HXI8.out.below hb)
           have HYE9 := Lib.hid (HYE8.out.below hb); have HYI9 := Lib.hid (HYI8.out.below hb)
           clear hl9 hg9 hb
           obtain ⟨p0, p1, p2, p3, p4, p5, p6, p7, p8, p9⟩ := Msgs.ten HX9.out
           obtain ⟨q0, q1, q2, q3, q4, q5, q6, q7, q8, q9⟩ := Msgs.ten HY9.out)
        | fail)
      have hsm := refSameM_any m m xe xi ye yi w9 HXE9.out HXI9.out HYE9.out HYI9.out
      rw [show decide (m = m) = true from decide_eq_true rfl] at hsm
      have HSM2 := Lib.hid hsm
      clear hsm
      refine HSM2.out.mono ?_
      rintro ea wa ⟨rfl, hb⟩
      have HBa := Lib.hid (HB9.out.trans (hb.mono HB9.out.size))
      have dle : decide ((bn : Int) ≤ (an : Int)) = true := decide_eq_true hle
      clear hb p0 p1 p2 p3 p4 p5 p6 p7 p8 p9 q0 q1 q2 q3 q4 q5 q6 q7 q8 q9
      go_wp2_with fail
      refine (awakeMt_any _ (HFW.out _ HBa.out).1 (HFW.out _ HBa.out).2).mono ?_
      rintro eb wb ⟨rfl, hb⟩
      go_wp2
      go_ret
      exact truly_of (HBa.out.trans (hb.mono HBa.out.size))
    · have hne : (c != 0) = true := by simpa using h0
      clear h0
      go_wp2_with fail
      refine (awakeMt_any _ (HFW.out _ HB3.out).1 (HFW.out _ HB3.out).2).mono ?_
      rintro e5 w5 ⟨rfl, hb⟩
      go_wp2
      go_ret
      exact truly_of (HB3.out.trans (hb.mono HB3.out.size))

end Go.Proofs.YtodpdmlgjmgajaaGreatDoor
