/- MsgtwoEncodes, MsgtwoDecodes. -/
import Derived.Test.YtodpdmlgjmgajaaGreatDoorMtDec
import Derived.Test.YtodpdmlgjmgajaaGreatDoorMtRefB
namespace Go.Proofs.YtodpdmlgjmgajaaGreatDoor
open Go.RowKit

set_option maxRecDepth 4000 in
set_option maxHeartbeats 1600000 in
theorem awakeMt_any (w : World) (hF : FieldsIn w) (hW : WordsIn w) : Calls Tryz.prog 7 #[] w (Truly w) := by
  have hcall := encodeMt_any Ms.ask (.slice none 0 0) (.slice none 0 0) w hF hW (ReadsR.empty w 10) (Reads.empty w) ⟨by decide +kernel, fun e he => by simp [Ms.ask] at he⟩ (fun e he => by simp [Ms.ask] at he)
  unfold MtEncd at hcall
  rw [show Ms.check Ms.ask = 0 by decide +kernel, if_pos rfl, show Mt.bytes Ms.ask = [9, 1, 2, 3] by decide +kernel] at hcall
  have HCALL := Lib.hid hcall
  clear hcall hF hW
  go_enter Tryz.func7, Tryz.ntmps7
  go_wp2_with fail
  refine HCALL.out.mono ?_
  rintro e1 w1 ⟨hB1, u, rfl, hu⟩
  obtain ⟨ao, cap, rfl⟩ := hu.shape
  obtain ⟨b, off, rfl, hcell⟩ := hu.place (by simp)
  have c3 := hcell 3 3 rfl
  have hlen := hu.len
  have HB1 := Lib.hid hB1
  clear hu hcell hB1
  go_wp2
  go_ret
  exact truly_of HB1.out

theorem Mt.bytes_small {m : Ms.Msg} (hc : Ms.check m = 0) (hf : ∀ e ∈ m.ents, e.Fits ∧ e.cmd.Short 1000) : (Mt.bytes m).length ≤ 16000000 := by
  rw [Mt.bytes_elems]
  have h := Mt.flat_len hc hf (Mt.head ++ Mt.elems m.kind) fun _ h => h
  have h2 := (Mt.elems_len m.kind).1
  rw [List.length_append] at h
  have : Mt.head.length = 3 := rfl
  omega

set_option maxRecDepth 4000 in
set_option maxHeartbeats 6400000 in
theorem msgtwoEncodes_any (m : Ms.Msg) (ve vi : Value) (w : World) (hF : FieldsIn w) (hW : WordsIn w) (he : ReadsE w ve m.ents) (hi : Reads w vi m.img) (hf : m.Fits) (hs : ∀ e ∈ m.ents, e.cmd.Short 9223372036854775807) :
    Calls Tryz.prog 3 #[.agg (Ms.cells m ve vi)] w (Truly w) := by
  obtain ⟨w1, e1, hl1, hB1, hz1⟩ := box_msg w m ve vi
  obtain ⟨p0, p1, p2, p3, p4, p5, p6, p7, p8, p9⟩ := Msgs.ten hl1
  have HM1 := Lib.hid hl1; have HB1 := Lib.hid hB1
  have HE := Lib.hid (fun W (h : Below w.heap.size w W) => (ReadsR.below he h : ReadsE W ve m.ents)); have HI := Lib.hid (fun W (h : Below w.heap.size w W) => hi.below h)
  have HFW := Lib.hid (fun W (h : Below w.heap.size w W) => And.intro (hF.below h) (hW.below h))
  have HFIT := Lib.hid hf
  obtain ⟨x, hx⟩ : ∃ x, x = Ms.large m := ⟨_, rfl⟩
  have HX := Lib.hid hx
  have hlarge := largeM_any m ve vi w1 (HE.out _ hB1) (HI.out _ hB1) hs
  rw [← hx] at hlarge
  have HLARGE := Lib.hid hlarge
  clear hl1 hB1 hz1 hF hW he hi hf hs hx hlarge
  cases x with
  | true =>
    go_enter Tryz.func3, Tryz.ntmps3
    go_wp2_with fail
    refine HLARGE.out.mono ?_
    rintro e2 w2 ⟨rfl, hb⟩
    have HB2 := Lib.hid (HB1.out.trans (hb.mono HB1.out.size))
    clear hb
    go_wp2_with fail
    refine (awakeMt_any _ (HFW.out _ HB2.out).1 (HFW.out _ HB2.out).2).mono ?_
    rintro e3 w3 ⟨rfl, hb⟩
    go_wp2
    go_ret
    exact truly_of (HB2.out.trans (hb.mono HB2.out.size))
  | false =>
    obtain ⟨hn40, himg, hsm⟩ := Ms.small2 HX.out.symm
    have HSM := Lib.hid hsm
    clear hn40 himg hsm
    go_enter Tryz.func3, Tryz.ntmps3
    go_wp2_with fail
    refine HLARGE.out.mono ?_
    rintro e2 w2 ⟨rfl, hb⟩
    have HM2 := Lib.hid (HM1.out.below hb HM1.out.lt); have HB2 := Lib.hid (HB1.out.trans (hb.mono HB1.out.size))
    clear hb p0 p1 p2 p3 p4 p5 p6 p7 p8 p9 HLARGE
    obtain ⟨p0, p1, p2, p3, p4, p5, p6, p7, p8, p9⟩ := Msgs.ten HM2.out
    go_wp2_with fail
    refine (encodeMt_any m ve vi _ (HFW.out _ HB2.out).1 (HFW.out _ HB2.out).2 (HE.out _ HB2.out) (HI.out _ HB2.out) HFIT.out (fun e h => Short.up (HSM.out e h) (by omega))).mono ?_
    rintro e3 w3 ⟨hb, ub, rfl, hub⟩
    have HM3 := Lib.hid (HM2.out.below hb HM2.out.lt); have HB3 := Lib.hid (HB2.out.trans (hb.mono HB2.out.size))
    clear hb p0 p1 p2 p3 p4 p5 p6 p7 p8 p9
    obtain ⟨p0, p1, p2, p3, p4, p5, p6, p7, p8, p9⟩ := Msgs.ten HM3.out
    obtain ⟨c, hc⟩ : ∃ c, c = Ms.check m := ⟨_, rfl⟩
    have HC := Lib.hid hc
    have hold := refCheckM_any m ve vi w3 (HE.out _ HB3.out) (HI.out _ HB3.out) (fun e h => Short.up (HSM.out e h) (by omega))
    rw [← hc] at hold hub ⊢
    have HOLD := Lib.hid hold
    clear hc hold
    by_cases h0 : c = 0
    · subst h0
      rw [if_pos rfl] at hub
      have HUB3 := Lib.hid hub
      obtain ⟨bo, bc, rfl⟩ := hub.shape
      have hBL := Mt.bytes_small HC.out.symm fun e h => ⟨HFIT.out.e e h, Short.up (HSM.out e h) (by omega)⟩
      obtain ⟨bn, hbn⟩ : ∃ bn, bn = (Mt.bytes m).length := ⟨_, rfl⟩
      rw [← hbn] at HUB3 ⊢
      have HBL : Hid ((Mt.bytes m).length ≤ 16000000) := hBL
      clear hub hBL hbn
      go_wp2_with fail
      refine HOLD.out.mono ?_
      rintro e4 w4 ⟨rfl, hb⟩
      have HM4 := Lib.hid (HM3.out.below hb HM3.out.lt); have HB4 := Lib.hid (HB3.out.trans (hb.mono HB3.out.size)); have HUB4 := Lib.hid (HUB3.out.below hb)
      clear hb p0 p1 p2 p3 p4 p5 p6 p7 p8 p9
      have hdec := decodeMt_any (.slice bo bn bc) (Mt.bytes m) w4 (HFW.out _ HB4.out).1 (HFW.out _ HB4.out).2 HUB4.out (by have := HBL.out; omega)
      rw [Mt.decode_back HC.out.symm HFIT.out HSM.out (by omega)] at hdec
      have HDEC := Lib.hid hdec
      clear hdec
      go_wp2_with fail
      refine HDEC.out.mono ?_
      rintro e5 w5 ⟨hb, xe, xi, rfl, hxe, hxi, h1xe, h1xi⟩
      dsimp only at hxe hxi ⊢
      have HM5 := Lib.hid (HM4.out.below hb HM4.out.lt); have HB5 := Lib.hid (HB4.out.trans (hb.mono HB4.out.size)); have HUB5 := Lib.hid (HUB4.out.below hb)
      have HXE5 := Lib.hid hxe; have HXI5 := Lib.hid hxi; have H1 := Lib.hid h1xe; have H2 := Lib.hid h1xi
      clear hb hxe hxi h1xe h1xi
      go_wp2_with (first
        | (refine store_msg (by rfl) _ _ (by rfl) w5.heap.size Ms.zero _ _ m xe xi (by rfl) (by rfl) H1.out H2.out (Lies.new _ _ _) ?_
           intro w6 hl6 hg6
           have hb := fresh_below hg6
           have HX6 := Lib.hid hl6; have HM6 := Lib.hid (HM5.out.below hb HM5.out.lt); have HB6 := Lib.hid (HB5.out.trans (hb.mono HB5.out.size)); have HUB6 := Lib.hid (HUB5.out.below hb)
           have HXE6 := Lib.hid (HXE5.out.below hb); have HXI6 := Lib.hid (HXI5.out.below hb)
           clear hl6 hg6 hb
           obtain ⟨p0, p1, p2, p3, p4, p5, p6, p7, p8, p9⟩ := Msgs.ten HM6.out)
        | fail)
      refine (refBytes14_any m ve vi _ HC.out.symm (HE.out _ HB6.out) (HI.out _ HB6.out) HFIT.out (fun e h => Short.up (HSM.out e h) (by omega))).mono ?_
      rintro e7 w7 ⟨ur, rfl, hur, hb⟩
      have HX7 := Lib.hid (HX6.out.below hb HX6.out.lt); have HM7 := Lib.hid (HM6.out.below hb HM6.out.lt); have HB7 := Lib.hid (HB6.out.trans (hb.mono HB6.out.size)); have HUB7 := Lib.hid (HUB6.out.below hb)
      have HXE7 := Lib.hid (HXE6.out.below hb); have HXI7 := Lib.hid (HXI6.out.below hb); have HUR7 := Lib.hid hur.reads
      clear hb hur p0 p1 p2 p3 p4 p5 p6 p7 p8 p9
      have hsame := sameB_any (.slice bo bn bc) ur (Mt.bytes m) (Mt.bytes m) w7 HUB7.out HUR7.out
      rw [show (Mt.bytes m == Mt.bytes m) = true by simp] at hsame
      have HSAME := Lib.hid hsame
      clear hsame
      go_wp2_with fail
      refine HSAME.out.mono ?_
      rintro e8 w8 ⟨rfl, hb⟩
      have HX8 := Lib.hid (HX7.out.below hb HX7.out.lt); have HM8 := Lib.hid (HM7.out.below hb HM7.out.lt); have HB8 := Lib.hid (HB7.out.trans (hb.mono HB7.out.size))
      have HXE8 := Lib.hid (HXE7.out.below hb); have HXI8 := Lib.hid (HXI7.out.below hb)
      clear hb
      obtain ⟨p0, p1, p2, p3, p4, p5, p6, p7, p8, p9⟩ := Msgs.ten HM8.out
      obtain ⟨q0, q1, q2, q3, q4, q5, q6, q7, q8, q9⟩ := Msgs.ten HX8.out
      have hsm := refSameM_any m m xe xi ve vi w8 HXE8.out HXI8.out (HE.out _ HB8.out) (HI.out _ HB8.out)
      rw [show decide (m = m) = true from decide_eq_true rfl] at hsm
      have HSM2 := Lib.hid hsm
      clear hsm
      go_wp2_with fail
      refine HSM2.out.mono ?_
      rintro e9 w9 ⟨rfl, hb⟩
      have HB9 := Lib.hid (HB8.out.trans (hb.mono HB8.out.size))
      clear hb p0 p1 p2 p3 p4 p5 p6 p7 p8 p9 q0 q1 q2 q3 q4 q5 q6 q7 q8 q9
      go_wp2_with fail
      refine (awakeMt_any _ (HFW.out _ HB9.out).1 (HFW.out _ HB9.out).2).mono ?_
      rintro ea wa ⟨rfl, hb⟩
      go_wp2
      go_ret
      exact truly_of (HB9.out.trans (hb.mono HB9.out.size))
    · rw [if_neg h0] at hub
      obtain ⟨bo, bc, rfl⟩ := hub.shape
      have hne : (c != 0) = true := by simpa using h0
      have hcc : (c == c) = true := by simp
      clear hub h0
      go_wp2_with fail
      refine HOLD.out.mono ?_
      rintro e4 w4 ⟨rfl, hb⟩
      have HB4 := Lib.hid (HB3.out.trans (hb.mono HB3.out.size))
      clear hb p0 p1 p2 p3 p4 p5 p6 p7 p8 p9
      go_wp2_with fail
      refine (awakeMt_any _ (HFW.out _ HB4.out).1 (HFW.out _ HB4.out).2).mono ?_
      rintro e5 w5 ⟨rfl, hb⟩
      go_wp2
      go_ret
      exact truly_of (HB4.out.trans (hb.mono HB4.out.size))

set_option maxRecDepth 4000 in
set_option maxHeartbeats 6400000 in
theorem msgtwoDecodes_any (u : Value) (s : List UInt8) (w : World) (hF : FieldsIn w) (hW : WordsIn w) (hu : Reads w u s) : Calls Tryz.prog 4 #[u] w (Truly w) := by
  have HU := Lib.hid (fun W (h : Below w.heap.size w W) => hu.below h)
  have HFW := Lib.hid (fun W (h : Below w.heap.size w W) => And.intro (hF.below h) (hW.below h))
  have HDEC := Lib.hid (decodeMt_any u s w hF hW hu)
  obtain ⟨ao, cap, rfl⟩ := hu.shape
  have hlen := hu.len
  obtain ⟨n, hn⟩ : ∃ n, n = s.length := ⟨_, rfl⟩
  have HN := Lib.hid hn
  rw [← hn] at HU HDEC hlen ⊢
  have hnb : n ≤ 9223372036854775807 := by omega
  clear hF hW hu hn hlen
  by_cases hbig : 2000 < n
  · have d : decide ((2000 : Int) < (n : Int)) = true := by simp; omega
    go_enter Tryz.func4, Tryz.ntmps4
    go_wp2_with fail
    refine (awakeMt_any _ (HFW.out _ (Below.refl _ _)).1 (HFW.out _ (Below.refl _ _)).2).mono ?_
    rintro e3 w3 ⟨rfl, hb⟩
    go_wp2
    go_ret
    exact truly_of hb
  · have d : decide ((2000 : Int) < (n : Int)) = false := by simp; omega
    have HDEC2 := Lib.hid (HDEC.out (by omega))
    clear HDEC hbig
    obtain ⟨r, hr⟩ : ∃ r, r = Mt.decode s := ⟨_, rfl⟩
    have HR := Lib.hid hr
    rw [← hr] at HDEC2
    clear hr
    have hinv := (Mt.got_inv s).1
    have hok := Mt.decode_ok s
    have hnone := Mt.decode_none s
    have hgot := Mt.decode_got s
    rw [← HR.out] at hok hnone hgot
    have HINV : Hid (r.2 = 0 → r.1.Fits) := by
      intro h
      by_cases h1 : (Mt.got s).2 = 0
      · rw [if_neg (by simpa using h1)] at hgot
        by_cases h2 : Ms.check (Mt.got s).1 = 0
        · rw [if_neg (by simpa using h2)] at hgot
          rw [hgot]; exact hinv
        · rw [if_pos h2] at hgot
          rw [hgot] at h; exact absurd h h2
      · rw [if_pos h1] at hgot
        rw [hgot] at h; exact absurd h h1
    have HOK := Lib.hid hok; have HNONE := Lib.hid hnone
    clear hinv hok hnone hgot
    go_enter Tryz.func4, Tryz.ntmps4
    go_wp2_with fail
    refine HDEC2.out.mono ?_
    rintro e2 w2 ⟨hB2, ve, vi, rfl, hve, hvi, h1, h2⟩
    have HB2 := Lib.hid hB2; have HVE2 := Lib.hid hve; have HVI2 := Lib.hid hvi; have H1 := Lib.hid h1; have H2 := Lib.hid h2
    clear hB2 hve hvi h1 h2 HDEC2
    obtain ⟨e, he⟩ : ∃ e, e = r.2 := ⟨_, rfl⟩
    obtain ⟨M, hM⟩ : ∃ M, M = r.1 := ⟨_, rfl⟩
    rw [← he] at HOK HNONE HINV ⊢
    rw [← hM] at HOK HNONE HINV HVE2 HVI2 ⊢
    clear he hM HR
    by_cases h0 : e = 0
    · obtain ⟨hm, hold, hby⟩ := HOK.out h0
      have HFIT := Lib.hid (HINV.out h0)
      subst h0
      have HC : Hid (Ms.check M = 0) := by show _ = _; rw [hm]; exact hold
      have HBY : Hid (Mt.bytes M = s) := by show _ = _; rw [hm]; exact hby
      have HSH : Hid (∀ x ∈ M.ents, x.cmd.Short 48) := fun x hx => Cm.check_short (Ms.ents_ok _ _ (Ms.check_good HC.out).ents x hx).2
      clear hm hold hby HOK HNONE HINV
      go_wp2_with (first
        | (refine store_msg (by rfl) _ _ (by rfl) w2.heap.size Ms.zero _ _ M ve vi (by rfl) (by rfl) H1.out H2.out (Lies.new _ _ _) ?_
           intro w3 hl3 hg3
           have hb := fresh_below hg3
           have HM3 := Lib.hid hl3; have HB3 := Lib.hid (HB2.out.trans (hb.mono HB2.out.size)); have HVE3 := Lib.hid (ReadsR.below HVE2.out hb : ReadsE w3 ve M.ents); have HVI3 := Lib.hid (HVI2.out.below hb)
           clear hl3 hg3 hb
           obtain ⟨p0, p1, p2, p3, p4, p5, p6, p7, p8, p9⟩ := Msgs.ten HM3.out)
        | fail)
      have hcall := refCheckM_any M ve vi w3 HVE3.out HVI3.out (fun x hx => Short.up (HSH.out x hx) (by omega))
      rw [HC.out] at hcall
      refine hcall.mono ?_
      rintro e4 w4 ⟨rfl, hb⟩
      have HM4 := Lib.hid (HM3.out.below hb HM3.out.lt); have HB4 := Lib.hid (HB3.out.trans (hb.mono HB3.out.size)); have HVE4 := Lib.hid (ReadsR.below HVE3.out hb : ReadsE w4 ve M.ents); have HVI4 := Lib.hid (HVI3.out.below hb)
      clear hb hcall p0 p1 p2 p3 p4 p5 p6 p7 p8 p9
      obtain ⟨p0, p1, p2, p3, p4, p5, p6, p7, p8, p9⟩ := Msgs.ten HM4.out
      go_wp2_with fail
      refine (refBytes14_any M ve vi _ HC.out HVE4.out HVI4.out HFIT.out (fun x h => Short.up (HSH.out x h) (by omega))).mono ?_
      rintro e5 w5 ⟨ur, rfl, hur, hb⟩
      have HB5 := Lib.hid (HB4.out.trans (hb.mono HB4.out.size)); have HUR5 := Lib.hid hur.reads
      clear hb hur p0 p1 p2 p3 p4 p5 p6 p7 p8 p9
      have hsame := sameB_any ur (.slice ao n cap) (Mt.bytes M) s w5 HUR5.out (HU.out _ HB5.out)
      rw [HBY.out, show (s == s) = true by simp] at hsame
      have HSAME := Lib.hid hsame
      clear hsame
      go_wp2_with fail
      refine HSAME.out.mono ?_
      rintro e8 w8 ⟨rfl, hb⟩
      have HB8 := Lib.hid (HB5.out.trans (hb.mono HB5.out.size))
      clear hb
      go_wp2_with fail
      refine (awakeMt_any _ (HFW.out _ HB8.out).1 (HFW.out _ HB8.out).2).mono ?_
      rintro ea wa ⟨rfl, hb⟩
      go_wp2
      go_ret
      exact truly_of (HB8.out.trans (hb.mono HB8.out.size))
    · have hne : (e != 0) = true := by simpa using h0
      have hz := HNONE.out h0
      subst hz
      clear h0 HOK HNONE HINV
      go_wp2_with (first
        | (refine store_msg (by rfl) _ _ (by rfl) w2.heap.size Ms.zero _ _ Ms.zero ve vi (by rfl) (by rfl) H1.out H2.out (Lies.new _ _ _) ?_
           intro w3 hl3 hg3
           have hb := fresh_below hg3
           have HM3 := Lib.hid hl3; have HB3 := Lib.hid (HB2.out.trans (hb.mono HB2.out.size)); have HVE3 := Lib.hid (ReadsR.below HVE2.out hb : ReadsE w3 ve Ms.zero.ents); have HVI3 := Lib.hid (HVI2.out.below hb)
           clear hl3 hg3 hb
           obtain ⟨p0, p1, p2, p3, p4, p5, p6, p7, p8, p9⟩ := Msgs.ten HM3.out)
        | fail)
      have hsm := refSameM_any Ms.zero Ms.zero ve vi (.slice none 0 0) (.slice none 0 0) w3 HVE3.out HVI3.out (ReadsR.empty _ 10) (Reads.empty _)
      rw [show decide (Ms.zero = Ms.zero) = true from decide_eq_true rfl] at hsm
      refine hsm.mono ?_
      rintro e4 w4 ⟨rfl, hb⟩
      have HB4 := Lib.hid (HB3.out.trans (hb.mono HB3.out.size))
      clear hb hsm p0 p1 p2 p3 p4 p5 p6 p7 p8 p9
      go_wp2_with fail
      refine (awakeMt_any _ (HFW.out _ HB4.out).1 (HFW.out _ HB4.out).2).mono ?_
      rintro ea wa ⟨rfl, hb⟩
      go_wp2
      go_ret
      exact truly_of (HB4.out.trans (hb.mono HB4.out.size))

end Go.Proofs.YtodpdmlgjmgajaaGreatDoor
