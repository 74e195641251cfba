/- TagWraps, TagOpens, TagTranslates. -/
import Derived.Test.YtndicjpbanmpjaaGreatDoorGTg
import Derived.Test.YtndicjpbanmpjaaGreatDoorTgRef
import Derived.Test.YtndicjpbanmpjaaGreatDoorMsLaw2
namespace Go.Proofs.YtndicjpbanmpjaaGreatDoor
open Go.RowKit

def Tg.hello : Ms.Msg := ⟨1, 1, 2, Bl.zero, 0, 0, 2, [], []⟩

set_option maxRecDepth 4000 in
set_option maxHeartbeats 1600000 in
theorem awakeTg_any (w : World) (hT : CrcTab w) (hF : FieldsIn w) (hW : WordsIn w) : Calls Tryz.prog 7 #[] w (Truly w) := by
  have hfit : Tg.hello.Fits := ⟨by decide +kernel, fun e he => by simp [Tg.hello] at he⟩
  have hck : Tg.check 2 Tg.hello = 0 := by decide +kernel
  have hcall := tgWrap_any 2 Tg.hello (.slice none 0 0) (.slice none 0 0) w hT hF hW (ReadsR.empty w 10) (Reads.empty w) hfit (fun e he => by simp [Tg.hello] at he) (by simp [Tg.hello]) (by simp [Tg.hello])
  unfold TgEncd at hcall
  rw [hck, if_pos rfl] at hcall
  have hll := Tg.letter_len hck hfit
  have hop := Tg.opened_letter hck hfit 2
  rw [if_neg (by decide)] at hop
  obtain ⟨L, hL⟩ : ∃ L, L = Tg.letter 2 Tg.hello := ⟨_, rfl⟩
  rw [← hL] at hcall hll hop
  have HCALL := Lib.hid hcall; have HOP := Lib.hid hop; have HLL := Lib.hid hll
  have HALL := Lib.hid (fun W (h : Below w.heap.size w W) => And.intro (hT.below h) (And.intro (hF.below h) (hW.below h)))
  clear hcall hT hF hW hfit hck hll hop hL
  go_enter Tryz.func7, Tryz.ntmps7
  go_wp2_with fail
  refine HCALL.out.mono ?_
  rintro e1 w1 ⟨hB1, u, rfl, hu⟩
  have hopen := tgOpen_any 2 u L w1 (HALL.out _ hB1).1 (HALL.out _ hB1).2.1 (HALL.out _ hB1).2.2 hu (by have := HLL.out; omega)
  rw [HOP.out] at hopen
  have HOPEN := Lib.hid hopen; have HB1 := Lib.hid hB1
  obtain ⟨ao, cap, rfl⟩ := hu.shape
  obtain ⟨n, hn⟩ : ∃ n, n = L.length := ⟨_, rfl⟩
  rw [← hn] at HOPEN ⊢
  clear hopen hB1 hu hn
  go_wp2_with fail
  refine HOPEN.out.mono ?_
  rintro e2 w2 ⟨hb, ve, vi, rfl, hve, hvi, h1, h2⟩
  have HB2 := Lib.hid (HB1.out.trans (hb.mono HB1.out.size)); have H1 := Lib.hid h1; have H2 := Lib.hid h2
  clear hb hve hvi h1 h2
  go_wp2_with (first
    | (refine store_msg (by rfl) _ _ (by rfl) w2.heap.size Ms.zero _ _ Tg.hello ve vi (by rfl) (by rfl) H1.out H2.out (Lies.new _ _ _) ?_
       intro w3 hl3 hg3
       have hb := fresh_below hg3
       have HB3 := Lib.hid (HB2.out.trans (hb.mono HB2.out.size))
       obtain ⟨p0, p1, p2, p3, p4, p5, p6, p7, p8, p9⟩ := Msgs.ten hl3
       dsimp only [Tg.hello] at p7
       clear hl3 hg3 hb)
    | fail)
  go_ret
  exact truly_of HB3.out

set_option maxRecDepth 4000 in
set_option maxHeartbeats 6400000 in
theorem tagWraps_any (v : Int) (m : Ms.Msg) (ve vi : Value) (r : Int) (w : World) (hT : CrcTab w) (hF : FieldsIn w) (hW : WordsIn w) (he : ReadsE w ve m.ents) (hi : Reads w vi m.img) (hf : m.Fits) (hs : ∀ e ∈ m.ents, e.cmd.Short 9223372036854775807) :
    Calls Tryz.prog 3 #[.int .i64 v, .agg (Ms.cells m ve vi), .int .i64 r] w (Truly w) := by
  obtain ⟨w1, e1, hl1, hB1, hz1⟩ := box_msg w m ve vi
  obtain ⟨p0, p1, p2, p3, p4, p5, p6, p7, p8, p9⟩ := Msgs.ten hl1
  have HM1 := Lib.hid hl1; have HB1 := Lib.hid hB1
  have HE := Lib.hid (fun W (h : Below w.heap.size w W) => (ReadsR.below he h : ReadsE W ve m.ents)); have HI := Lib.hid (fun W (h : Below w.heap.size w W) => hi.below h)
  have HALL := Lib.hid (fun W (h : Below w.heap.size w W) => And.intro (hT.below h) (And.intro (hF.below h) (hW.below h)))
  have HAW := Lib.hid (fun W (h : Below w.heap.size w W) => awakeTg_any W (hT.below h) (hF.below h) (hW.below h))
  have HFIT := Lib.hid hf
  obtain ⟨x, hx⟩ : ∃ x, x = Ms.large m := ⟨_, rfl⟩
  have HX := Lib.hid hx
  have hlarge := largeM_any m ve vi w1 (HE.out _ hB1) (HI.out _ hB1) hs
  rw [← hx] at hlarge
  have HLARGE := Lib.hid hlarge
  clear hl1 hB1 hz1 hT hF hW he hi hf hs hx hlarge
  cases x with
  | true =>
    go_enter Tryz.func3, Tryz.ntmps3
    go_wp2_with fail
    refine HLARGE.out.mono ?_
    rintro e2 w2 ⟨rfl, hb⟩
    have HB2 := Lib.hid (HB1.out.trans (hb.mono HB1.out.size))
    clear hb
    go_wp2_with fail
    refine (HAW.out _ HB2.out).mono ?_
    rintro e3 w3 ⟨rfl, hb⟩
    go_wp2
    go_ret
    exact truly_of (HB2.out.trans (hb.mono HB2.out.size))
  | false =>
    obtain ⟨hn40, himg, hsm⟩ := Ms.small2 HX.out.symm
    have HSM := Lib.hid hsm; have HN := Lib.hid hn40; have HIM := Lib.hid himg
    clear hn40 himg hsm
    obtain ⟨c, hc⟩ : ∃ c, c = Tg.check v m := ⟨_, rfl⟩
    have HC := Lib.hid hc
    go_enter Tryz.func3, Tryz.ntmps3
    go_wp2_with fail
    refine HLARGE.out.mono ?_
    rintro e2 w2 ⟨rfl, hb⟩
    have HM2 := Lib.hid (HM1.out.below hb HM1.out.lt); have HB2 := Lib.hid (HB1.out.trans (hb.mono HB1.out.size))
    clear hb p0 p1 p2 p3 p4 p5 p6 p7 p8 p9 HLARGE
    obtain ⟨p0, p1, p2, p3, p4, p5, p6, p7, p8, p9⟩ := Msgs.ten HM2.out
    have hwrap := tgWrap_any v m ve vi w2 (HALL.out _ HB2.out).1 (HALL.out _ HB2.out).2.1 (HALL.out _ HB2.out).2.2 (HE.out _ HB2.out) (HI.out _ HB2.out) HFIT.out (fun e h => Short.up (HSM.out e h) (by omega)) (by have := HN.out; omega) (by have := HIM.out; omega)
    rw [← hc] at hwrap
    have HWRAP := Lib.hid hwrap
    clear hwrap hc
    go_wp2_with fail
    refine HWRAP.out.mono ?_
    rintro e3 w3 ⟨hb, ub, rfl, hub⟩
    have HM3 := Lib.hid (HM2.out.below hb HM2.out.lt); have HB3 := Lib.hid (HB2.out.trans (hb.mono HB2.out.size))
    clear hb p0 p1 p2 p3 p4 p5 p6 p7 p8 p9 HWRAP
    obtain ⟨p0, p1, p2, p3, p4, p5, p6, p7, p8, p9⟩ := Msgs.ten HM3.out
    have hchk := refTgCheck_any v m ve vi w3 (HE.out _ HB3.out) (HI.out _ HB3.out) (fun e h => Short.up (HSM.out e h) (by omega))
    rw [← HC.out] at hchk
    have HCHK := Lib.hid hchk
    clear hchk
    by_cases h0 : c = 0
    · subst h0
      rw [if_pos rfl] at hub
      have hop := Tg.opened_letter HC.out.symm HFIT.out r
      have hlen := Tg.letter_len HC.out.symm HFIT.out
      have hv := (Tg.check_good HC.out.symm).1
      have HUB3 := Lib.hid hub; have HOP := Lib.hid hop
      obtain ⟨bo, bc, rfl⟩ := hub.shape
      obtain ⟨bn, hbn⟩ : ∃ bn, bn = (Tg.letter v m).length := ⟨_, rfl⟩
      rw [← hbn] at HUB3 ⊢
      have HBL : Hid ((Tg.letter v m).length ≤ 65600) := hlen
      clear hub hbn hop hlen
      go_wp2_with fail
      refine HCHK.out.mono ?_
      rintro e4 w4 ⟨rfl, hb⟩
      have HM4 := Lib.hid (HM3.out.below hb HM3.out.lt); have HB4 := Lib.hid (HB3.out.trans (hb.mono HB3.out.size)); have HUB4 := Lib.hid (HUB3.out.below hb)
      clear hb p0 p1 p2 p3 p4 p5 p6 p7 p8 p9
      have hopen := tgOpen_any r (.slice bo bn bc) (Tg.letter v m) w4 (HALL.out _ HB4.out).1 (HALL.out _ HB4.out).2.1 (HALL.out _ HB4.out).2.2 HUB4.out (by have := HBL.out; omega)
      rw [HOP.out] at hopen
      -- what the reader sees
      obtain ⟨M, of, f, hR, hM⟩ : ∃ M of f, (if Vs.may r = false ∨ r < v then (Ms.zero, 0, 8) else (m, v, 0)) = ((M, of, f) : Ms.Msg × Int × Int) ∧ ((M = Ms.zero ∧ of = 0 ∧ f = 8 ∧ (r < v ∨ 2 < r)) ∨ (M = m ∧ of = v ∧ f = 0 ∧ ¬ r < v ∧ ¬ 2 < r)) := by
        rcases Vs.may_or r with ⟨e1, e2⟩ | ⟨e1, e2, e3⟩
        · by_cases h : r < v
          · exact ⟨_, _, _, if_pos (.inr h), .inl ⟨rfl, rfl, rfl, .inl h⟩⟩
          · exact ⟨_, _, _, if_neg (by simp [e1, h]), .inr ⟨rfl, rfl, rfl, h, by omega⟩⟩
        · exact ⟨_, _, _, if_pos (.inl e1), .inl ⟨rfl, rfl, rfl, by omega⟩⟩
      rw [hR] at hopen
      have HOPEN := Lib.hid hopen; have HMM := Lib.hid hM
      clear hopen hR hM HOP
      go_wp2_with fail
      refine HOPEN.out.mono ?_
      rintro e5 w5 ⟨hb, xe, xi, rfl, hxe, hxi, h1xe, h1xi⟩
      dsimp only at hxe hxi ⊢
      have HM5 := Lib.hid (HM4.out.below hb HM4.out.lt); have HB5 := Lib.hid (HB4.out.trans (hb.mono HB4.out.size)); have HUB5 := Lib.hid (HUB4.out.below hb)
      have HXE5 := Lib.hid hxe; have HXI5 := Lib.hid hxi; have H1 := Lib.hid h1xe; have H2 := Lib.hid h1xi
      clear hb hxe hxi h1xe h1xi HOPEN
      go_wp2_with (first
        | (refine store_msg (by rfl) _ _ (by rfl) w5.heap.size Ms.zero _ _ M xe xi (by rfl) (by rfl) H1.out H2.out (Lies.new _ _ _) ?_
           intro w6 hl6 hg6
           have hb := fresh_below hg6
           have HX6 := Lib.hid hl6; have HM6 := Lib.hid (HM5.out.below hb HM5.out.lt); have HB6 := Lib.hid (HB5.out.trans (hb.mono HB5.out.size)); have HUB6 := Lib.hid (HUB5.out.below hb)
           have HXE6 := Lib.hid (HXE5.out.below hb); have HXI6 := Lib.hid (HXI5.out.below hb)
           clear hl6 hg6 hb
           obtain ⟨p0, p1, p2, p3, p4, p5, p6, p7, p8, p9⟩ := Msgs.ten HM6.out)
        | fail)
      refine (refLetter_any v m ve vi _ HC.out.symm (HE.out _ HB6.out) (HI.out _ HB6.out) HFIT.out).mono ?_
      rintro e7 w7 ⟨ur, rfl, hur, hb⟩
      have HX7 := Lib.hid (HX6.out.below hb HX6.out.lt); have HB7 := Lib.hid (HB6.out.trans (hb.mono HB6.out.size)); have HUB7 := Lib.hid (HUB6.out.below hb); have HM7 := Lib.hid (HM6.out.below hb HM6.out.lt)
      have HXE7 := Lib.hid (HXE6.out.below hb); have HXI7 := Lib.hid (HXI6.out.below hb); have HUR7 := Lib.hid hur.reads
      clear hb hur p0 p1 p2 p3 p4 p5 p6 p7 p8 p9
      have hsame := sameB_any (.slice bo bn bc) ur (Tg.letter v m) (Tg.letter v m) w7 HUB7.out HUR7.out
      rw [show (Tg.letter v m == Tg.letter v m) = true by simp] at hsame
      have HSAME := Lib.hid hsame
      clear hsame
      go_wp2_with fail
      refine HSAME.out.mono ?_
      rintro e8 w8 ⟨rfl, hb⟩
      have HX8 := Lib.hid (HX7.out.below hb HX7.out.lt); have HB8 := Lib.hid (HB7.out.trans (hb.mono HB7.out.size)); have HM8 := Lib.hid (HM7.out.below hb HM7.out.lt)
      have HXE8 := Lib.hid (HXE7.out.below hb); have HXI8 := Lib.hid (HXI7.out.below hb)
      clear hb
      obtain ⟨p0, p1, p2, p3, p4, p5, p6, p7, p8, p9⟩ := Msgs.ten HM8.out
      obtain ⟨q0, q1, q2, q3, q4, q5, q6, q7, q8, q9⟩ := Msgs.ten HX8.out
      rcases HMM.out with ⟨rfl, rfl, rfl, hr⟩ | ⟨rfl, rfl, rfl, hr1, hr2⟩
      · have hsm := refSameM_any Ms.zero Ms.zero xe xi (.slice none 0 0) (.slice none 0 0) w8 HXE8.out HXI8.out (ReadsR.empty _ 10) (Reads.empty _)
        rw [show decide (Ms.zero = Ms.zero) = true from decide_eq_true rfl] at hsm
        have HSM2 := Lib.hid hsm
        clear hsm
        by_cases hlt : r < v
        · have d1 : decide (r < v) = true := decide_eq_true hlt
          go_wp2_with fail
          refine HSM2.out.mono ?_
          rintro e9 w9 ⟨rfl, hb⟩
          have HB9 := Lib.hid (HB8.out.trans (hb.mono HB8.out.size))
          clear hb p0 p1 p2 p3 p4 p5 p6 p7 p8 p9 q0 q1 q2 q3 q4 q5 q6 q7 q8 q9
          go_wp2_with fail
          refine (HAW.out _ HB9.out).mono ?_
          rintro ea wa ⟨rfl, hb⟩
          go_wp2
          go_ret
          exact truly_of (HB9.out.trans (hb.mono HB9.out.size))
        · have hgt : 2 < r := by omega
          have d1 : decide (r < v) = false := decide_eq_false hlt
          have d2 : decide (2 < r) = true := decide_eq_true hgt
          go_wp2_with fail
          refine HSM2.out.mono ?_
          rintro e9 w9 ⟨rfl, hb⟩
          have HB9 := Lib.hid (HB8.out.trans (hb.mono HB8.out.size))
          clear hb p0 p1 p2 p3 p4 p5 p6 p7 p8 p9 q0 q1 q2 q3 q4 q5 q6 q7 q8 q9
          go_wp2_with fail
          refine (HAW.out _ HB9.out).mono ?_
          rintro ea wa ⟨rfl, hb⟩
          go_wp2
          go_ret
          exact truly_of (HB9.out.trans (hb.mono HB9.out.size))
      · have hsm := refSameM_any M M xe xi ve vi w8 HXE8.out HXI8.out (HE.out _ HB8.out) (HI.out _ HB8.out)
        rw [show decide (M = M) = true from decide_eq_true rfl] at hsm
        have HSM2 := Lib.hid hsm
        have d1 : decide (r < of) = false := decide_eq_false (by omega)
        have d2 : decide (2 < r) = false := decide_eq_false (by omega)
        clear hsm
        go_wp2_with fail
        refine HSM2.out.mono ?_
        rintro e9 w9 ⟨rfl, hb⟩
        have HB9 := Lib.hid (HB8.out.trans (hb.mono HB8.out.size))
        clear hb p0 p1 p2 p3 p4 p5 p6 p7 p8 p9 q0 q1 q2 q3 q4 q5 q6 q7 q8 q9
        go_wp2_with fail
        refine (HAW.out _ HB9.out).mono ?_
        rintro ea wa ⟨rfl, hb⟩
        go_wp2
        go_ret
        exact truly_of (HB9.out.trans (hb.mono HB9.out.size))
    · rw [if_neg h0] at hub
      obtain ⟨bo, bc, rfl⟩ := hub.shape
      have hne : (c != 0) = true := by simpa using h0
      have hcc : (c == c) = true := by simp
      clear hub h0
      go_wp2_with fail
      refine HCHK.out.mono ?_
      rintro e4 w4 ⟨rfl, hb⟩
      have HB4 := Lib.hid (HB3.out.trans (hb.mono HB3.out.size))
      clear hb p0 p1 p2 p3 p4 p5 p6 p7 p8 p9
      go_wp2_with fail
      refine (HAW.out _ HB4.out).mono ?_
      rintro e5 w5 ⟨rfl, hb⟩
      go_wp2
      go_ret
      exact truly_of (HB4.out.trans (hb.mono HB4.out.size))

set_option maxRecDepth 4000 in
set_option maxHeartbeats 6400000 in
theorem tagTranslates_any (v to : Int) (m : Ms.Msg) (ve vi : Value) (w : World) (hT : CrcTab w) (hF : FieldsIn w) (hW : WordsIn w) (he : ReadsE w ve m.ents) (hi : Reads w vi m.img) (hf : m.Fits) (hs : ∀ e ∈ m.ents, e.cmd.Short 9223372036854775807) :
    Calls Tryz.prog 5 #[.int .i64 v, .int .i64 to, .agg (Ms.cells m ve vi)] w (Truly w) := by
  obtain ⟨w1, e1, hl1, hB1, hz1⟩ := box_msg w m ve vi
  obtain ⟨p0, p1, p2, p3, p4, p5, p6, p7, p8, p9⟩ := Msgs.ten hl1
  have HM1 := Lib.hid hl1; have HB1 := Lib.hid hB1
  have HE := Lib.hid (fun W (h : Below w.heap.size w W) => (ReadsR.below he h : ReadsE W ve m.ents)); have HI := Lib.hid (fun W (h : Below w.heap.size w W) => hi.below h)
  have HALL := Lib.hid (fun W (h : Below w.heap.size w W) => And.intro (hT.below h) (And.intro (hF.below h) (hW.below h)))
  have HAW := Lib.hid (fun W (h : Below w.heap.size w W) => awakeTg_any W (hT.below h) (hF.below h) (hW.below h))
  have HFIT := Lib.hid hf
  obtain ⟨x, hx⟩ : ∃ x, x = Ms.large m := ⟨_, rfl⟩
  have HX := Lib.hid hx
  have hlarge := largeM_any m ve vi w1 (HE.out _ hB1) (HI.out _ hB1) hs
  rw [← hx] at hlarge
  have HLARGE := Lib.hid hlarge
  clear hl1 hB1 hz1 hT hF hW he hi hf hs hx hlarge
  cases x with
  | true =>
    go_enter Tryz.func5, Tryz.ntmps5
    go_wp2_with fail
    refine HLARGE.out.mono ?_
    rintro e2 w2 ⟨rfl, hb⟩
    have HB2 := Lib.hid (HB1.out.trans (hb.mono HB1.out.size))
    clear hb
    go_wp2_with fail
    refine (HAW.out _ HB2.out).mono ?_
    rintro e3 w3 ⟨rfl, hb⟩
    go_wp2
    go_ret
    exact truly_of (HB2.out.trans (hb.mono HB2.out.size))
  | false =>
    obtain ⟨hn40, himg, hsm⟩ := Ms.small2 HX.out.symm
    have HSM := Lib.hid hsm
    clear hn40 himg hsm
    obtain ⟨c, hc⟩ : ∃ c, c = Tg.check v m := ⟨_, rfl⟩
    have HC := Lib.hid hc
    obtain ⟨d, hd⟩ : ∃ d, d = Tg.check to m := ⟨_, rfl⟩
    have HD := Lib.hid hd
    clear hc hd
    go_enter Tryz.func5, Tryz.ntmps5
    go_wp2_with fail
    refine HLARGE.out.mono ?_
    rintro e2 w2 ⟨rfl, hb⟩
    have HM2 := Lib.hid (HM1.out.below hb HM1.out.lt); have HB2 := Lib.hid (HB1.out.trans (hb.mono HB1.out.size))
    clear hb p0 p1 p2 p3 p4 p5 p6 p7 p8 p9 HLARGE
    obtain ⟨p0, p1, p2, p3, p4, p5, p6, p7, p8, p9⟩ := Msgs.ten HM2.out
    have hchk := refTgCheck_any v m ve vi w2 (HE.out _ HB2.out) (HI.out _ HB2.out) (fun e h => Short.up (HSM.out e h) (by omega))
    rw [← HC.out] at hchk
    have HCHK := Lib.hid hchk
    clear hchk
    go_wp2_with fail
    refine HCHK.out.mono ?_
    rintro e3 w3 ⟨rfl, hb⟩
    have HM3 := Lib.hid (HM2.out.below hb HM2.out.lt); have HB3 := Lib.hid (HB2.out.trans (hb.mono HB2.out.size))
    clear hb p0 p1 p2 p3 p4 p5 p6 p7 p8 p9 HCHK
    by_cases h0 : c = 0
    · subst h0
      obtain ⟨p0, p1, p2, p3, p4, p5, p6, p7, p8, p9⟩ := Msgs.ten HM3.out
      have htr := Tg.translate_letter HC.out.symm HFIT.out to
      have HTR := Lib.hid htr
      have HLEN := Lib.hid (Tg.letter_len HC.out.symm HFIT.out)
      clear htr
      go_wp2_with fail
      refine (refLetter_any v m ve vi _ HC.out.symm (HE.out _ HB3.out) (HI.out _ HB3.out) HFIT.out).mono ?_
      rintro e4 w4 ⟨ua, rfl, hua, hb⟩
      have HM4 := Lib.hid (HM3.out.below hb HM3.out.lt); have HB4 := Lib.hid (HB3.out.trans (hb.mono HB3.out.size)); have HA4 := Lib.hid hua.reads
      obtain ⟨ao, ac, rfl⟩ := hua.reads.shape
      obtain ⟨an, han⟩ : ∃ an, an = (Tg.letter v m).length := ⟨_, rfl⟩
      rw [← han] at HA4 ⊢
      clear hb hua p0 p1 p2 p3 p4 p5 p6 p7 p8 p9 han
      obtain ⟨p0, p1, p2, p3, p4, p5, p6, p7, p8, p9⟩ := Msgs.ten HM4.out
      have hto := tgTranslate_any to (.slice ao an ac) (Tg.letter v m) w4 (HALL.out _ HB4.out).1 (HALL.out _ HB4.out).2.1 (HALL.out _ HB4.out).2.2 HA4.out (by have := HLEN.out; omega)
      rw [HTR.out] at hto
      have hwp : (Tg.wrap to m).2 = d ∧ (Tg.wrap to m).1 = if d = 0 then Tg.letter to m else [] := by
        unfold Tg.wrap
        rw [← HD.out]
        by_cases h : d = 0
        · rw [if_neg (by simpa using h), if_pos h]; exact ⟨h.symm, rfl⟩
        · rw [if_pos h, if_neg h]; exact ⟨rfl, rfl⟩
      have HTO := Lib.hid hto; have HWP := Lib.hid hwp
      clear hto hwp HTR
      go_wp2_with fail
      refine HTO.out.mono ?_
      rintro e5 w5 ⟨hb, ub, rfl, hub⟩
      rw [HWP.out.2] at hub
      rw [HWP.out.1]
      have HM5 := Lib.hid (HM4.out.below hb HM4.out.lt); have HB5 := Lib.hid (HB4.out.trans (hb.mono HB4.out.size)); have HA5 := Lib.hid (HA4.out.below hb)
      clear hb p0 p1 p2 p3 p4 p5 p6 p7 p8 p9 HTO HWP
      obtain ⟨p0, p1, p2, p3, p4, p5, p6, p7, p8, p9⟩ := Msgs.ten HM5.out
      have hchk := refTgCheck_any to m ve vi w5 (HE.out _ HB5.out) (HI.out _ HB5.out) (fun e h => Short.up (HSM.out e h) (by omega))
      rw [← HD.out] at hchk
      have HCHK := Lib.hid hchk
      clear hchk
      by_cases h1 : d = 0
      · subst h1
        rw [if_pos rfl] at hub
        have HUB5 := Lib.hid hub
        obtain ⟨bo, bc, rfl⟩ := hub.shape
        obtain ⟨bn, hbn⟩ : ∃ bn, bn = (Tg.letter to m).length := ⟨_, rfl⟩
        rw [← hbn] at HUB5 ⊢
        have hback := Tg.translate_letter HD.out.symm HFIT.out v
        have hw0 : Tg.wrap v m = (Tg.letter v m, 0) := by unfold Tg.wrap; rw [← HC.out, if_neg (by simp)]
        have HBK : Hid (Tg.translate v (Tg.letter to m) = (Tg.letter v m, 0)) := hback.trans hw0
        have HLEN2 := Lib.hid (Tg.letter_len HD.out.symm HFIT.out)
        clear hub hbn hback hw0
        go_wp2_with fail
        refine HCHK.out.mono ?_
        rintro e6 w6 ⟨rfl, hb⟩
        have HM6 := Lib.hid (HM5.out.below hb HM5.out.lt); have HB6 := Lib.hid (HB5.out.trans (hb.mono HB5.out.size)); have HA6 := Lib.hid (HA5.out.below hb); have HUB6 := Lib.hid (HUB5.out.below hb)
        clear hb p0 p1 p2 p3 p4 p5 p6 p7 p8 p9
        obtain ⟨p0, p1, p2, p3, p4, p5, p6, p7, p8, p9⟩ := Msgs.ten HM6.out
        have hto := tgTranslate_any v (.slice bo bn bc) (Tg.letter to m) w6 (HALL.out _ HB6.out).1 (HALL.out _ HB6.out).2.1 (HALL.out _ HB6.out).2.2 HUB6.out (by have := HLEN2.out; omega)
        rw [HBK.out] at hto
        have HTO := Lib.hid hto
        clear hto
        go_wp2_with fail
        refine HTO.out.mono ?_
        rintro e7 w7 ⟨hb, uc, rfl, huc⟩
        dsimp only at huc ⊢
        have HM7 := Lib.hid (HM6.out.below hb HM6.out.lt); have HB7 := Lib.hid (HB6.out.trans (hb.mono HB6.out.size)); have HA7 := Lib.hid (HA6.out.below hb); have HUB7 := Lib.hid (HUB6.out.below hb); have HC7 := Lib.hid huc
        clear hb huc p0 p1 p2 p3 p4 p5 p6 p7 p8 p9 HTO
        obtain ⟨p0, p1, p2, p3, p4, p5, p6, p7, p8, p9⟩ := Msgs.ten HM7.out
        go_wp2_with fail
        refine (refLetter_any to m ve vi _ HD.out.symm (HE.out _ HB7.out) (HI.out _ HB7.out) HFIT.out).mono ?_
        rintro e8 w8 ⟨ud, rfl, hud, hb⟩
        have HB8 := Lib.hid (HB7.out.trans (hb.mono HB7.out.size)); have HA8 := Lib.hid (HA7.out.below hb); have HUB8 := Lib.hid (HUB7.out.below hb); have HC8 := Lib.hid (HC7.out.below hb); have HUD8 := Lib.hid hud.reads
        clear hb hud p0 p1 p2 p3 p4 p5 p6 p7 p8 p9
        have hsame := sameB_any (.slice bo bn bc) ud (Tg.letter to m) (Tg.letter to m) w8 HUB8.out HUD8.out
        rw [show (Tg.letter to m == Tg.letter to m) = true by simp] at hsame
        have HSAME := Lib.hid hsame
        clear hsame
        go_wp2_with fail
        refine HSAME.out.mono ?_
        rintro e9 w9 ⟨rfl, hb⟩
        have HB9 := Lib.hid (HB8.out.trans (hb.mono HB8.out.size)); have HA9 := Lib.hid (HA8.out.below hb); have HC9 := Lib.hid (HC8.out.below hb)
        clear hb HSAME
        have hsame := sameB_any uc (.slice ao an ac) (Tg.letter v m) (Tg.letter v m) w9 HC9.out HA9.out
        rw [show (Tg.letter v m == Tg.letter v m) = true by simp] at hsame
        have HSAME := Lib.hid hsame
        clear hsame
        go_wp2_with fail
        refine HSAME.out.mono ?_
        rintro ea wa ⟨rfl, hb⟩
        have HBa := Lib.hid (HB9.out.trans (hb.mono HB9.out.size))
        clear hb
        go_wp2_with fail
        refine (HAW.out _ HBa.out).mono ?_
        rintro eb wb ⟨rfl, hb⟩
        go_wp2
        go_ret
        exact truly_of (HBa.out.trans (hb.mono HBa.out.size))
      · rw [if_neg h1] at hub
        obtain ⟨bo, bc, rfl⟩ := hub.shape
        have hne : (d != 0) = true := by simpa using h1
        have hcc : (d == d) = true := by simp
        clear hub h1
        go_wp2_with fail
        refine HCHK.out.mono ?_
        rintro e6 w6 ⟨rfl, hb⟩
        have HB6 := Lib.hid (HB5.out.trans (hb.mono HB5.out.size))
        clear hb p0 p1 p2 p3 p4 p5 p6 p7 p8 p9
        go_wp2_with fail
        refine (HAW.out _ HB6.out).mono ?_
        rintro eb wb ⟨rfl, hb⟩
        go_wp2
        go_ret
        exact truly_of (HB6.out.trans (hb.mono HB6.out.size))
    · have hne : (c != 0) = true := by simpa using h0
      clear h0
      go_wp2_with fail
      refine (HAW.out _ HB3.out).mono ?_
      rintro e5 w5 ⟨rfl, hb⟩
      go_wp2
      go_ret
      exact truly_of (HB3.out.trans (hb.mono HB3.out.size))

set_option maxRecDepth 4000 in
set_option maxHeartbeats 6400000 in
theorem tagOpens_any (r : Int) (u : Value) (b : List UInt8) (w : World) (hT : CrcTab w) (hF : FieldsIn w) (hW : WordsIn w) (hu : Reads w u b) :
    Calls Tryz.prog 4 #[.int .i64 r, u] w (Truly w) := by
  have HU := Lib.hid (fun W (h : Below w.heap.size w W) => hu.below h)
  have HAW := Lib.hid (fun W (h : Below w.heap.size w W) => awakeTg_any W (hT.below h) (hF.below h) (hW.below h))
  have HOPEN := Lib.hid (tgOpen_any r u b w hT hF hW hu)
  obtain ⟨ao, cap, rfl⟩ := hu.shape
  have hlen := hu.len
  obtain ⟨n, hn⟩ : ∃ n, n = b.length := ⟨_, rfl⟩
  have HN := Lib.hid hn
  rw [← hn] at HU HOPEN hlen ⊢
  have hnb : n ≤ 9223372036854775807 := by omega
  clear hT hF hW hu hn hlen
  by_cases hbig : 2000 < n
  · have d : decide ((2000 : Int) < (n : Int)) = true := by simp; omega
    go_enter Tryz.func4, Tryz.ntmps4
    go_wp2_with fail
    refine (HAW.out _ (Below.refl _ _)).mono ?_
    rintro e3 w3 ⟨rfl, hb⟩
    go_wp2
    go_ret
    exact truly_of hb
  · have d : decide ((2000 : Int) < (n : Int)) = false := by simp; omega
    have HOPEN2 := Lib.hid (HOPEN.out (by omega))
    have hn2 : n ≤ 2000 := by omega
    clear HOPEN hbig
    obtain ⟨o, ho⟩ : ∃ o, o = Tg.opened r b := ⟨_, rfl⟩
    have hok := Tg.opened_ok r b
    have hnone := Tg.opened_none r b
    have hfits := Tg.opened_fits r b
    rw [← ho] at HOPEN2 hok hnone hfits
    have HO := Lib.hid ho; have HOK := Lib.hid hok; have HNONE := Lib.hid hnone; have HFIT := Lib.hid hfits
    clear ho hok hnone hfits
    obtain ⟨y, q, z, hnr⟩ : ∃ y q z, Frm.next b 0 = (y, q, z) := ⟨_, _, _, rfl⟩
    have HNR := Lib.hid hnr
    clear hnr
    go_enter Tryz.func4, Tryz.ntmps4
    go_wp2_with fail
    refine HOPEN2.out.mono ?_
    rintro e2 w2 ⟨hB2, ve, vi, rfl, hve, hvi, h1, h2⟩
    have HB2 := Lib.hid hB2; have HVE2 := Lib.hid hve; have HVI2 := Lib.hid hvi; have H1 := Lib.hid h1; have H2 := Lib.hid h2
    clear hB2 hve hvi h1 h2 HOPEN2
    obtain ⟨M, of, f, rfl⟩ : ∃ M of f, o = (M, of, f) := ⟨_, _, _, rfl⟩
    dsimp only at HOK HNONE HFIT HVE2 HVI2 ⊢
    rcases Vs.may_or r with ⟨hm, hr⟩ | ⟨hm, hr1, hr2⟩
    · have d1 : decide (r < 1) = false := decide_eq_false (by omega)
      have d2 : decide (2 < r) = false := decide_eq_false (by omega)
      have hopd : Tg.opened r b = if z ≠ 0 then (Ms.zero, 0, z) else if q < (b.length : Int) then (Ms.zero, 0, 3) else Tg.read r y := by
        unfold Tg.opened
        rw [if_neg (by rw [hm]; simp), HNR.out]
      rw [← HO.out, ← HN.out] at hopd
      have HOPD := Lib.hid hopd
      have HR := Lib.hid hr
      clear hopd hm hr HO
      go_wp2_with (first
        | (refine store_msg (by rfl) _ _ (by rfl) w2.heap.size Ms.zero _ _ M ve vi (by rfl) (by rfl) H1.out H2.out (Lies.new _ _ _) ?_
           intro w3 hl3 hg3
           have hb := fresh_below hg3
           have HM3 := Lib.hid hl3; have HB3 := Lib.hid (HB2.out.trans (hb.mono HB2.out.size)); have HVE3 := Lib.hid (ReadsR.below HVE2.out hb : ReadsE w3 ve M.ents); have HVI3 := Lib.hid (HVI2.out.below hb)
           clear hl3 hg3 hb)
        | fail)
      have hnx := refNext_any (.slice ao n cap) b 0 w3 (HU.out _ HB3.out) (by have := HN.out; omega)
      rw [HNR.out] at hnx
      have HNX := Lib.hid hnx
      clear hnx
      refine HNX.out.mono ?_
      rintro e4 w4 ⟨x, rfl, hx, hb⟩
      dsimp only at hx ⊢
      have hx4 := hx w4 ((HU.out _ HB3.out).below hb)
      have HM4 := Lib.hid (HM3.out.below hb HM3.out.lt); have HB4 := Lib.hid (HB3.out.trans (hb.mono HB3.out.size)); have HVE4 := Lib.hid (ReadsR.below HVE3.out hb : ReadsE w4 ve M.ents); have HVI4 := Lib.hid (HVI3.out.below hb)
      clear hb hx HNX
      by_cases hz : z = 0
      · subst hz
        obtain ⟨c, rfl, _, hc2, hy1, hy2⟩ := Frm.next_ok (a := 0) HNR.out
        rw [← HN.out] at hc2
        have hopd := HOPD.out.trans (if_neg (by simp))
        by_cases hlt : c < n
        · rw [if_pos (by omega)] at hopd
          simp only [Prod.mk.injEq] at hopd
          obtain ⟨rfl, rfl, rfl⟩ := hopd
          obtain ⟨xo, xc, rfl⟩ := hx4.shape
          clear hx4 hc2 hy1 hy2
          go_wp2_with fail
          refine (HAW.out _ HB4.out).mono ?_
          rintro eb wb ⟨rfl, hb⟩
          go_wp2
          go_ret
          exact truly_of (HB4.out.trans (hb.mono HB4.out.size))
        · rw [if_neg (by omega)] at hopd
          obtain ⟨t, s, rfl⟩ : ∃ t s, y = t :: s := by
            cases y with
            | nil => simp at hy1
            | cons t s => exact ⟨t, s, rfl⟩
          rw [Tg.read_cons] at hopd
          obtain ⟨k, hk⟩ : ∃ k : Nat, k = t.toNat := ⟨_, rfl⟩
          rw [← hk] at hopd
          have hk8 : k < 256 := by rw [hk]; exact t.toNat_lt
          obtain ⟨xo, xc, rfl⟩ := hx4.shape
          obtain ⟨g, off, rfl, hcell⟩ := hx4.place (by simp)
          have cx := hcell 0 t rfl
          rw [← hk, Nat.add_zero] at cx
          obtain ⟨yn, hyn⟩ : ∃ yn, yn = s.length := ⟨_, rfl⟩
          rw [List.length_cons, ← hyn] at hx4 ⊢
          have hyn2 : yn ≤ 65536 := by rw [List.length_cons] at hy2; omega
          have hg : g < w4.heap.size := World.block_lt_of_cell? w4 _ cx
          have HCX := Lib.hid (fun W (h : Below w4.heap.size w4 W) => (h.cell hg).trans cx)
          clear hx4 hc2 hy1 hy2 hcell hk hyn hg
          have HOP := Lib.hid hopd
          clear hopd
          by_cases hk0 : k = 0
          · subst hk0
            have h := HOP.out.trans (if_pos (by omega))
            simp only [Prod.mk.injEq] at h
            obtain ⟨rfl, rfl, rfl⟩ := h
            clear HOK HNONE HFIT HOP
            go_wp2_with fail
            refine (HAW.out _ HB4.out).mono ?_
            rintro eb wb ⟨rfl, hb⟩
            go_wp2
            go_ret
            exact truly_of (HB4.out.trans (hb.mono HB4.out.size))
          · have d4 : decide ((k : Int) < 1) = false := decide_eq_false (by omega)
            by_cases hrk : r < (k : Int)
            · have d5 : decide (r < (k : Int)) = true := decide_eq_true hrk
              have h := HOP.out.trans (if_pos (.inr hrk))
              simp only [Prod.mk.injEq] at h
              obtain ⟨rfl, rfl, rfl⟩ := h
              clear HOK HNONE HFIT HOP hrk hk0
              go_wp2_with fail
              refine (HAW.out _ HB4.out).mono ?_
              rintro eb wb ⟨rfl, hb⟩
              go_wp2
              go_ret
              exact truly_of (HB4.out.trans (hb.mono HB4.out.size))
            · have d5 : decide (r < (k : Int)) = false := decide_eq_false hrk
              have h := HOP.out.trans (if_neg (by omega))
              by_cases h0 : f = 0
              · subst h0
                have hof : of = (k : Int) := by
                  by_cases h2 : (Tg.dec (k : Int) s).2 = 0
                  · rw [if_neg (by simpa using h2)] at h; simp only [Prod.mk.injEq] at h; exact h.2.1
                  · rw [if_pos h2] at h; simp only [Prod.mk.injEq] at h; exact absurd h.2.2.symm h2
                subst hof
                obtain ⟨k1, k2, _, _⟩ := HOK.out rfl
                obtain ⟨k3, k4⟩ := HFIT.out rfl
                have HK1 := Lib.hid k1; have HK2 := Lib.hid k2; have HK3 := Lib.hid k3; have HK4 := Lib.hid k4
                have hchk := refTgCheck_any (k : Int) M ve vi w4 HVE4.out HVI4.out (fun e h => Short.up (HK4.out e h) (by omega))
                rw [HK1.out] at hchk
                have HCHK := Lib.hid hchk
                clear HOK HNONE HFIT HOP h k1 k2 k3 k4 hchk hrk hk0
                obtain ⟨p0, p1, p2, p3, p4, p5, p6, p7, p8, p9⟩ := Msgs.ten HM4.out
                go_wp2_with fail
                refine HCHK.out.mono ?_
                rintro e5 w5 ⟨rfl, hb⟩
                have HM5 := Lib.hid (HM4.out.below hb HM4.out.lt); have HB5 := Lib.hid (HB4.out.trans (hb.mono HB4.out.size)); have HVE5 := Lib.hid (ReadsR.below HVE4.out hb : ReadsE w5 ve M.ents); have HVI5 := Lib.hid (HVI4.out.below hb)
                clear hb p0 p1 p2 p3 p4 p5 p6 p7 p8 p9
                obtain ⟨p0, p1, p2, p3, p4, p5, p6, p7, p8, p9⟩ := Msgs.ten HM5.out
                go_wp2_with fail
                refine (refLetter_any (k : Int) M ve vi w5 HK1.out HVE5.out HVI5.out HK3.out).mono ?_
                rintro e6 w6 ⟨ur, rfl, hur, hb⟩
                have HB6 := Lib.hid (HB5.out.trans (hb.mono HB5.out.size))
                have hsame := sameB_any ur (.slice ao n cap) (Tg.letter (k : Int) M) b w6 hur.reads (HU.out _ HB6.out)
                rw [HK2.out, show (b == b) = true by simp] at hsame
                have HSAME := Lib.hid hsame
                clear hb hur hsame p0 p1 p2 p3 p4 p5 p6 p7 p8 p9
                go_wp2_with fail
                refine HSAME.out.mono ?_
                rintro e7 w7 ⟨rfl, hb⟩
                have HB7 := Lib.hid (HB6.out.trans (hb.mono HB6.out.size))
                clear hb
                go_wp2_with fail
                refine (HAW.out _ HB7.out).mono ?_
                rintro eb wb ⟨rfl, hb⟩
                go_wp2
                go_ret
                exact truly_of (HB7.out.trans (hb.mono HB7.out.size))
              · obtain ⟨rfl, rfl⟩ := HNONE.out h0
                have hne : (f != 0) = true := by simpa using h0
                have hsm := refSameM_any Ms.zero Ms.zero ve vi (.slice none 0 0) (.slice none 0 0) w4 HVE4.out HVI4.out (ReadsR.empty _ 10) (Reads.empty _)
                rw [show decide (Ms.zero = Ms.zero) = true from decide_eq_true rfl] at hsm
                have HSM2 := Lib.hid hsm
                clear HOK HNONE HFIT HOP h hsm hrk hk0 h0
                obtain ⟨p0, p1, p2, p3, p4, p5, p6, p7, p8, p9⟩ := Msgs.ten HM4.out
                go_wp2_with fail
                refine HSM2.out.mono ?_
                rintro e5 w5 ⟨rfl, hb⟩
                have HB5 := Lib.hid (HB4.out.trans (hb.mono HB4.out.size))
                clear hb p0 p1 p2 p3 p4 p5 p6 p7 p8 p9
                go_wp2_with fail
                refine (HAW.out _ HB5.out).mono ?_
                rintro eb wb ⟨rfl, hb⟩
                go_wp2
                go_ret
                exact truly_of (HB5.out.trans (hb.mono HB5.out.size))
      · have hne : (z != 0) = true := by simpa using hz
        have hzz : (z == z) = true := by simp
        have h := HOPD.out.trans (if_pos hz)
        simp only [Prod.mk.injEq] at h
        obtain ⟨rfl, rfl, rfl⟩ := h
        obtain ⟨xo, xc, rfl⟩ := hx4.shape
        clear hx4 hz HOK HNONE HFIT HOPD
        go_wp2_with fail
        refine (HAW.out _ HB4.out).mono ?_
        rintro eb wb ⟨rfl, hb⟩
        go_wp2
        go_ret
        exact truly_of (HB4.out.trans (hb.mono HB4.out.size))
    · have h : ((M, of, f) : Ms.Msg × Int × Int) = (Ms.zero, 0, 8) := by rw [HO.out]; unfold Tg.opened; rw [if_pos hm]
      simp only [Prod.mk.injEq] at h
      obtain ⟨rfl, rfl, rfl⟩ := h
      clear HOK HNONE HFIT HO hm HNR
      by_cases h3 : r < 1
      · have d1 : decide (r < 1) = true := decide_eq_true h3
        clear hr1 hr2 h3
        go_wp2_with (first
          | (refine store_msg (by rfl) _ _ (by rfl) w2.heap.size Ms.zero _ _ Ms.zero ve vi (by rfl) (by rfl) H1.out H2.out (Lies.new _ _ _) ?_
             intro w3 hl3 hg3
             have hb := fresh_below hg3
             have HM3 := Lib.hid hl3; have HB3 := Lib.hid (HB2.out.trans (hb.mono HB2.out.size)); have HVE3 := Lib.hid (ReadsR.below HVE2.out hb : ReadsE w3 ve Ms.zero.ents); have HVI3 := Lib.hid (HVI2.out.below hb)
             clear hl3 hg3 hb)
          | fail)
        refine (HAW.out _ HB3.out).mono ?_
        rintro eb wb ⟨rfl, hb⟩
        go_wp2
        go_ret
        exact truly_of (HB3.out.trans (hb.mono HB3.out.size))
      · have d1 : decide (r < 1) = false := decide_eq_false h3
        have d2 : decide (2 < r) = true := decide_eq_true (by omega)
        clear hr1 hr2 h3
        go_wp2_with (first
          | (refine store_msg (by rfl) _ _ (by rfl) w2.heap.size Ms.zero _ _ Ms.zero ve vi (by rfl) (by rfl) H1.out H2.out (Lies.new _ _ _) ?_
             intro w3 hl3 hg3
             have hb := fresh_below hg3
             have HM3 := Lib.hid hl3; have HB3 := Lib.hid (HB2.out.trans (hb.mono HB2.out.size)); have HVE3 := Lib.hid (ReadsR.below HVE2.out hb : ReadsE w3 ve Ms.zero.ents); have HVI3 := Lib.hid (HVI2.out.below hb)
             clear hl3 hg3 hb)
          | fail)
        refine (HAW.out _ HB3.out).mono ?_
        rintro eb wb ⟨rfl, hb⟩
        go_wp2
        go_ret
        exact truly_of (HB3.out.trans (hb.mono HB3.out.size))

end Go.Proofs.YtndicjpbanmpjaaGreatDoor
