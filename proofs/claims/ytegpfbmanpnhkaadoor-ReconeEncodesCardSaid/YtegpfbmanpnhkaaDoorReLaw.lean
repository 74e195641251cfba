/- ReconeChecks, ReconeEncodes, ReconeDecodes. -/
import Derived.Test.YtegpfbmanpnhkaaDoorReDec
import Derived.Test.YtegpfbmanpnhkaaDoorReRef2
namespace Go.Proofs.YtegpfbmanpnhkaaDoor
open Go.RowKit

/-- A promise to node 3. -/
def Re.ask : Re.Rec := ⟨1, ⟨2, 3⟩, 0, Cm.zero, []⟩
theorem Re.fits_cmd0 : Cm.zero.Fits := by constructor <;> simp [Cm.zero, Cm.bareOf]
theorem Re.short_cmd0 (n : Nat) : Cm.zero.Short n := ⟨by simp [Cm.zero, Cm.bareOf], by simp [Cm.zero, Cm.bareOf], by simp [Cm.zero, Cm.bareOf]⟩

set_option maxRecDepth 4000 in
set_option maxHeartbeats 1600000 in
theorem awakeRe_any (w : World) (hW : WordsIn w) : Calls Tryd.prog 7 #[] w (Truly w) := by
  have hcall := encodeRe_any Re.ask (.slice none 0 0) w hW (Reads.empty w) ⟨by decide +kernel, Re.fits_cmd0⟩ (Re.short_cmd0 _) (by simp [Re.ask])
  unfold REncd at hcall
  rw [show Re.older Re.ask = 0 by decide +kernel, if_pos rfl, show Re.bytes Re.ask = [1, 2, 3, 0] by decide +kernel] at hcall
  have HCALL := Lib.hid hcall
  clear hcall hW
  go_enter Tryd.func7, Tryd.ntmps7
  go_wp2_with fail
  refine HCALL.out.mono ?_
  rintro e1 w1 ⟨hB1, u, rfl, hu⟩
  obtain ⟨ao, cap, rfl⟩ := hu.shape
  obtain ⟨b, off, rfl, hcell⟩ := hu.place (by simp)
  have c0 := hcell 0 1 rfl
  have c2 := hcell 2 3 rfl
  rw [Nat.add_zero] at c0
  have hlen := hu.len
  have HB1 := Lib.hid hB1
  clear hu hcell hB1
  go_wp2
  go_ret
  exact truly_of HB1.out

set_option maxRecDepth 4000 in
set_option maxHeartbeats 6400000 in
theorem reconeChecks_any (m m' : Re.Rec) (vi vi' : Value) (w : World) (hW : WordsIn w) (hi : Reads w vi m.img) (hi' : Reads w vi' m'.img)
    (hs : m.cmd.Short 9223372036854775807) (hs' : m'.cmd.Short 9223372036854775807) :
    Calls Tryd.prog 3 #[.agg (Re.cells m vi), .agg (Re.cells m' vi')] w (Truly w) := by
  obtain ⟨w1, e1, hl1, hk1, hB1, hz1⟩ := box_recs w m vi m' vi'
  obtain ⟨p0, p1, p2, p3, p4, p5, p6, p7, p8, p9, p10, p11⟩ := Recs.all hl1
  obtain ⟨q0, q1, q2, q3, q4, q5, q6, q7, q8, q9, q10, q11⟩ := Recs.all hk1
  have HM1 := Lib.hid hl1; have HN1 := Lib.hid hk1; have HB1 := Lib.hid hB1
  have HI := Lib.hid (fun W (h : Below w.heap.size w W) => hi.below h)
  have HI' := Lib.hid (fun W (h : Below w.heap.size w W) => hi'.below h)
  have HFW := Lib.hid (fun W (h : Below w.heap.size w W) => hW.below h)
  have HS' := Lib.hid hs'
  obtain ⟨x, hx⟩ : ∃ x, x = Re.large m := ⟨_, rfl⟩
  have HX := Lib.hid hx
  have hlarge := largeRe_any m vi w1 (HI.out _ hB1) hs
  rw [← hx] at hlarge
  have HLARGE := Lib.hid hlarge
  clear hl1 hk1 hB1 hz1 hW hi hi' hs hs' hx hlarge
  cases x with
  | true =>
    go_enter Tryd.func3, Tryd.ntmps3
    go_wp2_with fail
    refine HLARGE.out.mono ?_
    rintro e2 w2 ⟨rfl, hb⟩
    have HB2 := Lib.hid (HB1.out.trans (hb.mono HB1.out.size))
    clear hb
    go_wp2_with fail
    refine (awakeRe_any _ (HFW.out _ HB2.out)).mono ?_
    rintro e3 w3 ⟨rfl, hb⟩
    go_wp2
    go_ret
    exact truly_of (HB2.out.trans (hb.mono HB2.out.size))
  | false =>
    go_enter Tryd.func3, Tryd.ntmps3
    go_wp2_with fail
    refine HLARGE.out.mono ?_
    rintro e2 w2 ⟨rfl, hb⟩
    have HM2 := Lib.hid (HM1.out.below hb HM1.out.lt); have HN2 := Lib.hid (HN1.out.below hb HN1.out.lt); have HB2 := Lib.hid (HB1.out.trans (hb.mono HB1.out.size))
    clear hb p0 p1 p2 p3 p4 p5 p6 p7 p8 p9 p10 p11 q0 q1 q2 q3 q4 q5 q6 q7 q8 q9 q10 q11 HLARGE
    obtain ⟨q0, q1, q2, q3, q4, q5, q6, q7, q8, q9, q10, q11⟩ := Recs.all HN2.out
    obtain ⟨y, hy⟩ : ∃ y, y = Re.large m' := ⟨_, rfl⟩
    have hlarge := largeRe_any m' vi' w2 (HI'.out _ HB2.out) HS'.out
    rw [← hy] at hlarge
    have HLARGE := Lib.hid hlarge
    clear hy hlarge
    go_wp2_with fail
    refine HLARGE.out.mono ?_
    rintro e3 w3 ⟨rfl, hb⟩
    have HM3 := Lib.hid (HM2.out.below hb HM2.out.lt); have HN3 := Lib.hid (HN2.out.below hb HN2.out.lt); have HB3 := Lib.hid (HB2.out.trans (hb.mono HB2.out.size))
    clear hb q0 q1 q2 q3 q4 q5 q6 q7 q8 q9 q10 q11 HLARGE
    cases y with
    | true =>
      go_wp2_with fail
      refine (awakeRe_any _ (HFW.out _ HB3.out)).mono ?_
      rintro e4 w4 ⟨rfl, hb⟩
      go_wp2
      go_ret
      exact truly_of (HB3.out.trans (hb.mono HB3.out.size))
    | false =>
      have HSM : Hid (m.cmd.Short 140737488355328) := Short.up (Re.small HX.out.symm).1 (by omega)
      obtain ⟨c, hc⟩ : ∃ c, c = Re.check m := ⟨_, rfl⟩
      obtain ⟨z, hz⟩ : ∃ z, z = decide (m = m') := ⟨_, rfl⟩
      have HBW := Lib.hid (fun p : Behind w3 => HB3.out.trans (p.below.mono HB3.out.size))
      have hk1 := fun p : Behind w3 => checkRe_any m vi p.world (HFW.out _ (HBW.out p)) (HI.out _ (HBW.out p)) HSM.out
      have hk2 := fun p : Behind w3 => refCheckRe_any m vi p.world (HI.out _ (HBW.out p)) HSM.out
      have hk3 := fun p : Behind w3 => sameRe_any m m' vi vi' p.world (HI.out _ (HBW.out p)) (HI'.out _ (HBW.out p))
      have hk4 := fun p : Behind w3 => refSameRe_any m m' vi vi' p.world (HI.out _ (HBW.out p)) (HI'.out _ (HBW.out p))
      have hk5 := fun p : Behind w3 => sameRe_any m m vi vi p.world (HI.out _ (HBW.out p)) (HI.out _ (HBW.out p))
      have hk6 := fun p : Behind w3 => awakeRe_any p.world (HFW.out _ (HBW.out p))
      rw [← hc] at hk1 hk2
      rw [← hz] at hk3 hk4
      rw [show decide (m = m) = true from decide_eq_true rfl] at hk5
      have HK1 := Lib.hid hk1; have HK2 := Lib.hid hk2; have HK3 := Lib.hid hk3; have HK4 := Lib.hid hk4; have HK5 := Lib.hid hk5; have HK6 := Lib.hid hk6
      have hcc : (c == c) = true := by simp
      have hzz : (z == z) = true := by simp
      clear hk1 hk2 hk3 hk4 hk5 hk6 hc hz
      have a0 := fun p : Behind w3 => Recs.c0 (HM3.out.below p.below HM3.out.lt)
      have a1 := fun p : Behind w3 => Recs.c1 (HM3.out.below p.below HM3.out.lt)
      have a2 := fun p : Behind w3 => Recs.c2 (HM3.out.below p.below HM3.out.lt)
      have a3 := fun p : Behind w3 => Recs.c3 (HM3.out.below p.below HM3.out.lt)
      have a4 := fun p : Behind w3 => Recs.c4 (HM3.out.below p.below HM3.out.lt)
      have a5 := fun p : Behind w3 => Recs.c5 (HM3.out.below p.below HM3.out.lt)
      have a6 := fun p : Behind w3 => Recs.c6 (HM3.out.below p.below HM3.out.lt)
      have a7 := fun p : Behind w3 => Recs.c7 (HM3.out.below p.below HM3.out.lt)
      have a8 := fun p : Behind w3 => Recs.c8 (HM3.out.below p.below HM3.out.lt)
      have a9 := fun p : Behind w3 => Recs.c9 (HM3.out.below p.below HM3.out.lt)
      have a10 := fun p : Behind w3 => Recs.c10 (HM3.out.below p.below HM3.out.lt)
      have a11 := fun p : Behind w3 => Recs.c11 (HM3.out.below p.below HM3.out.lt)
      have b0 := fun p : Behind w3 => Recs.c0 (HN3.out.below p.below HN3.out.lt)
      have b1 := fun p : Behind w3 => Recs.c1 (HN3.out.below p.below HN3.out.lt)
      have b2 := fun p : Behind w3 => Recs.c2 (HN3.out.below p.below HN3.out.lt)
      have b3 := fun p : Behind w3 => Recs.c3 (HN3.out.below p.below HN3.out.lt)
      have b4 := fun p : Behind w3 => Recs.c4 (HN3.out.below p.below HN3.out.lt)
      have b5 := fun p : Behind w3 => Recs.c5 (HN3.out.below p.below HN3.out.lt)
      have b6 := fun p : Behind w3 => Recs.c6 (HN3.out.below p.below HN3.out.lt)
      have b7 := fun p : Behind w3 => Recs.c7 (HN3.out.below p.below HN3.out.lt)
      have b8 := fun p : Behind w3 => Recs.c8 (HN3.out.below p.below HN3.out.lt)
      have b9 := fun p : Behind w3 => Recs.c9 (HN3.out.below p.below HN3.out.lt)
      have b10 := fun p : Behind w3 => Recs.c10 (HN3.out.below p.below HN3.out.lt)
      have b11 := fun p : Behind w3 => Recs.c11 (HN3.out.below p.below HN3.out.lt)
      go_wp2
      refine wp_region_behind (by kernel_rfl) (by kernel_rfl) ?_
      repeat (go_big_quiet_step (first
        | (go_at_call 8; exact Looks.behind (HK1.out _))
        | (go_at_call 9; exact Looks.behind (HK2.out _))
        | (go_at_call_of 10 vi'; exact Looks.behind (HK3.out _))
        | (go_at_call 11; exact Looks.behind (HK4.out _))
        | (go_at_call 10; exact Looks.behind (HK5.out _))
        | (go_at_call 7; exact Truly.behind (HK6.out _))))
      refine wpQuiet_nil ?_
      rintro w99 ⟨⟨w99, hb⟩, rfl⟩
      (try dsimp only)
      clear a0 a1 a2 a3 a4 a5 a6 a7 a8 a9 a10 a11 b0 b1 b2 b3 b4 b5 b6 b7 b8 b9 b10 b11
      all_goals
        go_wp2
        go_ret
        exact truly_of (HB3.out.trans (hb.mono HB3.out.size))

set_option maxRecDepth 4000 in
set_option maxHeartbeats 6400000 in
theorem reconeEncodes_any (m : Re.Rec) (vi : Value) (w : World) (hW : WordsIn w) (hi : Reads w vi m.img) (hf : m.Fits) (hs : m.cmd.Short 9223372036854775807) :
    Calls Tryd.prog 4 #[.agg (Re.cells m vi)] w (Truly w) := by
  obtain ⟨w1, e1, hl1, hB1, hz1⟩ := box_rec w m vi
  obtain ⟨p0, p1, p2, p3, p4, p5, p6, p7, p8, p9, p10, p11⟩ := Recs.all hl1
  have HM1 := Lib.hid hl1; have HB1 := Lib.hid hB1
  have HI := Lib.hid (fun W (h : Below w.heap.size w W) => hi.below h)
  have HFW := Lib.hid (fun W (h : Below w.heap.size w W) => hW.below h)
  have HFIT := Lib.hid hf
  obtain ⟨x, hx⟩ : ∃ x, x = Re.large m := ⟨_, rfl⟩
  have HX := Lib.hid hx
  have hlarge := largeRe_any m vi w1 (HI.out _ hB1) hs
  rw [← hx] at hlarge
  have HLARGE := Lib.hid hlarge
  clear hl1 hB1 hz1 hW hi hf hs hx hlarge
  cases x with
  | true =>
    go_enter Tryd.func4, Tryd.ntmps4
    go_wp2_with fail
    refine HLARGE.out.mono ?_
    rintro e2 w2 ⟨rfl, hb⟩
    have HB2 := Lib.hid (HB1.out.trans (hb.mono HB1.out.size))
    clear hb
    go_wp2_with fail
    refine (awakeRe_any _ (HFW.out _ HB2.out)).mono ?_
    rintro e3 w3 ⟨rfl, hb⟩
    go_wp2
    go_ret
    exact truly_of (HB2.out.trans (hb.mono HB2.out.size))
  | false =>
    obtain ⟨hsm, himg⟩ := Re.small HX.out.symm
    have HSM := Lib.hid hsm; have HIM := Lib.hid himg
    clear himg hsm
    go_enter Tryd.func4, Tryd.ntmps4
    go_wp2_with fail
    refine HLARGE.out.mono ?_
    rintro e2 w2 ⟨rfl, hb⟩
    have HM2 := Lib.hid (HM1.out.below hb HM1.out.lt); have HB2 := Lib.hid (HB1.out.trans (hb.mono HB1.out.size))
    clear hb p0 p1 p2 p3 p4 p5 p6 p7 p8 p9 p10 p11 HLARGE
    obtain ⟨p0, p1, p2, p3, p4, p5, p6, p7, p8, p9, p10, p11⟩ := Recs.all HM2.out
    go_wp2_with fail
    refine (encodeRe_any m vi _ (HFW.out _ HB2.out) (HI.out _ HB2.out) HFIT.out (Short.up HSM.out (by omega)) (by have := HIM.out; omega)).mono ?_
    rintro e3 w3 ⟨hb, ub, rfl, hub⟩
    have HM3 := Lib.hid (HM2.out.below hb HM2.out.lt); have HB3 := Lib.hid (HB2.out.trans (hb.mono HB2.out.size))
    clear hb p0 p1 p2 p3 p4 p5 p6 p7 p8 p9 p10 p11
    obtain ⟨p0, p1, p2, p3, p4, p5, p6, p7, p8, p9, p10, p11⟩ := Recs.all HM3.out
    obtain ⟨c, hc⟩ : ∃ c, c = Re.older m := ⟨_, rfl⟩
    have HC := Lib.hid hc
    have hold := refOlderRe_any m vi w3 (HI.out _ HB3.out) (Short.up HSM.out (by omega))
    rw [← hc] at hold hub ⊢
    have HOLD := Lib.hid hold
    clear hc hold
    by_cases h0 : c = 0
    · subst h0
      rw [if_pos rfl] at hub
      have HUB3 := Lib.hid hub
      obtain ⟨bo, bc, rfl⟩ := hub.shape
      have hBL := Re.bytes_len HFIT.out (Short.up HSM.out (by omega)) (show m.img.length ≤ 100000 by have := HIM.out; omega)
      obtain ⟨bn, hbn⟩ : ∃ bn, bn = (Re.bytes m).length := ⟨_, rfl⟩
      rw [← hbn] at HUB3 ⊢
      have HBL : Hid ((Re.bytes m).length ≤ 110000) := hBL
      clear hub hBL hbn
      go_wp2_with fail
      refine HOLD.out.mono ?_
      rintro e4 w4 ⟨rfl, hb⟩
      have HM4 := Lib.hid (HM3.out.below hb HM3.out.lt); have HB4 := Lib.hid (HB3.out.trans (hb.mono HB3.out.size)); have HUB4 := Lib.hid (HUB3.out.below hb)
      clear hb p0 p1 p2 p3 p4 p5 p6 p7 p8 p9 p10 p11
      have hdec := decodeRe_any (.slice bo bn bc) (Re.bytes m) w4 (HFW.out _ HB4.out) HUB4.out (by have := HBL.out; omega)
      rw [Re.decode_back HC.out.symm HFIT.out HSM.out (by omega)] at hdec
      have HDEC := Lib.hid hdec
      clear hdec
      go_wp2_with fail
      refine HDEC.out.mono ?_
      rintro e5 w5 ⟨hb, xi, rfl, hxi, h1xi⟩
      dsimp only at hxi ⊢
      have HM5 := Lib.hid (HM4.out.below hb HM4.out.lt); have HB5 := Lib.hid (HB4.out.trans (hb.mono HB4.out.size)); have HUB5 := Lib.hid (HUB4.out.below hb)
      have HXI5 := Lib.hid hxi; have H2 := Lib.hid h1xi
      clear hb hxi h1xi
      go_wp2_with (first
        | (refine store_rec (by rfl) _ _ (by rfl) w5.heap.size Re.zero _ m xi (by rfl) (by rfl) H2.out (Lies.new _ _ _) ?_
           intro w6 hl6 hg6
           have hb := fresh_below hg6
           have HX6 := Lib.hid hl6; have HM6 := Lib.hid (HM5.out.below hb HM5.out.lt); have HB6 := Lib.hid (HB5.out.trans (hb.mono HB5.out.size)); have HUB6 := Lib.hid (HUB5.out.below hb)
           have HXI6 := Lib.hid (HXI5.out.below hb)
           clear hl6 hg6 hb
           obtain ⟨p0, p1, p2, p3, p4, p5, p6, p7, p8, p9, p10, p11⟩ := Recs.all HM6.out)
        | fail)
      refine (refBytesRe_any m vi _ HC.out.symm (HI.out _ HB6.out) HFIT.out (Short.up HSM.out (by omega)) (by have := HIM.out; omega)).mono ?_
      rintro e7 w7 ⟨ur, rfl, hur, hb⟩
      have HX7 := Lib.hid (HX6.out.below hb HX6.out.lt); have HM7 := Lib.hid (HM6.out.below hb HM6.out.lt); have HB7 := Lib.hid (HB6.out.trans (hb.mono HB6.out.size)); have HUB7 := Lib.hid (HUB6.out.below hb)
      have HXI7 := Lib.hid (HXI6.out.below hb); have HUR7 := Lib.hid hur.reads
      clear hb hur p0 p1 p2 p3 p4 p5 p6 p7 p8 p9 p10 p11
      have hsame := sameB_any (.slice bo bn bc) ur (Re.bytes m) (Re.bytes m) w7 HUB7.out HUR7.out
      rw [show (Re.bytes m == Re.bytes m) = true by simp] at hsame
      have HSAME := Lib.hid hsame
      clear hsame
      go_wp2_with fail
      refine HSAME.out.mono ?_
      rintro e8 w8 ⟨rfl, hb⟩
      have HX8 := Lib.hid (HX7.out.below hb HX7.out.lt); have HM8 := Lib.hid (HM7.out.below hb HM7.out.lt); have HB8 := Lib.hid (HB7.out.trans (hb.mono HB7.out.size))
      have HXI8 := Lib.hid (HXI7.out.below hb)
      clear hb
      obtain ⟨p0, p1, p2, p3, p4, p5, p6, p7, p8, p9, p10, p11⟩ := Recs.all HM8.out
      obtain ⟨q0, q1, q2, q3, q4, q5, q6, q7, q8, q9, q10, q11⟩ := Recs.all HX8.out
      have hsm := refSameRe_any m m xi vi w8 HXI8.out (HI.out _ HB8.out)
      rw [show decide (m = m) = true from decide_eq_true rfl] at hsm
      have HSM2 := Lib.hid hsm
      clear hsm
      go_wp2_with fail
      refine HSM2.out.mono ?_
      rintro e9 w9 ⟨rfl, hb⟩
      have HB9 := Lib.hid (HB8.out.trans (hb.mono HB8.out.size))
      clear hb p0 p1 p2 p3 p4 p5 p6 p7 p8 p9 p10 p11 q0 q1 q2 q3 q4 q5 q6 q7 q8 q9 q10 q11
      go_wp2_with fail
      refine (awakeRe_any _ (HFW.out _ HB9.out)).mono ?_
      rintro ea wa ⟨rfl, hb⟩
      go_wp2
      go_ret
      exact truly_of (HB9.out.trans (hb.mono HB9.out.size))
    · rw [if_neg h0] at hub
      obtain ⟨bo, bc, rfl⟩ := hub.shape
      have hne : (c != 0) = true := by simpa using h0
      have hcc : (c == c) = true := by simp
      clear hub h0
      go_wp2_with fail
      refine HOLD.out.mono ?_
      rintro e4 w4 ⟨rfl, hb⟩
      have HB4 := Lib.hid (HB3.out.trans (hb.mono HB3.out.size))
      clear hb p0 p1 p2 p3 p4 p5 p6 p7 p8 p9 p10 p11
      go_wp2_with fail
      refine (awakeRe_any _ (HFW.out _ HB4.out)).mono ?_
      rintro e5 w5 ⟨rfl, hb⟩
      go_wp2
      go_ret
      exact truly_of (HB4.out.trans (hb.mono HB4.out.size))

set_option maxRecDepth 4000 in
set_option maxHeartbeats 6400000 in
theorem reconeDecodes_any (u : Value) (s : List UInt8) (w : World) (hW : WordsIn w) (hu : Reads w u s) : Calls Tryd.prog 5 #[u] w (Truly w) := by
  have HU := Lib.hid (fun W (h : Below w.heap.size w W) => hu.below h)
  have HFW := Lib.hid (fun W (h : Below w.heap.size w W) => hW.below h)
  have HDEC := Lib.hid (decodeRe_any u s w hW hu)
  obtain ⟨ao, cap, rfl⟩ := hu.shape
  have hlen := hu.len
  obtain ⟨n, hn⟩ : ∃ n, n = s.length := ⟨_, rfl⟩
  have HN := Lib.hid hn
  rw [← hn] at HU HDEC hlen ⊢
  have hnb : n ≤ 9223372036854775807 := by omega
  clear hW hu hn hlen
  by_cases hbig : 2000 < n
  · have d : decide ((2000 : Int) < (n : Int)) = true := by simp; omega
    go_enter Tryd.func5, Tryd.ntmps5
    go_wp2_with fail
    refine (awakeRe_any _ (HFW.out _ (Below.refl _ _))).mono ?_
    rintro e3 w3 ⟨rfl, hb⟩
    go_wp2
    go_ret
    exact truly_of hb
  · have d : decide ((2000 : Int) < (n : Int)) = false := by simp; omega
    have HDEC2 := Lib.hid (HDEC.out (by omega))
    have HNB : Hid (n ≤ 2000) := by show _ ≤ _; omega
    clear HDEC hbig
    obtain ⟨r, hr⟩ : ∃ r, r = Re.decode s := ⟨_, rfl⟩
    have HR := Lib.hid hr
    rw [← hr] at HDEC2
    clear hr
    obtain ⟨hinv1, hinv3, hinv4⟩ := Re.got_inv s
    have hok := Re.decode_ok s
    have hnone := Re.decode_none s
    rw [← HR.out] at hok hnone
    have HINV : Hid ((Re.got s).1.Fits ∧ (Re.got s).1.cmd.Short s.length ∧ (Re.got s).1.img.length ≤ s.length) := ⟨hinv1, hinv3, hinv4⟩
    have HOK := Lib.hid hok; have HNONE := Lib.hid hnone
    clear hinv1 hinv3 hinv4 hok hnone
    go_enter Tryd.func5, Tryd.ntmps5
    go_wp2_with fail
    refine HDEC2.out.mono ?_
    rintro e2 w2 ⟨hB2, vi, rfl, hvi, h2⟩
    have HB2 := Lib.hid hB2; have HVI2 := Lib.hid hvi; have H2 := Lib.hid h2
    clear hB2 hvi h2 HDEC2
    obtain ⟨e, he⟩ : ∃ e, e = r.2 := ⟨_, rfl⟩
    obtain ⟨M, hM⟩ : ∃ M, M = r.1 := ⟨_, rfl⟩
    rw [← he] at HOK HNONE ⊢
    rw [← hM] at HOK HNONE HVI2 ⊢
    clear he hM HR
    by_cases h0 : e = 0
    · obtain ⟨hm, hold, hby⟩ := HOK.out h0
      subst h0
      have HOL : Hid (Re.older M = 0) := by show _ = _; rw [hm]; exact hold
      have HBY : Hid (Re.bytes M = s) := by show _ = _; rw [hm]; exact hby
      have HFIT : Hid M.Fits := by show M.Fits; rw [hm]; exact HINV.out.1
      have HIM : Hid (M.img.length ≤ 2000) := by show _ ≤ _; rw [hm]; have := HINV.out.2.2; have := HN.out; have := HNB.out; omega
      have HSH : Hid (M.cmd.Short 1000) := by
        show M.cmd.Short 1000
        by_cases hk : Re.hc M.kind = true
        · exact Short.up (Cm.check_short ((Re.check_good (Re.older_good HOL.out).1).cmd hk)) (by omega)
        · rw [Re.good_cmd (Re.check_good (Re.older_good HOL.out).1) (by simpa using hk)]
          exact Re.short_cmd0 _
      clear hm hold hby HOK HNONE HINV
      go_wp2_with (first
        | (refine store_rec (by rfl) _ _ (by rfl) w2.heap.size Re.zero _ M vi (by rfl) (by rfl) H2.out (Lies.new _ _ _) ?_
           intro w3 hl3 hg3
           have hb := fresh_below hg3
           have HM3 := Lib.hid hl3; have HB3 := Lib.hid (HB2.out.trans (hb.mono HB2.out.size)); have HVI3 := Lib.hid (HVI2.out.below hb)
           clear hl3 hg3 hb
           obtain ⟨p0, p1, p2, p3, p4, p5, p6, p7, p8, p9, p10, p11⟩ := Recs.all HM3.out)
        | fail)
      have hcall := refOlderRe_any M vi w3 HVI3.out (Short.up HSH.out (by omega))
      rw [HOL.out] at hcall
      refine hcall.mono ?_
      rintro e4 w4 ⟨rfl, hb⟩
      have HM4 := Lib.hid (HM3.out.below hb HM3.out.lt); have HB4 := Lib.hid (HB3.out.trans (hb.mono HB3.out.size)); have HVI4 := Lib.hid (HVI3.out.below hb)
      clear hb hcall p0 p1 p2 p3 p4 p5 p6 p7 p8 p9 p10 p11
      obtain ⟨p0, p1, p2, p3, p4, p5, p6, p7, p8, p9, p10, p11⟩ := Recs.all HM4.out
      go_wp2_with fail
      refine (refBytesRe_any M vi _ HOL.out HVI4.out HFIT.out HSH.out (by have := HIM.out; omega)).mono ?_
      rintro e5 w5 ⟨ur, rfl, hur, hb⟩
      have HB5 := Lib.hid (HB4.out.trans (hb.mono HB4.out.size)); have HUR5 := Lib.hid hur.reads
      clear hb hur p0 p1 p2 p3 p4 p5 p6 p7 p8 p9 p10 p11
      have hsame := sameB_any ur (.slice ao n cap) (Re.bytes M) s w5 HUR5.out (HU.out _ HB5.out)
      rw [HBY.out, show (s == s) = true by simp] at hsame
      have HSAME := Lib.hid hsame
      clear hsame
      go_wp2_with fail
      refine HSAME.out.mono ?_
      rintro e8 w8 ⟨rfl, hb⟩
      have HB8 := Lib.hid (HB5.out.trans (hb.mono HB5.out.size))
      clear hb
      go_wp2_with fail
      refine (awakeRe_any _ (HFW.out _ HB8.out)).mono ?_
      rintro ea wa ⟨rfl, hb⟩
      go_wp2
      go_ret
      exact truly_of (HB8.out.trans (hb.mono HB8.out.size))
    · have hne : (e != 0) = true := by simpa using h0
      have hz := HNONE.out h0
      subst hz
      clear h0 HOK HNONE HINV
      go_wp2_with (first
        | (refine store_rec (by rfl) _ _ (by rfl) w2.heap.size Re.zero _ Re.zero vi (by rfl) (by rfl) H2.out (Lies.new _ _ _) ?_
           intro w3 hl3 hg3
           have hb := fresh_below hg3
           have HM3 := Lib.hid hl3; have HB3 := Lib.hid (HB2.out.trans (hb.mono HB2.out.size)); have HVI3 := Lib.hid (HVI2.out.below hb)
           clear hl3 hg3 hb
           obtain ⟨p0, p1, p2, p3, p4, p5, p6, p7, p8, p9, p10, p11⟩ := Recs.all HM3.out)
        | fail)
      have hsm := refSameRe_any Re.zero Re.zero vi (.slice none 0 0) w3 HVI3.out (Reads.empty _)
      rw [show decide (Re.zero = Re.zero) = true from decide_eq_true rfl] at hsm
      refine hsm.mono ?_
      rintro e4 w4 ⟨rfl, hb⟩
      have HB4 := Lib.hid (HB3.out.trans (hb.mono HB3.out.size))
      clear hb hsm p0 p1 p2 p3 p4 p5 p6 p7 p8 p9 p10 p11
      go_wp2_with fail
      refine (awakeRe_any _ (HFW.out _ HB4.out)).mono ?_
      rintro ea wa ⟨rfl, hb⟩
      go_wp2
      go_ret
      exact truly_of (HB4.out.trans (hb.mono HB4.out.size))

end Go.Proofs.YtegpfbmanpnhkaaDoor
