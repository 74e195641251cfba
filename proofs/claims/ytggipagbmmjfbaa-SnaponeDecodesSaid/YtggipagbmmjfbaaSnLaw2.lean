/- SnaponeDecodes out of what Encode and Decode leave. -/
import Derived.Test.YtggipagbmmjfbaaSnLaw
namespace Go.Proofs.Ytggipagbmmjfbaa
open Go.RowKit

set_option maxRecDepth 4000 in
set_option maxHeartbeats 6400000 in
theorem snapDecodes_any (hE : ∀ (s : Mg.St) (vp vs : Value) (w : World), StR w s vp vs → s.Few → Calls Try.prog 7 #[.agg (Mg.cells s.schema vp vs)] w (EncSn w s))
    (hD : ∀ (v : Value) (b : List UInt8) (w : World), Reads w v b → b.length ≤ 1000000 → Calls Try.prog 9 #[v] w (DecSn w b))
    (v : Value) (b : List UInt8) (w : World) (hv : Reads w v b) :
    Calls Try.prog 4 #[v] w (Truly w) := by
  have HAW := Lib.hid (fun W => awakeSn_any hE W)
  have hcall := fun h => hD v b w hv h
  have HV := Lib.hid hv
  obtain ⟨ao, cap, rfl⟩ := hv.shape
  obtain ⟨n, hn⟩ : ∃ n, n = b.length := ⟨_, rfl⟩
  rw [← hn] at hcall HV ⊢
  have HN := Lib.hid hn
  clear hn hv hE hD
  go_enter Try.func4, Try.ntmps4
  by_cases hl : 3000 < n
  · have d1 : decide (3000 < (n : Int)) = true := decide_eq_true (by omega)
    clear hcall
    go_wp2_with fail
    refine (HAW.out _).mono ?_
    rintro e w3 ⟨rfl, hBw3⟩
    go_wp2
    go_ret
    exact truly_of hBw3
  · have d1 : decide (3000 < (n : Int)) = false := decide_eq_false (by omega)
    have HCALL := Lib.hid (hcall (by omega))
    clear hcall hl
    go_wp2_with fail
    refine HCALL.out.mono ?_
    rintro e w2 ⟨x, er, xp, xs, rfl, hx2, hb2, hdec⟩
    have HQ2 := Lib.hid hx2
    have HV2 := Lib.hid (HV.out.below hb2)
    have HB2 := Lib.hid hb2
    have HDEC := Lib.hid hdec
    clear hx2 hb2 hdec HCALL
    go_wp2_with (first
      | (refine store_st (m := x.schema) (up := xp) (us := xs) rfl _ _ rfl (g := w2.heap.size) (n := 0) (vp := .slice none 0 0) (vs := .slice none 0 0) rfl ⟨Lies.new _ _ _, ⟨_, _, _, rfl⟩, ⟨_, _, _, rfl⟩⟩ HQ2.out.sl rfl ?_; intro w3 hx3 hg3
         have hB3 : Below w2.heap.size w2 w3 := ((Below.refl _ w2).alloc (Nat.le_refl _) _).grown hg3 (by simp) (by rintro j hj; cases hj; exact Nat.le_refl _)
         have HQ3 := Lib.hid (HQ2.out.below hB3)
         have HV3 := Lib.hid (HV2.out.below hB3)
         have HB3 := Lib.hid (HB2.out.trans (hB3.mono HB2.out.size))
         have HY3 := Lib.hid hx3
         clear hx3 hg3 hB3
         refine Hid.out ?_))
    refine Lib.hid ?_
    obtain ⟨gx, hgx⟩ : ∃ gx, gx = w2.heap.size := ⟨_, rfl⟩
    rw [← hgx] at HY3 ⊢
    clear hgx HQ2 HV2 HB2
    by_cases he : er = 0
    · have d2 : (er != 0) = false := by simpa using he
      obtain ⟨hck, h1, hby⟩ := HDEC.out.ok he
      obtain ⟨hmid, hfew, _⟩ := Sn.mid_of hck
      have HRC := Lib.hid (fun W h => refCheckSt_any x xp xs W h hfew)
      rw [hck] at HRC
      have HBY := Lib.hid (fun W h => refSnBytes_any x xp xs W h hmid)
      rw [hby] at HBY
      clear hck hby hmid hfew he
      obtain ⟨y0, y1, y2⟩ := HY3.out.all
      have HH1 := Lib.hid h1
      clear h1
      go_wp2_with fail
      refine (HRC.out w3 HQ3.out).mono ?_
      rintro e w4 ⟨rfl, hb4⟩
      have HY4 := Lib.hid (HY3.out.below hb4 HY3.out.lies.lt)
      have HQ4 := Lib.hid (HQ3.out.below hb4)
      have HV4 := Lib.hid (HV3.out.below hb4)
      have HB4 := Lib.hid (HB3.out.trans (hb4.mono HB3.out.size))
      clear hb4 y0 y1 y2 HRC
      obtain ⟨y0, y1, y2⟩ := HY4.out.all
      have d3 : (x.schema == 1) = true := by simpa using HH1.out
      go_wp2_with fail
      refine (HBY.out w4 HQ4.out).mono ?_
      rintro e w5 ⟨v5, rfl, ho5, hb5⟩
      have HO5 := Lib.hid ho5.reads
      have HV5 := Lib.hid (HV4.out.below hb5)
      have HB5 := Lib.hid (HB4.out.trans (hb5.mono HB4.out.size))
      clear ho5 hb5 y0 y1 y2 HBY d3
      go_wp2_with fail
      refine (same_any _ _ _ _ w5 HO5.out HV5.out).mono ?_
      rintro e w6 ⟨rfl, n6, rfl⟩
      rw [show (b == b) = true by simp]
      have hb6 := drawn w5 n6
      obtain ⟨w6, hw6⟩ : ∃ w6, w6 = w5.drewN n6 := ⟨_, rfl⟩
      rw [← hw6] at hb6 ⊢
      have HB6 := Lib.hid (HB5.out.trans (hb6.mono HB5.out.size))
      clear hb6 hw6
      go_wp2_with fail
      refine (HAW.out _).mono ?_
      rintro e w7 ⟨rfl, hB7⟩
      go_wp2
      go_ret
      exact truly_of (HB6.out.trans (hB7.mono HB6.out.size))
    · have d2 : (er != 0) = true := by simpa using he
      obtain rfl := HDEC.out.no he
      dsimp only [Mg.zero] at *
      have HSA := Lib.hid (sameSt_any Mg.zero Mg.zero xp xs (.slice none 0 0) (.slice none 0 0) w3 HQ3.out (StR.zero w3))
      rw [decide_eq_true rfl] at HSA
      clear he
      obtain ⟨y0, y1, y2⟩ := HY3.out.all
      go_wp2_with fail
      refine HSA.out.mono ?_
      rintro e w4 ⟨rfl, hb4⟩
      have HB4 := Lib.hid (HB3.out.trans (hb4.mono HB3.out.size))
      clear hb4 y0 y1 y2
      go_wp2_with fail
      refine (HAW.out _).mono ?_
      rintro e w5 ⟨rfl, hB5⟩
      go_wp2
      go_ret
      exact truly_of (HB4.out.trans (hB5.mono HB4.out.size))

end Go.Proofs.Ytggipagbmmjfbaa
