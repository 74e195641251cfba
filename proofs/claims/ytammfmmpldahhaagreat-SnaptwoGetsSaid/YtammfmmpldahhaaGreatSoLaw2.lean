/- SnaptwoGets out of what the program's functions leave. -/
import Derived.Test.YtammfmmpldahhaaGreatGTf
namespace Go.Proofs.YtammfmmpldahhaaGreat
open Go.RowKit

set_option maxRecDepth 4000 in
set_option maxHeartbeats 6400000 in
theorem snaptwoGets_any (hE : ∀ (s : Mg.St) (vp vs : Value) (w : World), StR w s vp vs → s.Few → Calls Tryz.prog 9 #[.agg (Mg.cells s.schema vp vs)] w (BytesSo w (Sn.enc2 s)))
    (hM : ∀ (v : Value) (b : List UInt8) (w : World), Reads w v b → b.length ≤ 1000000 → Calls Tryz.prog 16 #[v] w (BytesSo w (Sn.mig b)))
    (hG : ∀ (v : Value) (b : List UInt8) (w : World), Reads w v b → b.length ≤ 1000000 → Calls Tryz.prog 11 #[v] w (GetSo w b))
    (hD : ∀ (v : Value) (b : List UInt8) (w : World), Reads w v b → b.length ≤ 1000000 → Calls Tryz.prog 15 #[v] w (DecSo w b))
    (v : Value) (b : List UInt8) (w : World) (hv : Reads w v b) :
    Calls Tryz.prog 4 #[v] w (Truly w) := by
  have HAW := Lib.hid (fun W => awakeSo_any hE hM W)
  have hcall := fun h => hG v b w hv h
  have hcd := fun W r h => hD v b W r h
  have HB0 := Lib.hid (Below.refl w.heap.size w)
  have HV := Lib.hid hv
  obtain ⟨ao, cap, rfl⟩ := hv.shape
  obtain ⟨n, hn⟩ : ∃ n, n = b.length := ⟨_, rfl⟩
  rw [← hn] at hcall hcd HV ⊢
  have HN := Lib.hid hn
  clear hn hv hE hD hG hM
  go_enter Tryz.func4, Tryz.ntmps4
  by_cases hl : 3000 < n
  · have d1 : decide (3000 < (n : Int)) = true := decide_eq_true (by omega)
    clear hcall hcd
    go_wp2_with fail
    refine (HAW.out _).mono ?_
    rintro e w3 ⟨rfl, hBz⟩
    go_wp2
    go_ret
    exact truly_of (HB0.out.trans (hBz.mono HB0.out.size))
  · have d1 : decide (3000 < (n : Int)) = false := decide_eq_false (by omega)
    have HCALL := Lib.hid (hcall (by omega))
    have HCD := Lib.hid (fun W r => hcd W r (by omega))
    clear hcall hcd hl
    go_wp2_with fail
    refine HCALL.out.mono ?_
    rintro e w2 ⟨x, er, xp, xs, rfl, hx2, hb2, hget⟩
    have HQ2 := Lib.hid hx2
    have HV2 := Lib.hid (HV.out.below hb2)
    have HB2 := Lib.hid hb2
    have HGET := Lib.hid hget
    clear hx2 hb2 hget HCALL
    go_wp2_with (first
    | (refine store_st (m := x.schema) (up := xp) (us := xs) rfl _ _ rfl (g := w2.heap.size) (n := 0) (vp := .slice none 0 0) (vs := .slice none 0 0) rfl ⟨Lies.new _ _ _, ⟨_, _, _, rfl⟩, ⟨_, _, _, rfl⟩⟩ HQ2.out.sl rfl ?_; intro w3 hx3 hg3
       have hB3 : Below w2.heap.size w2 w3 := ((Below.refl _ w2).alloc (Nat.le_refl _) _).grown hg3 (by simp) (by rintro j hj; cases hj; exact Nat.le_refl _)
       have HQ3 := Lib.hid (HQ2.out.below hB3)
       have HV3 := Lib.hid (HV2.out.below hB3)
       have HB3 := Lib.hid (HB2.out.trans (hB3.mono HB2.out.size))
       have HY3 := Lib.hid hx3
       clear hx3 hg3 hB3
       refine Hid.out ?_))
    refine Lib.hid ?_
    obtain ⟨gx, hgx⟩ : ∃ gx, gx = w2.heap.size := ⟨_, rfl⟩
    rw [← hgx] at HY3 ⊢
    clear hgx HQ2 HV2 HB2
    have HCD3 := Lib.hid (HCD.out w3 HV3.out)
    clear HCD
    go_wp2_with fail
    refine HCD3.out.mono ?_
    rintro e w4 ⟨y, fr, yp, ys, rfl, hx4, hb4, hdec⟩
    have HP4 := Lib.hid hx4
    have HQ4 := Lib.hid (HQ3.out.below hb4)
    have HV4 := Lib.hid (HV3.out.below hb4)
    have HX4 := Lib.hid (HY3.out.below hb4 HY3.out.lies.lt)
    have HB4 := Lib.hid (HB3.out.trans (hb4.mono HB3.out.size))
    have HDEC := Lib.hid hdec
    clear hx4 hb4 hdec HCD3 HY3 HQ3 HV3 HB3
    go_wp2_with (first
    | (refine store_st (m := y.schema) (up := yp) (us := ys) rfl _ _ rfl (g := w4.heap.size) (n := 0) (vp := .slice none 0 0) (vs := .slice none 0 0) rfl ⟨Lies.new _ _ _, ⟨_, _, _, rfl⟩, ⟨_, _, _, rfl⟩⟩ HP4.out.sl rfl ?_; intro w5 hx5 hg5
       have hB5 : Below w4.heap.size w4 w5 := ((Below.refl _ w4).alloc (Nat.le_refl _) _).grown hg5 (by simp) (by rintro j hj; cases hj; exact Nat.le_refl _)
       have HQ5 := Lib.hid (HQ4.out.below hB5)
       have HV5 := Lib.hid (HV4.out.below hB5)
       have HX5 := Lib.hid (HX4.out.below hB5 HX4.out.lies.lt)
       have HB5 := Lib.hid (HB4.out.trans (hB5.mono HB4.out.size))
       have HY5 := Lib.hid hx5
       clear hx5 hg5 hB5
       refine Hid.out ?_))
    refine Lib.hid ?_
    by_cases he : er = 0
    · have d2 : (er != 0) = false := by simpa using he
      obtain ⟨hck, hby⟩ := HGET.out.ok he
      obtain ⟨hmid, hfew, _⟩ := Sn.mid_of hck
      have HRC := Lib.hid (fun W h => refCheckSt_any x xp xs W h hfew)
      rw [hck] at HRC
      have HBY := Lib.hid (fun W h => refSnBytes_any x xp xs W h hmid)
      rw [hby] at HBY
      have d3 : ((fr == 0) == (x.schema == 2)) = true := by
        have := HGET.out.two HDEC.out he
        by_cases h2 : x.schema = 2
        · rw [show (fr == 0) = true by simpa using this.2 h2, show (x.schema == 2) = true by simpa using h2]; rfl
        · rw [show (fr == 0) = false by simpa using fun h => h2 (this.1 h), show (x.schema == 2) = false by simpa using h2]; rfl
      clear hck hby hmid hfew he
      obtain ⟨y0, y1, y2⟩ := HX5.out.all
      go_wp2_with fail
      refine (HRC.out w5 HQ5.out).mono ?_
      rintro e w6 ⟨rfl, hb6⟩
      have HX6 := Lib.hid (HX5.out.below hb6 HX5.out.lies.lt)
      have HQ6 := Lib.hid (HQ5.out.below hb6)
      have HV6 := Lib.hid (HV5.out.below hb6)
      have HB6 := Lib.hid (HB5.out.trans (hb6.mono HB5.out.size))
      clear hb6 y0 y1 y2 HRC
      obtain ⟨y0, y1, y2⟩ := HX6.out.all
      go_wp2_with fail
      refine (HBY.out w6 HQ6.out).mono ?_
      rintro e w7 ⟨v7, rfl, ho7, hb7⟩
      have HO7 := Lib.hid ho7.reads
      have HX7 := Lib.hid (HX6.out.below hb7 HX6.out.lies.lt)
      have HV7 := Lib.hid (HV6.out.below hb7)
      have HB7 := Lib.hid (HB6.out.trans (hb7.mono HB6.out.size))
      clear ho7 hb7 y0 y1 y2 HBY
      go_wp2_with fail
      refine (same_any _ _ _ _ w7 HO7.out HV7.out).mono ?_
      rintro e w8 ⟨rfl, n8, rfl⟩
      rw [show (b == b) = true by simp]
      have hb8 := drawn w7 n8
      obtain ⟨w8, hw8⟩ : ∃ w8, w8 = w7.drewN n8 := ⟨_, rfl⟩
      rw [← hw8] at hb8 ⊢
      have HX8 := Lib.hid (HX7.out.below hb8 HX7.out.lies.lt)
      have HB8 := Lib.hid (HB7.out.trans (hb8.mono HB7.out.size))
      clear hb8 hw8
      obtain ⟨y0, y1, y2⟩ := HX8.out.all
      go_wp2_with fail
      refine (HAW.out _).mono ?_
      rintro e w9 ⟨rfl, hBz⟩
      go_wp2
      go_ret
      exact truly_of (HB8.out.trans (hBz.mono HB8.out.size))
    · have d2 : (er != 0) = true := by simpa using he
      have d3 : (fr != 0) = true := by simpa using HGET.out.both HDEC.out he
      obtain rfl := HGET.out.no he
      dsimp only [Mg.zero] at *
      have HSA := Lib.hid (sameSt_any Mg.zero Mg.zero xp xs (.slice none 0 0) (.slice none 0 0) w5 HQ5.out (StR.zero w5))
      rw [decide_eq_true rfl] at HSA
      clear he
      obtain ⟨y0, y1, y2⟩ := HX5.out.all
      go_wp2_with fail
      refine HSA.out.mono ?_
      rintro e w6 ⟨rfl, hb6⟩
      have HB6 := Lib.hid (HB5.out.trans (hb6.mono HB5.out.size))
      clear hb6 y0 y1 y2
      go_wp2_with fail
      refine (HAW.out _).mono ?_
      rintro e w7 ⟨rfl, hBz⟩
      go_wp2
      go_ret
      exact truly_of (HB6.out.trans (hBz.mono HB6.out.size))

end Go.Proofs.YtammfmmpldahhaaGreat
