/- SnaptwoPuts out of what the program's functions leave. -/
import Derived.Test.YtammfmmpldahhaaGreatGTf
namespace Go.Proofs.YtammfmmpldahhaaGreat
open Go.RowKit

set_option maxRecDepth 4000 in
set_option maxHeartbeats 6400000 in
theorem snaptwoPuts_any (hE : ∀ (s : Mg.St) (vp vs : Value) (w : World), StR w s vp vs → s.Few → Calls Tryz.prog 9 #[.agg (Mg.cells s.schema vp vs)] w (BytesSo w (Sn.enc2 s)))
    (hM : ∀ (v : Value) (b : List UInt8) (w : World), Reads w v b → b.length ≤ 1000000 → Calls Tryz.prog 16 #[v] w (BytesSo w (Sn.mig b)))
    (hP : ∀ (s : Mg.St) (vp vs : Value) (w : World), StR w s vp vs → s.Few → Calls Tryz.prog 8 #[.agg (Mg.cells s.schema vp vs)] w (BytesSo w (Sn.putb s)))
    (hG : ∀ (v : Value) (b : List UInt8) (w : World), Reads w v b → b.length ≤ 1000000 → Calls Tryz.prog 11 #[v] w (GetSo w b))
    (hD : ∀ (v : Value) (b : List UInt8) (w : World), Reads w v b → b.length ≤ 1000000 → Calls Tryz.prog 15 #[v] w (DecSo w b))
    (s : Mg.St) (vp vs : Value) (w : World) (hr : StR w s vp vs) (hc : s.Came) :
    Calls Tryz.prog 3 #[.agg (Mg.cells s.schema vp vs)] w (Truly w) := by
  obtain ⟨w1, e1, hx1, hB1, hz1⟩ := box_st w s s.schema vp vs hr
  have HX1 := Lib.hid hx1
  have HR1 := Lib.hid (hr.below hB1)
  have HB1 := Lib.hid hB1
  have hlarge := largeSt_any s vp vs w1 HR1.out hc.kv hc.ses
  have HAW := Lib.hid (fun W => awakeSo_any hE hM W)
  have HD := Lib.hid hD
  have HG := Lib.hid hG
  obtain ⟨t, ht⟩ : ∃ t, t = Mg.large s := ⟨_, rfl⟩
  rw [← ht] at hlarge
  have HT := Lib.hid ht
  have HE := Lib.hid (fun W h hf => hE s vp vs W h hf)
  have HP := Lib.hid (fun W h hf => hP s vp vs W h hf)
  clear ht hx1 hB1 hz1 hr hc hE hD hP hG hM
  go_enter Tryz.func3, Tryz.ntmps3
  go_wp2_with (first | (refine load_st rfl _ rfl rfl HX1.out ?_; refine Hid.out ?_))
  refine Lib.hid ?_
  go_wp2_with fail
  refine hlarge.mono ?_
  rintro e w2 ⟨rfl, hb2⟩
  have HX2 := Lib.hid (HX1.out.below hb2 HX1.out.lies.lt)
  have HR2 := Lib.hid (HR1.out.below hb2)
  have HB2 := Lib.hid (HB1.out.trans (hb2.mono HB1.out.size))
  clear hb2 hlarge
  cases t with
  | true =>
    go_wp2_with fail
    refine (HAW.out _).mono ?_
    rintro e w3 ⟨rfl, hBz⟩
    go_wp2
    go_ret
    exact truly_of (HB2.out.trans (hBz.mono HB2.out.size))
  | false =>
    have HF := Lib.hid (Mg.few HT.out.symm)
    have hput := HP.out w2 HR2.out HF.out
    have HEN := Lib.hid (fun W h => HE.out W h HF.out)
    have HRC := Lib.hid (fun W h => refCheckSt_any s vp vs W h HF.out)
    have HNO := Lib.hid (fun h => Sn.enc2_no (s := s) h)
    have HLT := Lib.hid (fun h1 h2 => Sn.enc2_late (s := s) h1 h2)
    have HYS := Lib.hid (fun h1 h2 => Sn.enc2_yes (s := s) h1 h2)
    have HPN := Lib.hid (fun h => Sn.putb_no (s := s) h)
    have HPY := Lib.hid (fun h => Sn.putb_yes (s := s) h)
    have HMID := Lib.hid (fun h => Sn.mid_of (s := s) h)
    have HSCH := Lib.hid (fun h => Mg.schema_of (s := s) h)
    have HLEN := Lib.hid (fun h => Sn.bytes_few (s := s) h)
    obtain ⟨b, hb⟩ : ∃ b, b = Mg.check s := ⟨_, rfl⟩
    have HCK := Lib.hid hb
    rw [← hb] at HRC HNO HLT HYS HMID HLEN HPN HPY
    unfold BytesSo at hput HEN
    obtain ⟨q, hq⟩ : ∃ q, q = Sn.enc2 s := ⟨_, rfl⟩
    obtain ⟨r, hr⟩ : ∃ r, r = Sn.putb s := ⟨_, rfl⟩
    rw [← hq] at HEN HNO HLT HYS
    rw [← hr] at hput HPN HPY
    have HPUT := Lib.hid hput
    clear hput hb hq hr HE HP
    go_wp2_with (first | (refine load_st rfl _ rfl rfl HX2.out ?_; refine Hid.out ?_))
    refine Lib.hid ?_
    go_wp2_with fail
    refine HPUT.out.mono ?_
    rintro e w3 ⟨v3, rfl, hr3, hb3⟩
    have HV3 := Lib.hid hr3
    obtain ⟨ao, cap, hv3⟩ := hr3.shape
    obtain ⟨n, hn⟩ : ∃ n, n = r.1.length := ⟨_, rfl⟩
    rw [← hn] at hv3
    have HN := Lib.hid hn
    have HX3 := Lib.hid (HX2.out.below hb3 HX2.out.lies.lt)
    have HR3 := Lib.hid (HR2.out.below hb3)
    have HB3 := Lib.hid (HB2.out.trans (hb3.mono HB2.out.size))
    clear hr3 hb3 hn HPUT
    subst hv3
    have hen := HEN.out w3 HR3.out
    have HENC := Lib.hid hen
    clear hen HEN
    go_wp2_with (first | (refine load_st rfl _ rfl rfl HX3.out ?_; refine Hid.out ?_))
    refine Lib.hid ?_
    go_wp2_with fail
    refine HENC.out.mono ?_
    rintro e w4 ⟨v4, rfl, hr4, hb4⟩
    have HU4 := Lib.hid hr4
    obtain ⟨bo, bcap, hv4⟩ := hr4.shape
    obtain ⟨m, hm⟩ : ∃ m, m = q.1.length := ⟨_, rfl⟩
    rw [← hm] at hv4
    have HM := Lib.hid hm
    have HX4 := Lib.hid (HX3.out.below hb4 HX3.out.lies.lt)
    have HR4 := Lib.hid (HR3.out.below hb4)
    have HV4 := Lib.hid (HV3.out.below hb4)
    have HB4 := Lib.hid (HB3.out.trans (hb4.mono HB3.out.size))
    clear hr4 hb4 hm HENC
    subst hv4
    go_wp2_with (first | (refine load_st rfl _ rfl rfl HX4.out ?_; refine Hid.out ?_))
    refine Lib.hid ?_
    go_wp2_with fail
    refine (HRC.out w4 HR4.out).mono ?_
    rintro e w5 ⟨rfl, hb5⟩
    have HX5 := Lib.hid (HX4.out.below hb5 HX4.out.lies.lt)
    have HR5 := Lib.hid (HR4.out.below hb5)
    have HV5 := Lib.hid (HV4.out.below hb5)
    have HU5 := Lib.hid (HU4.out.below hb5)
    have HB5 := Lib.hid (HB4.out.trans (hb5.mono HB4.out.size))
    clear hb5 HRC
    cases b with
    | false =>
      have hq := HNO.out rfl
      have hp := HPN.out rfl
      clear HNO HLT HYS HMID HLEN HPN HPY HSCH
      subst hq
      subst hp
      obtain rfl : n = 0 := HN.out
      obtain rfl : m = 0 := HM.out
      dsimp only at *
      go_wp2_with fail
      refine (HAW.out _).mono ?_
      rintro e w6 ⟨rfl, hBz⟩
      go_wp2
      go_ret
      exact truly_of (HB5.out.trans (hBz.mono HB5.out.size))
    | true =>
      have hp := HPY.out rfl
      have hmid := HMID.out rfl
      have hlen := HLEN.out rfl
      have hsch := HSCH.out HCK.out.symm
      have HLT1 := Lib.hid (fun h => HLT.out rfl h)
      have HYS1 := Lib.hid (fun h => HYS.out rfl h)
      clear HPN HPY HNO HMID HLEN HSCH HLT HYS
      subst hp
      dsimp only at *
      have HGC := Lib.hid (HG.out _ _ w5 HV5.out hlen)
      have HBY := Lib.hid (fun W h => refSnBytes_any s vp vs W h hmid.1)
      have HLEN := Lib.hid hlen
      clear HG hmid hlen
      go_wp2_with fail
      refine HGC.out.mono ?_
      rintro e w6 ⟨x, er, xp, xs, rfl, hx6, hb6, hget⟩
      obtain ⟨rfl, rfl⟩ := hget.back s HCK.out.symm rfl
      have HQ6 := Lib.hid hx6
      have HX6 := Lib.hid (HX5.out.below hb6 HX5.out.lies.lt)
      have HR6 := Lib.hid (HR5.out.below hb6)
      have HV6 := Lib.hid (HV5.out.below hb6)
      have HU6 := Lib.hid (HU5.out.below hb6)
      have HB6 := Lib.hid (HB5.out.trans (hb6.mono HB5.out.size))
      clear hx6 hb6 hget HGC
      go_wp2_with (first
        | (refine store_st (m := x.schema) (up := xp) (us := xs) rfl _ _ rfl (g := w6.heap.size) (n := 0) (vp := .slice none 0 0) (vs := .slice none 0 0) rfl ⟨Lies.new _ _ _, ⟨_, _, _, rfl⟩, ⟨_, _, _, rfl⟩⟩ HQ6.out.sl rfl ?_; intro w7 hx7 hg7
           have hB7 : Below w6.heap.size w6 w7 := ((Below.refl _ w6).alloc (Nat.le_refl _) _).grown hg7 (by simp) (by rintro j hj; cases hj; exact Nat.le_refl _)
           have HX7 := Lib.hid (HX6.out.below hB7 HX6.out.lies.lt)
           have HR7 := Lib.hid (HR6.out.below hB7)
           have HQ7 := Lib.hid (HQ6.out.below hB7)
           have HV7 := Lib.hid (HV6.out.below hB7)
           have HU7 := Lib.hid (HU6.out.below hB7)
           have HB7 := Lib.hid (HB6.out.trans (hB7.mono HB6.out.size))
           have HY7 := Lib.hid hx7
           obtain ⟨c0, c1, c2⟩ := HX7.out.all
           clear hx7 hg7 hB7))
      refine (HBY.out w7 HR7.out).mono ?_
      rintro e w8 ⟨v8, rfl, ho8, hb8⟩
      have HO8 := Lib.hid ho8.reads
      have HV8 := Lib.hid (HV7.out.below hb8)
      have HU8 := Lib.hid (HU7.out.below hb8)
      have HX8 := Lib.hid (HX7.out.below hb8 HX7.out.lies.lt)
      have HY8 := Lib.hid (HY7.out.below hb8 HY7.out.lies.lt)
      have HR8 := Lib.hid (HR7.out.below hb8)
      have HQ8 := Lib.hid (HQ7.out.below hb8)
      have HB8 := Lib.hid (HB7.out.trans (hb8.mono HB7.out.size))
      clear ho8 hb8 c0 c1 c2 HBY
      go_wp2_with fail
      refine (same_any _ _ _ _ w8 HV8.out HO8.out).mono ?_
      rintro e w9 ⟨rfl, n9, rfl⟩
      rw [show (Sn.bytes x == Sn.bytes x) = true by simp]
      have hb9 := drawn w8 n9
      obtain ⟨w9, hw9⟩ : ∃ w9, w9 = w8.drewN n9 := ⟨_, rfl⟩
      rw [← hw9] at hb9 ⊢
      have HR9 := Lib.hid (HR8.out.below hb9)
      have HQ9 := Lib.hid (HQ8.out.below hb9)
      have HV9 := Lib.hid (HV8.out.below hb9)
      have HU9 := Lib.hid (HU8.out.below hb9)
      have HX9 := Lib.hid (HX8.out.below hb9 HX8.out.lies.lt)
      have HB9 := Lib.hid (HB8.out.trans (hb9.mono HB8.out.size))
      obtain ⟨c0, c1, c2⟩ := HX9.out.all
      obtain ⟨y0, y1, y2⟩ := (HY8.out.below hb9 HY8.out.lies.lt).all
      clear hb9 hw9
      go_wp2_with fail
      refine (sameSt_any x x xp xs vp vs w9 HQ9.out HR9.out).mono ?_
      rw [decide_eq_true rfl]
      rintro e w10 ⟨rfl, hb10⟩
      have HR10 := Lib.hid (HR9.out.below hb10)
      have HV10 := Lib.hid (HV9.out.below hb10)
      have HU10 := Lib.hid (HU9.out.below hb10)
      have HX10 := Lib.hid (HX9.out.below hb10 HX9.out.lies.lt)
      have HB10 := Lib.hid (HB9.out.trans (hb10.mono HB9.out.size))
      clear hb10 c0 c1 c2 y0 y1 y2
      obtain ⟨c0, c1, c2⟩ := HX10.out.all
      by_cases h1 : x.schema = 1
      · have hq := HLT1.out (by omega)
        have d1 : (x.schema == 1) = true := by simpa using h1
        clear HLT1 HYS1 h1 hsch
        subst hq
        obtain rfl : m = 0 := HM.out
        dsimp only at *
        go_wp2_with fail
        refine (HAW.out _).mono ?_
        rintro e w11 ⟨rfl, hBz⟩
        go_wp2
        go_ret
        exact truly_of (HB10.out.trans (hBz.mono HB10.out.size))
      · have h2 : x.schema = 2 := hsch.resolve_left h1
        have hq := HYS1.out h2
        have d1 : (x.schema == 1) = false := by simpa using h1
        have H2 := Lib.hid h2
        clear HLT1 HYS1 h1 h2 hsch
        subst hq
        dsimp only at *
        have HDC := Lib.hid (HD.out _ _ w10 HV10.out HLEN.out)
        clear HD
        go_wp2_with fail
        refine HDC.out.mono ?_
        rintro e w11 ⟨y, er, yp, ys, rfl, hx11, hb11, hdec⟩
        obtain ⟨rfl, rfl⟩ := hdec.back x HCK.out.symm H2.out rfl
        have HQ11 := Lib.hid hx11
        have HX11 := Lib.hid (HX10.out.below hb11 HX10.out.lies.lt)
        have HR11 := Lib.hid (HR10.out.below hb11)
        have HV11 := Lib.hid (HV10.out.below hb11)
        have HU11 := Lib.hid (HU10.out.below hb11)
        have HB11 := Lib.hid (HB10.out.trans (hb11.mono HB10.out.size))
        clear hx11 hb11 hdec HDC c0 c1 c2 d1
        go_wp2_with (first
          | (refine store_st (m := y.schema) (up := yp) (us := ys) rfl _ _ rfl (g := w11.heap.size) (n := 0) (vp := .slice none 0 0) (vs := .slice none 0 0) rfl ⟨Lies.new _ _ _, ⟨_, _, _, rfl⟩, ⟨_, _, _, rfl⟩⟩ HQ11.out.sl rfl ?_; intro w12 hx12 hg12
             have hB12 : Below w11.heap.size w11 w12 := ((Below.refl _ w11).alloc (Nat.le_refl _) _).grown hg12 (by simp) (by rintro j hj; cases hj; exact Nat.le_refl _)
             have HX12 := Lib.hid (HX11.out.below hB12 HX11.out.lies.lt)
             have HR12 := Lib.hid (HR11.out.below hB12)
             have HQ12 := Lib.hid (HQ11.out.below hB12)
             have HV12 := Lib.hid (HV11.out.below hB12)
             have HU12 := Lib.hid (HU11.out.below hB12)
             have HB12 := Lib.hid (HB11.out.trans (hB12.mono HB11.out.size))
             have HY12 := Lib.hid hx12
             clear hx12 hg12 hB12))
        refine (same_any _ _ _ _ w12 HU12.out HV12.out).mono ?_
        rintro e w13 ⟨rfl, n13, rfl⟩
        rw [show (Sn.bytes y == Sn.bytes y) = true by simp]
        have hb13 := drawn w12 n13
        obtain ⟨w13, hw13⟩ : ∃ w13, w13 = w12.drewN n13 := ⟨_, rfl⟩
        rw [← hw13] at hb13 ⊢
        have HR13 := Lib.hid (HR12.out.below hb13)
        have HQ13 := Lib.hid (HQ12.out.below hb13)
        have HB13 := Lib.hid (HB12.out.trans (hb13.mono HB12.out.size))
        obtain ⟨c0, c1, c2⟩ := (HX12.out.below hb13 HX12.out.lies.lt).all
        obtain ⟨y0, y1, y2⟩ := (HY12.out.below hb13 HY12.out.lies.lt).all
        clear hb13 hw13
        go_wp2_with fail
        refine (sameSt_any y y yp ys vp vs w13 HQ13.out HR13.out).mono ?_
        rw [decide_eq_true rfl]
        rintro e w14 ⟨rfl, hb14⟩
        have HB14 := Lib.hid (HB13.out.trans (hb14.mono HB13.out.size))
        clear hb14 c0 c1 c2 y0 y1 y2
        go_wp2_with fail
        refine (HAW.out _).mono ?_
        rintro e w15 ⟨rfl, hBz⟩
        go_wp2
        go_ret
        exact truly_of (HB14.out.trans (hBz.mono HB14.out.size))

end Go.Proofs.YtammfmmpldahhaaGreat
