/- SnaponeEncodes out of what Encode and Decode leave. -/
import Derived.Test.YtggipagbmmjfbaaSnLaw
namespace Go.Proofs.Ytggipagbmmjfbaa
open Go.RowKit

theorem Sn.bytes_few {s : Mg.St} (h : Mg.check s = true) : (Sn.bytes s).length ≤ 1000000 := by
  obtain ⟨hm, _, _⟩ := Sn.mid_of h
  have hsch := Mg.schema_of h
  have h1 := Sn.flat_len (Sn.pbytes s.schema) 3000 s.pairs fun p hp => Sn.pbytes_len _ p (hm.kv p hp)
  have h2 := Sn.flat_len (Sn.sbytes s.schema) 1050 s.sess fun x hx => An.bytes_len s.schema x.last (hm.ses x hx).1 (hm.ses x hx).2 (by omega)
  have a1 : s.pairs.length ≤ 64 ∧ s.sess.length ≤ 8 := by
    have hk : ∀ e ∈ s.pairs, (e.key.length ≤ 9223372036854775807 ∧ (e.key.length : Int) ≤ 9223372036854775807) ∧ e.val.length ≤ 9223372036854775807 ∧ (e.val.length : Int) ≤ 9223372036854775807 := fun e he => by have := hm.kv e he; omega
    exact (Sn.ok_of (m := ⟨9223372036854775807, 9223372036854775807, 9223372036854775807⟩) (by show (4294967296 : Int) ≤ 9223372036854775807; omega) h hk fun e he => by have := hm.ses e he; omega).2.2
  have e1 := enc_nine (n := s.schema.toNat) (by omega)
  have e2 := enc_nine (n := s.pairs.length) (by omega)
  have e3 := enc_nine (n := s.sess.length) (by omega)
  have b1 : 3000 * s.pairs.length ≤ 3000 * 64 := Nat.mul_le_mul_left _ a1.1
  have b2 : 1050 * s.sess.length ≤ 1050 * 8 := Nat.mul_le_mul_left _ a1.2
  unfold Sn.bytes Sn.body Lc.bytes
  simp only [List.length_append]
  omega

set_option maxRecDepth 4000 in
set_option maxHeartbeats 6400000 in
theorem snapEncodes_any (hE : ∀ (s : Mg.St) (vp vs : Value) (w : World), StR w s vp vs → s.Few → Calls Try.prog 7 #[.agg (Mg.cells s.schema vp vs)] w (EncSn w s))
    (hD : ∀ (v : Value) (b : List UInt8) (w : World), Reads w v b → b.length ≤ 1000000 → Calls Try.prog 9 #[v] w (DecSn w b))
    (s : Mg.St) (vp vs : Value) (w : World) (hr : StR w s vp vs) (hc : s.Came) :
    Calls Try.prog 3 #[.agg (Mg.cells s.schema vp vs)] w (Truly w) := by
  obtain ⟨w1, e1, hx1, hB1, hz1⟩ := box_st w s s.schema vp vs hr
  have HX1 := Lib.hid hx1
  have HR1 := Lib.hid (hr.below hB1)
  have HB1 := Lib.hid hB1
  have hlarge := largeSt_any s vp vs w1 HR1.out hc.kv hc.ses
  have HAW := Lib.hid (fun W => awakeSn_any hE W)
  have HD := Lib.hid hD
  obtain ⟨t, ht⟩ : ∃ t, t = Mg.large s := ⟨_, rfl⟩
  rw [← ht] at hlarge
  have HT := Lib.hid ht
  have HE := Lib.hid (fun W h hf => hE s vp vs W h hf)
  clear ht hx1 hB1 hz1 hr hc hE hD
  go_enter Try.func3, Try.ntmps3
  go_wp2_with (first | (refine load_st rfl _ rfl rfl HX1.out ?_; refine Hid.out ?_))
  refine Lib.hid ?_
  go_wp2_with fail
  refine hlarge.mono ?_
  rintro e w2 ⟨rfl, hb2⟩
  have HX2 := Lib.hid (HX1.out.below hb2 HX1.out.lies.lt)
  have HR2 := Lib.hid (HR1.out.below hb2)
  have HB2 := Lib.hid (HB1.out.trans (hb2.mono HB1.out.size))
  clear hb2 hlarge
  cases t with
  | true =>
    go_wp2_with fail
    refine (HAW.out _).mono ?_
    rintro e w3 ⟨rfl, hBw3⟩
    go_wp2
    go_ret
    exact truly_of (HB2.out.trans (hBw3.mono HB2.out.size))
  | false =>
    have HF := Lib.hid (Mg.few HT.out.symm)
    have hup := HE.out w2 HR2.out HF.out
    have HRC := Lib.hid (fun W h => refCheckSt_any s vp vs W h HF.out)
    have HNO := Lib.hid (fun h => Sn.enc1_no (s := s) h)
    have HLT := Lib.hid (fun h1 h2 => Sn.enc1_late (s := s) h1 h2)
    have HYS := Lib.hid (fun h1 h2 => Sn.enc1_yes (s := s) h1 h2)
    have HMID := Lib.hid (fun h => Sn.mid_of (s := s) h)
    have HLEN := Lib.hid (fun h => Sn.bytes_few (s := s) h)
    obtain ⟨b, hb⟩ : ∃ b, b = Mg.check s := ⟨_, rfl⟩
    have HCK := Lib.hid hb
    rw [← hb] at HRC HNO HLT HYS HMID HLEN
    unfold EncSn at hup
    obtain ⟨q, hq⟩ : ∃ q, q = Sn.enc1 s := ⟨_, rfl⟩
    rw [← hq] at hup HNO HLT HYS
    have HUP := Lib.hid hup
    clear hup hb hq HE
    go_wp2_with (first | (refine load_st rfl _ rfl rfl HX2.out ?_; refine Hid.out ?_))
    refine Lib.hid ?_
    go_wp2_with fail
    refine HUP.out.mono ?_
    rintro e w3 ⟨v3, rfl, hr3, hb3⟩
    have HV3 := Lib.hid hr3
    obtain ⟨ao, cap, hv3⟩ := hr3.shape
    obtain ⟨n, hn⟩ : ∃ n, n = q.1.length := ⟨_, rfl⟩
    rw [← hn] at hv3
    have HN := Lib.hid hn
    have HX3 := Lib.hid (HX2.out.below hb3 HX2.out.lies.lt)
    have HR3 := Lib.hid (HR2.out.below hb3)
    have HB3 := Lib.hid (HB2.out.trans (hb3.mono HB2.out.size))
    clear hr3 hb3 hn HUP
    subst hv3
    go_wp2_with (first | (refine load_st rfl _ rfl rfl HX3.out ?_; refine Hid.out ?_))
    refine Lib.hid ?_
    go_wp2_with fail
    refine (HRC.out w3 HR3.out).mono ?_
    rintro e w4 ⟨rfl, hb4⟩
    have HX4 := Lib.hid (HX3.out.below hb4 HX3.out.lies.lt)
    have HR4 := Lib.hid (HR3.out.below hb4)
    have HV4 := Lib.hid (HV3.out.below hb4)
    have HB4 := Lib.hid (HB3.out.trans (hb4.mono HB3.out.size))
    clear hb4 HRC
    cases b with
    | false =>
      have hq := HNO.out rfl
      clear HNO HLT HYS HMID HLEN
      subst hq
      obtain rfl : n = 0 := HN.out
      dsimp only at *
      go_wp2_with fail
      refine (HAW.out _).mono ?_
      rintro e w5 ⟨rfl, hB5⟩
      go_wp2
      go_ret
      exact truly_of (HB4.out.trans (hB5.mono HB4.out.size))
    | true =>
      obtain ⟨s0, _, _⟩ := HX4.out.all
      by_cases h1 : s.schema = 1
      · have hq := HYS.out rfl h1
        have hmid := HMID.out rfl
        have hlen := HLEN.out rfl
        have d1 : (s.schema != 1) = false := by simpa using h1
        have H1 := Lib.hid h1
        clear HNO HLT HYS HMID HLEN h1
        subst hq
        dsimp only at *
        have HDC := Lib.hid (HD.out _ _ w4 HV4.out hlen)
        have HBY := Lib.hid (fun W h => refSnBytes_any s vp vs W h hmid.1)
        clear HD hmid hlen
        go_wp2_with fail
        refine HDC.out.mono ?_
        rintro e w5 ⟨x, er, xp, xs, rfl, hx5, hb5, hdec⟩
        obtain ⟨rfl, rfl⟩ := hdec.back s HCK.out.symm H1.out rfl
        have HQ5 := Lib.hid hx5
        have HX5 := Lib.hid (HX4.out.below hb5 HX4.out.lies.lt)
        have HR5 := Lib.hid (HR4.out.below hb5)
        have HV5 := Lib.hid (HV4.out.below hb5)
        have HB5 := Lib.hid (HB4.out.trans (hb5.mono HB4.out.size))
        clear hx5 hb5 hdec s0 d1 HDC
        go_wp2_with (first
          | (refine store_st (m := x.schema) (up := xp) (us := xs) rfl _ _ rfl (g := w5.heap.size) (n := 0) (vp := .slice none 0 0) (vs := .slice none 0 0) rfl ⟨Lies.new _ _ _, ⟨_, _, _, rfl⟩, ⟨_, _, _, rfl⟩⟩ HQ5.out.sl rfl ?_; intro w6 hx6 hg6
             have hB6 : Below w5.heap.size w5 w6 := ((Below.refl _ w5).alloc (Nat.le_refl _) _).grown hg6 (by simp) (by rintro j hj; cases hj; exact Nat.le_refl _)
             have HX6 := Lib.hid (HX5.out.below hB6 HX5.out.lies.lt)
             have HR6 := Lib.hid (HR5.out.below hB6)
             have HQ6 := Lib.hid (HQ5.out.below hB6)
             have HV6 := Lib.hid (HV5.out.below hB6)
             have HB6 := Lib.hid (HB5.out.trans (hB6.mono HB5.out.size))
             have HY6 := Lib.hid hx6
             obtain ⟨c0, c1, c2⟩ := HX6.out.all
             clear hx6 hg6 hB6))
        refine (HBY.out w6 HR6.out).mono ?_
        rintro e w7 ⟨v7, rfl, ho7, hb7⟩
        have HO7 := Lib.hid ho7.reads
        have HV7 := Lib.hid (HV6.out.below hb7)
        have HX7 := Lib.hid (HX6.out.below hb7 HX6.out.lies.lt)
        have HY7 := Lib.hid (HY6.out.below hb7 HY6.out.lies.lt)
        have HR7 := Lib.hid (HR6.out.below hb7)
        have HQ7 := Lib.hid (HQ6.out.below hb7)
        have HB7 := Lib.hid (HB6.out.trans (hb7.mono HB6.out.size))
        clear ho7 hb7 c0 c1 c2 HBY
        go_wp2_with fail
        refine (same_any _ _ _ _ w7 HV7.out HO7.out).mono ?_
        rintro e w8 ⟨rfl, n8, rfl⟩
        rw [show (Sn.bytes x == Sn.bytes x) = true by simp]
        have hb8 := drawn w7 n8
        obtain ⟨w8, hw8⟩ : ∃ w8, w8 = w7.drewN n8 := ⟨_, rfl⟩
        rw [← hw8] at hb8 ⊢
        have HR8 := Lib.hid (HR7.out.below hb8)
        have HQ8 := Lib.hid (HQ7.out.below hb8)
        have HB8 := Lib.hid (HB7.out.trans (hb8.mono HB7.out.size))
        obtain ⟨c0, c1, c2⟩ := (HX7.out.below hb8 HX7.out.lies.lt).all
        obtain ⟨y0, y1, y2⟩ := (HY7.out.below hb8 HY7.out.lies.lt).all
        clear hb8 hw8
        go_wp2_with fail
        refine (sameSt_any x x xp xs vp vs w8 HQ8.out HR8.out).mono ?_
        rw [decide_eq_true rfl]
        rintro e w9 ⟨rfl, hb9⟩
        have HB9 := Lib.hid (HB8.out.trans (hb9.mono HB8.out.size))
        clear hb9 c0 c1 c2 y0 y1 y2
        go_wp2_with fail
        refine (HAW.out _).mono ?_
        rintro e w10 ⟨rfl, hB10⟩
        go_wp2
        go_ret
        exact truly_of (HB9.out.trans (hB10.mono HB9.out.size))
      · have hq := HLT.out rfl h1
        have d1 : (s.schema != 1) = true := by simpa using h1
        clear HNO HLT HYS HMID HLEN h1
        subst hq
        obtain rfl : n = 0 := HN.out
        dsimp only at *
        go_wp2_with fail
        refine (HAW.out _).mono ?_
        rintro e w5 ⟨rfl, hB5⟩
        go_wp2
        go_ret
        exact truly_of (HB4.out.trans (hB5.mono HB4.out.size))

end Go.Proofs.Ytggipagbmmjfbaa
