/- Decode of a snapshot in schema 1, whole. -/
import Derived.Test.YtggipagbmmjfbaaSnDec
namespace Go.Proofs.Ytggipagbmmjfbaa
open Go.RowKit

theorem Sn.dec_no {b : List UInt8} (h : (Sn.rd b).2 ≠ 0) : Sn.DecOk b Mg.zero (Sn.rd b).2 := by
  refine ⟨fun _ => rfl, fun h0 => absurd h0 h, fun y h1 h2 h3 => ?_⟩
  have := Sn.rd_back h1 h2
  rw [h3] at this
  rw [this] at h
  exact absurd rfl h
theorem Sn.dec_form {b : List UInt8} (hc : Mg.check (Sn.rd b).1 = false) : Sn.DecOk b Mg.zero 3 := by
  refine ⟨fun _ => rfl, fun h0 => (by cases h0), fun y h1 h2 h3 => ?_⟩
  have := Sn.rd_back h1 h2
  rw [h3] at this
  rw [this] at hc
  rw [h1] at hc
  cases hc
theorem Sn.dec_yes {b : List UInt8} (h : (Sn.rd b).2 = 0) (hc : Mg.check (Sn.rd b).1 = true) : Sn.DecOk b (Sn.rd b).1 0 := by
  refine ⟨fun h0 => absurd rfl h0, fun _ => ⟨hc, (Sn.rd_ok h).1, (Sn.rd_ok h).2⟩, fun y h1 h2 h3 => ?_⟩
  have := Sn.rd_back h1 h2
  rw [h3] at this
  exact ⟨rfl, by rw [this]⟩

set_option maxRecDepth 4000 in
set_option maxHeartbeats 3200000 in
theorem decSn_any (v : Value) (b : List UInt8) (w : World) (hv : Reads w v b) (hb : b.length ≤ 1000000) : Calls Try.prog 9 #[v] w (DecSn w b) := by
  obtain ⟨w1, e1, hx1, hB1, hz1⟩ := box_st0 w
  have HX1 := Lib.hid hx1
  have HB1 := Lib.hid hB1
  have HV1 := Lib.hid (hv.below hB1)
  have hz1' : w.heap.size + 1 = w1.heap.size := hz1.symm
  have hfew := fun h : (Sn.rd b).2 = 0 => Sn.few_of (Sn.rd_ok h).2 hb
  have HNO := Lib.hid (fun h => Sn.dec_no (b := b) h)
  have HFO := Lib.hid (fun h => Sn.dec_form (b := b) h)
  have HYS := Lib.hid (fun h hc => Sn.dec_yes (b := b) h hc)
  obtain ⟨n, q, f, hn, hy, _, _, hq, _⟩ := Sn.rnm_res 2 b 0 0 (by omega)
  obtain ⟨r, hr⟩ : ∃ r, r = Sn.rd b := ⟨_, rfl⟩
  have HR := Lib.hid hr
  have HN := Lib.hid hn
  rw [← hr] at hfew HNO HFO HYS
  unfold Sn.rd at hr
  rw [hn] at hr
  dsimp only at hr
  simp only [Int.toNat_natCast] at hr
  have HRD := Lib.hid hr
  have HFEW := Lib.hid hfew
  clear hx1 hB1 hz1 hv hr hfew hn HR
  dsimp only [Mg.cells] at e1
  go_enter Try.func9, Try.ntmps9
  go_wp2_with fail
  refine (newreader_any v b _ w1.heap.size (Nat.le_refl _) HV1.out (by omega)).mono ?_
  rintro e2 w2 ⟨o, rv, rfl, ho, hr2, hB2⟩
  have HX2 := Lib.hid (HX1.out.below hB2 HX1.out.lies.lt)
  have HB2 := Lib.hid (HB1.out.trans (hB2.mono HB1.out.size))
  have HR2 := Lib.hid hr2
  have hz2 : w1.heap.size ≤ w2.heap.size := hB2.size
  clear hr2 hB2
  go_wp2_with fail
  refine (readSchema_any _ w1.heap.size o rv b n q f HR2.out hy HN).mono ?_
  rintro e3 w3 ⟨rfl, hr3, hg3⟩
  have hz3 : w1.heap.size ≤ w3.heap.size := Nat.le_trans hz2 hg3.size
  have HX3 := Lib.hid (HX2.out.kept hg3 (by omega))
  have HB3 := Lib.hid (HB2.out.grown hg3 (by omega) (by rintro x hx; cases hx; omega))
  have HR3 := Lib.hid hr3
  clear hr3 hg3
  by_cases hA : f ≠ 0 ∨ n ≠ 1
  · have hr9 : r = (Mg.zero, if f ≠ 0 then f else if n ≠ 1 then 3 else 0) := by
      rw [HRD.out]
      by_cases h0 : f ≠ 0
      · rw [if_pos h0, if_pos h0]
      · have h1 : n ≠ 1 := hA.resolve_left h0
        rw [if_neg h0, if_neg h0, if_pos h1, if_pos h1]
    have hne : (if f ≠ 0 then f else if n ≠ 1 then 3 else (0 : Int)) ≠ 0 := by
      by_cases h0 : f ≠ 0
      · rw [if_pos h0]; exact h0
      · have h1 : n ≠ 1 := hA.resolve_left h0
        rw [if_neg h0, if_pos h1]; decide
    obtain ⟨E, hE⟩ : ∃ E, E = (if f ≠ 0 then f else if n ≠ 1 then 3 else (0 : Int)) := ⟨_, rfl⟩
    rw [← hE] at hr9 hne ⊢
    have d1 : (E != 0) = true := by simpa using hne
    have HDC := Lib.hid (HNO.out (by rw [hr9]; exact hne))
    rw [hr9] at HDC
    clear hr9 hne hE hA HNO HFO HYS HRD HFEW HN
    go_wp2_with (first
      | (refine store_st (m := 0) (up := .slice none 0 0) (us := .slice none 0 0) rfl _ _ rfl rfl HX3.out ⟨⟨_, _, _, rfl⟩, ⟨_, _, _, rfl⟩⟩ rfl ?_; intro w6 hx6 hg6; have HX6 := Lib.hid hx6; have HG6 := Lib.hid hg6; clear hx6 hg6))
    refine ret_st2 rfl rfl HX6.out rfl ?_
    exact ⟨Mg.zero, E, _, _, rfl, StR.zero _, HB3.out.grown HG6.out HB3.out.size (by rintro j hj; cases hj; exact Nat.le_refl _), HDC.out⟩
  · have h0 : f = 0 := Decidable.byContradiction fun h => hA (.inl h)
    have h1 : n = 1 := Decidable.byContradiction fun h => hA (.inr h)
    subst h0
    subst h1
    rw [if_neg (by decide), if_neg (by decide)]
    have hr9 := HRD.out
    rw [if_neg (by decide), if_neg (by decide)] at hr9
    clear hA HRD HN hy
    go_wp2_with fail
    refine (readState_any _ w1.heap.size o rv b q 0 HR3.out hz3).mono ?_
    rintro e4 w4 ⟨xp, xs, rfl, hk4, hm4, hr4, hb4⟩
    obtain ⟨t, ht⟩ : ∃ t, t = Sn.read 1 Sn.big b q 0 := ⟨_, rfl⟩
    rw [← ht] at hk4 hm4 hr4 hr9
    have hs9 : r.1.schema = 1 := by rw [hr9]
    have hq4 : StR w4 r.1 xp xs := by rw [hr9]; exact ⟨hk4.reads, hm4.reads⟩
    have hk4' : LstK o w4 xp r.1.pairs := by rw [hr9]; exact hk4
    have hm4' : LstS o w4 xs r.1.sess := by rw [hr9]; exact hm4
    have he9 : r.2 = Pk.done b t.2.1 t.2.2 := by rw [hr9]
    have HQ4 := Lib.hid hq4; have HK4 := Lib.hid hk4'; have HM4 := Lib.hid hm4'; have HE9 := Lib.hid he9
    have HR4 := Lib.hid hr4
    have HX4 := Lib.hid (HX3.out.below hb4 (by omega))
    have HB4 := Lib.hid (HB3.out.trans (hb4.mono (by omega)))
    have hz4 : w1.heap.size ≤ w4.heap.size := Nat.le_trans hz3 hb4.size
    have ho4 : o < w4.heap.size := hr4.lies.lt
    clear hk4 hm4 hr4 hb4 hq4 hk4' hm4' he9 hr9 ht
    go_wp2_with (first
      | (refine store_st (m := 1) (up := xp) (us := xs) rfl _ _ rfl (g := w4.heap.size) (n := 0) (vp := .slice none 0 0) (vs := .slice none 0 0) rfl ⟨Lies.new _ _ _, ⟨_, _, _, rfl⟩, ⟨_, _, _, rfl⟩⟩ HQ4.out.sl rfl ?_; intro w5 hx5 hg5
         have hB5 : Below w4.heap.size w4 w5 := ((Below.refl _ w4).alloc (Nat.le_refl _) _).grown hg5 (by simp) (by rintro j hj; cases hj; exact Nat.le_refl _)
         have HX5 := Lib.hid (HX4.out.below hB5 HX4.out.lies.lt)
         have HQ5 := Lib.hid (HQ4.out.below hB5)
         have HR5 := Lib.hid (HR4.out.kept hB5)
         have HK5 := Lib.hid (HK4.out.saves (SavesS.of_below (o := o) hB5)); have HM5 := Lib.hid (HM4.out.saves (SavesS.of_below (o := o) hB5))
         have HB5 := Lib.hid (HB4.out.trans (hB5.mono HB4.out.size))
         have HY5 := Lib.hid hx5
         clear hx5 hg5 hB5)
      | fail)
    refine (rdone_any _ _ o rv b _ _ HR5.out).mono ?_
    rintro e6 w6 ⟨rfl, q6, rfl⟩
    rw [← HE9.out]
    have hb6 : Below w5.heap.size w5 (w5.drewN q6) := drawn w5 q6
    obtain ⟨w6, hw6⟩ : ∃ w6, w6 = w5.drewN q6 := ⟨_, rfl⟩
    rw [← hw6] at hb6 ⊢
    have HX6 := Lib.hid (HX5.out.below hb6 HX5.out.lies.lt)
    have HY6 := Lib.hid (HY5.out.below hb6 HY5.out.lies.lt)
    have HQ6 := Lib.hid (HQ5.out.below hb6)
    have HK6 := Lib.hid (HK5.out.saves (SavesS.of_below (o := o) hb6)); have HM6 := Lib.hid (HM5.out.saves (SavesS.of_below (o := o) hb6))
    have HB6 := Lib.hid (HB5.out.trans (hb6.mono HB5.out.size))
    have hlt4 : w.heap.size < w4.heap.size := HX4.out.lies.lt
    obtain ⟨gx, hgx⟩ : ∃ gx, gx = w4.heap.size := ⟨_, rfl⟩
    rw [← hgx] at HY6 hlt4 ⊢
    clear hgx hb6 hw6 HQ4 HX4 HB4 HK4 HM4 HR4 HR5 HX5 HY5 HQ5 HK5 HM5 HB5 HE9
    by_cases h0 : r.2 = 0
    · have d1 : (r.2 == 0) = true := by simpa using h0
      have hck := fun W h => checkSt_any r.1 xp xs W h (HFEW.out h0)
      have HYS0 := Lib.hid (fun hc => HYS.out h0 hc)
      clear HFEW HNO HYS h0
      obtain ⟨c, hc⟩ : ∃ c, c = Mg.check r.1 := ⟨_, rfl⟩
      rw [← hc] at hck HYS0 HFO
      rw [hs9] at hck
      have HCK := Lib.hid hck
      clear hck hc
      go_wp2_with (first | (refine load_st rfl _ rfl rfl HY6.out ?_; refine Hid.out ?_))
      refine Lib.hid ?_
      go_wp2_with fail
      refine (HCK.out w6 HQ6.out).mono ?_
      rintro e w7 ⟨rfl, hb7⟩
      have HX7 := Lib.hid (HX6.out.below hb7 HX6.out.lies.lt)
      have HY7 := Lib.hid (HY6.out.below hb7 HY6.out.lies.lt)
      have HQ7 := Lib.hid (HQ6.out.below hb7)
      have HK7 := Lib.hid (HK6.out.saves (SavesS.of_below (o := o) hb7)); have HM7 := Lib.hid (HM6.out.saves (SavesS.of_below (o := o) hb7))
      have HB7 := Lib.hid (HB6.out.trans (hb7.mono HB6.out.size))
      clear hb7
      cases c with
      | true =>
        have HDC := Lib.hid (HYS0.out rfl)
        clear HYS0 HFO
        go_wp2_with (first
          | (refine load_st rfl _ rfl rfl HY7.out ?_)
          | (refine store_st rfl _ _ rfl rfl HX7.out HQ7.out.sl rfl ?_; intro w8 hx8 hg8; have HX8 := Lib.hid hx8; have HG8 := Lib.hid hg8; clear hx8 hg8))
        refine ret_st2 rfl rfl HX8.out rfl ?_
        exact ⟨r.1, 0, xp, xs, by rw [hs9]; rfl, ⟨(HK7.out.kept HX7.out.lies (by decide) HG8.out).reads, (HM7.out.kept HX7.out.lies (by decide) HG8.out).reads⟩, HB7.out.grown HG8.out HB7.out.size (by rintro j hj; cases hj; exact Nat.le_refl _), HDC.out⟩
      | false =>
        have HDC := Lib.hid (HFO.out rfl)
        clear HYS0 HFO
        go_wp2_with (first
          | (refine store_st (m := 0) (up := .slice none 0 0) (us := .slice none 0 0) rfl _ _ rfl rfl HX7.out ⟨⟨_, _, _, rfl⟩, ⟨_, _, _, rfl⟩⟩ rfl ?_; intro w8 hx8 hg8; have HX8 := Lib.hid hx8; have HG8 := Lib.hid hg8; clear hx8 hg8))
        refine ret_st2 rfl rfl HX8.out rfl ?_
        exact ⟨Mg.zero, 3, _, _, rfl, StR.zero _, HB7.out.grown HG8.out HB7.out.size (by rintro j hj; cases hj; exact Nat.le_refl _), HDC.out⟩
    · have d1 : (r.2 == 0) = false := by simpa using h0
      have d2 : (r.2 != 0) = true := by simpa using h0
      have HDC := Lib.hid (HNO.out h0)
      clear HFEW HNO HYS HFO h0
      go_wp2_with (first
        | (refine store_st (m := 0) (up := .slice none 0 0) (us := .slice none 0 0) rfl _ _ rfl rfl HX6.out ⟨⟨_, _, _, rfl⟩, ⟨_, _, _, rfl⟩⟩ rfl ?_; intro w8 hx8 hg8; have HX8 := Lib.hid hx8; have HG8 := Lib.hid hg8; clear hx8 hg8))
      refine ret_st2 rfl rfl HX8.out rfl ?_
      exact ⟨Mg.zero, r.2, _, _, rfl, StR.zero _, HB6.out.grown HG8.out HB6.out.size (by rintro j hj; cases hj; exact Nat.le_refl _), HDC.out⟩

end Go.Proofs.Ytggipagbmmjfbaa
