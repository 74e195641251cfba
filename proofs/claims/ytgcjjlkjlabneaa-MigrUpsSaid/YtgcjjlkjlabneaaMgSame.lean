/- The document's Same and Large over states, the program's Same. Written by a program. -/
import Derived.Test.YtgcjjlkjlabneaaMgMem
import Derived.Test.YtgcjjlkjlabneaaMgEq
namespace Go.Proofs.Ytgcjjlkjlabneaa
open Go.RowKit

set_option maxRecDepth 4000 in
set_option maxHeartbeats 1600000 in
theorem sameSt_any (s t : Mg.St) (vp vs up us : Value) (w : World) (hr : StR w s vp vs) (kr : StR w t up us) :
    Calls Try.prog 10 #[.agg (Mg.cells s.schema vp vs), .agg (Mg.cells t.schema up us)] w (Looks w (.bool (decide (s = t)))) := by
  obtain ⟨w1, e1, hx1, hB1, hz1⟩ := box_st w s s.schema vp vs hr
  obtain ⟨w2, e2, hx2, hB2, hz2⟩ := box_st w1 t t.schema up us (kr.below hB1)
  rw [hz1] at hx2
  have hx3 := hx1.below hB2 (by omega)
  have HB : Hid (Below w.heap.size w w2) := hB1.trans (hB2.mono hB1.size)
  have HX := Lib.hid hx3
  have HY := Lib.hid hx2
  have HR := Lib.hid (hr.below HB.out)
  have KR := Lib.hid (kr.below HB.out)
  obtain ⟨c0, c1, c2⟩ := hx3.all
  obtain ⟨d0, d1, d2⟩ := hx2.all
  obtain ⟨D, hD⟩ : ∃ D, D = decide (s = t) := ⟨_, rfl⟩
  rw [← hD]
  obtain ⟨n, l, m⟩ := s
  obtain ⟨n', l', m'⟩ := t
  dsimp only at *
  obtain ⟨r, hb⟩ : ∃ r, (n == n') = r := ⟨_, rfl⟩
  obtain ⟨q, hq⟩ : ∃ q, decide (l = l') = q := ⟨_, rfl⟩
  obtain ⟨u, hu⟩ : ∃ u, decide (m = m') = u := ⟨_, rfl⟩
  have HM : Hid (D = (r && (q && u))) := by
    show _ = _
    rw [hD, ← hb, ← hq, ← hu, Bool.eq_iff_iff]
    simp
  have HQ := Lib.hid hq; have HU := Lib.hid hu
  clear hD hq hu hx1 hx2 hx3 hB1 hB2 hz2 hr kr
  go_enter Try.func10, Try.ntmps10
  cases r with
  | false =>
    go_wp2
    go_ret
    exact ⟨by rw [HM.out]; rfl, HB.out⟩
  | true =>
    go_wp2_with fail
    refine (sameKv_any _ _ l l' _ HR.out.kv KR.out.kv).mono ?_
    rintro e w3 ⟨rfl, hb3⟩
    rw [HQ.out]
    have HB3 := Lib.hid hb3
    obtain ⟨_, _, m2⟩ := (HX.out.below hb3 HX.out.lies.lt).all
    obtain ⟨_, _, n2⟩ := (HY.out.below hb3 HY.out.lies.lt).all
    clear hb3 c0 c1 c2 d0 d1 d2
    cases q with
    | false =>
      go_wp2
      go_ret
      exact ⟨by rw [HM.out]; rfl, HB.out.trans (HB3.out.mono HB.out.size)⟩
    | true =>
      go_wp2_with fail
      refine (sameSe_any _ _ m m' _ (HR.out.below HB3.out).ses (KR.out.below HB3.out).ses).mono ?_
      rintro e w4 ⟨rfl, hb4⟩
      rw [HU.out]
      have HB4 := Lib.hid (HB3.out.trans (hb4.mono HB3.out.size))
      clear hb4
      go_wp2
      go_ret
      exact ⟨by rw [HM.out]; rfl, HB.out.trans (HB4.out.mono HB.out.size)⟩

set_option maxRecDepth 4000 in
set_option maxHeartbeats 1600000 in
theorem sameM_any (s t : Mg.St) (vp vs up us : Value) (w : World) (hr : StR w s vp vs) (kr : StR w t up us) :
    Calls Try.prog 9 #[.agg (Mg.cells s.schema vp vs), .agg (Mg.cells t.schema up us)] w (Looks w (.bool (decide (s = t)))) := by
  obtain ⟨w1, e1, hx1, hB1, hz1⟩ := box_st w s s.schema vp vs hr
  obtain ⟨w2, e2, hx2, hB2, hz2⟩ := box_st w1 t t.schema up us (kr.below hB1)
  rw [hz1] at hx2
  have hx3 := hx1.below hB2 (by omega)
  have HB : Hid (Below w.heap.size w w2) := hB1.trans (hB2.mono hB1.size)
  have HX := Lib.hid hx3
  have HY := Lib.hid hx2
  have HR := Lib.hid (hr.below HB.out)
  have KR := Lib.hid (kr.below HB.out)
  obtain ⟨c0, c1, c2⟩ := hx3.all
  obtain ⟨d0, d1, d2⟩ := hx2.all
  obtain ⟨D, hD⟩ : ∃ D, D = decide (s = t) := ⟨_, rfl⟩
  rw [← hD]
  obtain ⟨n, l, m⟩ := s
  obtain ⟨n', l', m'⟩ := t
  dsimp only at *
  obtain ⟨r, hb⟩ : ∃ r, (n == n') = r := ⟨_, rfl⟩
  obtain ⟨q, hq⟩ : ∃ q, decide (l = l') = q := ⟨_, rfl⟩
  obtain ⟨u, hu⟩ : ∃ u, decide (m = m') = u := ⟨_, rfl⟩
  have HM : Hid (D = (r && (q && u))) := by
    show _ = _
    rw [hD, ← hb, ← hq, ← hu, Bool.eq_iff_iff]
    simp
  have HQ := Lib.hid hq; have HU := Lib.hid hu
  clear hD hq hu hx1 hx2 hx3 hB1 hB2 hz2 hr kr
  go_enter Try.func9, Try.ntmps9
  cases r with
  | false =>
    go_wp2
    go_ret
    exact ⟨by rw [HM.out]; rfl, HB.out⟩
  | true =>
    go_wp2_with fail
    refine (equalKv_any _ _ l l' _ HR.out.kv KR.out.kv).mono ?_
    rintro e w3 ⟨rfl, hb3⟩
    rw [HQ.out]
    have HB3 := Lib.hid hb3
    obtain ⟨_, _, m2⟩ := (HX.out.below hb3 HX.out.lies.lt).all
    obtain ⟨_, _, n2⟩ := (HY.out.below hb3 HY.out.lies.lt).all
    clear hb3 c0 c1 c2 d0 d1 d2
    cases q with
    | false =>
      go_wp2
      go_ret
      exact ⟨by rw [HM.out]; rfl, HB.out.trans (HB3.out.mono HB.out.size)⟩
    | true =>
      go_wp2_with fail
      refine (equalSe_any _ _ m m' _ (HR.out.below HB3.out).ses (KR.out.below HB3.out).ses).mono ?_
      rintro e w4 ⟨rfl, hb4⟩
      rw [HU.out]
      have HB4 := Lib.hid (HB3.out.trans (hb4.mono HB3.out.size))
      clear hb4
      go_wp2
      go_ret
      exact ⟨by rw [HM.out]; rfl, HB.out.trans (HB4.out.mono HB.out.size)⟩

set_option maxRecDepth 4000 in
theorem largeSt_any (s : Mg.St) (vp vs : Value) (w : World) (hr : StR w s vp vs) (hk : ∀ e ∈ s.pairs, e.key.length ≤ 9223372036854775807 ∧ e.val.length ≤ 9223372036854775807) (hs : ∀ e ∈ s.sess, e.last.val.length ≤ 9223372036854775807) :
    Calls Try.prog 5 #[.agg (Mg.cells s.schema vp vs)] w (Looks w (.bool (Mg.large s))) := by
  obtain ⟨w1, e1, hx1, hB1, hz1⟩ := box_st w s s.schema vp vs hr
  have HB := Lib.hid hB1
  have HX := Lib.hid hx1
  have HR := Lib.hid (hr.below hB1)
  obtain ⟨c0, c1, c2⟩ := hx1.all
  obtain ⟨D, hD⟩ : ∃ D, D = Mg.large s := ⟨_, rfl⟩
  rw [← hD]
  obtain ⟨n, l, m⟩ := s
  dsimp only at *
  have HK := Lib.hid hk; have HS := Lib.hid hs
  obtain ⟨q, hq⟩ : ∃ q, Se.large m = q := ⟨_, rfl⟩
  obtain ⟨u, hu⟩ : ∃ u, Kv.large l = u := ⟨_, rfl⟩
  have HM : Hid (D = (q || u)) := by show _ = _; rw [hD, ← hq, ← hu]; rfl
  have HQ := Lib.hid hq; have HU := Lib.hid hu
  clear hD hq hu hx1 hB1 hz1 hr hk hs
  go_enter Try.func5, Try.ntmps5
  go_wp2_with fail
  refine (largeSe_any _ m _ HR.out.ses HS.out).mono ?_
  rintro e w3 ⟨rfl, hb3⟩
  rw [HQ.out]
  have HB3 := Lib.hid hb3
  obtain ⟨_, m1, _⟩ := (HX.out.below hb3 HX.out.lies.lt).all
  clear hb3 c0 c1 c2
  cases q with
  | true =>
    go_wp2
    go_ret
    exact ⟨by rw [HM.out]; rfl, HB.out.trans (HB3.out.mono HB.out.size)⟩
  | false =>
    go_wp2_with fail
    refine (largeKv_any _ l _ (HR.out.below HB3.out).kv HK.out).mono ?_
    rintro e w4 ⟨rfl, hb4⟩
    rw [HU.out]
    have HB4 := Lib.hid (HB3.out.trans (hb4.mono HB3.out.size))
    clear hb4
    go_wp2
    go_ret
    exact ⟨by rw [HM.out]; rfl, HB.out.trans (HB4.out.mono HB.out.size)⟩

end Go.Proofs.Ytgcjjlkjlabneaa
