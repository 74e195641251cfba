/- What is wrong with a record; whether V1 has it. -/
import Derived.Test.YtegpfbmanpnhkaaDoorReChk
import Derived.Test.YtegpfbmanpnhkaaDoorReOwn
import Derived.Test.YtegpfbmanpnhkaaDoorVers
namespace Go.Proofs.YtegpfbmanpnhkaaDoor
open Go.RowKit

/-- The image that own leaves. -/
theorem Re.own_reads {x : Re.Rec} {io : Option Addr} {ik ic : Nat} {w : World} (h : Reads w (.slice io ik ic) x.img) : Reads w (if Re.hm x.kind = true then .slice io ik ic else .slice none 0 0) (Re.own x).img := by
  rw [show (Re.own x).img = if Re.hm x.kind = true then x.img else [] from rfl]
  by_cases hk : Re.hm x.kind = true
  · rw [if_pos hk, if_pos hk]; exact h
  · rw [if_neg hk, if_neg hk]; exact Reads.empty w

set_option maxRecDepth 4000 in
set_option maxHeartbeats 3200000 in
theorem checkRe_any (x : Re.Rec) (vi : Value) (w : World) (hW : WordsIn w) (hi : Reads w vi x.img) (hs : x.cmd.Short 140737488355328) :
    Calls Tryd.prog 8 #[.agg (Re.cells x vi)] w (Looks w (.int .i64 (Re.check x))) := by
  obtain ⟨w1, e1, hl1, hB1, hz1⟩ := box_rec w x vi
  obtain ⟨p0, p1, p2, p3, p4, p5, p6, p7, p8, p9, p10, p11⟩ := Recs.all hl1
  have HM1 := Lib.hid hl1; have HB1 := Lib.hid hB1
  have HC1 := Lib.hid (reLimits_any x vi w1 (hW.below hB1) (hi.below hB1) hs)
  have HI := Lib.hid (fun W (h : Below w.heap.size w W) => hi.below h)
  obtain ⟨io, ic, rfl⟩ := hi.shape
  have hlen := hi.len
  obtain ⟨r, hr⟩ : ∃ r, r = Re.check x := ⟨_, rfl⟩
  rw [← hr]
  rw [Re.check_limits] at hr
  obtain ⟨c, hc⟩ : ∃ c, c = Re.limits x := ⟨_, rfl⟩
  rw [← hc] at hr HC1
  obtain ⟨n, hn⟩ : ∃ n, n = x.img.length := ⟨_, rfl⟩
  have HWH : Hid (Re.whole x = !(decide (x.kind = 4) && decide (n = 0))) := by
    show _ = _
    unfold Re.whole Re.hm
    rw [hn]
    congr 2
    exact decide_eq_decide.2 (by simp)
  rw [← hn] at HI HC1 HM1 e1 p11 hlen ⊢
  obtain ⟨z, hz⟩ : ∃ z, z = decide (Re.own x = x) := ⟨_, rfl⟩
  have HSAME := Lib.hid (fun W (h : Below w.heap.size w W) => sameRe_any (Re.own x) x _ (.slice io n ic) W (Re.own_reads (HI.out W h)) (HI.out W h))
  have HOWN := Lib.hid (fun W => ownRe_any x io n ic W)
  obtain ⟨vo, hvo⟩ : ∃ vo, vo = if Re.hm x.kind = true then Value.slice io n ic else .slice none 0 0 := ⟨_, rfl⟩
  rw [← hvo] at HOWN HSAME
  obtain ⟨y, hy⟩ : ∃ y, y = Re.own x := ⟨_, rfl⟩
  rw [← hz] at hr HSAME
  rw [← hy] at HOWN HSAME
  have HR := Lib.hid hr
  clear hl1 hB1 hz1 hW hi hs hr hc hz hvo hy hn
  go_enter Tryd.func8, Tryd.ntmps8
  go_wp2_with fail
  refine HC1.out.mono ?_
  rintro e2 w2 ⟨rfl, hb⟩
  have HM2 := Lib.hid (HM1.out.below hb HM1.out.lt); have HB2 := Lib.hid (HB1.out.trans (hb.mono HB1.out.size))
  clear hb p0 p1 p2 p3 p4 p5 p6 p7 p8 p9 p10 p11
  by_cases h0 : c = 0
  · subst h0
    have HR2 := Lib.hid (HR.out.trans (if_neg (by simp)))
    have k0 := fun p : Behind w2 => Recs.c0 (HM2.out.below p.below HM2.out.lt)
    have k1 := fun p : Behind w2 => Recs.c1 (HM2.out.below p.below HM2.out.lt)
    have k2 := fun p : Behind w2 => Recs.c2 (HM2.out.below p.below HM2.out.lt)
    have k3 := fun p : Behind w2 => Recs.c3 (HM2.out.below p.below HM2.out.lt)
    have k4 := fun p : Behind w2 => Recs.c4 (HM2.out.below p.below HM2.out.lt)
    have k5 := fun p : Behind w2 => Recs.c5 (HM2.out.below p.below HM2.out.lt)
    have k6 := fun p : Behind w2 => Recs.c6 (HM2.out.below p.below HM2.out.lt)
    have k7 := fun p : Behind w2 => Recs.c7 (HM2.out.below p.below HM2.out.lt)
    have k8 := fun p : Behind w2 => Recs.c8 (HM2.out.below p.below HM2.out.lt)
    have k9 := fun p : Behind w2 => Recs.c9 (HM2.out.below p.below HM2.out.lt)
    have k10 := fun p : Behind w2 => Recs.c10 (HM2.out.below p.below HM2.out.lt)
    have k11 := fun p : Behind w2 => Recs.c11 (HM2.out.below p.below HM2.out.lt)
    have HOW := Lib.hid (fun p : Behind w2 => HOWN.out p.world)
    have HSA := Lib.hid (fun p : Behind w2 => HSAME.out p.world (HB2.out.trans (p.below.mono HB2.out.size)))
    have hfin : (∃ t, z = false ∧ t = (3 : Int) ∧ r = t) ∨ (z = true ∧ x.kind ≠ 4 ∧ r = 0) ∨ (z = true ∧ x.kind = 4 ∧ n = 0 ∧ r = 3) ∨ (z = true ∧ x.kind = 4 ∧ n ≠ 0 ∧ r = 0) := by
      have h1 := HR2.out
      rw [HWH.out] at h1
      cases z with
      | false => exact .inl ⟨3, rfl, rfl, h1.trans (if_pos rfl)⟩
      | true =>
        by_cases h4 : x.kind = 4
        · by_cases hn : n = 0
          · exact .inr (.inr (.inl ⟨rfl, h4, hn, h1.trans (if_pos (by rw [decide_eq_true h4, decide_eq_true hn]; rfl))⟩))
          · exact .inr (.inr (.inr ⟨rfl, h4, hn, h1.trans (if_neg (by rw [decide_eq_false hn]; simp))⟩))
        · exact .inr (.inl ⟨rfl, h4, h1.trans (if_neg (by rw [decide_eq_false h4]; simp))⟩)
    rcases hfin with ⟨t, hz, ht, hr⟩ | ⟨hz, h4, hr⟩ | ⟨hz, h4, hn, hr⟩ | ⟨hz, h4, hn, hr⟩
    · subst hz
      subst ht
      have HZ := Lib.hid hr
      clear hr
      go_wp2
      refine wp_region_behind (by kernel_rfl) (by kernel_rfl) ?_
      repeat (go_big_quiet_step (first
        | (go_at_call 18; exact Looks.behind (HOW.out _))
        | (go_at_call 10; exact Looks.behind (HSA.out _))))
      refine wpQuiet_nil ?_
      rintro w5 ⟨⟨w5, hB5⟩, rfl⟩
      (try dsimp only)
      clear k0 k1 k2 k3 k4 k5 k6 k7 k8 k9 k10 k11
      go_wp2
      go_ret
      exact ⟨by rw [HZ.out]; rfl, HB2.out.trans (hB5.mono HB2.out.size)⟩
    · subst hz
      have d4 : (x.kind == 4) = false := by simpa using h4
      have HZ := Lib.hid hr
      clear hr h4
      go_wp2
      refine wp_region_behind (by kernel_rfl) (by kernel_rfl) ?_
      repeat (go_big_quiet_step (first
        | (go_at_call 18; exact Looks.behind (HOW.out _))
        | (go_at_call 10; exact Looks.behind (HSA.out _))))
      refine wpQuiet_nil ?_
      rintro w5 ⟨⟨w5, hB5⟩, rfl⟩
      (try dsimp only)
      clear k0 k1 k2 k3 k4 k5 k6 k7 k8 k9 k10 k11
      go_wp2
      go_ret
      exact ⟨by rw [HZ.out]; rfl, HB2.out.trans (hB5.mono HB2.out.size)⟩
    · subst hz
      have d4 : (x.kind == 4) = true := by simpa using h4
      have dn : ((n : Int) == 0) = true := by simpa using hn
      have HZ := Lib.hid hr
      clear hr h4 hn
      go_wp2
      refine wp_region_behind (by kernel_rfl) (by kernel_rfl) ?_
      repeat (go_big_quiet_step (first
        | (go_at_call 18; exact Looks.behind (HOW.out _))
        | (go_at_call 10; exact Looks.behind (HSA.out _))))
      refine wpQuiet_nil ?_
      rintro w5 ⟨⟨w5, hB5⟩, rfl⟩
      (try dsimp only)
      clear k0 k1 k2 k3 k4 k5 k6 k7 k8 k9 k10 k11
      go_wp2
      go_ret
      exact ⟨by rw [HZ.out]; rfl, HB2.out.trans (hB5.mono HB2.out.size)⟩
    · subst hz
      have d4 : (x.kind == 4) = true := by simpa using h4
      have dn : ((n : Int) == 0) = false := by simpa using hn
      have HZ := Lib.hid hr
      clear hr h4 hn
      go_wp2
      refine wp_region_behind (by kernel_rfl) (by kernel_rfl) ?_
      repeat (go_big_quiet_step (first
        | (go_at_call 18; exact Looks.behind (HOW.out _))
        | (go_at_call 10; exact Looks.behind (HSA.out _))))
      refine wpQuiet_nil ?_
      rintro w5 ⟨⟨w5, hB5⟩, rfl⟩
      (try dsimp only)
      clear k0 k1 k2 k3 k4 k5 k6 k7 k8 k9 k10 k11
      go_wp2
      go_ret
      exact ⟨by rw [HZ.out]; rfl, HB2.out.trans (hB5.mono HB2.out.size)⟩
  · have hne : (c != 0) = true := by simpa using h0
    have HZ : Hid (r = c) := HR.out.trans (if_pos h0)
    go_wp2
    go_ret
    exact ⟨by rw [HZ.out]; rfl, HB2.out⟩

theorem Re.newer_cases (x : Re.Rec) : (x.kind = 2 ∧ Re.newer x = !Vs.has 1 x.cmd.kind) ∨ (x.kind = 3 ∧ Re.newer x = !Vs.has 1 x.cmd.kind) ∨ (x.kind ≠ 2 ∧ x.kind ≠ 3 ∧ Re.newer x = false) := by
  unfold Re.newer Re.hc
  by_cases h2 : x.kind = 2
  · exact .inl ⟨h2, by rw [decide_eq_true h2]; rfl⟩
  · by_cases h3 : x.kind = 3
    · exact .inr (.inl ⟨h3, by rw [decide_eq_true h3]; simp⟩)
    · exact .inr (.inr ⟨h2, h3, by rw [decide_eq_false h2, decide_eq_false h3]; rfl⟩)

set_option maxRecDepth 4000 in
set_option maxHeartbeats 1600000 in
theorem olderRe_any (x : Re.Rec) (vi : Value) (w : World) (hW : WordsIn w) (hi : Reads w vi x.img) (hs : x.cmd.Short 140737488355328) :
    Calls Tryd.prog 25 #[.agg (Re.cells x vi)] w (Looks w (.int .i64 (Re.older x))) := by
  obtain ⟨w1, e1, hl1, hB1, hz1⟩ := box_rec w x vi
  obtain ⟨p0, p1, p2, p3, p4, p5, p6, p7, p8, p9, p10, p11⟩ := Recs.all hl1
  have HM1 := Lib.hid hl1; have HB1 := Lib.hid hB1
  have HC1 := Lib.hid (checkRe_any x vi w1 (hW.below hB1) (hi.below hB1) hs)
  obtain ⟨r, hr⟩ : ∃ r, r = Re.older x := ⟨_, rfl⟩
  rw [← hr]
  unfold Re.older at hr
  obtain ⟨c, hc⟩ : ∃ c, c = Re.check x := ⟨_, rfl⟩
  rw [← hc] at hr HC1
  have HR := Lib.hid hr
  have hnew := Re.newer_cases x
  have HHAS := Lib.hid (fun W => has_any 1 x.cmd.kind W)
  obtain ⟨y, hy⟩ : ∃ y, y = Vs.has 1 x.cmd.kind := ⟨_, rfl⟩
  rw [← hy] at hnew HHAS
  have HNEW := Lib.hid hnew
  clear hl1 hB1 hz1 hW hi hs hr hc hnew hy
  go_enter Tryd.func25, Tryd.ntmps25
  go_wp2_with fail
  refine HC1.out.mono ?_
  rintro e2 w2 ⟨rfl, hb⟩
  have HM2 := Lib.hid (HM1.out.below hb HM1.out.lt); have HB2 := Lib.hid (HB1.out.trans (hb.mono HB1.out.size))
  clear hb p0 p1 p2 p3 p4 p5 p6 p7 p8 p9 p10 p11
  by_cases h0 : c = 0
  · subst h0
    have HR2 := Lib.hid (HR.out.trans (if_neg (by simp)))
    have p0 := Recs.c0 HM2.out
    have p4 := Recs.c4 HM2.out
    rcases HNEW.out with ⟨hk, hn⟩ | ⟨hk, hn⟩ | ⟨h2, h3, hn⟩
    · rw [hk] at p0
      have HZ : Hid (r = if (!y) = true then 8 else 0) := by show _ = _; rw [HR2.out, hn]
      clear hk hn
      cases y <;>
      · go_wp2_with fail
        refine (HHAS.out _).mono ?_
        rintro e3 w3 ⟨rfl, rfl⟩
        go_wp2
        go_ret
        exact ⟨by rw [HZ.out]; rfl, HB2.out⟩
    · rw [hk] at p0
      have HZ : Hid (r = if (!y) = true then 8 else 0) := by show _ = _; rw [HR2.out, hn]
      clear hk hn
      cases y <;>
      · go_wp2_with fail
        refine (HHAS.out _).mono ?_
        rintro e3 w3 ⟨rfl, rfl⟩
        go_wp2
        go_ret
        exact ⟨by rw [HZ.out]; rfl, HB2.out⟩
    · have d2 : (x.kind == 2) = false := by simpa using h2
      have d3 : (x.kind == 3) = false := by simpa using h3
      have HZ : Hid (r = 0) := by show _ = _; rw [HR2.out, hn]; rfl
      clear h2 h3 hn
      go_wp2
      go_ret
      exact ⟨by rw [HZ.out]; rfl, HB2.out⟩
  · have hne : (c != 0) = true := by simpa using h0
    have HZ : Hid (r = c) := HR.out.trans (if_pos h0)
    go_wp2
    go_ret
    exact ⟨by rw [HZ.out]; rfl, HB2.out⟩

end Go.Proofs.YtegpfbmanpnhkaaDoor
