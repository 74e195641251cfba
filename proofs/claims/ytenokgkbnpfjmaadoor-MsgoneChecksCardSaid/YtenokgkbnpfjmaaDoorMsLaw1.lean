/- MsgoneChecks. -/
import Derived.Test.YtenokgkbnpfjmaaDoorGMc
import Derived.Test.YtenokgkbnpfjmaaDoorMsRefD
import Derived.Test.YtenokgkbnpfjmaaDoorMsAwake
namespace Go.Proofs.YtenokgkbnpfjmaaDoor
open Go.RowKit

/-- What is not large. -/
theorem Ms.small {m : Ms.Msg} (h : Ms.large m = false) : m.ents.length ≤ 40 ∧ m.img.length ≤ 32780 ∧ ∀ e ∈ m.ents, e.cmd.Short 200 := by
  unfold Ms.large at h
  rw [Bool.or_eq_false_iff, Bool.or_eq_false_iff] at h
  obtain ⟨h1, h2⟩ := En.small h.1
  have h3 := of_decide_eq_false h.2.2
  exact ⟨h1, by omega, h2⟩

set_option maxRecDepth 4000 in
set_option maxHeartbeats 6400000 in
theorem msgoneChecks_any (m m' : Ms.Msg) (ve vi ve' vi' : Value) (w : World) (hF : FieldsIn w) (hW : WordsIn w) (he : ReadsE w ve m.ents) (hi : Reads w vi m.img) (he' : ReadsE w ve' m'.ents) (hi' : Reads w vi' m'.img)
    (hs : ∀ e ∈ m.ents, e.cmd.Short 9223372036854775807) (hs' : ∀ e ∈ m'.ents, e.cmd.Short 9223372036854775807) :
    Calls Tryd.prog 3 #[.agg (Ms.cells m ve vi), .agg (Ms.cells m' ve' vi')] w (Truly w) := by
  obtain ⟨w1, e1, hl1, hk1, hB1, hz1⟩ := box_msgs w m ve vi m' ve' vi'
  obtain ⟨p0, p1, p2, p3, p4, p5, p6, p7, p8, p9⟩ := Msgs.ten hl1
  obtain ⟨q0, q1, q2, q3, q4, q5, q6, q7, q8, q9⟩ := Msgs.ten hk1
  have HM1 := Lib.hid hl1; have HN1 := Lib.hid hk1; have HB1 := Lib.hid hB1
  have HE := Lib.hid (fun W (h : Below w.heap.size w W) => (ReadsR.below he h : ReadsE W ve m.ents)); have HI := Lib.hid (fun W (h : Below w.heap.size w W) => hi.below h)
  have HE' := Lib.hid (fun W (h : Below w.heap.size w W) => (ReadsR.below he' h : ReadsE W ve' m'.ents)); have HI' := Lib.hid (fun W (h : Below w.heap.size w W) => hi'.below h)
  have HFW := Lib.hid (fun W (h : Below w.heap.size w W) => And.intro (hF.below h) (hW.below h))
  have HS := Lib.hid hs; have HS' := Lib.hid hs'
  obtain ⟨x, hx⟩ : ∃ x, x = Ms.large m := ⟨_, rfl⟩
  have HX := Lib.hid hx
  have hlarge := largeM_any m ve vi w1 (HE.out _ hB1) (HI.out _ hB1) hs
  rw [← hx] at hlarge
  have HLARGE := Lib.hid hlarge
  clear hl1 hk1 hB1 hz1 hF hW he hi he' hi' hs hs' hx hlarge
  cases x with
  | true =>
    go_enter Tryd.func3, Tryd.ntmps3
    go_wp2_with fail
    refine HLARGE.out.mono ?_
    rintro e2 w2 ⟨rfl, hb⟩
    have HB2 := Lib.hid (HB1.out.trans (hb.mono HB1.out.size))
    clear hb
    go_wp2_with fail
    refine (awakeM_any _ (HFW.out _ HB2.out).1 (HFW.out _ HB2.out).2).mono ?_
    rintro e3 w3 ⟨rfl, hb⟩
    go_wp2
    go_ret
    exact truly_of (HB2.out.trans (hb.mono HB2.out.size))
  | false =>
    go_enter Tryd.func3, Tryd.ntmps3
    go_wp2_with fail
    refine HLARGE.out.mono ?_
    rintro e2 w2 ⟨rfl, hb⟩
    have HM2 := Lib.hid (HM1.out.below hb HM1.out.lt); have HN2 := Lib.hid (HN1.out.below hb HN1.out.lt); have HB2 := Lib.hid (HB1.out.trans (hb.mono HB1.out.size))
    clear hb p0 p1 p2 p3 p4 p5 p6 p7 p8 p9 q0 q1 q2 q3 q4 q5 q6 q7 q8 q9 HLARGE
    obtain ⟨q0, q1, q2, q3, q4, q5, q6, q7, q8, q9⟩ := Msgs.ten HN2.out
    obtain ⟨y, hy⟩ : ∃ y, y = Ms.large m' := ⟨_, rfl⟩
    have HY := Lib.hid hy
    have hlarge := largeM_any m' ve' vi' w2 (HE'.out _ HB2.out) (HI'.out _ HB2.out) HS'.out
    rw [← hy] at hlarge
    have HLARGE := Lib.hid hlarge
    clear hy hlarge
    go_wp2_with fail
    refine HLARGE.out.mono ?_
    rintro e3 w3 ⟨rfl, hb⟩
    have HM3 := Lib.hid (HM2.out.below hb HM2.out.lt); have HN3 := Lib.hid (HN2.out.below hb HN2.out.lt); have HB3 := Lib.hid (HB2.out.trans (hb.mono HB2.out.size))
    clear hb q0 q1 q2 q3 q4 q5 q6 q7 q8 q9 HLARGE
    cases y with
    | true =>
      go_wp2_with fail
      refine (awakeM_any _ (HFW.out _ HB3.out).1 (HFW.out _ HB3.out).2).mono ?_
      rintro e4 w4 ⟨rfl, hb⟩
      go_wp2
      go_ret
      exact truly_of (HB3.out.trans (hb.mono HB3.out.size))
    | false =>
      have HSM : Hid (∀ e ∈ m.ents, e.cmd.Short 140737488355328) := fun e h => by
        have := (Ms.small HX.out.symm).2.2 e h
        exact ⟨Nat.le_trans this.1 (by omega), Nat.le_trans this.2.1 (by omega), Nat.le_trans this.2.2 (by omega)⟩
      obtain ⟨c, hc⟩ : ∃ c, c = Ms.check m := ⟨_, rfl⟩
      obtain ⟨z, hz⟩ : ∃ z, z = decide (m = m') := ⟨_, rfl⟩
      have HBW := Lib.hid (fun p : Behind w3 => HB3.out.trans (p.below.mono HB3.out.size))
      have hk1 := fun p : Behind w3 => checkM_any m ve vi p.world (HFW.out _ (HBW.out p)).1 (HFW.out _ (HBW.out p)).2 (HE.out _ (HBW.out p)) (HI.out _ (HBW.out p)) HSM.out
      have hk2 := fun p : Behind w3 => refCheckM_any m ve vi p.world (HE.out _ (HBW.out p)) (HI.out _ (HBW.out p)) HSM.out
      have hk3 := fun p : Behind w3 => sameM_any m m' ve vi ve' vi' p.world (HE.out _ (HBW.out p)) (HI.out _ (HBW.out p)) (HE'.out _ (HBW.out p)) (HI'.out _ (HBW.out p))
      have hk4 := fun p : Behind w3 => refSameM_any m m' ve vi ve' vi' p.world (HE.out _ (HBW.out p)) (HI.out _ (HBW.out p)) (HE'.out _ (HBW.out p)) (HI'.out _ (HBW.out p))
      have hk5 := fun p : Behind w3 => sameM_any m m ve vi ve vi p.world (HE.out _ (HBW.out p)) (HI.out _ (HBW.out p)) (HE.out _ (HBW.out p)) (HI.out _ (HBW.out p))
      have hk6 := fun p : Behind w3 => awakeM_any p.world (HFW.out _ (HBW.out p)).1 (HFW.out _ (HBW.out p)).2
      rw [← hc] at hk1 hk2
      rw [← hz] at hk3 hk4
      rw [show decide (m = m) = true from decide_eq_true rfl] at hk5
      have HK1 := Lib.hid hk1; have HK2 := Lib.hid hk2; have HK3 := Lib.hid hk3; have HK4 := Lib.hid hk4; have HK5 := Lib.hid hk5; have HK6 := Lib.hid hk6
      have hcc : (c == c) = true := by simp
      have hzz : (z == z) = true := by simp
      clear hk1 hk2 hk3 hk4 hk5 hk6 hc hz
      have a0 := fun p : Behind w3 => Msgs.c0 (HM3.out.below p.below HM3.out.lt)
      have a1 := fun p : Behind w3 => Msgs.c1 (HM3.out.below p.below HM3.out.lt)
      have a2 := fun p : Behind w3 => Msgs.c2 (HM3.out.below p.below HM3.out.lt)
      have a3 := fun p : Behind w3 => Msgs.c3 (HM3.out.below p.below HM3.out.lt)
      have a4 := fun p : Behind w3 => Msgs.c4 (HM3.out.below p.below HM3.out.lt)
      have a5 := fun p : Behind w3 => Msgs.c5 (HM3.out.below p.below HM3.out.lt)
      have a6 := fun p : Behind w3 => Msgs.c6 (HM3.out.below p.below HM3.out.lt)
      have a7 := fun p : Behind w3 => Msgs.c7 (HM3.out.below p.below HM3.out.lt)
      have a8 := fun p : Behind w3 => Msgs.c8 (HM3.out.below p.below HM3.out.lt)
      have a9 := fun p : Behind w3 => Msgs.c9 (HM3.out.below p.below HM3.out.lt)
      have b0 := fun p : Behind w3 => Msgs.c0 (HN3.out.below p.below HN3.out.lt)
      have b1 := fun p : Behind w3 => Msgs.c1 (HN3.out.below p.below HN3.out.lt)
      have b2 := fun p : Behind w3 => Msgs.c2 (HN3.out.below p.below HN3.out.lt)
      have b3 := fun p : Behind w3 => Msgs.c3 (HN3.out.below p.below HN3.out.lt)
      have b4 := fun p : Behind w3 => Msgs.c4 (HN3.out.below p.below HN3.out.lt)
      have b5 := fun p : Behind w3 => Msgs.c5 (HN3.out.below p.below HN3.out.lt)
      have b6 := fun p : Behind w3 => Msgs.c6 (HN3.out.below p.below HN3.out.lt)
      have b7 := fun p : Behind w3 => Msgs.c7 (HN3.out.below p.below HN3.out.lt)
      have b8 := fun p : Behind w3 => Msgs.c8 (HN3.out.below p.below HN3.out.lt)
      have b9 := fun p : Behind w3 => Msgs.c9 (HN3.out.below p.below HN3.out.lt)
      go_wp2
      refine wp_region_behind (by kernel_rfl) (by kernel_rfl) ?_
      repeat (go_big_quiet_step (first
        | (go_at_call 6; exact Looks.behind (HK1.out _))
        | (go_at_call 7; exact Looks.behind (HK2.out _))
        | (go_at_call_of 8 vi'; exact Looks.behind (HK3.out _))
        | (go_at_call 9; exact Looks.behind (HK4.out _))
        | (go_at_call 8; exact Looks.behind (HK5.out _))
        | (go_at_call 5; exact Truly.behind (HK6.out _))))
      refine wpQuiet_nil ?_
      rintro w99 ⟨⟨w99, hb⟩, rfl⟩
      (try dsimp only)
      clear a0 a1 a2 a3 a4 a5 a6 a7 a8 a9 b0 b1 b2 b3 b4 b5 b6 b7 b8 b9
      all_goals
        go_wp2
        go_ret
        exact truly_of (HB3.out.trans (hb.mono HB3.out.size))

end Go.Proofs.YtenokgkbnpfjmaaDoor
