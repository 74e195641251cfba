/- What is wrong with a message, as the document says; what V1 has not. Written by wip/tools/genrefc13.py. -/
import Derived.Test.YtndicjpbanmpjaaGreatDoorMsRefC1
import Derived.Test.YtndicjpbanmpjaaGreatDoorMsRefC2
import Derived.Test.YtndicjpbanmpjaaGreatDoorMsRefC3
import Derived.Test.YtndicjpbanmpjaaGreatDoorMsRefC4
import Derived.Test.YtndicjpbanmpjaaGreatDoorGEr
namespace Go.Proofs.YtndicjpbanmpjaaGreatDoor
open Go.RowKit

set_option maxRecDepth 8000 in
set_option maxHeartbeats 1600000 in
theorem refCheckM_any (m : Ms.Msg) (ve vi : Value) (w : World) (he : ReadsE w ve m.ents) (hi : Reads w vi m.img) (hs : ∀ e ∈ m.ents, e.cmd.Short 140737488355328) :
    Calls Tryz.prog 21 #[.agg (Ms.cells m ve vi)] w (Looks w (.int .i64 (Ms.check m))) := by
  cases hk : Ms.known m.kind with
  | false =>
    obtain ⟨w1, e1, hl1, hB1, hz1⟩ := box_msg w m ve vi
    have p0 := Msgs.c0 hl1
    have HB1 := Lib.hid hB1
    have HZ : Hid (Ms.check m = 5) := by show _ = _; unfold Ms.check; rw [if_pos hk]
    have hlet := Ms.letters_empty m.kind
    rw [hk, Bool.not_false] at hlet
    clear hl1 hB1 hz1 he hi hs hk
    go_enter Tryz.func21, Tryz.ntmps21
    go_wp2_with fail
    refine (refLetters_any m.kind _).mono ?_
    rintro e2 w2 ⟨rfl, hb⟩
    have HB2 := Lib.hid (HB1.out.trans (hb.mono HB1.out.size))
    clear hb
    go_wp2
    go_ret
    exact ⟨by rw [HZ.out]; rfl, HB2.out⟩
  | true =>
    rcases Ms.sets m.kind with h | h | h | h | h | h | h | h | h | h
    · obtain ⟨g1, g2, g3, g4, g5, g6⟩ := h
      rcases Ms.kinds m.kind with q | q | q | q | q | q | q | q | q | q | q | q
      rotate_right
      · rw [(Ms.has_no q).2.2.2.2.2.2] at hk; cases hk
      all_goals (exfalso; rw [q] at g1 g2 g3 g5 g6; revert g1 g2 g3 g5 g6; decide)
    · obtain ⟨g1, g2, g3, g4, g5, g6⟩ := h
      exact refCheck_100000 m ve vi w he hi hs hk g1 g2 g3 g4 g5 g6
    · obtain ⟨g1, g2, g3, g4, g5, g6⟩ := h
      exact refCheck_011000 m ve vi w he hi hs hk g1 g2 g3 g4 g5 g6
    · obtain ⟨g1, g2, g3, g4, g5, g6⟩ := h
      exact refCheck_011110 m ve vi w he hi hs hk g1 g2 g3 g4 g5 g6
    · obtain ⟨g1, g2, g3, g4, g5, g6⟩ := h
      exact refCheck_010010 m ve vi w he hi hs hk g1 g2 g3 g4 g5 g6
    · obtain ⟨g1, g2, g3, g4, g5, g6⟩ := h
      exact refCheck_010000 m ve vi w he hi hs hk g1 g2 g3 g4 g5 g6
    · obtain ⟨g1, g2, g3, g4, g5, g6⟩ := h
      exact refCheck_010100 m ve vi w he hi hs hk g1 g2 g3 g4 g5 g6
    · obtain ⟨g1, g2, g3, g4, g5, g6⟩ := h
      exact refCheck_001000 m ve vi w he hi hs hk g1 g2 g3 g4 g5 g6
    · obtain ⟨g1, g2, g3, g4, g5, g6⟩ := h
      exact refCheck_000110 m ve vi w he hi hs hk g1 g2 g3 g4 g5 g6
    · obtain ⟨g1, g2, g3, g4, g5, g6⟩ := h
      exact refCheck_000001 m ve vi w he hi hs hk g1 g2 g3 g4 g5 g6

theorem Ms.newer_two {m : Ms.Msg} (h : Ms.check m = 0) : Ms.newer m = (decide (m.version = 2) || !En.has 1 m.ents) := by
  have hg := Ms.check_good h
  have hv : (Ms.hv m.kind && decide (m.version ≠ 1)) = decide (m.version = 2) := by
    cases hk : Ms.hv m.kind with
    | true =>
      have hr := hg.ranged
      unfold Ms.ranged at hr
      rw [hk] at hr
      simp only [Bool.true_and, Bool.and_eq_true, Bool.not_eq_true', Bool.not_eq_false'] at hr
      rcases Vs.may_or m.version with ⟨_, h1 | h1⟩ | ⟨h1, _, _⟩
      · rw [h1]; rfl
      · rw [h1]; rfl
      · rw [h1] at hr; simp at hr
    | false =>
      have hv0 := congrArg Ms.Msg.version hg.own
      rw [show (Ms.own m).version = if Ms.hv m.kind = true then m.version else 0 from rfl, hk] at hv0
      simp only [Bool.false_eq_true, if_false] at hv0
      rw [← hv0]; rfl
  unfold Ms.newer
  rw [hv]

set_option maxRecDepth 4000 in
set_option maxHeartbeats 1600000 in
theorem refOlderM_any (m : Ms.Msg) (ve vi : Value) (w : World) (he : ReadsE w ve m.ents) (hi : Reads w vi m.img) (hs : ∀ e ∈ m.ents, e.cmd.Short 140737488355328) :
    Calls Tryz.prog 20 #[.agg (Ms.cells m ve vi)] w (Looks w (.int .i64 (Ms.older m))) := by
  obtain ⟨w1, e1, hl1, hB1, hz1⟩ := box_msg w m ve vi
  obtain ⟨p0, p1, p2, p3, p4, p5, p6, p7, p8, p9⟩ := Msgs.ten hl1
  have HM1 := Lib.hid hl1; have HB1 := Lib.hid hB1; have HE1 := Lib.hid (he.below hB1)
  have HC1 := Lib.hid (refCheckM_any m ve vi w1 HE1.out (hi.below hB1) hs)
  obtain ⟨r, hr⟩ : ∃ r, r = Ms.older m := ⟨_, rfl⟩
  rw [← hr]
  unfold Ms.older at hr
  have hnew := fun h => Ms.newer_two (m := m) h
  obtain ⟨c, hc⟩ : ∃ c, c = Ms.check m := ⟨_, rfl⟩
  rw [← hc] at hr HC1 hnew
  have HR := Lib.hid hr; have HNEW := Lib.hid hnew
  clear hl1 hB1 hz1 he hi hs hr hc hnew
  go_enter Tryz.func20, Tryz.ntmps20
  go_wp2_with fail
  refine HC1.out.mono ?_
  rintro e2 w2 ⟨rfl, hb⟩
  have HM2 := Lib.hid (HM1.out.below hb HM1.out.lt)
  have HE2 := Lib.hid (HE1.out.below hb); have HB2 := Lib.hid (HB1.out.trans (hb.mono HB1.out.size))
  clear hb p0 p1 p2 p3 p4 p5 p6 p7 p8 p9
  by_cases h0 : c = 0
  · subst h0
    have HR2 := Lib.hid (HR.out.trans (if_neg (by simp)))
    have HN := Lib.hid (HNEW.out rfl)
    have p7 := Msgs.c7 HM2.out
    have p8 := Msgs.c8 HM2.out
    by_cases h2 : m.version = 2
    · have d : (m.version == 2) = true := by simpa using h2
      have HZ : Hid (r = 8) := HR2.out.trans (if_pos (by rw [HN.out, decide_eq_true h2]; rfl))
      clear h2
      go_wp2
      go_ret
      exact ⟨by rw [HZ.out]; rfl, HB2.out⟩
    · have d : (m.version == 2) = false := by simpa using h2
      have HN2 : Hid (Ms.newer m = !En.has 1 m.ents) := HN.out.trans (by rw [decide_eq_false h2]; rfl)
      have HHAS := Lib.hid (refHasE_any 1 ve m.ents w2 HE2.out)
      obtain ⟨y, hy⟩ : ∃ y, y = En.has 1 m.ents := ⟨_, rfl⟩
      rw [← hy] at HHAS HN2
      clear hy h2
      go_wp2_with fail
      refine HHAS.out.mono ?_
      rintro e4 w4 ⟨rfl, hb⟩
      have HB4 := Lib.hid (HB2.out.trans (hb.mono HB2.out.size))
      clear hb p7 p8
      cases y with
      | false =>
        have HZ : Hid (r = 8) := HR2.out.trans (if_pos (by rw [HN2.out]; rfl))
        go_wp2
        go_ret
        exact ⟨by rw [HZ.out]; rfl, HB4.out⟩
      | true =>
        have HZ : Hid (r = 0) := HR2.out.trans (if_neg (by rw [HN2.out]; simp))
        go_wp2
        go_ret
        exact ⟨by rw [HZ.out]; rfl, HB4.out⟩
  · have hne : (c != 0) = true := by simpa using h0
    have HZ : Hid (r = c) := HR.out.trans (if_pos h0)
    go_wp2
    go_ret
    exact ⟨by rw [HZ.out]; rfl, HB2.out⟩


end Go.Proofs.YtndicjpbanmpjaaGreatDoor
