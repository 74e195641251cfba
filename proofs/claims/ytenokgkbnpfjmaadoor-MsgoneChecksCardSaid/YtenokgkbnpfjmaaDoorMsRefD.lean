/- What is wrong with a message, as the document says; what V1 has not. Written by wip/tools/genrefc13.py. -/
import Derived.Test.YtenokgkbnpfjmaaDoorMsRefC1
import Derived.Test.YtenokgkbnpfjmaaDoorMsRefC2
import Derived.Test.YtenokgkbnpfjmaaDoorMsRefC3
import Derived.Test.YtenokgkbnpfjmaaDoorMsRefC4
import Derived.Test.YtenokgkbnpfjmaaDoorGEr
namespace Go.Proofs.YtenokgkbnpfjmaaDoor
open Go.RowKit

set_option maxRecDepth 8000 in
set_option maxHeartbeats 1600000 in
theorem refCheckM_any (m : Ms.Msg) (ve vi : Value) (w : World) (he : ReadsE w ve m.ents) (hi : Reads w vi m.img) (hs : ∀ e ∈ m.ents, e.cmd.Short 140737488355328) :
    Calls Tryd.prog 7 #[.agg (Ms.cells m ve vi)] w (Looks w (.int .i64 (Ms.check m))) := by
  cases hk : Ms.known m.kind with
  | false =>
    obtain ⟨w1, e1, hl1, hB1, hz1⟩ := box_msg w m ve vi
    have p0 := Msgs.c0 hl1
    have HB1 := Lib.hid hB1
    have HZ : Hid (Ms.check m = 5) := by show _ = _; unfold Ms.check; rw [if_pos hk]
    have hlet := Ms.letters_empty m.kind
    rw [hk, Bool.not_false] at hlet
    clear hl1 hB1 hz1 he hi hs hk
    go_enter Tryd.func7, Tryd.ntmps7
    go_wp2_with fail
    refine (refLetters_any m.kind _).mono ?_
    rintro e2 w2 ⟨rfl, hb⟩
    have HB2 := Lib.hid (HB1.out.trans (hb.mono HB1.out.size))
    clear hb
    go_wp2
    go_ret
    exact ⟨by rw [HZ.out]; rfl, HB2.out⟩
  | true =>
    rcases Ms.sets m.kind with h | h | h | h | h | h | h | h | h | h
    · obtain ⟨g1, g2, g3, g4, g5, g6⟩ := h
      rcases Ms.kinds m.kind with q | q | q | q | q | q | q | q | q | q | q | q
      rotate_right
      · rw [(Ms.has_no q).2.2.2.2.2.2] at hk; cases hk
      all_goals (exfalso; rw [q] at g1 g2 g3 g5 g6; revert g1 g2 g3 g5 g6; decide)
    · obtain ⟨g1, g2, g3, g4, g5, g6⟩ := h
      exact refCheck_100000 m ve vi w he hi hs hk g1 g2 g3 g4 g5 g6
    · obtain ⟨g1, g2, g3, g4, g5, g6⟩ := h
      exact refCheck_011000 m ve vi w he hi hs hk g1 g2 g3 g4 g5 g6
    · obtain ⟨g1, g2, g3, g4, g5, g6⟩ := h
      exact refCheck_011110 m ve vi w he hi hs hk g1 g2 g3 g4 g5 g6
    · obtain ⟨g1, g2, g3, g4, g5, g6⟩ := h
      exact refCheck_010010 m ve vi w he hi hs hk g1 g2 g3 g4 g5 g6
    · obtain ⟨g1, g2, g3, g4, g5, g6⟩ := h
      exact refCheck_010000 m ve vi w he hi hs hk g1 g2 g3 g4 g5 g6
    · obtain ⟨g1, g2, g3, g4, g5, g6⟩ := h
      exact refCheck_010100 m ve vi w he hi hs hk g1 g2 g3 g4 g5 g6
    · obtain ⟨g1, g2, g3, g4, g5, g6⟩ := h
      exact refCheck_001000 m ve vi w he hi hs hk g1 g2 g3 g4 g5 g6
    · obtain ⟨g1, g2, g3, g4, g5, g6⟩ := h
      exact refCheck_000110 m ve vi w he hi hs hk g1 g2 g3 g4 g5 g6
    · obtain ⟨g1, g2, g3, g4, g5, g6⟩ := h
      exact refCheck_000001 m ve vi w he hi hs hk g1 g2 g3 g4 g5 g6

theorem Ms.newer_two {m : Ms.Msg} (h : Ms.check m = 0) : Ms.newer m = (decide (m.version = 2) || !En.has 1 m.ents) := by
  have hg := Ms.check_good h
  have hv : (Ms.hv m.kind && decide (m.version ≠ 1)) = decide (m.version = 2) := by
    cases hk : Ms.hv m.kind with
    | true =>
      have hr := hg.ranged
      unfold Ms.ranged at hr
      rw [hk] at hr
      simp only [Bool.true_and, Bool.and_eq_true, Bool.not_eq_true', Bool.not_eq_false'] at hr
      rcases Vs.may_or m.version with ⟨_, h1 | h1⟩ | ⟨h1, _, _⟩
      · rw [h1]; rfl
      · rw [h1]; rfl
      · rw [h1] at hr; simp at hr
    | false =>
      have hv0 := congrArg Ms.Msg.version hg.own
      rw [show (Ms.own m).version = if Ms.hv m.kind = true then m.version else 0 from rfl, hk] at hv0
      simp only [Bool.false_eq_true, if_false] at hv0
      rw [← hv0]; rfl
  unfold Ms.newer
  rw [hv]

end Go.Proofs.YtenokgkbnpfjmaaDoor
