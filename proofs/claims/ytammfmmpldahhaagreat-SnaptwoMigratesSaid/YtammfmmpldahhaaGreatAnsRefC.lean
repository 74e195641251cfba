/- The document's Check of an answer. -/
import Derived.Test.YtammfmmpldahhaaGreatAnsChk
import Derived.Test.YtammfmmpldahhaaGreatGRune
namespace Go.Proofs.YtammfmmpldahhaaGreat
open Go.RowKit

set_option maxRecDepth 4000 in
set_option maxHeartbeats 3200000 in
theorem arefCheck_any (a : An.Ans) (w : World) (hs : a.val.length ≤ 140737488355328) : Calls Tryz.prog 53 #[.agg (An.cells a)] w (Looks w (.int .i64 (An.check a))) := by
  have hsz : (ByteArray.mk a.val.toArray).size ≤ 140737488355328 := by rw [str_size]; exact hs
  obtain ⟨w1, e1, hl1, hB1, hz1⟩ := box_ans w a
  obtain ⟨p0, p1, p2, p3, p4, p5⟩ := Anss.every hl1
  have HB1 := Lib.hid hB1
  clear hl1 hB1 hz1 hs
  obtain ⟨r, hr⟩ : ∃ r, r = An.check a := ⟨_, rfl⟩
  rw [← hr]
  unfold An.check at hr
  have HR := Lib.hid hr
  clear hr
  obtain ⟨S, hS⟩ : ∃ S, S = ByteArray.mk a.val.toArray := ⟨_, rfl⟩
  rw [← hS] at p4 hsz HR
  clear hS
  by_cases h0 : a.client < 1
  · have d0 : decide (a.client < 1) = true := decide_eq_true h0
    have HE : Hid (r = 6) := by
      show _ = _
      rw [HR.out, if_pos]
      unfold An.okN An.within
      simp only [Bool.and_eq_false_iff, decide_eq_false_iff_not]
      omega
    clear h0
    go_enter Tryz.func53, Tryz.ntmps53
    go_wp2
    go_ret
    exact ⟨by rw [HE.out]; rfl, HB1.out⟩
  have d0 : decide (a.client < 1) = false := decide_eq_false h0
  by_cases h1 : 8 < a.client
  · have d1 : decide (8 < a.client) = true := decide_eq_true h1
    have HE : Hid (r = 6) := by
      show _ = _
      rw [HR.out, if_pos]
      unfold An.okN An.within
      simp only [Bool.and_eq_false_iff, decide_eq_false_iff_not]
      omega
    clear h1
    go_enter Tryz.func53, Tryz.ntmps53
    go_wp2
    go_ret
    exact ⟨by rw [HE.out]; rfl, HB1.out⟩
  have d1 : decide (8 < a.client) = false := decide_eq_false h1
  by_cases h2 : a.seq < 1
  · have d2 : decide (a.seq < 1) = true := decide_eq_true h2
    have HE : Hid (r = 6) := by
      show _ = _
      rw [HR.out, if_pos]
      unfold An.okN An.within
      simp only [Bool.and_eq_false_iff, decide_eq_false_iff_not]
      omega
    clear h2
    go_enter Tryz.func53, Tryz.ntmps53
    go_wp2
    go_ret
    exact ⟨by rw [HE.out]; rfl, HB1.out⟩
  have d2 : decide (a.seq < 1) = false := decide_eq_false h2
  by_cases h3 : 4294967296 < a.seq
  · have d3 : decide (4294967296 < a.seq) = true := decide_eq_true h3
    have HE : Hid (r = 6) := by
      show _ = _
      rw [HR.out, if_pos]
      unfold An.okN An.within
      simp only [Bool.and_eq_false_iff, decide_eq_false_iff_not]
      omega
    clear h3
    go_enter Tryz.func53, Tryz.ntmps53
    go_wp2
    go_ret
    exact ⟨by rw [HE.out]; rfl, HB1.out⟩
  have d3 : decide (4294967296 < a.seq) = false := decide_eq_false h3
  by_cases h4 : a.err < 0
  · have d4 : decide (a.err < 0) = true := decide_eq_true h4
    have HE : Hid (r = 6) := by
      show _ = _
      rw [HR.out, if_pos]
      unfold An.okN An.within
      simp only [Bool.and_eq_false_iff, decide_eq_false_iff_not]
      omega
    clear h4
    go_enter Tryz.func53, Tryz.ntmps53
    go_wp2
    go_ret
    exact ⟨by rw [HE.out]; rfl, HB1.out⟩
  have d4 : decide (a.err < 0) = false := decide_eq_false h4
  by_cases h5 : 17 < a.err
  · have d5 : decide (17 < a.err) = true := decide_eq_true h5
    have HE : Hid (r = 6) := by
      show _ = _
      rw [HR.out, if_pos]
      unfold An.okN An.within
      simp only [Bool.and_eq_false_iff, decide_eq_false_iff_not]
      omega
    clear h5
    go_enter Tryz.func53, Tryz.ntmps53
    go_wp2
    go_ret
    exact ⟨by rw [HE.out]; rfl, HB1.out⟩
  have d5 : decide (17 < a.err) = false := decide_eq_false h5
  by_cases h6 : a.rev < 0
  · have d6 : decide (a.rev < 0) = true := decide_eq_true h6
    have HE : Hid (r = 6) := by
      show _ = _
      rw [HR.out, if_pos]
      unfold An.okN An.within
      simp only [Bool.and_eq_false_iff, decide_eq_false_iff_not]
      omega
    clear h6
    go_enter Tryz.func53, Tryz.ntmps53
    go_wp2
    go_ret
    exact ⟨by rw [HE.out]; rfl, HB1.out⟩
  have d6 : decide (a.rev < 0) = false := decide_eq_false h6
  by_cases h7 : 4294967296 < a.rev
  · have d7 : decide (4294967296 < a.rev) = true := decide_eq_true h7
    have HE : Hid (r = 6) := by
      show _ = _
      rw [HR.out, if_pos]
      unfold An.okN An.within
      simp only [Bool.and_eq_false_iff, decide_eq_false_iff_not]
      omega
    clear h7
    go_enter Tryz.func53, Tryz.ntmps53
    go_wp2
    go_ret
    exact ⟨by rw [HE.out]; rfl, HB1.out⟩
  have d7 : decide (4294967296 < a.rev) = false := decide_eq_false h7
  have HE : Hid (r = if Rn.val S = false then 7 else 0) := by
    show _ = _
    rw [HR.out, if_neg]
    unfold An.okN An.within
    simp only [Bool.and_eq_false_iff, decide_eq_false_iff_not]
    omega
  clear h0 h1 h2 h3 h4 h5 h6 h7
  go_enter Tryz.func53, Tryz.ntmps53
  go_wp2_with fail
  refine (refVal_any S _ hsz).mono ?_
  rintro e w2 ⟨rfl, rfl⟩
  obtain ⟨t, ht⟩ : ∃ t, t = Rn.val S := ⟨_, rfl⟩
  rw [← ht] at HE ⊢
  clear ht
  cases t with
  | false =>
    go_wp2
    go_ret
    exact ⟨by rw [HE.out]; rfl, HB1.out⟩
  | true =>
    go_wp2
    go_ret
    exact ⟨by rw [HE.out]; rfl, HB1.out⟩

end Go.Proofs.YtammfmmpldahhaaGreat
