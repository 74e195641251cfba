/- The document's text of an answer. -/
import Derived.Test.YtomdnhlcafpbfaaDoorAnsText
import Derived.Test.YtomdnhlcafpbfaaDoorGCm
namespace Go.Proofs.YtomdnhlcafpbfaaDoor
open Go.RowKit

set_option maxRecDepth 4000 in
set_option maxHeartbeats 3200000 in
theorem arefText_any (a : An.Ans) (w : World) (hc : An.check a = 0) (hs : a.val.length ≤ 4000000) : Calls Tryd.prog 17 #[.agg (An.cells a)] w (Looks w (.string ⟨(An.text a).toArray⟩)) := by
  have hn := An.check_num hc
  have hf := An.check_fits hc
  have HN : Hid ((0 ≤ a.client ∧ a.client < 1000000000000000) ∧ (0 ≤ a.seq ∧ a.seq < 1000000000000000) ∧ (0 ≤ a.err ∧ a.err < 1000000000000000) ∧ (0 ≤ a.rev ∧ a.rev < 1000000000000000)) := by
    show _ ∧ _
    omega
  have HTX : Hid (An.text a = Lib.itoa a.client ++ [32] ++ Lib.itoa a.seq ++ [32] ++ Lib.itoa a.err ++ [32] ++ Lib.itoa a.rev ++ [32] ++ An.yes a.found ++ [32] ++ Qt.quote ⟨a.val.toArray⟩) := by
    show _ = _
    unfold An.text
    rw [if_pos hc, An.line_flat]
  have i1 := Cm.itoa_len a.client hf.c0 hf.c1
  have i2 := Cm.itoa_len a.seq hf.q0 hf.q1
  have i3 := Cm.itoa_len a.err hf.e0 hf.e1
  have i4 := Cm.itoa_len a.rev hf.r0 hf.r1
  have k3 : (Qt.quote ⟨a.val.toArray⟩).length ≤ 20000000 := by have := Qt.quote_len ⟨a.val.toArray⟩; rw [str_size] at this; omega
  have Z1 : Hid ((ByteArray.mk a.val.toArray).size ≤ 1000000000000) := by show _ ≤ _; rw [str_size]; omega
  obtain ⟨w1, e1, hl1, hB1, hz1⟩ := box_ans w a
  obtain ⟨p0, p1, p2, p3, p4, p5⟩ := Anss.every hl1
  have HL1 := Lib.hid hl1; have HB1 := Lib.hid hB1
  clear hl1 hB1 hz1 hn hf hc
  have f1 : ¬ 9223372036854775807 < (Lib.itoa a.client).length + 1 := by omega
  have f2 : ¬ 9223372036854775807 < (Lib.itoa a.client).length + 1 + (Lib.itoa a.seq).length := by omega
  have f3 : ¬ 9223372036854775807 < (Lib.itoa a.client).length + 1 + (Lib.itoa a.seq).length + 1 := by omega
  have f4 : ¬ 9223372036854775807 < (Lib.itoa a.client).length + 1 + (Lib.itoa a.seq).length + 1 + (Lib.itoa a.err).length := by omega
  have f5 : ¬ 9223372036854775807 < (Lib.itoa a.client).length + 1 + (Lib.itoa a.seq).length + 1 + (Lib.itoa a.err).length + 1 := by omega
  have f6 : ¬ 9223372036854775807 < (Lib.itoa a.client).length + 1 + (Lib.itoa a.seq).length + 1 + (Lib.itoa a.err).length + 1 + (Lib.itoa a.rev).length := by omega
  have f7 : ¬ 9223372036854775807 < (Lib.itoa a.client).length + 1 + (Lib.itoa a.seq).length + 1 + (Lib.itoa a.err).length + 1 + (Lib.itoa a.rev).length + 1 := by omega
  cases hfd : a.found with
  | false =>
    rw [hfd] at p3 HTX
    clear hfd
    have f8 : ¬ 9223372036854775807 < (Lib.itoa a.client).length + 1 + (Lib.itoa a.seq).length + 1 + (Lib.itoa a.err).length + 1 + (Lib.itoa a.rev).length + 1 + 2 := by omega
    have f9 : ¬ 9223372036854775807 < (Lib.itoa a.client).length + 1 + (Lib.itoa a.seq).length + 1 + (Lib.itoa a.err).length + 1 + (Lib.itoa a.rev).length + 1 + 2 + 1 := by omega
    have f10 : ¬ 9223372036854775807 < (Lib.itoa a.client).length + 1 + (Lib.itoa a.seq).length + 1 + (Lib.itoa a.err).length + 1 + (Lib.itoa a.rev).length + 1 + 2 + 1 + (Qt.quote ⟨a.val.toArray⟩).length := by omega
    go_enter Tryd.func17, Tryd.ntmps17
    go_wp2
    have HLc := Lib.hid (HL1.out.below (Below.refl _ _).drew HL1.out.lt)
    have HBc := Lib.hid HB1.out.drew
    go_region_held3 (fun w' => w'.cell? ⟨w.heap.size, 0, none⟩ = some (.int .i64 a.client) ∧ w'.cell? ⟨w.heap.size, 1, none⟩ = some (.int .i64 a.seq) ∧ w'.cell? ⟨w.heap.size, 2, none⟩ = some (.int .i64 a.err) ∧
      w'.cell? ⟨w.heap.size, 4, none⟩ = some (.string ⟨a.val.toArray⟩) ∧ w'.cell? ⟨w.heap.size, 5, none⟩ = some (.int .i64 a.rev)) (first | go_keep | exact K3) (first
        | (go_at_call 32; refine (refDigits_any _ _ (by first | exact HN.out.1 | exact HN.out.2.1 | exact HN.out.2.2.1 | exact HN.out.2.2.2)).mono ?_; rintro e3 w3 ⟨rfl, rfl⟩
           have K3 := Anss.five HLc.out)
        | (go_at_call 33; refine (refQuote_any _ _ Z1.out).mono ?_; rintro e3 w3 ⟨rfl, hB3⟩
           have HLd := HLc; have HBd := HBc
           have HLc := Lib.hid (HLd.out.below hB3 HLd.out.lt)
           have HBc := Lib.hid (HBd.out.trans (hB3.mono HBd.out.size))
           have K3 := Anss.five HLc.out))
    all_goals
      go_wp2
      go_ret
      refine ⟨?_, HBc.out⟩
      rw [HTX.out]
      apply str_lit
      simp [An.yes]
  | true =>
    rw [hfd] at p3 HTX
    clear hfd
    have f8 : ¬ 9223372036854775807 < (Lib.itoa a.client).length + 1 + (Lib.itoa a.seq).length + 1 + (Lib.itoa a.err).length + 1 + (Lib.itoa a.rev).length + 1 + 3 := by omega
    have f9 : ¬ 9223372036854775807 < (Lib.itoa a.client).length + 1 + (Lib.itoa a.seq).length + 1 + (Lib.itoa a.err).length + 1 + (Lib.itoa a.rev).length + 1 + 3 + 1 := by omega
    have f10 : ¬ 9223372036854775807 < (Lib.itoa a.client).length + 1 + (Lib.itoa a.seq).length + 1 + (Lib.itoa a.err).length + 1 + (Lib.itoa a.rev).length + 1 + 3 + 1 + (Qt.quote ⟨a.val.toArray⟩).length := by omega
    go_enter Tryd.func17, Tryd.ntmps17
    go_wp2
    have HLc := Lib.hid (HL1.out.below (Below.refl _ _).drew HL1.out.lt)
    have HBc := Lib.hid HB1.out.drew
    go_region_held3 (fun w' => w'.cell? ⟨w.heap.size, 0, none⟩ = some (.int .i64 a.client) ∧ w'.cell? ⟨w.heap.size, 1, none⟩ = some (.int .i64 a.seq) ∧ w'.cell? ⟨w.heap.size, 2, none⟩ = some (.int .i64 a.err) ∧
      w'.cell? ⟨w.heap.size, 4, none⟩ = some (.string ⟨a.val.toArray⟩) ∧ w'.cell? ⟨w.heap.size, 5, none⟩ = some (.int .i64 a.rev)) (first | go_keep | exact K3) (first
        | (go_at_call 32; refine (refDigits_any _ _ (by first | exact HN.out.1 | exact HN.out.2.1 | exact HN.out.2.2.1 | exact HN.out.2.2.2)).mono ?_; rintro e3 w3 ⟨rfl, rfl⟩
           have K3 := Anss.five HLc.out)
        | (go_at_call 33; refine (refQuote_any _ _ Z1.out).mono ?_; rintro e3 w3 ⟨rfl, hB3⟩
           have HLd := HLc; have HBd := HBc
           have HLc := Lib.hid (HLd.out.below hB3 HLd.out.lt)
           have HBc := Lib.hid (HBd.out.trans (hB3.mono HBd.out.size))
           have K3 := Anss.five HLc.out))
    all_goals
      go_wp2
      go_ret
      refine ⟨?_, HBc.out⟩
      rw [HTX.out]
      apply str_lit
      simp [An.yes]

end Go.Proofs.YtomdnhlcafpbfaaDoor
