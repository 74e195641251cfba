/- The kind whose word it is. -/
import Derived.Test.YteaebmgnofmemaaGreatDoorCmdHear
namespace Go.Proofs.YteaebmgnofmemaaGreatDoor
open Go.RowKit

def Cm.kindOf (w : List UInt8) : Int :=
  if w = [] then 0 else if w = [110, 111, 112] then 1 else if w = [112, 117, 116] then 2 else if w = [103, 101, 116] then 3 else if w = [100, 101, 108] then 4 else if w = [99, 97, 115] then 5
  else if w = [97, 99, 116, 105, 118, 97, 116, 101] then 6 else if w = [97, 100, 100] then 7 else if w = [100, 114, 111, 112] then 8 else 0

theorem eq_const (a : List UInt8) (s : ByteArray) : (a == s.toList) = decide (s.data.toList = a) := by
  rw [ByteArray.toList_eq]
  by_cases h : s.data.toList = a
  · rw [decide_eq_true h, h]; simp
  · rw [decide_eq_false h, beq_eq_false_iff_ne]; exact fun e => h e.symm

theorem index_0 (W : World) : (Instr.index 58 (.agg #[.string ⟨#[]⟩, .string ⟨#[110, 111, 112]⟩, .string ⟨#[112, 117, 116]⟩, .string ⟨#[103, 101, 116]⟩, .string ⟨#[100, 101, 108]⟩, .string ⟨#[99, 97, 115]⟩, .string ⟨#[97, 99, 116, 105, 118, 97, 116, 101]⟩, .string ⟨#[97, 100, 100]⟩, .string ⟨#[100, 114, 111, 112]⟩]) (.int .i64 0)).run Tryz.prog W = .ok (.string ⟨#[]⟩) W := by kernel_rfl
theorem index_1 (W : World) : (Instr.index 58 (.agg #[.string ⟨#[]⟩, .string ⟨#[110, 111, 112]⟩, .string ⟨#[112, 117, 116]⟩, .string ⟨#[103, 101, 116]⟩, .string ⟨#[100, 101, 108]⟩, .string ⟨#[99, 97, 115]⟩, .string ⟨#[97, 99, 116, 105, 118, 97, 116, 101]⟩, .string ⟨#[97, 100, 100]⟩, .string ⟨#[100, 114, 111, 112]⟩]) (.int .i64 1)).run Tryz.prog W = .ok (.string ⟨#[110, 111, 112]⟩) W := by kernel_rfl
theorem index_2 (W : World) : (Instr.index 58 (.agg #[.string ⟨#[]⟩, .string ⟨#[110, 111, 112]⟩, .string ⟨#[112, 117, 116]⟩, .string ⟨#[103, 101, 116]⟩, .string ⟨#[100, 101, 108]⟩, .string ⟨#[99, 97, 115]⟩, .string ⟨#[97, 99, 116, 105, 118, 97, 116, 101]⟩, .string ⟨#[97, 100, 100]⟩, .string ⟨#[100, 114, 111, 112]⟩]) (.int .i64 2)).run Tryz.prog W = .ok (.string ⟨#[112, 117, 116]⟩) W := by kernel_rfl
theorem index_3 (W : World) : (Instr.index 58 (.agg #[.string ⟨#[]⟩, .string ⟨#[110, 111, 112]⟩, .string ⟨#[112, 117, 116]⟩, .string ⟨#[103, 101, 116]⟩, .string ⟨#[100, 101, 108]⟩, .string ⟨#[99, 97, 115]⟩, .string ⟨#[97, 99, 116, 105, 118, 97, 116, 101]⟩, .string ⟨#[97, 100, 100]⟩, .string ⟨#[100, 114, 111, 112]⟩]) (.int .i64 3)).run Tryz.prog W = .ok (.string ⟨#[103, 101, 116]⟩) W := by kernel_rfl
theorem index_4 (W : World) : (Instr.index 58 (.agg #[.string ⟨#[]⟩, .string ⟨#[110, 111, 112]⟩, .string ⟨#[112, 117, 116]⟩, .string ⟨#[103, 101, 116]⟩, .string ⟨#[100, 101, 108]⟩, .string ⟨#[99, 97, 115]⟩, .string ⟨#[97, 99, 116, 105, 118, 97, 116, 101]⟩, .string ⟨#[97, 100, 100]⟩, .string ⟨#[100, 114, 111, 112]⟩]) (.int .i64 4)).run Tryz.prog W = .ok (.string ⟨#[100, 101, 108]⟩) W := by kernel_rfl
theorem index_5 (W : World) : (Instr.index 58 (.agg #[.string ⟨#[]⟩, .string ⟨#[110, 111, 112]⟩, .string ⟨#[112, 117, 116]⟩, .string ⟨#[103, 101, 116]⟩, .string ⟨#[100, 101, 108]⟩, .string ⟨#[99, 97, 115]⟩, .string ⟨#[97, 99, 116, 105, 118, 97, 116, 101]⟩, .string ⟨#[97, 100, 100]⟩, .string ⟨#[100, 114, 111, 112]⟩]) (.int .i64 5)).run Tryz.prog W = .ok (.string ⟨#[99, 97, 115]⟩) W := by kernel_rfl
theorem index_6 (W : World) : (Instr.index 58 (.agg #[.string ⟨#[]⟩, .string ⟨#[110, 111, 112]⟩, .string ⟨#[112, 117, 116]⟩, .string ⟨#[103, 101, 116]⟩, .string ⟨#[100, 101, 108]⟩, .string ⟨#[99, 97, 115]⟩, .string ⟨#[97, 99, 116, 105, 118, 97, 116, 101]⟩, .string ⟨#[97, 100, 100]⟩, .string ⟨#[100, 114, 111, 112]⟩]) (.int .i64 6)).run Tryz.prog W = .ok (.string ⟨#[97, 99, 116, 105, 118, 97, 116, 101]⟩) W := by kernel_rfl
theorem index_7 (W : World) : (Instr.index 58 (.agg #[.string ⟨#[]⟩, .string ⟨#[110, 111, 112]⟩, .string ⟨#[112, 117, 116]⟩, .string ⟨#[103, 101, 116]⟩, .string ⟨#[100, 101, 108]⟩, .string ⟨#[99, 97, 115]⟩, .string ⟨#[97, 99, 116, 105, 118, 97, 116, 101]⟩, .string ⟨#[97, 100, 100]⟩, .string ⟨#[100, 114, 111, 112]⟩]) (.int .i64 7)).run Tryz.prog W = .ok (.string ⟨#[97, 100, 100]⟩) W := by kernel_rfl
theorem index_8 (W : World) : (Instr.index 58 (.agg #[.string ⟨#[]⟩, .string ⟨#[110, 111, 112]⟩, .string ⟨#[112, 117, 116]⟩, .string ⟨#[103, 101, 116]⟩, .string ⟨#[100, 101, 108]⟩, .string ⟨#[99, 97, 115]⟩, .string ⟨#[97, 99, 116, 105, 118, 97, 116, 101]⟩, .string ⟨#[97, 100, 100]⟩, .string ⟨#[100, 114, 111, 112]⟩]) (.int .i64 8)).run Tryz.prog W = .ok (.string ⟨#[100, 114, 111, 112]⟩) W := by kernel_rfl

set_option maxRecDepth 8000 in
set_option maxHeartbeats 3200000 in
theorem kindOf_any (s : ByteArray) (w : World) (hv : WordsIn w) : Calls Tryz.prog 18 #[.string s] w (Says w (.int .i64 (Cm.kindOf s.data.toList))) := by
  have k0 : w.cell? ⟨0, 0, none⟩ = some (.string ⟨#[]⟩) := hv.cell 0
  have k1 : w.cell? ⟨0, 1, none⟩ = some (.string ⟨#[110, 111, 112]⟩) := hv.cell 1
  have k2 : w.cell? ⟨0, 2, none⟩ = some (.string ⟨#[112, 117, 116]⟩) := hv.cell 2
  have k3 : w.cell? ⟨0, 3, none⟩ = some (.string ⟨#[103, 101, 116]⟩) := hv.cell 3
  have k4 : w.cell? ⟨0, 4, none⟩ = some (.string ⟨#[100, 101, 108]⟩) := hv.cell 4
  have k5 : w.cell? ⟨0, 5, none⟩ = some (.string ⟨#[99, 97, 115]⟩) := hv.cell 5
  have k6 : w.cell? ⟨0, 6, none⟩ = some (.string ⟨#[97, 99, 116, 105, 118, 97, 116, 101]⟩) := hv.cell 6
  have k7 : w.cell? ⟨0, 7, none⟩ = some (.string ⟨#[97, 100, 100]⟩) := hv.cell 7
  have k8 : w.cell? ⟨0, 8, none⟩ = some (.string ⟨#[100, 114, 111, 112]⟩) := hv.cell 8
  have c0 : s.toList.isEmpty = decide (s.data.toList = []) := by
    rw [ByteArray.toList_eq]
    cases s.data.toList <;> simp
  have c1 := eq_const [110, 111, 112] s
  have c2 := eq_const [112, 117, 116] s
  have c3 := eq_const [103, 101, 116] s
  have c4 := eq_const [100, 101, 108] s
  have c5 := eq_const [99, 97, 115] s
  have c6 := eq_const [97, 99, 116, 105, 118, 97, 116, 101] s
  have c7 := eq_const [97, 100, 100] s
  have c8 := eq_const [100, 114, 111, 112] s
  have e0 := index_0; have e1 := index_1; have e2 := index_2; have e3 := index_3; have e4 := index_4; have e5 := index_5; have e6 := index_6; have e7 := index_7; have e8 := index_8
  clear hv
  obtain ⟨b0, hb0⟩ : ∃ b, b = decide (s.data.toList = []) := ⟨_, rfl⟩
  rw [← hb0] at c0
  have HB0 := Lib.hid hb0
  clear hb0
  obtain ⟨b1, hb1⟩ : ∃ b, b = decide (s.data.toList = [110, 111, 112]) := ⟨_, rfl⟩
  rw [← hb1] at c1
  have HB1 := Lib.hid hb1
  clear hb1
  obtain ⟨b2, hb2⟩ : ∃ b, b = decide (s.data.toList = [112, 117, 116]) := ⟨_, rfl⟩
  rw [← hb2] at c2
  have HB2 := Lib.hid hb2
  clear hb2
  obtain ⟨b3, hb3⟩ : ∃ b, b = decide (s.data.toList = [103, 101, 116]) := ⟨_, rfl⟩
  rw [← hb3] at c3
  have HB3 := Lib.hid hb3
  clear hb3
  obtain ⟨b4, hb4⟩ : ∃ b, b = decide (s.data.toList = [100, 101, 108]) := ⟨_, rfl⟩
  rw [← hb4] at c4
  have HB4 := Lib.hid hb4
  clear hb4
  obtain ⟨b5, hb5⟩ : ∃ b, b = decide (s.data.toList = [99, 97, 115]) := ⟨_, rfl⟩
  rw [← hb5] at c5
  have HB5 := Lib.hid hb5
  clear hb5
  obtain ⟨b6, hb6⟩ : ∃ b, b = decide (s.data.toList = [97, 99, 116, 105, 118, 97, 116, 101]) := ⟨_, rfl⟩
  rw [← hb6] at c6
  have HB6 := Lib.hid hb6
  clear hb6
  obtain ⟨b7, hb7⟩ : ∃ b, b = decide (s.data.toList = [97, 100, 100]) := ⟨_, rfl⟩
  rw [← hb7] at c7
  have HB7 := Lib.hid hb7
  clear hb7
  obtain ⟨b8, hb8⟩ : ∃ b, b = decide (s.data.toList = [100, 114, 111, 112]) := ⟨_, rfl⟩
  rw [← hb8] at c8
  have HB8 := Lib.hid hb8
  clear hb8
  obtain ⟨r, hr⟩ : ∃ r, r = Cm.kindOf s.data.toList := ⟨_, rfl⟩
  rw [← hr]
  unfold Cm.kindOf at hr
  have HR := Lib.hid hr
  clear hr
  go_enter Tryz.func18, Tryz.ntmps18
  go_wp2
  refine wp_loop_rounds 10 ?_
  rw [rounds_succ]
  cases b0 with
  | true =>
    have HZ : Hid (r = 0) := by show _ = _; rw [HR.out, if_pos (of_decide_eq_true HB0.out.symm)]
    go_wp2
    go_ret
    exact ⟨by rw [HZ.out]; rfl, rfl⟩
  | false =>
    go_wp2
    rw [rounds_succ]
    cases b1 with
    | true =>
      have HZ : Hid (r = 1) := by show _ = _; rw [HR.out, if_neg (of_decide_eq_false HB0.out.symm), if_pos (of_decide_eq_true HB1.out.symm)]
      go_wp2
      go_ret
      exact ⟨by rw [HZ.out]; rfl, rfl⟩
    | false =>
      go_wp2
      rw [rounds_succ]
      cases b2 with
      | true =>
        have HZ : Hid (r = 2) := by show _ = _; rw [HR.out, if_neg (of_decide_eq_false HB0.out.symm), if_neg (of_decide_eq_false HB1.out.symm), if_pos (of_decide_eq_true HB2.out.symm)]
        go_wp2
        go_ret
        exact ⟨by rw [HZ.out]; rfl, rfl⟩
      | false =>
        go_wp2
        rw [rounds_succ]
        cases b3 with
        | true =>
          have HZ : Hid (r = 3) := by show _ = _; rw [HR.out, if_neg (of_decide_eq_false HB0.out.symm), if_neg (of_decide_eq_false HB1.out.symm), if_neg (of_decide_eq_false HB2.out.symm), if_pos (of_decide_eq_true HB3.out.symm)]
          go_wp2
          go_ret
          exact ⟨by rw [HZ.out]; rfl, rfl⟩
        | false =>
          go_wp2
          rw [rounds_succ]
          cases b4 with
          | true =>
            have HZ : Hid (r = 4) := by show _ = _; rw [HR.out, if_neg (of_decide_eq_false HB0.out.symm), if_neg (of_decide_eq_false HB1.out.symm), if_neg (of_decide_eq_false HB2.out.symm), if_neg (of_decide_eq_false HB3.out.symm), if_pos (of_decide_eq_true HB4.out.symm)]
            go_wp2
            go_ret
            exact ⟨by rw [HZ.out]; rfl, rfl⟩
          | false =>
            go_wp2
            rw [rounds_succ]
            cases b5 with
            | true =>
              have HZ : Hid (r = 5) := by show _ = _; rw [HR.out, if_neg (of_decide_eq_false HB0.out.symm), if_neg (of_decide_eq_false HB1.out.symm), if_neg (of_decide_eq_false HB2.out.symm), if_neg (of_decide_eq_false HB3.out.symm), if_neg (of_decide_eq_false HB4.out.symm), if_pos (of_decide_eq_true HB5.out.symm)]
              go_wp2
              go_ret
              exact ⟨by rw [HZ.out]; rfl, rfl⟩
            | false =>
              go_wp2
              rw [rounds_succ]
              cases b6 with
              | true =>
                have HZ : Hid (r = 6) := by show _ = _; rw [HR.out, if_neg (of_decide_eq_false HB0.out.symm), if_neg (of_decide_eq_false HB1.out.symm), if_neg (of_decide_eq_false HB2.out.symm), if_neg (of_decide_eq_false HB3.out.symm), if_neg (of_decide_eq_false HB4.out.symm), if_neg (of_decide_eq_false HB5.out.symm), if_pos (of_decide_eq_true HB6.out.symm)]
                go_wp2
                go_ret
                exact ⟨by rw [HZ.out]; rfl, rfl⟩
              | false =>
                go_wp2
                rw [rounds_succ]
                cases b7 with
                | true =>
                  have HZ : Hid (r = 7) := by show _ = _; rw [HR.out, if_neg (of_decide_eq_false HB0.out.symm), if_neg (of_decide_eq_false HB1.out.symm), if_neg (of_decide_eq_false HB2.out.symm), if_neg (of_decide_eq_false HB3.out.symm), if_neg (of_decide_eq_false HB4.out.symm), if_neg (of_decide_eq_false HB5.out.symm), if_neg (of_decide_eq_false HB6.out.symm), if_pos (of_decide_eq_true HB7.out.symm)]
                  go_wp2
                  go_ret
                  exact ⟨by rw [HZ.out]; rfl, rfl⟩
                | false =>
                  go_wp2
                  rw [rounds_succ]
                  cases b8 with
                  | true =>
                    have HZ : Hid (r = 8) := by show _ = _; rw [HR.out, if_neg (of_decide_eq_false HB0.out.symm), if_neg (of_decide_eq_false HB1.out.symm), if_neg (of_decide_eq_false HB2.out.symm), if_neg (of_decide_eq_false HB3.out.symm), if_neg (of_decide_eq_false HB4.out.symm), if_neg (of_decide_eq_false HB5.out.symm), if_neg (of_decide_eq_false HB6.out.symm), if_neg (of_decide_eq_false HB7.out.symm), if_pos (of_decide_eq_true HB8.out.symm)]
                    go_wp2
                    go_ret
                    exact ⟨by rw [HZ.out]; rfl, rfl⟩
                  | false =>
                    go_wp2
                    rw [rounds_succ]
                    have HZ : Hid (r = 0) := by show _ = _; rw [HR.out, if_neg (of_decide_eq_false HB0.out.symm), if_neg (of_decide_eq_false HB1.out.symm), if_neg (of_decide_eq_false HB2.out.symm), if_neg (of_decide_eq_false HB3.out.symm), if_neg (of_decide_eq_false HB4.out.symm), if_neg (of_decide_eq_false HB5.out.symm), if_neg (of_decide_eq_false HB6.out.symm), if_neg (of_decide_eq_false HB7.out.symm), if_neg (of_decide_eq_false HB8.out.symm)]
                    go_wp2
                    go_ret
                    exact ⟨by rw [HZ.out]; rfl, rfl⟩

end Go.Proofs.YteaebmgnofmemaaGreatDoor
