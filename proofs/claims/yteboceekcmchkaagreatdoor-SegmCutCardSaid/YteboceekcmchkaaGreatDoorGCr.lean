/- Several texts of mine in one: CmdRef CmdHas. -/
import Derived.Test.YteboceekcmchkaaGreatDoorPCmdChk
import Derived.Test.YteboceekcmchkaaGreatDoorGRune
namespace Go.Proofs.YteboceekcmchkaaGreatDoor
open Go.RowKit
set_option maxHeartbeats 1600000
set_option maxRecDepth 4000
section
theorem refOwned_any (k : Int) (w : World) : Calls Tryz.prog 82 #[.int .i64 k] w (Says w (.bool (Cm.owned k))) := by
 unfold Cm.owned
 by_cases h : 2 ≤ k
 ·have d : decide (2 ≤ k) = true := decide_eq_true h
  rw [d, Bool.true_and]
  go_enter Tryz.func82, Tryz.ntmps82
  go_wp2
  go_ret
  exact ⟨rfl, rfl⟩
 ·have d : decide (2 ≤ k) = false := decide_eq_false h
  rw [d, Bool.false_and]
  go_enter Tryz.func82, Tryz.ntmps82
  go_wp2
  go_ret
  exact ⟨rfl, rfl⟩
theorem refMember_any (k : Int) (w : World) : Calls Tryz.prog 83 #[.int .i64 k] w (Says w (.bool (Cm.member k))) := by
 unfold Cm.member
 obtain ⟨a, ha⟩ : ∃ a, (k == 7) = a := ⟨_, rfl⟩
 rw [ha]
 cases a with
 | true =>
  go_enter Tryz.func83, Tryz.ntmps83
  go_wp2
  go_ret
  exact ⟨rfl, rfl⟩
 | false =>
  go_enter Tryz.func83, Tryz.ntmps83
  go_wp2
  go_ret
  exact ⟨rfl, rfl⟩
def Cm.refCheck (c : Cm.Cmd) : Int :=
 if c.kind < 1 ∨ 8 < c.kind then 5
 else if (Cm.owned c.kind = true ∧ (c.client < 1 ∨ 8 < c.client ∨ c.seq < 1 ∨ 4294967296 < c.seq)) ∨ (Cm.member c.kind = true ∧ (c.node < 1 ∨ 9 < c.node)) then 6
 else if (Cm.owned c.kind = true ∧ Rn.key ⟨c.key.toArray⟩ = false) ∨ (Cm.valued c.kind = true ∧ Rn.val ⟨c.val.toArray⟩ = false) ∨ (c.kind = 5 ∧ Rn.val ⟨c.old.toArray⟩ = false) then 7
 else if (Cm.owned c.kind = false ∧ (c.client ≠ 0 ∨ c.seq ≠ 0 ∨ c.key ≠ [])) ∨ (Cm.valued c.kind = false ∧ c.val ≠ []) ∨ (c.kind ≠ 5 ∧ c.old ≠ []) ∨ (Cm.member c.kind = false ∧ c.node ≠ 0) then 3
 else 0
theorem Cm.refCheck_eq (c : Cm.Cmd) : Cm.refCheck c = Cm.check c := by
 obtain ⟨k, cl, sq, nd, ky, od, vl⟩ := c
 unfold Cm.refCheck Cm.check Cm.alone Cm.within Cm.spelt Cm.okS
 dsimp only
 rcases Vs.kinds k with rfl | rfl | rfl | rfl | rfl | rfl | rfl | rfl | h
 rotate_right
 ·have : Cm.known k = false := by simp [Cm.known]; omega
  rw [if_pos h, if_pos this]
 all_goals
  simp [Cm.known, Cm.owned, Cm.member, Cm.valued, Cm.fields, Cm.F.num, Cm.F.most, Cm.Cmd.n, Cm.Cmd.s, Cm.wipe, Cm.Cmd.setN, Cm.Cmd.setS, Cm.bareOf]
  generalize Rn.key { data := ky.toArray } = kx
  generalize Rn.val { data := vl.toArray } = vx
  generalize Rn.val { data := od.toArray } = ox
  grind
def Cm.refB (k cl sq nd : Int) (kx vx ox ek ev eo : Bool) : Int :=
 if k < 1 ∨ 8 < k then 5
 else if (Cm.owned k = true ∧ (cl < 1 ∨ 8 < cl ∨ sq < 1 ∨ 4294967296 < sq)) ∨ (Cm.member k = true ∧ (nd < 1 ∨ 9 < nd)) then 6
 else if (Cm.owned k = true ∧ kx = false) ∨ (Cm.valued k = true ∧ vx = false) ∨ (k = 5 ∧ ox = false) then 7
 else if (Cm.owned k = false ∧ (cl ≠ 0 ∨ sq ≠ 0 ∨ ek = false)) ∨ (Cm.valued k = false ∧ ev = false) ∨ (k ≠ 5 ∧ eo = false) ∨ (Cm.member k = false ∧ nd ≠ 0) then 3
 else 0
theorem Cm.refB_eq (c : Cm.Cmd) : Cm.refCheck c = Cm.refB c.kind c.client c.seq c.node (Rn.key ⟨c.key.toArray⟩) (Rn.val ⟨c.val.toArray⟩) (Rn.val ⟨c.old.toArray⟩) (decide (c.key = [])) (decide (c.val = [])) (decide (c.old = [])) := by
 unfold Cm.refCheck Cm.refB
 simp
set_option linter.unusedVariables false
theorem refCheck_1 (w1 w : World) (cl sq nd : Int) (SK SV SO : ByteArray) (kx vx ox ek ev eo : Bool) (hB1 : Hid (Below w.heap.size w w1)) (e1 : w.alloc (.cells #[.int .i64 1, .int .i64 cl, .int .i64 sq, .string SK, .string SV, .string SO, .int .i64 nd] 40) = w1)
 (p0 : w1.cell? ⟨w.heap.size, 0, none⟩ = some (.int .i64 1)) (p1 : w1.cell? ⟨w.heap.size, 1, none⟩ = some (.int .i64 cl)) (p2 : w1.cell? ⟨w.heap.size, 2, none⟩ = some (.int .i64 sq)) (p3 : w1.cell? ⟨w.heap.size, 3, none⟩ = some (.string SK)) (p4 : w1.cell? ⟨w.heap.size, 4, none⟩ = some (.string SV)) (p5 : w1.cell? ⟨w.heap.size, 5, none⟩ = some (.string SO)) (p6 : w1.cell? ⟨w.heap.size, 6, none⟩ = some (.int .i64 nd))
 (s1 : Hid (SK.size ≤ 140737488355328)) (s2 : Hid (SV.size ≤ 140737488355328)) (s3 : Hid (SO.size ≤ 140737488355328)) (q1 : Hid (Rn.key SK = kx)) (q2 : Hid (Rn.val SV = vx)) (q3 : Hid (Rn.val SO = ox)) (t1 : SK.toList.isEmpty = ek) (t2 : SV.toList.isEmpty = ev) (t3 : SO.toList.isEmpty = eo)
 (r : Int) (HR2 : Hid (r = if (cl ≠ 0 ∨ sq ≠ 0 ∨ ek = false) ∨ ev = false ∨ eo = false ∨ nd ≠ 0 then 3 else 0)) :
 Calls Tryz.prog 54 #[.agg #[.int .i64 1, .int .i64 cl, .int .i64 sq, .string SK, .string SV, .string SO, .int .i64 nd]] w (Looks w (.int .i64 r)) := by
 go_enter Tryz.func54, Tryz.ntmps54
 go_wp2_with fail
 refine (refOwned_any _ _).mono ?_
 rintro e w2 ⟨rfl, rfl⟩
 rw [show Cm.owned 1 = false from rfl]
 go_wp2_with fail
 all_goals first
  | (go_ret; refine ⟨?_, hB1.out⟩; first
   | (show Ending.returned (.int .i64 6) = _; rw [show r = 6 by have h := HR2.out; grind])
   | (show Ending.returned (.int .i64 3) = _; rw [show r = 3 by have h := HR2.out; grind])
   | (show Ending.returned (.int .i64 0) = _; rw [show r = 0 by have h := HR2.out; grind])
   | (show Ending.returned (.int .i64 7) = _; rw [show r = 7 by have h := HR2.out; grind]))
  | (refine (refMember_any _ _).mono ?_; rintro e w2 ⟨rfl, rfl⟩; rw [show Cm.member 1 = false from rfl]; go_wp2_with fail)
 all_goals first
  | (go_ret; refine ⟨?_, hB1.out⟩; first
   | (show Ending.returned (.int .i64 6) = _; rw [show r = 6 by have h := HR2.out; grind])
   | (show Ending.returned (.int .i64 3) = _; rw [show r = 3 by have h := HR2.out; grind])
   | (show Ending.returned (.int .i64 0) = _; rw [show r = 0 by have h := HR2.out; grind])
   | (show Ending.returned (.int .i64 7) = _; rw [show r = 7 by have h := HR2.out; grind]))
  | (refine (refMember_any _ _).mono ?_; rintro e w2 ⟨rfl, rfl⟩; rw [show Cm.member 1 = false from rfl]; go_wp2_with fail)
 all_goals (go_ret; refine ⟨?_, hB1.out⟩; first
  | (show Ending.returned (.int .i64 6) = _; rw [show r = 6 by have h := HR2.out; grind])
  | (show Ending.returned (.int .i64 3) = _; rw [show r = 3 by have h := HR2.out; grind])
  | (show Ending.returned (.int .i64 0) = _; rw [show r = 0 by have h := HR2.out; grind])
  | (show Ending.returned (.int .i64 7) = _; rw [show r = 7 by have h := HR2.out; grind]))
theorem refCheck_2 (w1 w : World) (cl sq nd : Int) (SK SV SO : ByteArray) (kx vx ox ek ev eo : Bool) (hB1 : Hid (Below w.heap.size w w1)) (e1 : w.alloc (.cells #[.int .i64 2, .int .i64 cl, .int .i64 sq, .string SK, .string SV, .string SO, .int .i64 nd] 40) = w1)
 (p0 : w1.cell? ⟨w.heap.size, 0, none⟩ = some (.int .i64 2)) (p1 : w1.cell? ⟨w.heap.size, 1, none⟩ = some (.int .i64 cl)) (p2 : w1.cell? ⟨w.heap.size, 2, none⟩ = some (.int .i64 sq)) (p3 : w1.cell? ⟨w.heap.size, 3, none⟩ = some (.string SK)) (p4 : w1.cell? ⟨w.heap.size, 4, none⟩ = some (.string SV)) (p5 : w1.cell? ⟨w.heap.size, 5, none⟩ = some (.string SO)) (p6 : w1.cell? ⟨w.heap.size, 6, none⟩ = some (.int .i64 nd))
 (s1 : Hid (SK.size ≤ 140737488355328)) (s2 : Hid (SV.size ≤ 140737488355328)) (s3 : Hid (SO.size ≤ 140737488355328)) (q1 : Hid (Rn.key SK = kx)) (q2 : Hid (Rn.val SV = vx)) (q3 : Hid (Rn.val SO = ox)) (t1 : SK.toList.isEmpty = ek) (t2 : SV.toList.isEmpty = ev) (t3 : SO.toList.isEmpty = eo)
 (r : Int) (HR2 : Hid (r = if cl < 1 ∨ 8 < cl ∨ sq < 1 ∨ 4294967296 < sq then 6 else if kx = false ∨ vx = false then 7 else if eo = false ∨ nd ≠ 0 then 3 else 0)) :
 Calls Tryz.prog 54 #[.agg #[.int .i64 2, .int .i64 cl, .int .i64 sq, .string SK, .string SV, .string SO, .int .i64 nd]] w (Looks w (.int .i64 r)) := by
 go_enter Tryz.func54, Tryz.ntmps54
 go_wp2_with fail
 refine (refOwned_any _ _).mono ?_
 rintro e w2 ⟨rfl, rfl⟩
 rw [show Cm.owned 2 = true from rfl]
 go_wp2_with fail
 all_goals first
  | (go_ret; refine ⟨?_, hB1.out⟩; first
   | (show Ending.returned (.int .i64 6) = _; rw [show r = 6 by have h := HR2.out; grind])
   | (show Ending.returned (.int .i64 3) = _; rw [show r = 3 by have h := HR2.out; grind])
   | (show Ending.returned (.int .i64 0) = _; rw [show r = 0 by have h := HR2.out; grind])
   | (show Ending.returned (.int .i64 7) = _; rw [show r = 7 by have h := HR2.out; grind]))
  | (refine (refMember_any _ _).mono ?_; rintro e w2 ⟨rfl, rfl⟩; rw [show Cm.member 2 = false from rfl]; go_wp2_with fail)
 all_goals first
  | (go_ret; refine ⟨?_, hB1.out⟩; first
   | (show Ending.returned (.int .i64 6) = _; rw [show r = 6 by have h := HR2.out; grind])
   | (show Ending.returned (.int .i64 3) = _; rw [show r = 3 by have h := HR2.out; grind])
   | (show Ending.returned (.int .i64 0) = _; rw [show r = 0 by have h := HR2.out; grind])
   | (show Ending.returned (.int .i64 7) = _; rw [show r = 7 by have h := HR2.out; grind]))
  | (refine (refKey_any SK _ s1.out).mono ?_; rintro e w2 ⟨rfl, rfl⟩; rw [q1.out]; cases kx <;> go_wp2_with fail)
 all_goals first
  | (go_ret; refine ⟨?_, hB1.out⟩; first
   | (show Ending.returned (.int .i64 6) = _; rw [show r = 6 by have h := HR2.out; grind])
   | (show Ending.returned (.int .i64 3) = _; rw [show r = 3 by have h := HR2.out; grind])
   | (show Ending.returned (.int .i64 0) = _; rw [show r = 0 by have h := HR2.out; grind])
   | (show Ending.returned (.int .i64 7) = _; rw [show r = 7 by have h := HR2.out; grind]))
  | (refine (refVal_any SV _ s2.out).mono ?_; rintro e w2 ⟨rfl, rfl⟩; rw [q2.out]; cases vx <;> go_wp2_with fail)
 all_goals first
  | (go_ret; refine ⟨?_, hB1.out⟩; first
   | (show Ending.returned (.int .i64 6) = _; rw [show r = 6 by have h := HR2.out; grind])
   | (show Ending.returned (.int .i64 3) = _; rw [show r = 3 by have h := HR2.out; grind])
   | (show Ending.returned (.int .i64 0) = _; rw [show r = 0 by have h := HR2.out; grind])
   | (show Ending.returned (.int .i64 7) = _; rw [show r = 7 by have h := HR2.out; grind]))
  | (refine (refMember_any _ _).mono ?_; rintro e w2 ⟨rfl, rfl⟩; rw [show Cm.member 2 = false from rfl]; go_wp2_with fail)
 all_goals (go_ret; refine ⟨?_, hB1.out⟩; first
  | (show Ending.returned (.int .i64 6) = _; rw [show r = 6 by have h := HR2.out; grind])
  | (show Ending.returned (.int .i64 3) = _; rw [show r = 3 by have h := HR2.out; grind])
  | (show Ending.returned (.int .i64 0) = _; rw [show r = 0 by have h := HR2.out; grind])
  | (show Ending.returned (.int .i64 7) = _; rw [show r = 7 by have h := HR2.out; grind]))
theorem refCheck_3 (w1 w : World) (cl sq nd : Int) (SK SV SO : ByteArray) (kx vx ox ek ev eo : Bool) (hB1 : Hid (Below w.heap.size w w1)) (e1 : w.alloc (.cells #[.int .i64 3, .int .i64 cl, .int .i64 sq, .string SK, .string SV, .string SO, .int .i64 nd] 40) = w1)
 (p0 : w1.cell? ⟨w.heap.size, 0, none⟩ = some (.int .i64 3)) (p1 : w1.cell? ⟨w.heap.size, 1, none⟩ = some (.int .i64 cl)) (p2 : w1.cell? ⟨w.heap.size, 2, none⟩ = some (.int .i64 sq)) (p3 : w1.cell? ⟨w.heap.size, 3, none⟩ = some (.string SK)) (p4 : w1.cell? ⟨w.heap.size, 4, none⟩ = some (.string SV)) (p5 : w1.cell? ⟨w.heap.size, 5, none⟩ = some (.string SO)) (p6 : w1.cell? ⟨w.heap.size, 6, none⟩ = some (.int .i64 nd))
 (s1 : Hid (SK.size ≤ 140737488355328)) (s2 : Hid (SV.size ≤ 140737488355328)) (s3 : Hid (SO.size ≤ 140737488355328)) (q1 : Hid (Rn.key SK = kx)) (q2 : Hid (Rn.val SV = vx)) (q3 : Hid (Rn.val SO = ox)) (t1 : SK.toList.isEmpty = ek) (t2 : SV.toList.isEmpty = ev) (t3 : SO.toList.isEmpty = eo)
 (r : Int) (HR2 : Hid (r = if cl < 1 ∨ 8 < cl ∨ sq < 1 ∨ 4294967296 < sq then 6 else if kx = false then 7 else if ev = false ∨ eo = false ∨ nd ≠ 0 then 3 else 0)) :
 Calls Tryz.prog 54 #[.agg #[.int .i64 3, .int .i64 cl, .int .i64 sq, .string SK, .string SV, .string SO, .int .i64 nd]] w (Looks w (.int .i64 r)) := by
 go_enter Tryz.func54, Tryz.ntmps54
 go_wp2_with fail
 refine (refOwned_any _ _).mono ?_
 rintro e w2 ⟨rfl, rfl⟩
 rw [show Cm.owned 3 = true from rfl]
 go_wp2_with fail
 all_goals first
  | (go_ret; refine ⟨?_, hB1.out⟩; first
   | (show Ending.returned (.int .i64 6) = _; rw [show r = 6 by have h := HR2.out; grind])
   | (show Ending.returned (.int .i64 3) = _; rw [show r = 3 by have h := HR2.out; grind])
   | (show Ending.returned (.int .i64 0) = _; rw [show r = 0 by have h := HR2.out; grind])
   | (show Ending.returned (.int .i64 7) = _; rw [show r = 7 by have h := HR2.out; grind]))
  | (refine (refMember_any _ _).mono ?_; rintro e w2 ⟨rfl, rfl⟩; rw [show Cm.member 3 = false from rfl]; go_wp2_with fail)
 all_goals first
  | (go_ret; refine ⟨?_, hB1.out⟩; first
   | (show Ending.returned (.int .i64 6) = _; rw [show r = 6 by have h := HR2.out; grind])
   | (show Ending.returned (.int .i64 3) = _; rw [show r = 3 by have h := HR2.out; grind])
   | (show Ending.returned (.int .i64 0) = _; rw [show r = 0 by have h := HR2.out; grind])
   | (show Ending.returned (.int .i64 7) = _; rw [show r = 7 by have h := HR2.out; grind]))
  | (refine (refKey_any SK _ s1.out).mono ?_; rintro e w2 ⟨rfl, rfl⟩; rw [q1.out]; cases kx <;> go_wp2_with fail)
 all_goals first
  | (go_ret; refine ⟨?_, hB1.out⟩; first
   | (show Ending.returned (.int .i64 6) = _; rw [show r = 6 by have h := HR2.out; grind])
   | (show Ending.returned (.int .i64 3) = _; rw [show r = 3 by have h := HR2.out; grind])
   | (show Ending.returned (.int .i64 0) = _; rw [show r = 0 by have h := HR2.out; grind])
   | (show Ending.returned (.int .i64 7) = _; rw [show r = 7 by have h := HR2.out; grind]))
  | (refine (refMember_any _ _).mono ?_; rintro e w2 ⟨rfl, rfl⟩; rw [show Cm.member 3 = false from rfl]; go_wp2_with fail)
 all_goals (go_ret; refine ⟨?_, hB1.out⟩; first
  | (show Ending.returned (.int .i64 6) = _; rw [show r = 6 by have h := HR2.out; grind])
  | (show Ending.returned (.int .i64 3) = _; rw [show r = 3 by have h := HR2.out; grind])
  | (show Ending.returned (.int .i64 0) = _; rw [show r = 0 by have h := HR2.out; grind])
  | (show Ending.returned (.int .i64 7) = _; rw [show r = 7 by have h := HR2.out; grind]))
theorem refCheck_4 (w1 w : World) (cl sq nd : Int) (SK SV SO : ByteArray) (kx vx ox ek ev eo : Bool) (hB1 : Hid (Below w.heap.size w w1)) (e1 : w.alloc (.cells #[.int .i64 4, .int .i64 cl, .int .i64 sq, .string SK, .string SV, .string SO, .int .i64 nd] 40) = w1)
 (p0 : w1.cell? ⟨w.heap.size, 0, none⟩ = some (.int .i64 4)) (p1 : w1.cell? ⟨w.heap.size, 1, none⟩ = some (.int .i64 cl)) (p2 : w1.cell? ⟨w.heap.size, 2, none⟩ = some (.int .i64 sq)) (p3 : w1.cell? ⟨w.heap.size, 3, none⟩ = some (.string SK)) (p4 : w1.cell? ⟨w.heap.size, 4, none⟩ = some (.string SV)) (p5 : w1.cell? ⟨w.heap.size, 5, none⟩ = some (.string SO)) (p6 : w1.cell? ⟨w.heap.size, 6, none⟩ = some (.int .i64 nd))
 (s1 : Hid (SK.size ≤ 140737488355328)) (s2 : Hid (SV.size ≤ 140737488355328)) (s3 : Hid (SO.size ≤ 140737488355328)) (q1 : Hid (Rn.key SK = kx)) (q2 : Hid (Rn.val SV = vx)) (q3 : Hid (Rn.val SO = ox)) (t1 : SK.toList.isEmpty = ek) (t2 : SV.toList.isEmpty = ev) (t3 : SO.toList.isEmpty = eo)
 (r : Int) (HR2 : Hid (r = if cl < 1 ∨ 8 < cl ∨ sq < 1 ∨ 4294967296 < sq then 6 else if kx = false then 7 else if ev = false ∨ eo = false ∨ nd ≠ 0 then 3 else 0)) :
 Calls Tryz.prog 54 #[.agg #[.int .i64 4, .int .i64 cl, .int .i64 sq, .string SK, .string SV, .string SO, .int .i64 nd]] w (Looks w (.int .i64 r)) := by
 go_enter Tryz.func54, Tryz.ntmps54
 go_wp2_with fail
 refine (refOwned_any _ _).mono ?_
 rintro e w2 ⟨rfl, rfl⟩
 rw [show Cm.owned 4 = true from rfl]
 go_wp2_with fail
 all_goals first
  | (go_ret; refine ⟨?_, hB1.out⟩; first
   | (show Ending.returned (.int .i64 6) = _; rw [show r = 6 by have h := HR2.out; grind])
   | (show Ending.returned (.int .i64 3) = _; rw [show r = 3 by have h := HR2.out; grind])
   | (show Ending.returned (.int .i64 0) = _; rw [show r = 0 by have h := HR2.out; grind])
   | (show Ending.returned (.int .i64 7) = _; rw [show r = 7 by have h := HR2.out; grind]))
  | (refine (refMember_any _ _).mono ?_; rintro e w2 ⟨rfl, rfl⟩; rw [show Cm.member 4 = false from rfl]; go_wp2_with fail)
 all_goals first
  | (go_ret; refine ⟨?_, hB1.out⟩; first
   | (show Ending.returned (.int .i64 6) = _; rw [show r = 6 by have h := HR2.out; grind])
   | (show Ending.returned (.int .i64 3) = _; rw [show r = 3 by have h := HR2.out; grind])
   | (show Ending.returned (.int .i64 0) = _; rw [show r = 0 by have h := HR2.out; grind])
   | (show Ending.returned (.int .i64 7) = _; rw [show r = 7 by have h := HR2.out; grind]))
  | (refine (refKey_any SK _ s1.out).mono ?_; rintro e w2 ⟨rfl, rfl⟩; rw [q1.out]; cases kx <;> go_wp2_with fail)
 all_goals first
  | (go_ret; refine ⟨?_, hB1.out⟩; first
   | (show Ending.returned (.int .i64 6) = _; rw [show r = 6 by have h := HR2.out; grind])
   | (show Ending.returned (.int .i64 3) = _; rw [show r = 3 by have h := HR2.out; grind])
   | (show Ending.returned (.int .i64 0) = _; rw [show r = 0 by have h := HR2.out; grind])
   | (show Ending.returned (.int .i64 7) = _; rw [show r = 7 by have h := HR2.out; grind]))
  | (refine (refMember_any _ _).mono ?_; rintro e w2 ⟨rfl, rfl⟩; rw [show Cm.member 4 = false from rfl]; go_wp2_with fail)
 all_goals (go_ret; refine ⟨?_, hB1.out⟩; first
  | (show Ending.returned (.int .i64 6) = _; rw [show r = 6 by have h := HR2.out; grind])
  | (show Ending.returned (.int .i64 3) = _; rw [show r = 3 by have h := HR2.out; grind])
  | (show Ending.returned (.int .i64 0) = _; rw [show r = 0 by have h := HR2.out; grind])
  | (show Ending.returned (.int .i64 7) = _; rw [show r = 7 by have h := HR2.out; grind]))
theorem refCheck_5 (w1 w : World) (cl sq nd : Int) (SK SV SO : ByteArray) (kx vx ox ek ev eo : Bool) (hB1 : Hid (Below w.heap.size w w1)) (e1 : w.alloc (.cells #[.int .i64 5, .int .i64 cl, .int .i64 sq, .string SK, .string SV, .string SO, .int .i64 nd] 40) = w1)
 (p0 : w1.cell? ⟨w.heap.size, 0, none⟩ = some (.int .i64 5)) (p1 : w1.cell? ⟨w.heap.size, 1, none⟩ = some (.int .i64 cl)) (p2 : w1.cell? ⟨w.heap.size, 2, none⟩ = some (.int .i64 sq)) (p3 : w1.cell? ⟨w.heap.size, 3, none⟩ = some (.string SK)) (p4 : w1.cell? ⟨w.heap.size, 4, none⟩ = some (.string SV)) (p5 : w1.cell? ⟨w.heap.size, 5, none⟩ = some (.string SO)) (p6 : w1.cell? ⟨w.heap.size, 6, none⟩ = some (.int .i64 nd))
 (s1 : Hid (SK.size ≤ 140737488355328)) (s2 : Hid (SV.size ≤ 140737488355328)) (s3 : Hid (SO.size ≤ 140737488355328)) (q1 : Hid (Rn.key SK = kx)) (q2 : Hid (Rn.val SV = vx)) (q3 : Hid (Rn.val SO = ox)) (t1 : SK.toList.isEmpty = ek) (t2 : SV.toList.isEmpty = ev) (t3 : SO.toList.isEmpty = eo)
 (r : Int) (HR2 : Hid (r = if cl < 1 ∨ 8 < cl ∨ sq < 1 ∨ 4294967296 < sq then 6 else if kx = false ∨ vx = false ∨ ox = false then 7 else if nd ≠ 0 then 3 else 0)) :
 Calls Tryz.prog 54 #[.agg #[.int .i64 5, .int .i64 cl, .int .i64 sq, .string SK, .string SV, .string SO, .int .i64 nd]] w (Looks w (.int .i64 r)) := by
 go_enter Tryz.func54, Tryz.ntmps54
 go_wp2_with fail
 refine (refOwned_any _ _).mono ?_
 rintro e w2 ⟨rfl, rfl⟩
 rw [show Cm.owned 5 = true from rfl]
 go_wp2_with fail
 all_goals first
  | (go_ret; refine ⟨?_, hB1.out⟩; first
   | (show Ending.returned (.int .i64 6) = _; rw [show r = 6 by have h := HR2.out; grind])
   | (show Ending.returned (.int .i64 3) = _; rw [show r = 3 by have h := HR2.out; grind])
   | (show Ending.returned (.int .i64 0) = _; rw [show r = 0 by have h := HR2.out; grind])
   | (show Ending.returned (.int .i64 7) = _; rw [show r = 7 by have h := HR2.out; grind]))
  | (refine (refMember_any _ _).mono ?_; rintro e w2 ⟨rfl, rfl⟩; rw [show Cm.member 5 = false from rfl]; go_wp2_with fail)
 all_goals first
  | (go_ret; refine ⟨?_, hB1.out⟩; first
   | (show Ending.returned (.int .i64 6) = _; rw [show r = 6 by have h := HR2.out; grind])
   | (show Ending.returned (.int .i64 3) = _; rw [show r = 3 by have h := HR2.out; grind])
   | (show Ending.returned (.int .i64 0) = _; rw [show r = 0 by have h := HR2.out; grind])
   | (show Ending.returned (.int .i64 7) = _; rw [show r = 7 by have h := HR2.out; grind]))
  | (refine (refKey_any SK _ s1.out).mono ?_; rintro e w2 ⟨rfl, rfl⟩; rw [q1.out]; cases kx <;> go_wp2_with fail)
 all_goals first
  | (go_ret; refine ⟨?_, hB1.out⟩; first
   | (show Ending.returned (.int .i64 6) = _; rw [show r = 6 by have h := HR2.out; grind])
   | (show Ending.returned (.int .i64 3) = _; rw [show r = 3 by have h := HR2.out; grind])
   | (show Ending.returned (.int .i64 0) = _; rw [show r = 0 by have h := HR2.out; grind])
   | (show Ending.returned (.int .i64 7) = _; rw [show r = 7 by have h := HR2.out; grind]))
  | (refine (refVal_any SV _ s2.out).mono ?_; rintro e w2 ⟨rfl, rfl⟩; rw [q2.out]; cases vx <;> go_wp2_with fail)
 all_goals first
  | (go_ret; refine ⟨?_, hB1.out⟩; first
   | (show Ending.returned (.int .i64 6) = _; rw [show r = 6 by have h := HR2.out; grind])
   | (show Ending.returned (.int .i64 3) = _; rw [show r = 3 by have h := HR2.out; grind])
   | (show Ending.returned (.int .i64 0) = _; rw [show r = 0 by have h := HR2.out; grind])
   | (show Ending.returned (.int .i64 7) = _; rw [show r = 7 by have h := HR2.out; grind]))
  | (refine (refVal_any SO _ s3.out).mono ?_; rintro e w2 ⟨rfl, rfl⟩; rw [q3.out]; cases ox <;> go_wp2_with fail)
 all_goals first
  | (go_ret; refine ⟨?_, hB1.out⟩; first
   | (show Ending.returned (.int .i64 6) = _; rw [show r = 6 by have h := HR2.out; grind])
   | (show Ending.returned (.int .i64 3) = _; rw [show r = 3 by have h := HR2.out; grind])
   | (show Ending.returned (.int .i64 0) = _; rw [show r = 0 by have h := HR2.out; grind])
   | (show Ending.returned (.int .i64 7) = _; rw [show r = 7 by have h := HR2.out; grind]))
  | (refine (refMember_any _ _).mono ?_; rintro e w2 ⟨rfl, rfl⟩; rw [show Cm.member 5 = false from rfl]; go_wp2_with fail)
 all_goals (go_ret; refine ⟨?_, hB1.out⟩; first
  | (show Ending.returned (.int .i64 6) = _; rw [show r = 6 by have h := HR2.out; grind])
  | (show Ending.returned (.int .i64 3) = _; rw [show r = 3 by have h := HR2.out; grind])
  | (show Ending.returned (.int .i64 0) = _; rw [show r = 0 by have h := HR2.out; grind])
  | (show Ending.returned (.int .i64 7) = _; rw [show r = 7 by have h := HR2.out; grind]))
theorem refCheck_6 (w1 w : World) (cl sq nd : Int) (SK SV SO : ByteArray) (kx vx ox ek ev eo : Bool) (hB1 : Hid (Below w.heap.size w w1)) (e1 : w.alloc (.cells #[.int .i64 6, .int .i64 cl, .int .i64 sq, .string SK, .string SV, .string SO, .int .i64 nd] 40) = w1)
 (p0 : w1.cell? ⟨w.heap.size, 0, none⟩ = some (.int .i64 6)) (p1 : w1.cell? ⟨w.heap.size, 1, none⟩ = some (.int .i64 cl)) (p2 : w1.cell? ⟨w.heap.size, 2, none⟩ = some (.int .i64 sq)) (p3 : w1.cell? ⟨w.heap.size, 3, none⟩ = some (.string SK)) (p4 : w1.cell? ⟨w.heap.size, 4, none⟩ = some (.string SV)) (p5 : w1.cell? ⟨w.heap.size, 5, none⟩ = some (.string SO)) (p6 : w1.cell? ⟨w.heap.size, 6, none⟩ = some (.int .i64 nd))
 (s1 : Hid (SK.size ≤ 140737488355328)) (s2 : Hid (SV.size ≤ 140737488355328)) (s3 : Hid (SO.size ≤ 140737488355328)) (q1 : Hid (Rn.key SK = kx)) (q2 : Hid (Rn.val SV = vx)) (q3 : Hid (Rn.val SO = ox)) (t1 : SK.toList.isEmpty = ek) (t2 : SV.toList.isEmpty = ev) (t3 : SO.toList.isEmpty = eo)
 (r : Int) (HR2 : Hid (r = if (cl ≠ 0 ∨ sq ≠ 0 ∨ ek = false) ∨ ev = false ∨ eo = false ∨ nd ≠ 0 then 3 else 0)) :
 Calls Tryz.prog 54 #[.agg #[.int .i64 6, .int .i64 cl, .int .i64 sq, .string SK, .string SV, .string SO, .int .i64 nd]] w (Looks w (.int .i64 r)) := by
 go_enter Tryz.func54, Tryz.ntmps54
 go_wp2_with fail
 refine (refOwned_any _ _).mono ?_
 rintro e w2 ⟨rfl, rfl⟩
 rw [show Cm.owned 6 = false from rfl]
 go_wp2_with fail
 all_goals first
  | (go_ret; refine ⟨?_, hB1.out⟩; first
   | (show Ending.returned (.int .i64 6) = _; rw [show r = 6 by have h := HR2.out; grind])
   | (show Ending.returned (.int .i64 3) = _; rw [show r = 3 by have h := HR2.out; grind])
   | (show Ending.returned (.int .i64 0) = _; rw [show r = 0 by have h := HR2.out; grind])
   | (show Ending.returned (.int .i64 7) = _; rw [show r = 7 by have h := HR2.out; grind]))
  | (refine (refMember_any _ _).mono ?_; rintro e w2 ⟨rfl, rfl⟩; rw [show Cm.member 6 = false from rfl]; go_wp2_with fail)
 all_goals first
  | (go_ret; refine ⟨?_, hB1.out⟩; first
   | (show Ending.returned (.int .i64 6) = _; rw [show r = 6 by have h := HR2.out; grind])
   | (show Ending.returned (.int .i64 3) = _; rw [show r = 3 by have h := HR2.out; grind])
   | (show Ending.returned (.int .i64 0) = _; rw [show r = 0 by have h := HR2.out; grind])
   | (show Ending.returned (.int .i64 7) = _; rw [show r = 7 by have h := HR2.out; grind]))
  | (refine (refMember_any _ _).mono ?_; rintro e w2 ⟨rfl, rfl⟩; rw [show Cm.member 6 = false from rfl]; go_wp2_with fail)
 all_goals (go_ret; refine ⟨?_, hB1.out⟩; first
  | (show Ending.returned (.int .i64 6) = _; rw [show r = 6 by have h := HR2.out; grind])
  | (show Ending.returned (.int .i64 3) = _; rw [show r = 3 by have h := HR2.out; grind])
  | (show Ending.returned (.int .i64 0) = _; rw [show r = 0 by have h := HR2.out; grind])
  | (show Ending.returned (.int .i64 7) = _; rw [show r = 7 by have h := HR2.out; grind]))
theorem refCheck_7 (w1 w : World) (cl sq nd : Int) (SK SV SO : ByteArray) (kx vx ox ek ev eo : Bool) (hB1 : Hid (Below w.heap.size w w1)) (e1 : w.alloc (.cells #[.int .i64 7, .int .i64 cl, .int .i64 sq, .string SK, .string SV, .string SO, .int .i64 nd] 40) = w1)
 (p0 : w1.cell? ⟨w.heap.size, 0, none⟩ = some (.int .i64 7)) (p1 : w1.cell? ⟨w.heap.size, 1, none⟩ = some (.int .i64 cl)) (p2 : w1.cell? ⟨w.heap.size, 2, none⟩ = some (.int .i64 sq)) (p3 : w1.cell? ⟨w.heap.size, 3, none⟩ = some (.string SK)) (p4 : w1.cell? ⟨w.heap.size, 4, none⟩ = some (.string SV)) (p5 : w1.cell? ⟨w.heap.size, 5, none⟩ = some (.string SO)) (p6 : w1.cell? ⟨w.heap.size, 6, none⟩ = some (.int .i64 nd))
 (s1 : Hid (SK.size ≤ 140737488355328)) (s2 : Hid (SV.size ≤ 140737488355328)) (s3 : Hid (SO.size ≤ 140737488355328)) (q1 : Hid (Rn.key SK = kx)) (q2 : Hid (Rn.val SV = vx)) (q3 : Hid (Rn.val SO = ox)) (t1 : SK.toList.isEmpty = ek) (t2 : SV.toList.isEmpty = ev) (t3 : SO.toList.isEmpty = eo)
 (r : Int) (HR2 : Hid (r = if nd < 1 ∨ 9 < nd then 6 else if (cl ≠ 0 ∨ sq ≠ 0 ∨ ek = false) ∨ ev = false ∨ eo = false then 3 else 0)) :
 Calls Tryz.prog 54 #[.agg #[.int .i64 7, .int .i64 cl, .int .i64 sq, .string SK, .string SV, .string SO, .int .i64 nd]] w (Looks w (.int .i64 r)) := by
 go_enter Tryz.func54, Tryz.ntmps54
 go_wp2_with fail
 refine (refOwned_any _ _).mono ?_
 rintro e w2 ⟨rfl, rfl⟩
 rw [show Cm.owned 7 = false from rfl]
 go_wp2_with fail
 all_goals first
  | (go_ret; refine ⟨?_, hB1.out⟩; first
   | (show Ending.returned (.int .i64 6) = _; rw [show r = 6 by have h := HR2.out; grind])
   | (show Ending.returned (.int .i64 3) = _; rw [show r = 3 by have h := HR2.out; grind])
   | (show Ending.returned (.int .i64 0) = _; rw [show r = 0 by have h := HR2.out; grind])
   | (show Ending.returned (.int .i64 7) = _; rw [show r = 7 by have h := HR2.out; grind]))
  | (refine (refMember_any _ _).mono ?_; rintro e w2 ⟨rfl, rfl⟩; rw [show Cm.member 7 = true from rfl]; go_wp2_with fail)
 all_goals first
  | (go_ret; refine ⟨?_, hB1.out⟩; first
   | (show Ending.returned (.int .i64 6) = _; rw [show r = 6 by have h := HR2.out; grind])
   | (show Ending.returned (.int .i64 3) = _; rw [show r = 3 by have h := HR2.out; grind])
   | (show Ending.returned (.int .i64 0) = _; rw [show r = 0 by have h := HR2.out; grind])
   | (show Ending.returned (.int .i64 7) = _; rw [show r = 7 by have h := HR2.out; grind]))
  | (refine (refMember_any _ _).mono ?_; rintro e w2 ⟨rfl, rfl⟩; rw [show Cm.member 7 = true from rfl]; go_wp2_with fail)
 all_goals (go_ret; refine ⟨?_, hB1.out⟩; first
  | (show Ending.returned (.int .i64 6) = _; rw [show r = 6 by have h := HR2.out; grind])
  | (show Ending.returned (.int .i64 3) = _; rw [show r = 3 by have h := HR2.out; grind])
  | (show Ending.returned (.int .i64 0) = _; rw [show r = 0 by have h := HR2.out; grind])
  | (show Ending.returned (.int .i64 7) = _; rw [show r = 7 by have h := HR2.out; grind]))
theorem refCheck_8 (w1 w : World) (cl sq nd : Int) (SK SV SO : ByteArray) (kx vx ox ek ev eo : Bool) (hB1 : Hid (Below w.heap.size w w1)) (e1 : w.alloc (.cells #[.int .i64 8, .int .i64 cl, .int .i64 sq, .string SK, .string SV, .string SO, .int .i64 nd] 40) = w1)
 (p0 : w1.cell? ⟨w.heap.size, 0, none⟩ = some (.int .i64 8)) (p1 : w1.cell? ⟨w.heap.size, 1, none⟩ = some (.int .i64 cl)) (p2 : w1.cell? ⟨w.heap.size, 2, none⟩ = some (.int .i64 sq)) (p3 : w1.cell? ⟨w.heap.size, 3, none⟩ = some (.string SK)) (p4 : w1.cell? ⟨w.heap.size, 4, none⟩ = some (.string SV)) (p5 : w1.cell? ⟨w.heap.size, 5, none⟩ = some (.string SO)) (p6 : w1.cell? ⟨w.heap.size, 6, none⟩ = some (.int .i64 nd))
 (s1 : Hid (SK.size ≤ 140737488355328)) (s2 : Hid (SV.size ≤ 140737488355328)) (s3 : Hid (SO.size ≤ 140737488355328)) (q1 : Hid (Rn.key SK = kx)) (q2 : Hid (Rn.val SV = vx)) (q3 : Hid (Rn.val SO = ox)) (t1 : SK.toList.isEmpty = ek) (t2 : SV.toList.isEmpty = ev) (t3 : SO.toList.isEmpty = eo)
 (r : Int) (HR2 : Hid (r = if nd < 1 ∨ 9 < nd then 6 else if (cl ≠ 0 ∨ sq ≠ 0 ∨ ek = false) ∨ ev = false ∨ eo = false then 3 else 0)) :
 Calls Tryz.prog 54 #[.agg #[.int .i64 8, .int .i64 cl, .int .i64 sq, .string SK, .string SV, .string SO, .int .i64 nd]] w (Looks w (.int .i64 r)) := by
 go_enter Tryz.func54, Tryz.ntmps54
 go_wp2_with fail
 refine (refOwned_any _ _).mono ?_
 rintro e w2 ⟨rfl, rfl⟩
 rw [show Cm.owned 8 = false from rfl]
 go_wp2_with fail
 all_goals first
  | (go_ret; refine ⟨?_, hB1.out⟩; first
   | (show Ending.returned (.int .i64 6) = _; rw [show r = 6 by have h := HR2.out; grind])
   | (show Ending.returned (.int .i64 3) = _; rw [show r = 3 by have h := HR2.out; grind])
   | (show Ending.returned (.int .i64 0) = _; rw [show r = 0 by have h := HR2.out; grind])
   | (show Ending.returned (.int .i64 7) = _; rw [show r = 7 by have h := HR2.out; grind]))
  | (refine (refMember_any _ _).mono ?_; rintro e w2 ⟨rfl, rfl⟩; rw [show Cm.member 8 = true from rfl]; go_wp2_with fail)
 all_goals first
  | (go_ret; refine ⟨?_, hB1.out⟩; first
   | (show Ending.returned (.int .i64 6) = _; rw [show r = 6 by have h := HR2.out; grind])
   | (show Ending.returned (.int .i64 3) = _; rw [show r = 3 by have h := HR2.out; grind])
   | (show Ending.returned (.int .i64 0) = _; rw [show r = 0 by have h := HR2.out; grind])
   | (show Ending.returned (.int .i64 7) = _; rw [show r = 7 by have h := HR2.out; grind]))
  | (refine (refMember_any _ _).mono ?_; rintro e w2 ⟨rfl, rfl⟩; rw [show Cm.member 8 = true from rfl]; go_wp2_with fail)
 all_goals (go_ret; refine ⟨?_, hB1.out⟩; first
  | (show Ending.returned (.int .i64 6) = _; rw [show r = 6 by have h := HR2.out; grind])
  | (show Ending.returned (.int .i64 3) = _; rw [show r = 3 by have h := HR2.out; grind])
  | (show Ending.returned (.int .i64 0) = _; rw [show r = 0 by have h := HR2.out; grind])
  | (show Ending.returned (.int .i64 7) = _; rw [show r = 7 by have h := HR2.out; grind]))
theorem refCheck_0 (w1 w : World) (k cl sq nd : Int) (SK SV SO : ByteArray) (kx vx ox ek ev eo : Bool) (hB1 : Hid (Below w.heap.size w w1)) (e1 : w.alloc (.cells #[.int .i64 k, .int .i64 cl, .int .i64 sq, .string SK, .string SV, .string SO, .int .i64 nd] 40) = w1)
 (p0 : w1.cell? ⟨w.heap.size, 0, none⟩ = some (.int .i64 k)) (p1 : w1.cell? ⟨w.heap.size, 1, none⟩ = some (.int .i64 cl)) (p2 : w1.cell? ⟨w.heap.size, 2, none⟩ = some (.int .i64 sq)) (p3 : w1.cell? ⟨w.heap.size, 3, none⟩ = some (.string SK)) (p4 : w1.cell? ⟨w.heap.size, 4, none⟩ = some (.string SV)) (p5 : w1.cell? ⟨w.heap.size, 5, none⟩ = some (.string SO)) (p6 : w1.cell? ⟨w.heap.size, 6, none⟩ = some (.int .i64 nd))
 (s1 : Hid (SK.size ≤ 140737488355328)) (s2 : Hid (SV.size ≤ 140737488355328)) (s3 : Hid (SO.size ≤ 140737488355328)) (q1 : Hid (Rn.key SK = kx)) (q2 : Hid (Rn.val SV = vx)) (q3 : Hid (Rn.val SO = ox)) (t1 : SK.toList.isEmpty = ek) (t2 : SV.toList.isEmpty = ev) (t3 : SO.toList.isEmpty = eo)
 (r : Int) (h : k < 1 ∨ 8 < k) (HR2 : Hid (r = 5)) :
 Calls Tryz.prog 54 #[.agg #[.int .i64 k, .int .i64 cl, .int .i64 sq, .string SK, .string SV, .string SO, .int .i64 nd]] w (Looks w (.int .i64 r)) := by
 go_enter Tryz.func54, Tryz.ntmps54
 by_cases h1 : k < 1
 ·have d1 : decide (k < 1) = true := decide_eq_true h1
  go_wp2
  go_ret
  exact ⟨by rw [HR2.out]; rfl, hB1.out⟩
 ·have d1 : decide (k < 1) = false := decide_eq_false h1
  have d8 : decide (8 < k) = true := decide_eq_true (by omega)
  go_wp2
  go_ret
  exact ⟨by rw [HR2.out]; rfl, hB1.out⟩
end
theorem refCheck_walk (w1 w : World) (k cl sq nd : Int) (SK SV SO : ByteArray) (kx vx ox ek ev eo : Bool) (hB1 : Hid (Below w.heap.size w w1)) (e1 : w.alloc (.cells #[.int .i64 k, .int .i64 cl, .int .i64 sq, .string SK, .string SV, .string SO, .int .i64 nd] 40) = w1)
 (p0 : w1.cell? ⟨w.heap.size, 0, none⟩ = some (.int .i64 k)) (p1 : w1.cell? ⟨w.heap.size, 1, none⟩ = some (.int .i64 cl)) (p2 : w1.cell? ⟨w.heap.size, 2, none⟩ = some (.int .i64 sq)) (p3 : w1.cell? ⟨w.heap.size, 3, none⟩ = some (.string SK)) (p4 : w1.cell? ⟨w.heap.size, 4, none⟩ = some (.string SV)) (p5 : w1.cell? ⟨w.heap.size, 5, none⟩ = some (.string SO)) (p6 : w1.cell? ⟨w.heap.size, 6, none⟩ = some (.int .i64 nd))
 (s1 : Hid (SK.size ≤ 140737488355328)) (s2 : Hid (SV.size ≤ 140737488355328)) (s3 : Hid (SO.size ≤ 140737488355328)) (q1 : Hid (Rn.key SK = kx)) (q2 : Hid (Rn.val SV = vx)) (q3 : Hid (Rn.val SO = ox)) (t1 : SK.toList.isEmpty = ek) (t2 : SV.toList.isEmpty = ev) (t3 : SO.toList.isEmpty = eo) :
 Calls Tryz.prog 54 #[.agg #[.int .i64 k, .int .i64 cl, .int .i64 sq, .string SK, .string SV, .string SO, .int .i64 nd]] w (Looks w (.int .i64 (Cm.refB k cl sq nd kx vx ox ek ev eo))) := by
 obtain ⟨r, hr⟩ : ∃ r, r = Cm.refB k cl sq nd kx vx ox ek ev eo := ⟨_, rfl⟩
 rw [← hr]
 unfold Cm.refB at hr
 rcases Vs.kinds k with rfl | rfl | rfl | rfl | rfl | rfl | rfl | rfl | h
 ·exact refCheck_1 w1 w cl sq nd SK SV SO kx vx ox ek ev eo hB1 e1 p0 p1 p2 p3 p4 p5 p6 s1 s2 s3 q1 q2 q3 t1 t2 t3 r (show _ = _ by rw [hr]; simp [Cm.owned, Cm.member, Cm.valued])
 ·exact refCheck_2 w1 w cl sq nd SK SV SO kx vx ox ek ev eo hB1 e1 p0 p1 p2 p3 p4 p5 p6 s1 s2 s3 q1 q2 q3 t1 t2 t3 r (show _ = _ by rw [hr]; simp [Cm.owned, Cm.member, Cm.valued])
 ·exact refCheck_3 w1 w cl sq nd SK SV SO kx vx ox ek ev eo hB1 e1 p0 p1 p2 p3 p4 p5 p6 s1 s2 s3 q1 q2 q3 t1 t2 t3 r (show _ = _ by rw [hr]; simp [Cm.owned, Cm.member, Cm.valued])
 ·exact refCheck_4 w1 w cl sq nd SK SV SO kx vx ox ek ev eo hB1 e1 p0 p1 p2 p3 p4 p5 p6 s1 s2 s3 q1 q2 q3 t1 t2 t3 r (show _ = _ by rw [hr]; simp [Cm.owned, Cm.member, Cm.valued])
 ·exact refCheck_5 w1 w cl sq nd SK SV SO kx vx ox ek ev eo hB1 e1 p0 p1 p2 p3 p4 p5 p6 s1 s2 s3 q1 q2 q3 t1 t2 t3 r (show _ = _ by rw [hr]; simp [Cm.owned, Cm.member, Cm.valued])
 ·exact refCheck_6 w1 w cl sq nd SK SV SO kx vx ox ek ev eo hB1 e1 p0 p1 p2 p3 p4 p5 p6 s1 s2 s3 q1 q2 q3 t1 t2 t3 r (show _ = _ by rw [hr]; simp [Cm.owned, Cm.member, Cm.valued])
 ·exact refCheck_7 w1 w cl sq nd SK SV SO kx vx ox ek ev eo hB1 e1 p0 p1 p2 p3 p4 p5 p6 s1 s2 s3 q1 q2 q3 t1 t2 t3 r (show _ = _ by rw [hr]; simp [Cm.owned, Cm.member, Cm.valued])
 ·exact refCheck_8 w1 w cl sq nd SK SV SO kx vx ox ek ev eo hB1 e1 p0 p1 p2 p3 p4 p5 p6 s1 s2 s3 q1 q2 q3 t1 t2 t3 r (show _ = _ by rw [hr]; simp [Cm.owned, Cm.member, Cm.valued])
 ·exact refCheck_0 w1 w k cl sq nd SK SV SO kx vx ox ek ev eo hB1 e1 p0 p1 p2 p3 p4 p5 p6 s1 s2 s3 q1 q2 q3 t1 t2 t3 r h (show _ = _ by rw [hr, if_pos h])
theorem refCheck_any (c : Cm.Cmd) (w : World) (hs : c.Short 140737488355328) : Calls Tryz.prog 54 #[.agg (Cm.cells c)] w (Looks w (.int .i64 (Cm.check c))) := by
 rw [← Cm.refCheck_eq, Cm.refB_eq]
 obtain ⟨w1, e1, hl, hB, _⟩ := box_cmd w c
 exact refCheck_walk w1 w c.kind c.client c.seq c.node _ _ _ _ _ _ _ _ _ hB e1 (hl.cell 0 _ rfl) (hl.cell 1 _ rfl) (hl.cell 2 _ rfl) (hl.cell 3 _ rfl) (hl.cell 4 _ rfl) (hl.cell 5 _ rfl) (hl.cell 6 _ rfl)
  (show _ ≤ _ by rw [str_size]; exact hs.1) (show _ ≤ _ by rw [str_size]; exact hs.2.2) (show _ ≤ _ by rw [str_size]; exact hs.2.1) rfl rfl rfl (str_empty _) (str_empty _) (str_empty _)
end Go.Proofs.YteboceekcmchkaaGreatDoor
