/- The law CmdChecks. -/
import Derived.Test.YteaebmgnofmemaaDoorCmdCame
import Derived.Test.YteaebmgnofmemaaDoorCmdHas
import Derived.Deep.RegionHeld3
namespace Go.Proofs.YteaebmgnofmemaaDoor
open Go.RowKit

set_option maxRecDepth 4000 in
set_option maxHeartbeats 3200000 in
theorem cmdChecks_any (c : Cm.Cmd) (w : World) (hv : WordsIn w) (hp : PowIn w) (hl : c.Short 9223372036854775807) : Calls Tryd.prog 3 #[.agg (Cm.cells c)] w (Truly w) := by
  obtain ⟨w1, e1, hl1, hB1, hz1⟩ := box_cmd w c
  obtain ⟨p0, p1, p2, p3, p4, p5, p6⟩ := Cmds.all hl1
  have HL1 := Lib.hid hl1; have HB1 := Lib.hid hB1
  have HV := Lib.hid hv; have HP := Lib.hid hp
  clear hl1 hB1 hz1 hv hp
  go_enter Tryd.func3, Tryd.ntmps3
  go_wp2_with fail
  refine (large_any c _ hl).mono ?_
  rintro e w2 ⟨rfl, hB2⟩
  obtain ⟨t, ht⟩ : ∃ t, t = (decide (300 < c.key.length) || (decide (300 < c.old.length) || decide (300 < c.val.length))) := ⟨_, rfl⟩
  rw [← ht]
  have HT := Lib.hid ht
  have hl2 := HL1.out.below hB2 HL1.out.lt
  obtain ⟨q0, q1, q2, q3, q4, q5, q6⟩ := Cmds.all hl2
  have HL2 := Lib.hid hl2
  have HB2 := Lib.hid (HB1.out.trans (hB2.mono HB1.out.size))
  clear ht hB2 hl2 p0 p1 p2 p3 p4 p5 p6
  cases t with
  | true =>
    go_wp2_with fail
    refine (awake_any _ (HV.out.below HB2.out) (HP.out.below HB2.out)).mono ?_
    rintro e w3 ⟨rfl, hB3⟩
    go_wp2
    go_ret
    exact truly_of (HB2.out.trans (hB3.mono HB2.out.size))
  | false =>
    have hs := (Cm.short_of HT.out.symm).mono (show 300 ≤ 140737488355328 by omega)
    have hz : (Cm.check c == Cm.check c) = true := by simp
    have ho : (Cm.owned c.kind == Cm.owned c.kind) = true := by simp
    go_wp2
    go_region_held3 (fun w' => w'.cell? ⟨w.heap.size, 0, none⟩ = some (.int .i64 c.kind) ∧ w'.cell? ⟨w.heap.size, 1, none⟩ = some (.int .i64 c.client) ∧ w'.cell? ⟨w.heap.size, 2, none⟩ = some (.int .i64 c.seq) ∧ w'.cell? ⟨w.heap.size, 3, none⟩ = some (.string ⟨c.key.toArray⟩) ∧
        w'.cell? ⟨w.heap.size, 4, none⟩ = some (.string ⟨c.val.toArray⟩) ∧ w'.cell? ⟨w.heap.size, 5, none⟩ = some (.string ⟨c.old.toArray⟩) ∧ w'.cell? ⟨w.heap.size, 6, none⟩ = some (.int .i64 c.node)) (first | go_keep | exact K3 | exact K4 | exact K5 | exact K6 | exact K7) (first
      | (go_at_call 9; refine (check_any c _ (HV.out.below HB2.out.drew) hs).mono ?_; rintro e3 w3 ⟨rfl, hB3⟩
         have HL3 := Lib.hid ((HL2.out.below (Below.refl _ _).drew HL2.out.lt).below hB3 HL2.out.lt)
         have HB3 := Lib.hid (HB2.out.drew.trans (hB3.mono HB2.out.drew.size))
         have K3 := Cmds.all HL3.out)
      | (go_at_call 10; refine (refCheck_any c _ hs).mono ?_; rintro e4 w4 ⟨rfl, hB4⟩
         have HL4 := Lib.hid (HL3.out.below hB4 HL3.out.lt)
         have HB4 := Lib.hid (HB3.out.trans (hB4.mono HB3.out.size))
         have K4 := Cmds.all HL4.out)
      | (go_at_call 11; refine (owned_any c _).mono ?_; rintro e5 w5 ⟨rfl, hB5⟩
         have HL5 := Lib.hid (HL4.out.below hB5 HL4.out.lt)
         have HB5 := Lib.hid (HB4.out.trans (hB5.mono HB4.out.size))
         have K5 := Cmds.all HL5.out)
      | (go_at_call 12; refine (refOwned_any c.kind _).mono ?_; rintro e6 w6 ⟨rfl, rfl⟩
         have K6 := K5)
      | (go_at_call 8; refine (awake_any _ (HV.out.below HB5.out) (HP.out.below HB5.out)).mono ?_; rintro e7 w7 ⟨rfl, hB7⟩
         have K7 := Cmds.all (HL5.out.below hB7 HL5.out.lt)))
    all_goals
      go_wp2
      go_ret
      exact truly_of (HB5.out.trans (hB7.mono HB5.out.size))

end Go.Proofs.YteaebmgnofmemaaDoor
