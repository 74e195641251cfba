/- The document's Check and Has of a command. -/
import Derived.Test.YtdbiplicmdnblaaDoorCmdRef
namespace Go.Proofs.YtdbiplicmdnblaaDoor
open Go.RowKit

set_option maxHeartbeats 1600000 in
theorem refCheck_walk (w1 w : World) (k cl sq nd : Int) (SK SV SO : ByteArray) (kx vx ox ek ev eo : Bool) (hB1 : Hid (Below w.heap.size w w1)) (e1 : w.alloc (.cells #[.int .i64 k, .int .i64 cl, .int .i64 sq, .string SK, .string SV, .string SO, .int .i64 nd] 31) = w1)
    (p0 : w1.cell? ⟨w.heap.size, 0, none⟩ = some (.int .i64 k)) (p1 : w1.cell? ⟨w.heap.size, 1, none⟩ = some (.int .i64 cl)) (p2 : w1.cell? ⟨w.heap.size, 2, none⟩ = some (.int .i64 sq)) (p3 : w1.cell? ⟨w.heap.size, 3, none⟩ = some (.string SK)) (p4 : w1.cell? ⟨w.heap.size, 4, none⟩ = some (.string SV)) (p5 : w1.cell? ⟨w.heap.size, 5, none⟩ = some (.string SO)) (p6 : w1.cell? ⟨w.heap.size, 6, none⟩ = some (.int .i64 nd))
    (s1 : Hid (SK.size ≤ 140737488355328)) (s2 : Hid (SV.size ≤ 140737488355328)) (s3 : Hid (SO.size ≤ 140737488355328)) (q1 : Hid (Rn.key SK = kx)) (q2 : Hid (Rn.val SV = vx)) (q3 : Hid (Rn.val SO = ox)) (t1 : SK.toList.isEmpty = ek) (t2 : SV.toList.isEmpty = ev) (t3 : SO.toList.isEmpty = eo) :
    Calls Tryd.prog 22 #[.agg #[.int .i64 k, .int .i64 cl, .int .i64 sq, .string SK, .string SV, .string SO, .int .i64 nd]] w (Looks w (.int .i64 (Cm.refB k cl sq nd kx vx ox ek ev eo))) := by
  obtain ⟨r, hr⟩ : ∃ r, r = Cm.refB k cl sq nd kx vx ox ek ev eo := ⟨_, rfl⟩
  rw [← hr]
  unfold Cm.refB at hr
  rcases Vs.kinds k with rfl | rfl | rfl | rfl | rfl | rfl | rfl | rfl | h
  · exact refCheck_1 w1 w cl sq nd SK SV SO kx vx ox ek ev eo hB1 e1 p0 p1 p2 p3 p4 p5 p6 s1 s2 s3 q1 q2 q3 t1 t2 t3 r (show _ = _ by rw [hr]; simp [Cm.owned, Cm.member, Cm.valued])
  · exact refCheck_2 w1 w cl sq nd SK SV SO kx vx ox ek ev eo hB1 e1 p0 p1 p2 p3 p4 p5 p6 s1 s2 s3 q1 q2 q3 t1 t2 t3 r (show _ = _ by rw [hr]; simp [Cm.owned, Cm.member, Cm.valued])
  · exact refCheck_3 w1 w cl sq nd SK SV SO kx vx ox ek ev eo hB1 e1 p0 p1 p2 p3 p4 p5 p6 s1 s2 s3 q1 q2 q3 t1 t2 t3 r (show _ = _ by rw [hr]; simp [Cm.owned, Cm.member, Cm.valued])
  · exact refCheck_4 w1 w cl sq nd SK SV SO kx vx ox ek ev eo hB1 e1 p0 p1 p2 p3 p4 p5 p6 s1 s2 s3 q1 q2 q3 t1 t2 t3 r (show _ = _ by rw [hr]; simp [Cm.owned, Cm.member, Cm.valued])
  · exact refCheck_5 w1 w cl sq nd SK SV SO kx vx ox ek ev eo hB1 e1 p0 p1 p2 p3 p4 p5 p6 s1 s2 s3 q1 q2 q3 t1 t2 t3 r (show _ = _ by rw [hr]; simp [Cm.owned, Cm.member, Cm.valued])
  · exact refCheck_6 w1 w cl sq nd SK SV SO kx vx ox ek ev eo hB1 e1 p0 p1 p2 p3 p4 p5 p6 s1 s2 s3 q1 q2 q3 t1 t2 t3 r (show _ = _ by rw [hr]; simp [Cm.owned, Cm.member, Cm.valued])
  · exact refCheck_7 w1 w cl sq nd SK SV SO kx vx ox ek ev eo hB1 e1 p0 p1 p2 p3 p4 p5 p6 s1 s2 s3 q1 q2 q3 t1 t2 t3 r (show _ = _ by rw [hr]; simp [Cm.owned, Cm.member, Cm.valued])
  · exact refCheck_8 w1 w cl sq nd SK SV SO kx vx ox ek ev eo hB1 e1 p0 p1 p2 p3 p4 p5 p6 s1 s2 s3 q1 q2 q3 t1 t2 t3 r (show _ = _ by rw [hr]; simp [Cm.owned, Cm.member, Cm.valued])
  · exact refCheck_0 w1 w k cl sq nd SK SV SO kx vx ox ek ev eo hB1 e1 p0 p1 p2 p3 p4 p5 p6 s1 s2 s3 q1 q2 q3 t1 t2 t3 r h (show _ = _ by rw [hr, if_pos h])

theorem refCheck_any (c : Cm.Cmd) (w : World) (hs : c.Short 140737488355328) : Calls Tryd.prog 22 #[.agg (Cm.cells c)] w (Looks w (.int .i64 (Cm.check c))) := by
  rw [← Cm.refCheck_eq, Cm.refB_eq]
  obtain ⟨w1, e1, hl, hB, _⟩ := box_cmd w c
  exact refCheck_walk w1 w c.kind c.client c.seq c.node _ _ _ _ _ _ _ _ _ hB e1 (hl.cell 0 _ rfl) (hl.cell 1 _ rfl) (hl.cell 2 _ rfl) (hl.cell 3 _ rfl) (hl.cell 4 _ rfl) (hl.cell 5 _ rfl) (hl.cell 6 _ rfl)
    (show _ ≤ _ by rw [str_size]; exact hs.1) (show _ ≤ _ by rw [str_size]; exact hs.2.2) (show _ ≤ _ by rw [str_size]; exact hs.2.1) rfl rfl rfl (str_empty _) (str_empty _) (str_empty _)

end Go.Proofs.YtdbiplicmdnblaaDoor
