/- The record without the fields that its kind does not have: a walk for each kind. Written by wip/tools/genchk16.py. -/
import Derived.Test.YtegpfbmanpnhkaaDoorReMem
namespace Go.Proofs.YtegpfbmanpnhkaaDoor
open Go.RowKit

/-! The record without the fields that its kind does not have. -/
/-- Eight cells in the midst of a block stored one behind the other. -/
theorem set_eight {V : World} {h : Nat} {T : TypeId} {y0 y1 y2 y3 y4 y5 y6 y7 y8 y9 y10 y11 : Value} {P : World → Prop} (hz : Lies V h T #[y0, y1, y2, y3, y4, y5, y6, y7, y8, y9, y10, y11]) (a3 a4 a5 a6 a7 a8 a9 a10 : Value)
    (hP : ∀ w3, Lies w3 h T #[y0, y1, y2, a3, a4, a5, a6, a7, a8, a9, a10, y11] → V.grownBy w3 (some h) → P w3) :
    P ((((((((V.setCell ⟨h, 3, none⟩ a3).setCell ⟨h, 4, none⟩ a4).setCell ⟨h, 5, none⟩ a5).setCell ⟨h, 6, none⟩ a6).setCell ⟨h, 7, none⟩ a7).setCell ⟨h, 8, none⟩ a8).setCell ⟨h, 9, none⟩ a9).setCell ⟨h, 10, none⟩ a10) := by
  refine hP _ ?_ ?_
  · have := (((((((hz.set 3 a3).set 4 a4).set 5 a5).set 6 a6).set 7 a7).set 8 a8).set 9 a9).set 10 a10
    simpa using this
  · exact grown_on (grown_on (grown_on (grown_on (grown_on (grown_on (grown_on (grown_set _ _ _ _) (grown_set _ _ _ _)) (grown_set _ _ _ _)) (grown_set _ _ _ _)) (grown_set _ _ _ _)) (grown_set _ _ _ _)) (grown_set _ _ _ _)) (grown_set _ _ _ _)
/-- The index and the image. -/
theorem set_pair {V : World} {h : Nat} {T : TypeId} {y0 y1 y2 y3 y4 y5 y6 y7 y8 y9 y10 y11 : Value} {P : World → Prop} (hz : Lies V h T #[y0, y1, y2, y3, y4, y5, y6, y7, y8, y9, y10, y11]) (a3 a11 : Value)
    (hP : ∀ w3, Lies w3 h T #[y0, y1, y2, a3, y4, y5, y6, y7, y8, y9, y10, a11] → V.grownBy w3 (some h) → P w3) :
    P ((V.setCell ⟨h, 3, none⟩ a3).setCell ⟨h, 11, none⟩ a11) := by
  refine hP _ ?_ ?_
  · have := (hz.set 3 a3).set 11 a11
    simpa using this
  · exact grown_on (grown_set _ _ _ _) (grown_set _ _ _ _)
theorem box_rec0 (w : World) (x : Re.Rec) (vi : Value) : ∃ w1, (w.alloc (.cells (Re.cells x vi) 28)).alloc (.cells #[.int .i64 0, .int .i64 0, .int .i64 0, .int .i64 0, .int .i64 0, .int .i64 0, .int .i64 0, .string ⟨#[]⟩, .string ⟨#[]⟩, .string ⟨#[]⟩, .int .i64 0, .slice none 0 0] 28) = w1 ∧ Recs w1 w.heap.size x vi ∧ Recs w1 (w.heap.size + 1) Re.zero (.slice none 0 0) ∧ Below w.heap.size w w1 ∧ w1.heap.size = w.heap.size + 2 :=
  box_recs w x vi Re.zero (.slice none 0 0)

set_option maxRecDepth 4000 in
set_option maxHeartbeats 3200000 in
theorem reOwn_1 (x : Re.Rec) (io : Option Addr) (ik ic : Nat) (w : World) (hk : x.kind = 1) :
    Calls Tryd.prog 18 #[.agg (Re.cells x (.slice io ik ic))] w (Looks w (.agg (Re.cells (⟨1, x.bal, 0, Cm.zero, []⟩ : Re.Rec) (.slice none 0 0)))) := by
  obtain ⟨w1, e1, hl1, hl0, hB1, hz1⟩ := box_rec0 w x (.slice io ik ic)
  obtain ⟨p0, p1, p2, p3, p4, p5, p6, p7, p8, p9, p10, p11⟩ := Recs.all hl1

  have HK := Lib.hid hk
  rw [hk] at p0
  have HM1 := Lib.hid hl1; have HZ1 := Lib.hid hl0; have HB1 := Lib.hid hB1; have HS := Lib.hid hz1
  clear hl1 hl0 hB1 hz1 hk
  go_enter Tryd.func18, Tryd.ntmps18
  go_wp2_with (first
    | (refine store_rec (by rfl) _ _ (by rfl) w1.heap.size Re.zero _ (⟨1, Bl.zero, 0, Cm.zero, []⟩ : Re.Rec) (.slice none 0 0) (by rfl) (by rfl) rfl (Lies.new _ _ _) ?_
       intro w2 hl2 hg2
       have hb2 := fresh_below hg2
       have HM2 := Lib.hid (HM1.out.below hb2 HM1.out.lt); have HZ2 := Lib.hid (HZ1.out.below hb2 HZ1.out.lt); have HO2 := Lib.hid hl2
       have HB2 := Lib.hid (HB1.out.trans (hb2.mono HB1.out.size))
       clear hl2 hg2 hb2 p0 p1 p2 p3 p4 p5 p6 p7 p8 p9 p10 p11
       obtain ⟨p0, p1, p2, p3, p4, p5, p6, p7, p8, p9, p10, p11⟩ := Recs.all HM2.out
       rw [HK.out] at p0)
    | (refine store_part (by rfl) _ _ _ (by rfl) w1.heap.size 1 _ _ (Re.cells (⟨1, x.bal, 0, Cm.zero, []⟩ : Re.Rec) (.slice none 0 0)) (.agg (Bl.cells x.bal)) (Bl.cells x.bal).toList (by rfl) (by rfl) (by rfl) (by kernel_rfl) (by rw [Array.all_toList]; exact Bl.cells_one _) HO2.out (Nat.le_of_ble_eq_true rfl) (by rfl) ?_
       intro w3 hl3 hg3
       have hs := HS.out
       have HM3 := Lib.hid (HM2.out.kept hg3 (by simp; omega)); have HZ3 := Lib.hid (HZ2.out.kept hg3 (by simp; omega)); have HO3 := Lib.hid hl3
       have HB3 := Lib.hid (HB2.out.grown hg3 HB2.out.size (by rintro j hj; cases hj; omega))
       clear hl3 hg3 hs p0 p1 p2 p3 p4 p5 p6 p7 p8 p9 p10 p11
       obtain ⟨p0, p1, p2, p3, p4, p5, p6, p7, p8, p9, p10, p11⟩ := Recs.all HM3.out
       rw [HK.out] at p0)
    | (refine load_rec (by rfl) _ (by rfl) w1.heap.size (⟨1, x.bal, 0, Cm.zero, []⟩ : Re.Rec) (.slice none 0 0) (by rfl) HO3.out ?_)
    | (refine store_rec (by rfl) _ _ (by rfl) (w.heap.size + 1) Re.zero _ (⟨1, x.bal, 0, Cm.zero, []⟩ : Re.Rec) (.slice none 0 0) (by rfl) (by rfl) rfl HZ3.out ?_
       intro w9 hl9 hg9
       have HB9 := Lib.hid (HB3.out.grown hg9 HB3.out.size (by rintro j hj; cases hj; exact Nat.le_succ _)))
    | fail)
  refine ret_rec1 rfl rfl hl9 rfl ?_
  exact ⟨rfl, HB9.out⟩

set_option maxRecDepth 4000 in
set_option maxHeartbeats 3200000 in
theorem reOwn_2 (x : Re.Rec) (io : Option Addr) (ik ic : Nat) (w : World) (hk : x.kind = 2) :
    Calls Tryd.prog 18 #[.agg (Re.cells x (.slice io ik ic))] w (Looks w (.agg (Re.cells (⟨2, x.bal, x.index, x.cmd, []⟩ : Re.Rec) (.slice none 0 0)))) := by
  obtain ⟨w1, e1, hl1, hl0, hB1, hz1⟩ := box_rec0 w x (.slice io ik ic)
  obtain ⟨p0, p1, p2, p3, p4, p5, p6, p7, p8, p9, p10, p11⟩ := Recs.all hl1

  have HK := Lib.hid hk
  rw [hk] at p0
  have HM1 := Lib.hid hl1; have HZ1 := Lib.hid hl0; have HB1 := Lib.hid hB1; have HS := Lib.hid hz1
  clear hl1 hl0 hB1 hz1 hk
  go_enter Tryd.func18, Tryd.ntmps18
  go_wp2_with (first
    | (refine store_rec (by rfl) _ _ (by rfl) w1.heap.size Re.zero _ (⟨2, Bl.zero, 0, Cm.zero, []⟩ : Re.Rec) (.slice none 0 0) (by rfl) (by rfl) rfl (Lies.new _ _ _) ?_
       intro w2 hl2 hg2
       have hb2 := fresh_below hg2
       have HM2 := Lib.hid (HM1.out.below hb2 HM1.out.lt); have HZ2 := Lib.hid (HZ1.out.below hb2 HZ1.out.lt); have HO2 := Lib.hid hl2
       have HB2 := Lib.hid (HB1.out.trans (hb2.mono HB1.out.size))
       clear hl2 hg2 hb2 p0 p1 p2 p3 p4 p5 p6 p7 p8 p9 p10 p11
       obtain ⟨p0, p1, p2, p3, p4, p5, p6, p7, p8, p9, p10, p11⟩ := Recs.all HM2.out
       rw [HK.out] at p0)
    | (refine store_part (by rfl) _ _ _ (by rfl) w1.heap.size 1 _ _ (Re.cells (⟨2, x.bal, 0, Cm.zero, []⟩ : Re.Rec) (.slice none 0 0)) (.agg (Bl.cells x.bal)) (Bl.cells x.bal).toList (by rfl) (by rfl) (by rfl) (by kernel_rfl) (by rw [Array.all_toList]; exact Bl.cells_one _) HO2.out (Nat.le_of_ble_eq_true rfl) (by rfl) ?_
       intro w3 hl3 hg3
       have hs := HS.out
       have HM3 := Lib.hid (HM2.out.kept hg3 (by simp; omega)); have HZ3 := Lib.hid (HZ2.out.kept hg3 (by simp; omega)); have HO3 := Lib.hid hl3
       have HB3 := Lib.hid (HB2.out.grown hg3 HB2.out.size (by rintro j hj; cases hj; omega))
       clear hl3 hg3 hs p0 p1 p2 p3 p4 p5 p6 p7 p8 p9 p10 p11
       obtain ⟨p0, p1, p2, p3, p4, p5, p6, p7, p8, p9, p10, p11⟩ := Recs.all HM3.out
       rw [HK.out] at p0)
    | fail)
  have HO := HO3
  have c0 := Recs.c0 HO.out; have c1 := Recs.c1 HO.out; have c2 := Recs.c2 HO.out; have c3 := Recs.c3 HO.out; have c4 := Recs.c4 HO.out; have c5 := Recs.c5 HO.out; have c6 := Recs.c6 HO.out; have c7 := Recs.c7 HO.out; have c8 := Recs.c8 HO.out; have c9 := Recs.c9 HO.out; have c10 := Recs.c10 HO.out; have c11 := Recs.c11 HO.out
  have f3 := HO.out.free 3; have f4 := HO.out.free 4; have f5 := HO.out.free 5; have f6 := HO.out.free 6; have f7 := HO.out.free 7; have f8 := HO.out.free 8; have f9 := HO.out.free 9; have f10 := HO.out.free 10; have f11 := HO.out.free 11
  have hne : ¬ w1.heap.size = w.heap.size := by have := HS.out; omega
  have hne2 : ¬ w.heap.size = w1.heap.size := by have := HS.out; omega
  go_wp2
  go_region
  all_goals
    refine set_eight (P := fun W => Exit.then _ _ _ _ W.drew) HO.out _ _ _ _ _ _ _ _ ?_
    intro w4 hl4 hg4
    clear p0 p1 p2 p3 p4 p5 p6 p7 p8 p9 p10 p11 c0 c1 c2 c3 c4 c5 c6 c7 c8 c9 c10 c11 f3 f4 f5 f6 f7 f8 f9 f10 f11 hne hne2
    have hs := HS.out
    have HO4 : Hid (Recs w4.drew w1.heap.size (⟨2, x.bal, x.index, x.cmd, []⟩ : Re.Rec) (.slice none 0 0)) := Lies.below hl4 (Below.refl _ _).drew (Lies.lt hl4)
    have HZ4 := Lib.hid ((HZ3.out.kept hg4 (by simp; omega)).below (Below.refl _ _).drew (HZ3.out.kept hg4 (by simp; omega)).lt)
    have HB4 := Lib.hid (HB3.out.grown hg4 HB3.out.size (by rintro j hj; cases hj; omega)).drew
    clear hl4 hg4 hs
    go_wp2_with (first
    | (refine load_rec (by rfl) _ (by rfl) w1.heap.size (⟨2, x.bal, x.index, x.cmd, []⟩ : Re.Rec) (.slice none 0 0) (by rfl) HO4.out ?_)
    | (refine store_rec (by rfl) _ _ (by rfl) (w.heap.size + 1) Re.zero _ (⟨2, x.bal, x.index, x.cmd, []⟩ : Re.Rec) (.slice none 0 0) (by rfl) (by rfl) rfl HZ4.out ?_
       intro w9 hl9 hg9
       have HB9 := Lib.hid (HB4.out.grown hg9 HB4.out.size (by rintro j hj; cases hj; exact Nat.le_succ _)))
    | fail)
    refine ret_rec1 rfl rfl hl9 rfl ?_
    exact ⟨rfl, HB9.out⟩

set_option maxRecDepth 4000 in
set_option maxHeartbeats 3200000 in
theorem reOwn_3 (x : Re.Rec) (io : Option Addr) (ik ic : Nat) (w : World) (hk : x.kind = 3) :
    Calls Tryd.prog 18 #[.agg (Re.cells x (.slice io ik ic))] w (Looks w (.agg (Re.cells (⟨3, Bl.zero, x.index, x.cmd, []⟩ : Re.Rec) (.slice none 0 0)))) := by
  obtain ⟨w1, e1, hl1, hl0, hB1, hz1⟩ := box_rec0 w x (.slice io ik ic)
  obtain ⟨p0, p1, p2, p3, p4, p5, p6, p7, p8, p9, p10, p11⟩ := Recs.all hl1

  have HK := Lib.hid hk
  rw [hk] at p0
  have HM1 := Lib.hid hl1; have HZ1 := Lib.hid hl0; have HB1 := Lib.hid hB1; have HS := Lib.hid hz1
  clear hl1 hl0 hB1 hz1 hk
  go_enter Tryd.func18, Tryd.ntmps18
  go_wp2_with (first
    | (refine store_rec (by rfl) _ _ (by rfl) w1.heap.size Re.zero _ (⟨3, Bl.zero, 0, Cm.zero, []⟩ : Re.Rec) (.slice none 0 0) (by rfl) (by rfl) rfl (Lies.new _ _ _) ?_
       intro w2 hl2 hg2
       have hb2 := fresh_below hg2
       have HM2 := Lib.hid (HM1.out.below hb2 HM1.out.lt); have HZ2 := Lib.hid (HZ1.out.below hb2 HZ1.out.lt); have HO2 := Lib.hid hl2
       have HB2 := Lib.hid (HB1.out.trans (hb2.mono HB1.out.size))
       clear hl2 hg2 hb2 p0 p1 p2 p3 p4 p5 p6 p7 p8 p9 p10 p11
       obtain ⟨p0, p1, p2, p3, p4, p5, p6, p7, p8, p9, p10, p11⟩ := Recs.all HM2.out
       rw [HK.out] at p0)
    | fail)
  have HO := HO2
  have c0 := Recs.c0 HO.out; have c1 := Recs.c1 HO.out; have c2 := Recs.c2 HO.out; have c3 := Recs.c3 HO.out; have c4 := Recs.c4 HO.out; have c5 := Recs.c5 HO.out; have c6 := Recs.c6 HO.out; have c7 := Recs.c7 HO.out; have c8 := Recs.c8 HO.out; have c9 := Recs.c9 HO.out; have c10 := Recs.c10 HO.out; have c11 := Recs.c11 HO.out
  have f3 := HO.out.free 3; have f4 := HO.out.free 4; have f5 := HO.out.free 5; have f6 := HO.out.free 6; have f7 := HO.out.free 7; have f8 := HO.out.free 8; have f9 := HO.out.free 9; have f10 := HO.out.free 10; have f11 := HO.out.free 11
  have hne : ¬ w1.heap.size = w.heap.size := by have := HS.out; omega
  have hne2 : ¬ w.heap.size = w1.heap.size := by have := HS.out; omega
  go_wp2
  go_region
  all_goals
    refine set_eight (P := fun W => Exit.then _ _ _ _ W.drew) HO.out _ _ _ _ _ _ _ _ ?_
    intro w4 hl4 hg4
    clear p0 p1 p2 p3 p4 p5 p6 p7 p8 p9 p10 p11 c0 c1 c2 c3 c4 c5 c6 c7 c8 c9 c10 c11 f3 f4 f5 f6 f7 f8 f9 f10 f11 hne hne2
    have hs := HS.out
    have HO4 : Hid (Recs w4.drew w1.heap.size (⟨3, Bl.zero, x.index, x.cmd, []⟩ : Re.Rec) (.slice none 0 0)) := Lies.below hl4 (Below.refl _ _).drew (Lies.lt hl4)
    have HZ4 := Lib.hid ((HZ2.out.kept hg4 (by simp; omega)).below (Below.refl _ _).drew (HZ2.out.kept hg4 (by simp; omega)).lt)
    have HB4 := Lib.hid (HB2.out.grown hg4 HB2.out.size (by rintro j hj; cases hj; omega)).drew
    clear hl4 hg4 hs
    go_wp2_with (first
    | (refine load_rec (by rfl) _ (by rfl) w1.heap.size (⟨3, Bl.zero, x.index, x.cmd, []⟩ : Re.Rec) (.slice none 0 0) (by rfl) HO4.out ?_)
    | (refine store_rec (by rfl) _ _ (by rfl) (w.heap.size + 1) Re.zero _ (⟨3, Bl.zero, x.index, x.cmd, []⟩ : Re.Rec) (.slice none 0 0) (by rfl) (by rfl) rfl HZ4.out ?_
       intro w9 hl9 hg9
       have HB9 := Lib.hid (HB4.out.grown hg9 HB4.out.size (by rintro j hj; cases hj; exact Nat.le_succ _)))
    | fail)
    refine ret_rec1 rfl rfl hl9 rfl ?_
    exact ⟨rfl, HB9.out⟩

set_option maxRecDepth 4000 in
set_option maxHeartbeats 3200000 in
theorem reOwn_4 (x : Re.Rec) (io : Option Addr) (ik ic : Nat) (w : World) (hk : x.kind = 4) :
    Calls Tryd.prog 18 #[.agg (Re.cells x (.slice io ik ic))] w (Looks w (.agg (Re.cells (⟨4, Bl.zero, x.index, Cm.zero, x.img⟩ : Re.Rec) (.slice io ik ic)))) := by
  obtain ⟨w1, e1, hl1, hl0, hB1, hz1⟩ := box_rec0 w x (.slice io ik ic)
  obtain ⟨p0, p1, p2, p3, p4, p5, p6, p7, p8, p9, p10, p11⟩ := Recs.all hl1

  have HK := Lib.hid hk
  rw [hk] at p0
  have HM1 := Lib.hid hl1; have HZ1 := Lib.hid hl0; have HB1 := Lib.hid hB1; have HS := Lib.hid hz1
  clear hl1 hl0 hB1 hz1 hk
  go_enter Tryd.func18, Tryd.ntmps18
  go_wp2_with (first
    | (refine store_rec (by rfl) _ _ (by rfl) w1.heap.size Re.zero _ (⟨4, Bl.zero, 0, Cm.zero, []⟩ : Re.Rec) (.slice none 0 0) (by rfl) (by rfl) rfl (Lies.new _ _ _) ?_
       intro w2 hl2 hg2
       have hb2 := fresh_below hg2
       have HM2 := Lib.hid (HM1.out.below hb2 HM1.out.lt); have HZ2 := Lib.hid (HZ1.out.below hb2 HZ1.out.lt); have HO2 := Lib.hid hl2
       have HB2 := Lib.hid (HB1.out.trans (hb2.mono HB1.out.size))
       clear hl2 hg2 hb2 p0 p1 p2 p3 p4 p5 p6 p7 p8 p9 p10 p11
       obtain ⟨p0, p1, p2, p3, p4, p5, p6, p7, p8, p9, p10, p11⟩ := Recs.all HM2.out
       rw [HK.out] at p0)
    | fail)
  have HO := HO2
  have c0 := Recs.c0 HO.out; have c1 := Recs.c1 HO.out; have c2 := Recs.c2 HO.out; have c3 := Recs.c3 HO.out; have c4 := Recs.c4 HO.out; have c5 := Recs.c5 HO.out; have c6 := Recs.c6 HO.out; have c7 := Recs.c7 HO.out; have c8 := Recs.c8 HO.out; have c9 := Recs.c9 HO.out; have c10 := Recs.c10 HO.out; have c11 := Recs.c11 HO.out
  have f3 := HO.out.free 3; have f4 := HO.out.free 4; have f5 := HO.out.free 5; have f6 := HO.out.free 6; have f7 := HO.out.free 7; have f8 := HO.out.free 8; have f9 := HO.out.free 9; have f10 := HO.out.free 10; have f11 := HO.out.free 11
  have hne : ¬ w1.heap.size = w.heap.size := by have := HS.out; omega
  have hne2 : ¬ w.heap.size = w1.heap.size := by have := HS.out; omega
  go_wp2
  go_region
  all_goals
    refine set_pair (P := fun W => Exit.then _ _ _ _ W.drew) HO.out _ _ ?_
    intro w4 hl4 hg4
    clear p0 p1 p2 p3 p4 p5 p6 p7 p8 p9 p10 p11 c0 c1 c2 c3 c4 c5 c6 c7 c8 c9 c10 c11 f3 f4 f5 f6 f7 f8 f9 f10 f11 hne hne2
    have hs := HS.out
    have HO4 : Hid (Recs w4.drew w1.heap.size (⟨4, Bl.zero, x.index, Cm.zero, x.img⟩ : Re.Rec) (.slice io ik ic)) := Lies.below hl4 (Below.refl _ _).drew (Lies.lt hl4)
    have HZ4 := Lib.hid ((HZ2.out.kept hg4 (by simp; omega)).below (Below.refl _ _).drew (HZ2.out.kept hg4 (by simp; omega)).lt)
    have HB4 := Lib.hid (HB2.out.grown hg4 HB2.out.size (by rintro j hj; cases hj; omega)).drew
    clear hl4 hg4 hs
    go_wp2_with (first
    | (refine load_rec (by rfl) _ (by rfl) w1.heap.size (⟨4, Bl.zero, x.index, Cm.zero, x.img⟩ : Re.Rec) (.slice io ik ic) (by rfl) HO4.out ?_)
    | (refine store_rec (by rfl) _ _ (by rfl) (w.heap.size + 1) Re.zero _ (⟨4, Bl.zero, x.index, Cm.zero, x.img⟩ : Re.Rec) (.slice io ik ic) (by rfl) (by rfl) rfl HZ4.out ?_
       intro w9 hl9 hg9
       have HB9 := Lib.hid (HB4.out.grown hg9 HB4.out.size (by rintro j hj; cases hj; exact Nat.le_succ _)))
    | fail)
    refine ret_rec1 rfl rfl hl9 rfl ?_
    exact ⟨rfl, HB9.out⟩

set_option maxRecDepth 4000 in
set_option maxHeartbeats 3200000 in
theorem reOwn_no (x : Re.Rec) (io : Option Addr) (ik ic : Nat) (w : World) (hk : x.kind < 1 ∨ 4 < x.kind) :
    Calls Tryd.prog 18 #[.agg (Re.cells x (.slice io ik ic))] w (Looks w (.agg (Re.cells (⟨x.kind, Bl.zero, 0, Cm.zero, []⟩ : Re.Rec) (.slice none 0 0)))) := by
  obtain ⟨w1, e1, hl1, hl0, hB1, hz1⟩ := box_rec0 w x (.slice io ik ic)
  obtain ⟨p0, p1, p2, p3, p4, p5, p6, p7, p8, p9, p10, p11⟩ := Recs.all hl1

  have d1 : (x.kind == 1) = false := by simp; omega
  have d2 : (x.kind == 2) = false := by simp; omega
  have d3 : (x.kind == 3) = false := by simp; omega
  have d4 : (x.kind == 4) = false := by simp; omega
  have HM1 := Lib.hid hl1; have HZ1 := Lib.hid hl0; have HB1 := Lib.hid hB1; have HS := Lib.hid hz1
  clear hl1 hl0 hB1 hz1 hk
  go_enter Tryd.func18, Tryd.ntmps18
  go_wp2_with (first
    | (refine store_rec (by rfl) _ _ (by rfl) w1.heap.size Re.zero _ (⟨x.kind, Bl.zero, 0, Cm.zero, []⟩ : Re.Rec) (.slice none 0 0) (by rfl) (by rfl) rfl (Lies.new _ _ _) ?_
       intro w2 hl2 hg2
       have hb2 := fresh_below hg2
       have HM2 := Lib.hid (HM1.out.below hb2 HM1.out.lt); have HZ2 := Lib.hid (HZ1.out.below hb2 HZ1.out.lt); have HO2 := Lib.hid hl2
       have HB2 := Lib.hid (HB1.out.trans (hb2.mono HB1.out.size))
       clear hl2 hg2 hb2 p0 p1 p2 p3 p4 p5 p6 p7 p8 p9 p10 p11
       obtain ⟨p0, p1, p2, p3, p4, p5, p6, p7, p8, p9, p10, p11⟩ := Recs.all HM2.out)
    | (refine load_rec (by rfl) _ (by rfl) w1.heap.size (⟨x.kind, Bl.zero, 0, Cm.zero, []⟩ : Re.Rec) (.slice none 0 0) (by rfl) HO2.out ?_)
    | (refine store_rec (by rfl) _ _ (by rfl) (w.heap.size + 1) Re.zero _ (⟨x.kind, Bl.zero, 0, Cm.zero, []⟩ : Re.Rec) (.slice none 0 0) (by rfl) (by rfl) rfl HZ2.out ?_
       intro w9 hl9 hg9
       have HB9 := Lib.hid (HB2.out.grown hg9 HB2.out.size (by rintro j hj; cases hj; exact Nat.le_succ _)))
    | fail)
  refine ret_rec1 rfl rfl hl9 rfl ?_
  exact ⟨rfl, HB9.out⟩

theorem ownRe_any (x : Re.Rec) (io : Option Addr) (ik ic : Nat) (w : World) :
    Calls Tryd.prog 18 #[.agg (Re.cells x (.slice io ik ic))] w (Looks w (.agg (Re.cells (Re.own x) (if Re.hm x.kind = true then .slice io ik ic else .slice none 0 0)))) := by
  rcases Re.kinds x.kind with h | h | h | h | h
  · have := reOwn_1 x io ik ic w h
    unfold Re.own
    rw [h]
    exact this
  · have := reOwn_2 x io ik ic w h
    unfold Re.own
    rw [h]
    exact this
  · have := reOwn_3 x io ik ic w h
    unfold Re.own
    rw [h]
    exact this
  · have := reOwn_4 x io ik ic w h
    unfold Re.own
    rw [h]
    exact this
  · have := reOwn_no x io ik ic w h
    obtain ⟨a, b, c, d, _⟩ := Re.has_no h
    unfold Re.own
    rw [a, b, c, d]
    exact this

end Go.Proofs.YtegpfbmanpnhkaaDoor
