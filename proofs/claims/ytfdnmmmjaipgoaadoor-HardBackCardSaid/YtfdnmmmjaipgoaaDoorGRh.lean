/- Several texts of mine in one: ReRef ReRef2. -/
import Derived.Test.YtfdnmmmjaipgoaaDoorGRf
import Derived.Test.YtfdnmmmjaipgoaaDoorGMr
import Derived.Test.YtfdnmmmjaipgoaaDoorGCr
import Derived.Test.YtfdnmmmjaipgoaaDoorVers
import Derived.Test.YtfdnmmmjaipgoaaDoorGCb
namespace Go.Proofs.YtfdnmmmjaipgoaaDoor
open Go.RowKit

theorem Re.owned_is (b : Bl.Bal) : Ms.owned b = (!(b.round == 0) && Bl.may b) := by
  rw [Ms.owned_round, Bool.and_comm]
  cases h : Bl.may b with
  | false => simp
  | true =>
    have := (Bl.may_num b h).1
    rw [Bool.and_true, Bool.and_true, Bool.eq_iff_iff]
    simp
    omega

set_option maxRecDepth 4000 in
set_option maxHeartbeats 400000 in
theorem refHb_any (k : Int) (w : World) : Calls Tryd.prog 26 #[.int .i64 k] w (Says w (.bool (Re.hb k))) := by
  unfold Re.hb
  by_cases h1 : k = 1
  · subst h1
    go_enter Tryd.func26, Tryd.ntmps26
    go_wp2
    go_ret
    exact ⟨rfl, rfl⟩
  by_cases h2 : k = 2
  · subst h2
    go_enter Tryd.func26, Tryd.ntmps26
    go_wp2
    go_ret
    exact ⟨rfl, rfl⟩
  have d1 : (k == 1) = false := by simpa using h1
  have d2 : (k == 2) = false := by simpa using h2
  rw [decide_eq_false h1, decide_eq_false h2]
  clear h1 h2
  go_enter Tryd.func26, Tryd.ntmps26
  go_wp2
  go_ret
  exact ⟨rfl, rfl⟩

set_option maxRecDepth 4000 in
set_option maxHeartbeats 400000 in
theorem refHi_any (k : Int) (w : World) : Calls Tryd.prog 40 #[.int .i64 k] w (Says w (.bool (Re.hi k))) := by
  unfold Re.hi
  by_cases h2 : k = 2
  · subst h2
    go_enter Tryd.func40, Tryd.ntmps40
    go_wp2
    go_ret
    exact ⟨rfl, rfl⟩
  by_cases h3 : k = 3
  · subst h3
    go_enter Tryd.func40, Tryd.ntmps40
    go_wp2
    go_ret
    exact ⟨rfl, rfl⟩
  by_cases h4 : k = 4
  · subst h4
    go_enter Tryd.func40, Tryd.ntmps40
    go_wp2
    go_ret
    exact ⟨rfl, rfl⟩
  have d2 : (k == 2) = false := by simpa using h2
  have d3 : (k == 3) = false := by simpa using h3
  have d4 : (k == 4) = false := by simpa using h4
  rw [decide_eq_false h2, decide_eq_false h3, decide_eq_false h4]
  clear h2 h3 h4
  go_enter Tryd.func40, Tryd.ntmps40
  go_wp2
  go_ret
  exact ⟨rfl, rfl⟩

set_option maxRecDepth 4000 in
set_option maxHeartbeats 400000 in
theorem refHc_any (k : Int) (w : World) : Calls Tryd.prog 27 #[.int .i64 k] w (Says w (.bool (Re.hc k))) := by
  unfold Re.hc
  by_cases h2 : k = 2
  · subst h2
    go_enter Tryd.func27, Tryd.ntmps27
    go_wp2
    go_ret
    exact ⟨rfl, rfl⟩
  by_cases h3 : k = 3
  · subst h3
    go_enter Tryd.func27, Tryd.ntmps27
    go_wp2
    go_ret
    exact ⟨rfl, rfl⟩
  have d2 : (k == 2) = false := by simpa using h2
  have d3 : (k == 3) = false := by simpa using h3
  rw [decide_eq_false h2, decide_eq_false h3]
  clear h2 h3
  go_enter Tryd.func27, Tryd.ntmps27
  go_wp2
  go_ret
  exact ⟨rfl, rfl⟩


set_option maxRecDepth 4000 in
set_option maxHeartbeats 1600000 in
theorem refCk_1a (x : Re.Rec) (io : Option Addr) (n ic : Nat) (w : World) (hk : x.kind = 1) (d1 : (x.bal.round == 0) = true) :
    Calls Tryd.prog 20 #[.agg (Re.cells x (.slice io n ic))] w (Looks w (.int .i64 (6))) := by
  obtain ⟨w1, e1, hl1, hB1, hz1⟩ := box_rec w x (.slice io n ic)
  obtain ⟨p0, p1, p2, p3, p4, p5, p6, p7, p8, p9, p10, p11⟩ := Recs.all hl1
  rw [hk] at p0
  have HK := Lib.hid hk
  have HM1 := Lib.hid hl1; have HB1 := Lib.hid hB1
  have Hhb : Hid (∀ W, Calls Tryd.prog 26 #[.int .i64 1] W (Says W (.bool true))) := fun W => refHb_any 1 W
  clear hl1 hB1 hz1 hk
  go_enter Tryd.func20, Tryd.ntmps20
  go_wp2_with fail
  refine (Hhb.out _).mono ?_
  rintro e' w' ⟨rfl, rfl⟩
  go_wp2
  go_ret
  exact ⟨rfl, HB1.out⟩


set_option maxRecDepth 4000 in
set_option maxHeartbeats 1600000 in
theorem refCk_1b (x : Re.Rec) (io : Option Addr) (n ic : Nat) (w : World) (hk : x.kind = 1) (d1 : (x.bal.round == 0) = false) (dm : Bl.may x.bal = false) :
    Calls Tryd.prog 20 #[.agg (Re.cells x (.slice io n ic))] w (Looks w (.int .i64 (6))) := by
  obtain ⟨w1, e1, hl1, hB1, hz1⟩ := box_rec w x (.slice io n ic)
  obtain ⟨p0, p1, p2, p3, p4, p5, p6, p7, p8, p9, p10, p11⟩ := Recs.all hl1
  rw [hk] at p0
  have HK := Lib.hid hk
  have HM1 := Lib.hid hl1; have HB1 := Lib.hid hB1
  have Hhb : Hid (∀ W, Calls Tryd.prog 26 #[.int .i64 1] W (Says W (.bool true))) := fun W => refHb_any 1 W
  have HMAY : Hid (∀ W, Calls Tryd.prog 29 #[.agg (Bl.cells x.bal)] W (Looks W (.bool false))) := fun W => by have := brefMay_any x.bal W; rw [dm] at this; exact this
  clear dm
  clear hl1 hB1 hz1 hk
  go_enter Tryd.func20, Tryd.ntmps20
  go_wp2_with fail
  refine (Hhb.out _).mono ?_
  rintro e' w' ⟨rfl, rfl⟩
  go_wp2_with fail
  refine (HMAY.out _).mono ?_
  rintro e' w2 ⟨rfl, hb⟩
  have HM2 := Lib.hid (HM1.out.below hb HM1.out.lt); have HB2 := Lib.hid (HB1.out.trans (hb.mono HB1.out.size))
  clear hb p0 p1 p2 p3 p4 p5 p6 p7 p8 p9 p10 p11
  obtain ⟨p0, p1, p2, p3, p4, p5, p6, p7, p8, p9, p10, p11⟩ := Recs.all HM2.out
  rw [HK.out] at p0
  go_wp2
  go_ret
  exact ⟨rfl, HB2.out⟩


set_option maxRecDepth 4000 in
set_option maxHeartbeats 1600000 in
theorem refCk_1c (x : Re.Rec) (io : Option Addr) (n ic : Nat) (w : World) (hk : x.kind = 1) (d1 : (x.bal.round == 0) = false) (dm : Bl.may x.bal = true) (d4 : (x.index != 0) = true) :
    Calls Tryd.prog 20 #[.agg (Re.cells x (.slice io n ic))] w (Looks w (.int .i64 (3))) := by
  obtain ⟨w1, e1, hl1, hB1, hz1⟩ := box_rec w x (.slice io n ic)
  obtain ⟨p0, p1, p2, p3, p4, p5, p6, p7, p8, p9, p10, p11⟩ := Recs.all hl1
  rw [hk] at p0
  have HK := Lib.hid hk
  have HM1 := Lib.hid hl1; have HB1 := Lib.hid hB1
  have Hhb : Hid (∀ W, Calls Tryd.prog 26 #[.int .i64 1] W (Says W (.bool true))) := fun W => refHb_any 1 W
  have Hhi : Hid (∀ W, Calls Tryd.prog 40 #[.int .i64 1] W (Says W (.bool false))) := fun W => refHi_any 1 W
  have Hhc : Hid (∀ W, Calls Tryd.prog 27 #[.int .i64 1] W (Says W (.bool false))) := fun W => refHc_any 1 W
  have HMAY : Hid (∀ W, Calls Tryd.prog 29 #[.agg (Bl.cells x.bal)] W (Looks W (.bool true))) := fun W => by have := brefMay_any x.bal W; rw [dm] at this; exact this
  clear dm
  clear hl1 hB1 hz1 hk
  go_enter Tryd.func20, Tryd.ntmps20
  go_wp2_with fail
  refine (Hhb.out _).mono ?_
  rintro e' w' ⟨rfl, rfl⟩
  go_wp2_with fail
  refine (HMAY.out _).mono ?_
  rintro e' w2 ⟨rfl, hb⟩
  have HM2 := Lib.hid (HM1.out.below hb HM1.out.lt); have HB2 := Lib.hid (HB1.out.trans (hb.mono HB1.out.size))
  clear hb p0 p1 p2 p3 p4 p5 p6 p7 p8 p9 p10 p11
  obtain ⟨p0, p1, p2, p3, p4, p5, p6, p7, p8, p9, p10, p11⟩ := Recs.all HM2.out
  rw [HK.out] at p0
  go_wp2_with fail
  refine (Hhi.out _).mono ?_
  rintro e' w' ⟨rfl, rfl⟩
  go_wp2_with fail
  refine (Hhc.out _).mono ?_
  rintro e' w' ⟨rfl, rfl⟩
  go_wp2_with fail
  refine (Hhb.out _).mono ?_
  rintro e' w' ⟨rfl, rfl⟩
  go_wp2_with fail
  refine (Hhi.out _).mono ?_
  rintro e' w' ⟨rfl, rfl⟩
  go_wp2
  go_ret
  exact ⟨rfl, HB2.out⟩


set_option maxRecDepth 4000 in
set_option maxHeartbeats 1600000 in
theorem refCk_1d (x : Re.Rec) (io : Option Addr) (n ic : Nat) (w : World) (hk : x.kind = 1) (d1 : (x.bal.round == 0) = false) (dm : Bl.may x.bal = true) (d4 : (x.index != 0) = false) (d5 : decide (x.cmd = Cm.zero) = false) :
    Calls Tryd.prog 20 #[.agg (Re.cells x (.slice io n ic))] w (Looks w (.int .i64 (3))) := by
  obtain ⟨w1, e1, hl1, hB1, hz1⟩ := box_rec w x (.slice io n ic)
  obtain ⟨p0, p1, p2, p3, p4, p5, p6, p7, p8, p9, p10, p11⟩ := Recs.all hl1
  rw [hk] at p0
  have HK := Lib.hid hk
  have HM1 := Lib.hid hl1; have HB1 := Lib.hid hB1
  have Hhb : Hid (∀ W, Calls Tryd.prog 26 #[.int .i64 1] W (Says W (.bool true))) := fun W => refHb_any 1 W
  have Hhi : Hid (∀ W, Calls Tryd.prog 40 #[.int .i64 1] W (Says W (.bool false))) := fun W => refHi_any 1 W
  have Hhc : Hid (∀ W, Calls Tryd.prog 27 #[.int .i64 1] W (Says W (.bool false))) := fun W => refHc_any 1 W
  have HMAY : Hid (∀ W, Calls Tryd.prog 29 #[.agg (Bl.cells x.bal)] W (Looks W (.bool true))) := fun W => by have := brefMay_any x.bal W; rw [dm] at this; exact this
  clear dm
  have hgd := guard_cmd
  have heq : ∀ W, (binOp .neq 39 (.agg (Cm.cells x.cmd)) (.agg (Cm.cells Cm.zero))).run Tryd.prog W = .ok (.bool true) W := fun W => by rw [run_neq_cmd2, d5]; rfl
  dsimp only [Cm.cells, Cm.zero, Cm.bareOf] at heq
  clear d5
  clear hl1 hB1 hz1 hk
  go_enter Tryd.func20, Tryd.ntmps20
  go_wp2_with fail
  refine (Hhb.out _).mono ?_
  rintro e' w' ⟨rfl, rfl⟩
  go_wp2_with fail
  refine (HMAY.out _).mono ?_
  rintro e' w2 ⟨rfl, hb⟩
  have HM2 := Lib.hid (HM1.out.below hb HM1.out.lt); have HB2 := Lib.hid (HB1.out.trans (hb.mono HB1.out.size))
  clear hb p0 p1 p2 p3 p4 p5 p6 p7 p8 p9 p10 p11
  obtain ⟨p0, p1, p2, p3, p4, p5, p6, p7, p8, p9, p10, p11⟩ := Recs.all HM2.out
  rw [HK.out] at p0
  go_wp2_with fail
  refine (Hhi.out _).mono ?_
  rintro e' w' ⟨rfl, rfl⟩
  go_wp2_with fail
  refine (Hhc.out _).mono ?_
  rintro e' w' ⟨rfl, rfl⟩
  go_wp2_with fail
  refine (Hhb.out _).mono ?_
  rintro e' w' ⟨rfl, rfl⟩
  go_wp2_with fail
  refine (Hhi.out _).mono ?_
  rintro e' w' ⟨rfl, rfl⟩
  go_wp2_with fail
  refine (Hhc.out _).mono ?_
  rintro e' w' ⟨rfl, rfl⟩
  go_wp2
  go_ret
  exact ⟨rfl, HB2.out⟩


set_option maxRecDepth 4000 in
set_option maxHeartbeats 1600000 in
theorem refCk_1e (x : Re.Rec) (io : Option Addr) (n ic : Nat) (w : World) (hk : x.kind = 1) (d1 : (x.bal.round == 0) = false) (dm : Bl.may x.bal = true) (d4 : (x.index != 0) = false) (d5 : decide (x.cmd = Cm.zero) = true) (d6 : 0 < n) :
    Calls Tryd.prog 20 #[.agg (Re.cells x (.slice io n ic))] w (Looks w (.int .i64 (3))) := by
  obtain ⟨w1, e1, hl1, hB1, hz1⟩ := box_rec w x (.slice io n ic)
  obtain ⟨p0, p1, p2, p3, p4, p5, p6, p7, p8, p9, p10, p11⟩ := Recs.all hl1
  rw [hk] at p0
  have HK := Lib.hid hk
  have HM1 := Lib.hid hl1; have HB1 := Lib.hid hB1
  have Hhb : Hid (∀ W, Calls Tryd.prog 26 #[.int .i64 1] W (Says W (.bool true))) := fun W => refHb_any 1 W
  have Hhi : Hid (∀ W, Calls Tryd.prog 40 #[.int .i64 1] W (Says W (.bool false))) := fun W => refHi_any 1 W
  have Hhc : Hid (∀ W, Calls Tryd.prog 27 #[.int .i64 1] W (Says W (.bool false))) := fun W => refHc_any 1 W
  have HMAY : Hid (∀ W, Calls Tryd.prog 29 #[.agg (Bl.cells x.bal)] W (Looks W (.bool true))) := fun W => by have := brefMay_any x.bal W; rw [dm] at this; exact this
  clear dm
  have hgd := guard_cmd
  have heq : ∀ W, (binOp .neq 39 (.agg (Cm.cells x.cmd)) (.agg (Cm.cells Cm.zero))).run Tryd.prog W = .ok (.bool false) W := fun W => by rw [run_neq_cmd2, d5]; rfl
  dsimp only [Cm.cells, Cm.zero, Cm.bareOf] at heq
  clear d5
  clear hl1 hB1 hz1 hk
  go_enter Tryd.func20, Tryd.ntmps20
  go_wp2_with fail
  refine (Hhb.out _).mono ?_
  rintro e' w' ⟨rfl, rfl⟩
  go_wp2_with fail
  refine (HMAY.out _).mono ?_
  rintro e' w2 ⟨rfl, hb⟩
  have HM2 := Lib.hid (HM1.out.below hb HM1.out.lt); have HB2 := Lib.hid (HB1.out.trans (hb.mono HB1.out.size))
  clear hb p0 p1 p2 p3 p4 p5 p6 p7 p8 p9 p10 p11
  obtain ⟨p0, p1, p2, p3, p4, p5, p6, p7, p8, p9, p10, p11⟩ := Recs.all HM2.out
  rw [HK.out] at p0
  go_wp2_with fail
  refine (Hhi.out _).mono ?_
  rintro e' w' ⟨rfl, rfl⟩
  go_wp2_with fail
  refine (Hhc.out _).mono ?_
  rintro e' w' ⟨rfl, rfl⟩
  go_wp2_with fail
  refine (Hhb.out _).mono ?_
  rintro e' w' ⟨rfl, rfl⟩
  go_wp2_with fail
  refine (Hhi.out _).mono ?_
  rintro e' w' ⟨rfl, rfl⟩
  go_wp2_with fail
  refine (Hhc.out _).mono ?_
  rintro e' w' ⟨rfl, rfl⟩
  go_wp2
  go_ret
  exact ⟨rfl, HB2.out⟩


set_option maxRecDepth 4000 in
set_option maxHeartbeats 1600000 in
theorem refCk_1f (x : Re.Rec) (io : Option Addr) (n ic : Nat) (w : World) (hk : x.kind = 1) (d1 : (x.bal.round == 0) = false) (dm : Bl.may x.bal = true) (d4 : (x.index != 0) = false) (d5 : decide (x.cmd = Cm.zero) = true) (d6 : ¬ 0 < n) :
    Calls Tryd.prog 20 #[.agg (Re.cells x (.slice io n ic))] w (Looks w (.int .i64 (0))) := by
  obtain ⟨w1, e1, hl1, hB1, hz1⟩ := box_rec w x (.slice io n ic)
  obtain ⟨p0, p1, p2, p3, p4, p5, p6, p7, p8, p9, p10, p11⟩ := Recs.all hl1
  rw [hk] at p0
  have HK := Lib.hid hk
  have HM1 := Lib.hid hl1; have HB1 := Lib.hid hB1
  have Hhb : Hid (∀ W, Calls Tryd.prog 26 #[.int .i64 1] W (Says W (.bool true))) := fun W => refHb_any 1 W
  have Hhi : Hid (∀ W, Calls Tryd.prog 40 #[.int .i64 1] W (Says W (.bool false))) := fun W => refHi_any 1 W
  have Hhc : Hid (∀ W, Calls Tryd.prog 27 #[.int .i64 1] W (Says W (.bool false))) := fun W => refHc_any 1 W
  have HMAY : Hid (∀ W, Calls Tryd.prog 29 #[.agg (Bl.cells x.bal)] W (Looks W (.bool true))) := fun W => by have := brefMay_any x.bal W; rw [dm] at this; exact this
  clear dm
  have hgd := guard_cmd
  have heq : ∀ W, (binOp .neq 39 (.agg (Cm.cells x.cmd)) (.agg (Cm.cells Cm.zero))).run Tryd.prog W = .ok (.bool false) W := fun W => by rw [run_neq_cmd2, d5]; rfl
  dsimp only [Cm.cells, Cm.zero, Cm.bareOf] at heq
  clear d5
  clear hl1 hB1 hz1 hk
  go_enter Tryd.func20, Tryd.ntmps20
  go_wp2_with fail
  refine (Hhb.out _).mono ?_
  rintro e' w' ⟨rfl, rfl⟩
  go_wp2_with fail
  refine (HMAY.out _).mono ?_
  rintro e' w2 ⟨rfl, hb⟩
  have HM2 := Lib.hid (HM1.out.below hb HM1.out.lt); have HB2 := Lib.hid (HB1.out.trans (hb.mono HB1.out.size))
  clear hb p0 p1 p2 p3 p4 p5 p6 p7 p8 p9 p10 p11
  obtain ⟨p0, p1, p2, p3, p4, p5, p6, p7, p8, p9, p10, p11⟩ := Recs.all HM2.out
  rw [HK.out] at p0
  go_wp2_with fail
  refine (Hhi.out _).mono ?_
  rintro e' w' ⟨rfl, rfl⟩
  go_wp2_with fail
  refine (Hhc.out _).mono ?_
  rintro e' w' ⟨rfl, rfl⟩
  go_wp2_with fail
  refine (Hhb.out _).mono ?_
  rintro e' w' ⟨rfl, rfl⟩
  go_wp2_with fail
  refine (Hhi.out _).mono ?_
  rintro e' w' ⟨rfl, rfl⟩
  go_wp2_with fail
  refine (Hhc.out _).mono ?_
  rintro e' w' ⟨rfl, rfl⟩
  go_wp2
  go_ret
  exact ⟨rfl, HB2.out⟩


set_option maxRecDepth 4000 in
set_option maxHeartbeats 1600000 in
theorem refCk_2a (x : Re.Rec) (io : Option Addr) (n ic : Nat) (w : World) (hk : x.kind = 2) (d1 : (x.bal.round == 0) = true) :
    Calls Tryd.prog 20 #[.agg (Re.cells x (.slice io n ic))] w (Looks w (.int .i64 (6))) := by
  obtain ⟨w1, e1, hl1, hB1, hz1⟩ := box_rec w x (.slice io n ic)
  obtain ⟨p0, p1, p2, p3, p4, p5, p6, p7, p8, p9, p10, p11⟩ := Recs.all hl1
  rw [hk] at p0
  have HK := Lib.hid hk
  have HM1 := Lib.hid hl1; have HB1 := Lib.hid hB1
  have Hhb : Hid (∀ W, Calls Tryd.prog 26 #[.int .i64 2] W (Says W (.bool true))) := fun W => refHb_any 2 W
  clear hl1 hB1 hz1 hk
  go_enter Tryd.func20, Tryd.ntmps20
  go_wp2_with fail
  refine (Hhb.out _).mono ?_
  rintro e' w' ⟨rfl, rfl⟩
  go_wp2
  go_ret
  exact ⟨rfl, HB1.out⟩


set_option maxRecDepth 4000 in
set_option maxHeartbeats 1600000 in
theorem refCk_2b (x : Re.Rec) (io : Option Addr) (n ic : Nat) (w : World) (hk : x.kind = 2) (d1 : (x.bal.round == 0) = false) (dm : Bl.may x.bal = false) :
    Calls Tryd.prog 20 #[.agg (Re.cells x (.slice io n ic))] w (Looks w (.int .i64 (6))) := by
  obtain ⟨w1, e1, hl1, hB1, hz1⟩ := box_rec w x (.slice io n ic)
  obtain ⟨p0, p1, p2, p3, p4, p5, p6, p7, p8, p9, p10, p11⟩ := Recs.all hl1
  rw [hk] at p0
  have HK := Lib.hid hk
  have HM1 := Lib.hid hl1; have HB1 := Lib.hid hB1
  have Hhb : Hid (∀ W, Calls Tryd.prog 26 #[.int .i64 2] W (Says W (.bool true))) := fun W => refHb_any 2 W
  have HMAY : Hid (∀ W, Calls Tryd.prog 29 #[.agg (Bl.cells x.bal)] W (Looks W (.bool false))) := fun W => by have := brefMay_any x.bal W; rw [dm] at this; exact this
  clear dm
  clear hl1 hB1 hz1 hk
  go_enter Tryd.func20, Tryd.ntmps20
  go_wp2_with fail
  refine (Hhb.out _).mono ?_
  rintro e' w' ⟨rfl, rfl⟩
  go_wp2_with fail
  refine (HMAY.out _).mono ?_
  rintro e' w2 ⟨rfl, hb⟩
  have HM2 := Lib.hid (HM1.out.below hb HM1.out.lt); have HB2 := Lib.hid (HB1.out.trans (hb.mono HB1.out.size))
  clear hb p0 p1 p2 p3 p4 p5 p6 p7 p8 p9 p10 p11
  obtain ⟨p0, p1, p2, p3, p4, p5, p6, p7, p8, p9, p10, p11⟩ := Recs.all HM2.out
  rw [HK.out] at p0
  go_wp2
  go_ret
  exact ⟨rfl, HB2.out⟩


set_option maxRecDepth 4000 in
set_option maxHeartbeats 1600000 in
theorem refCk_2c (x : Re.Rec) (io : Option Addr) (n ic : Nat) (w : World) (hk : x.kind = 2) (d1 : (x.bal.round == 0) = false) (dm : Bl.may x.bal = true) (d2 : decide (x.index < 1) = true) :
    Calls Tryd.prog 20 #[.agg (Re.cells x (.slice io n ic))] w (Looks w (.int .i64 (6))) := by
  obtain ⟨w1, e1, hl1, hB1, hz1⟩ := box_rec w x (.slice io n ic)
  obtain ⟨p0, p1, p2, p3, p4, p5, p6, p7, p8, p9, p10, p11⟩ := Recs.all hl1
  rw [hk] at p0
  have HK := Lib.hid hk
  have HM1 := Lib.hid hl1; have HB1 := Lib.hid hB1
  have Hhb : Hid (∀ W, Calls Tryd.prog 26 #[.int .i64 2] W (Says W (.bool true))) := fun W => refHb_any 2 W
  have Hhi : Hid (∀ W, Calls Tryd.prog 40 #[.int .i64 2] W (Says W (.bool true))) := fun W => refHi_any 2 W
  have HMAY : Hid (∀ W, Calls Tryd.prog 29 #[.agg (Bl.cells x.bal)] W (Looks W (.bool true))) := fun W => by have := brefMay_any x.bal W; rw [dm] at this; exact this
  clear dm
  clear hl1 hB1 hz1 hk
  go_enter Tryd.func20, Tryd.ntmps20
  go_wp2_with fail
  refine (Hhb.out _).mono ?_
  rintro e' w' ⟨rfl, rfl⟩
  go_wp2_with fail
  refine (HMAY.out _).mono ?_
  rintro e' w2 ⟨rfl, hb⟩
  have HM2 := Lib.hid (HM1.out.below hb HM1.out.lt); have HB2 := Lib.hid (HB1.out.trans (hb.mono HB1.out.size))
  clear hb p0 p1 p2 p3 p4 p5 p6 p7 p8 p9 p10 p11
  obtain ⟨p0, p1, p2, p3, p4, p5, p6, p7, p8, p9, p10, p11⟩ := Recs.all HM2.out
  rw [HK.out] at p0
  go_wp2_with fail
  refine (Hhi.out _).mono ?_
  rintro e' w' ⟨rfl, rfl⟩
  go_wp2
  go_ret
  exact ⟨rfl, HB2.out⟩


set_option maxRecDepth 4000 in
set_option maxHeartbeats 1600000 in
theorem refCk_2d (x : Re.Rec) (io : Option Addr) (n ic : Nat) (w : World) (hk : x.kind = 2) (d1 : (x.bal.round == 0) = false) (dm : Bl.may x.bal = true) (d2 : decide (x.index < 1) = false) (d3 : decide (4294967296 < x.index) = true) :
    Calls Tryd.prog 20 #[.agg (Re.cells x (.slice io n ic))] w (Looks w (.int .i64 (6))) := by
  obtain ⟨w1, e1, hl1, hB1, hz1⟩ := box_rec w x (.slice io n ic)
  obtain ⟨p0, p1, p2, p3, p4, p5, p6, p7, p8, p9, p10, p11⟩ := Recs.all hl1
  rw [hk] at p0
  have HK := Lib.hid hk
  have HM1 := Lib.hid hl1; have HB1 := Lib.hid hB1
  have Hhb : Hid (∀ W, Calls Tryd.prog 26 #[.int .i64 2] W (Says W (.bool true))) := fun W => refHb_any 2 W
  have Hhi : Hid (∀ W, Calls Tryd.prog 40 #[.int .i64 2] W (Says W (.bool true))) := fun W => refHi_any 2 W
  have HMAY : Hid (∀ W, Calls Tryd.prog 29 #[.agg (Bl.cells x.bal)] W (Looks W (.bool true))) := fun W => by have := brefMay_any x.bal W; rw [dm] at this; exact this
  clear dm
  clear hl1 hB1 hz1 hk
  go_enter Tryd.func20, Tryd.ntmps20
  go_wp2_with fail
  refine (Hhb.out _).mono ?_
  rintro e' w' ⟨rfl, rfl⟩
  go_wp2_with fail
  refine (HMAY.out _).mono ?_
  rintro e' w2 ⟨rfl, hb⟩
  have HM2 := Lib.hid (HM1.out.below hb HM1.out.lt); have HB2 := Lib.hid (HB1.out.trans (hb.mono HB1.out.size))
  clear hb p0 p1 p2 p3 p4 p5 p6 p7 p8 p9 p10 p11
  obtain ⟨p0, p1, p2, p3, p4, p5, p6, p7, p8, p9, p10, p11⟩ := Recs.all HM2.out
  rw [HK.out] at p0
  go_wp2_with fail
  refine (Hhi.out _).mono ?_
  rintro e' w' ⟨rfl, rfl⟩
  go_wp2
  go_ret
  exact ⟨rfl, HB2.out⟩


set_option maxRecDepth 4000 in
set_option maxHeartbeats 1600000 in
theorem refCk_2e (x : Re.Rec) (io : Option Addr) (n ic : Nat) (w : World) (hk : x.kind = 2) (d1 : (x.bal.round == 0) = false) (dm : Bl.may x.bal = true) (d2 : decide (x.index < 1) = false) (d3 : decide (4294967296 < x.index) = false) (hs : x.cmd.Short 140737488355328) (hc : Cm.check x.cmd ≠ 0) :
    Calls Tryd.prog 20 #[.agg (Re.cells x (.slice io n ic))] w (Looks w (.int .i64 (Cm.check x.cmd))) := by
  obtain ⟨w1, e1, hl1, hB1, hz1⟩ := box_rec w x (.slice io n ic)
  obtain ⟨p0, p1, p2, p3, p4, p5, p6, p7, p8, p9, p10, p11⟩ := Recs.all hl1
  rw [hk] at p0
  have HK := Lib.hid hk
  have HM1 := Lib.hid hl1; have HB1 := Lib.hid hB1
  have Hhb : Hid (∀ W, Calls Tryd.prog 26 #[.int .i64 2] W (Says W (.bool true))) := fun W => refHb_any 2 W
  have Hhi : Hid (∀ W, Calls Tryd.prog 40 #[.int .i64 2] W (Says W (.bool true))) := fun W => refHi_any 2 W
  have Hhc : Hid (∀ W, Calls Tryd.prog 27 #[.int .i64 2] W (Says W (.bool true))) := fun W => refHc_any 2 W
  have HMAY : Hid (∀ W, Calls Tryd.prog 29 #[.agg (Bl.cells x.bal)] W (Looks W (.bool true))) := fun W => by have := brefMay_any x.bal W; rw [dm] at this; exact this
  clear dm
  have HCMD := Lib.hid (fun W => refCheck_any x.cmd W hs)
  obtain ⟨c, hcc⟩ : ∃ c, c = Cm.check x.cmd := ⟨_, rfl⟩
  rw [← hcc] at HCMD hc ⊢
  have hne : (c != 0) = true := by simpa using hc
  clear hcc hc hs
  clear hl1 hB1 hz1 hk
  go_enter Tryd.func20, Tryd.ntmps20
  go_wp2_with fail
  refine (Hhb.out _).mono ?_
  rintro e' w' ⟨rfl, rfl⟩
  go_wp2_with fail
  refine (HMAY.out _).mono ?_
  rintro e' w2 ⟨rfl, hb⟩
  have HM2 := Lib.hid (HM1.out.below hb HM1.out.lt); have HB2 := Lib.hid (HB1.out.trans (hb.mono HB1.out.size))
  clear hb p0 p1 p2 p3 p4 p5 p6 p7 p8 p9 p10 p11
  obtain ⟨p0, p1, p2, p3, p4, p5, p6, p7, p8, p9, p10, p11⟩ := Recs.all HM2.out
  rw [HK.out] at p0
  go_wp2_with fail
  refine (Hhi.out _).mono ?_
  rintro e' w' ⟨rfl, rfl⟩
  go_wp2_with fail
  refine (Hhc.out _).mono ?_
  rintro e' w' ⟨rfl, rfl⟩
  go_wp2_with fail
  refine (HCMD.out _).mono ?_
  rintro e' w3 ⟨rfl, hb⟩
  have HM3 := Lib.hid (HM2.out.below hb HM2.out.lt); have HB3 := Lib.hid (HB2.out.trans (hb.mono HB2.out.size))
  clear hb p0 p1 p2 p3 p4 p5 p6 p7 p8 p9 p10 p11
  obtain ⟨p0, p1, p2, p3, p4, p5, p6, p7, p8, p9, p10, p11⟩ := Recs.all HM3.out
  rw [HK.out] at p0
  go_wp2
  go_ret
  exact ⟨rfl, HB3.out⟩


set_option maxRecDepth 4000 in
set_option maxHeartbeats 1600000 in
theorem refCk_2f (x : Re.Rec) (io : Option Addr) (n ic : Nat) (w : World) (hk : x.kind = 2) (d1 : (x.bal.round == 0) = false) (dm : Bl.may x.bal = true) (d2 : decide (x.index < 1) = false) (d3 : decide (4294967296 < x.index) = false) (hs : x.cmd.Short 140737488355328) (hc : Cm.check x.cmd = 0) (d6 : 0 < n) :
    Calls Tryd.prog 20 #[.agg (Re.cells x (.slice io n ic))] w (Looks w (.int .i64 (3))) := by
  obtain ⟨w1, e1, hl1, hB1, hz1⟩ := box_rec w x (.slice io n ic)
  obtain ⟨p0, p1, p2, p3, p4, p5, p6, p7, p8, p9, p10, p11⟩ := Recs.all hl1
  rw [hk] at p0
  have HK := Lib.hid hk
  have HM1 := Lib.hid hl1; have HB1 := Lib.hid hB1
  have Hhb : Hid (∀ W, Calls Tryd.prog 26 #[.int .i64 2] W (Says W (.bool true))) := fun W => refHb_any 2 W
  have Hhi : Hid (∀ W, Calls Tryd.prog 40 #[.int .i64 2] W (Says W (.bool true))) := fun W => refHi_any 2 W
  have Hhc : Hid (∀ W, Calls Tryd.prog 27 #[.int .i64 2] W (Says W (.bool true))) := fun W => refHc_any 2 W
  have HMAY : Hid (∀ W, Calls Tryd.prog 29 #[.agg (Bl.cells x.bal)] W (Looks W (.bool true))) := fun W => by have := brefMay_any x.bal W; rw [dm] at this; exact this
  clear dm
  have HCMD := Lib.hid (fun W => refCheck_any x.cmd W hs)
  rw [hc] at HCMD
  clear hc hs
  clear hl1 hB1 hz1 hk
  go_enter Tryd.func20, Tryd.ntmps20
  go_wp2_with fail
  refine (Hhb.out _).mono ?_
  rintro e' w' ⟨rfl, rfl⟩
  go_wp2_with fail
  refine (HMAY.out _).mono ?_
  rintro e' w2 ⟨rfl, hb⟩
  have HM2 := Lib.hid (HM1.out.below hb HM1.out.lt); have HB2 := Lib.hid (HB1.out.trans (hb.mono HB1.out.size))
  clear hb p0 p1 p2 p3 p4 p5 p6 p7 p8 p9 p10 p11
  obtain ⟨p0, p1, p2, p3, p4, p5, p6, p7, p8, p9, p10, p11⟩ := Recs.all HM2.out
  rw [HK.out] at p0
  go_wp2_with fail
  refine (Hhi.out _).mono ?_
  rintro e' w' ⟨rfl, rfl⟩
  go_wp2_with fail
  refine (Hhc.out _).mono ?_
  rintro e' w' ⟨rfl, rfl⟩
  go_wp2_with fail
  refine (HCMD.out _).mono ?_
  rintro e' w3 ⟨rfl, hb⟩
  have HM3 := Lib.hid (HM2.out.below hb HM2.out.lt); have HB3 := Lib.hid (HB2.out.trans (hb.mono HB2.out.size))
  clear hb p0 p1 p2 p3 p4 p5 p6 p7 p8 p9 p10 p11
  obtain ⟨p0, p1, p2, p3, p4, p5, p6, p7, p8, p9, p10, p11⟩ := Recs.all HM3.out
  rw [HK.out] at p0
  go_wp2_with fail
  refine (Hhb.out _).mono ?_
  rintro e' w' ⟨rfl, rfl⟩
  go_wp2_with fail
  refine (Hhi.out _).mono ?_
  rintro e' w' ⟨rfl, rfl⟩
  go_wp2_with fail
  refine (Hhc.out _).mono ?_
  rintro e' w' ⟨rfl, rfl⟩
  go_wp2
  go_ret
  exact ⟨rfl, HB3.out⟩


set_option maxRecDepth 4000 in
set_option maxHeartbeats 1600000 in
theorem refCk_2g (x : Re.Rec) (io : Option Addr) (n ic : Nat) (w : World) (hk : x.kind = 2) (d1 : (x.bal.round == 0) = false) (dm : Bl.may x.bal = true) (d2 : decide (x.index < 1) = false) (d3 : decide (4294967296 < x.index) = false) (hs : x.cmd.Short 140737488355328) (hc : Cm.check x.cmd = 0) (d6 : ¬ 0 < n) :
    Calls Tryd.prog 20 #[.agg (Re.cells x (.slice io n ic))] w (Looks w (.int .i64 (0))) := by
  obtain ⟨w1, e1, hl1, hB1, hz1⟩ := box_rec w x (.slice io n ic)
  obtain ⟨p0, p1, p2, p3, p4, p5, p6, p7, p8, p9, p10, p11⟩ := Recs.all hl1
  rw [hk] at p0
  have HK := Lib.hid hk
  have HM1 := Lib.hid hl1; have HB1 := Lib.hid hB1
  have Hhb : Hid (∀ W, Calls Tryd.prog 26 #[.int .i64 2] W (Says W (.bool true))) := fun W => refHb_any 2 W
  have Hhi : Hid (∀ W, Calls Tryd.prog 40 #[.int .i64 2] W (Says W (.bool true))) := fun W => refHi_any 2 W
  have Hhc : Hid (∀ W, Calls Tryd.prog 27 #[.int .i64 2] W (Says W (.bool true))) := fun W => refHc_any 2 W
  have HMAY : Hid (∀ W, Calls Tryd.prog 29 #[.agg (Bl.cells x.bal)] W (Looks W (.bool true))) := fun W => by have := brefMay_any x.bal W; rw [dm] at this; exact this
  clear dm
  have HCMD := Lib.hid (fun W => refCheck_any x.cmd W hs)
  rw [hc] at HCMD
  clear hc hs
  clear hl1 hB1 hz1 hk
  go_enter Tryd.func20, Tryd.ntmps20
  go_wp2_with fail
  refine (Hhb.out _).mono ?_
  rintro e' w' ⟨rfl, rfl⟩
  go_wp2_with fail
  refine (HMAY.out _).mono ?_
  rintro e' w2 ⟨rfl, hb⟩
  have HM2 := Lib.hid (HM1.out.below hb HM1.out.lt); have HB2 := Lib.hid (HB1.out.trans (hb.mono HB1.out.size))
  clear hb p0 p1 p2 p3 p4 p5 p6 p7 p8 p9 p10 p11
  obtain ⟨p0, p1, p2, p3, p4, p5, p6, p7, p8, p9, p10, p11⟩ := Recs.all HM2.out
  rw [HK.out] at p0
  go_wp2_with fail
  refine (Hhi.out _).mono ?_
  rintro e' w' ⟨rfl, rfl⟩
  go_wp2_with fail
  refine (Hhc.out _).mono ?_
  rintro e' w' ⟨rfl, rfl⟩
  go_wp2_with fail
  refine (HCMD.out _).mono ?_
  rintro e' w3 ⟨rfl, hb⟩
  have HM3 := Lib.hid (HM2.out.below hb HM2.out.lt); have HB3 := Lib.hid (HB2.out.trans (hb.mono HB2.out.size))
  clear hb p0 p1 p2 p3 p4 p5 p6 p7 p8 p9 p10 p11
  obtain ⟨p0, p1, p2, p3, p4, p5, p6, p7, p8, p9, p10, p11⟩ := Recs.all HM3.out
  rw [HK.out] at p0
  go_wp2_with fail
  refine (Hhb.out _).mono ?_
  rintro e' w' ⟨rfl, rfl⟩
  go_wp2_with fail
  refine (Hhi.out _).mono ?_
  rintro e' w' ⟨rfl, rfl⟩
  go_wp2_with fail
  refine (Hhc.out _).mono ?_
  rintro e' w' ⟨rfl, rfl⟩
  go_wp2
  go_ret
  exact ⟨rfl, HB3.out⟩


set_option maxRecDepth 4000 in
set_option maxHeartbeats 1600000 in
theorem refCk_3a (x : Re.Rec) (io : Option Addr) (n ic : Nat) (w : World) (hk : x.kind = 3) (d2 : decide (x.index < 1) = true) :
    Calls Tryd.prog 20 #[.agg (Re.cells x (.slice io n ic))] w (Looks w (.int .i64 (6))) := by
  obtain ⟨w1, e1, hl1, hB1, hz1⟩ := box_rec w x (.slice io n ic)
  obtain ⟨p0, p1, p2, p3, p4, p5, p6, p7, p8, p9, p10, p11⟩ := Recs.all hl1
  rw [hk] at p0
  have HK := Lib.hid hk
  have HM1 := Lib.hid hl1; have HB1 := Lib.hid hB1
  have Hhb : Hid (∀ W, Calls Tryd.prog 26 #[.int .i64 3] W (Says W (.bool false))) := fun W => refHb_any 3 W
  have Hhi : Hid (∀ W, Calls Tryd.prog 40 #[.int .i64 3] W (Says W (.bool true))) := fun W => refHi_any 3 W
  clear hl1 hB1 hz1 hk
  go_enter Tryd.func20, Tryd.ntmps20
  go_wp2_with fail
  refine (Hhb.out _).mono ?_
  rintro e' w' ⟨rfl, rfl⟩
  go_wp2_with fail
  refine (Hhi.out _).mono ?_
  rintro e' w' ⟨rfl, rfl⟩
  go_wp2
  go_ret
  exact ⟨rfl, HB1.out⟩


set_option maxRecDepth 4000 in
set_option maxHeartbeats 1600000 in
theorem refCk_3b (x : Re.Rec) (io : Option Addr) (n ic : Nat) (w : World) (hk : x.kind = 3) (d2 : decide (x.index < 1) = false) (d3 : decide (4294967296 < x.index) = true) :
    Calls Tryd.prog 20 #[.agg (Re.cells x (.slice io n ic))] w (Looks w (.int .i64 (6))) := by
  obtain ⟨w1, e1, hl1, hB1, hz1⟩ := box_rec w x (.slice io n ic)
  obtain ⟨p0, p1, p2, p3, p4, p5, p6, p7, p8, p9, p10, p11⟩ := Recs.all hl1
  rw [hk] at p0
  have HK := Lib.hid hk
  have HM1 := Lib.hid hl1; have HB1 := Lib.hid hB1
  have Hhb : Hid (∀ W, Calls Tryd.prog 26 #[.int .i64 3] W (Says W (.bool false))) := fun W => refHb_any 3 W
  have Hhi : Hid (∀ W, Calls Tryd.prog 40 #[.int .i64 3] W (Says W (.bool true))) := fun W => refHi_any 3 W
  clear hl1 hB1 hz1 hk
  go_enter Tryd.func20, Tryd.ntmps20
  go_wp2_with fail
  refine (Hhb.out _).mono ?_
  rintro e' w' ⟨rfl, rfl⟩
  go_wp2_with fail
  refine (Hhi.out _).mono ?_
  rintro e' w' ⟨rfl, rfl⟩
  go_wp2
  go_ret
  exact ⟨rfl, HB1.out⟩


set_option maxRecDepth 4000 in
set_option maxHeartbeats 1600000 in
theorem refCk_3c (x : Re.Rec) (io : Option Addr) (n ic : Nat) (w : World) (hk : x.kind = 3) (d2 : decide (x.index < 1) = false) (d3 : decide (4294967296 < x.index) = false) (hs : x.cmd.Short 140737488355328) (hc : Cm.check x.cmd ≠ 0) :
    Calls Tryd.prog 20 #[.agg (Re.cells x (.slice io n ic))] w (Looks w (.int .i64 (Cm.check x.cmd))) := by
  obtain ⟨w1, e1, hl1, hB1, hz1⟩ := box_rec w x (.slice io n ic)
  obtain ⟨p0, p1, p2, p3, p4, p5, p6, p7, p8, p9, p10, p11⟩ := Recs.all hl1
  rw [hk] at p0
  have HK := Lib.hid hk
  have HM1 := Lib.hid hl1; have HB1 := Lib.hid hB1
  have Hhb : Hid (∀ W, Calls Tryd.prog 26 #[.int .i64 3] W (Says W (.bool false))) := fun W => refHb_any 3 W
  have Hhi : Hid (∀ W, Calls Tryd.prog 40 #[.int .i64 3] W (Says W (.bool true))) := fun W => refHi_any 3 W
  have Hhc : Hid (∀ W, Calls Tryd.prog 27 #[.int .i64 3] W (Says W (.bool true))) := fun W => refHc_any 3 W
  have HCMD := Lib.hid (fun W => refCheck_any x.cmd W hs)
  obtain ⟨c, hcc⟩ : ∃ c, c = Cm.check x.cmd := ⟨_, rfl⟩
  rw [← hcc] at HCMD hc ⊢
  have hne : (c != 0) = true := by simpa using hc
  clear hcc hc hs
  clear hl1 hB1 hz1 hk
  go_enter Tryd.func20, Tryd.ntmps20
  go_wp2_with fail
  refine (Hhb.out _).mono ?_
  rintro e' w' ⟨rfl, rfl⟩
  go_wp2_with fail
  refine (Hhi.out _).mono ?_
  rintro e' w' ⟨rfl, rfl⟩
  go_wp2_with fail
  refine (Hhc.out _).mono ?_
  rintro e' w' ⟨rfl, rfl⟩
  go_wp2_with fail
  refine (HCMD.out _).mono ?_
  rintro e' w2 ⟨rfl, hb⟩
  have HM2 := Lib.hid (HM1.out.below hb HM1.out.lt); have HB2 := Lib.hid (HB1.out.trans (hb.mono HB1.out.size))
  clear hb p0 p1 p2 p3 p4 p5 p6 p7 p8 p9 p10 p11
  obtain ⟨p0, p1, p2, p3, p4, p5, p6, p7, p8, p9, p10, p11⟩ := Recs.all HM2.out
  rw [HK.out] at p0
  go_wp2
  go_ret
  exact ⟨rfl, HB2.out⟩


set_option maxRecDepth 4000 in
set_option maxHeartbeats 1600000 in
theorem refCk_3d (x : Re.Rec) (io : Option Addr) (n ic : Nat) (w : World) (hk : x.kind = 3) (d2 : decide (x.index < 1) = false) (d3 : decide (4294967296 < x.index) = false) (hs : x.cmd.Short 140737488355328) (hc : Cm.check x.cmd = 0) (d9 : (x.bal.round != 0) = true) :
    Calls Tryd.prog 20 #[.agg (Re.cells x (.slice io n ic))] w (Looks w (.int .i64 (3))) := by
  obtain ⟨w1, e1, hl1, hB1, hz1⟩ := box_rec w x (.slice io n ic)
  obtain ⟨p0, p1, p2, p3, p4, p5, p6, p7, p8, p9, p10, p11⟩ := Recs.all hl1
  rw [hk] at p0
  have HK := Lib.hid hk
  have HM1 := Lib.hid hl1; have HB1 := Lib.hid hB1
  have Hhb : Hid (∀ W, Calls Tryd.prog 26 #[.int .i64 3] W (Says W (.bool false))) := fun W => refHb_any 3 W
  have Hhi : Hid (∀ W, Calls Tryd.prog 40 #[.int .i64 3] W (Says W (.bool true))) := fun W => refHi_any 3 W
  have Hhc : Hid (∀ W, Calls Tryd.prog 27 #[.int .i64 3] W (Says W (.bool true))) := fun W => refHc_any 3 W
  have HCMD := Lib.hid (fun W => refCheck_any x.cmd W hs)
  rw [hc] at HCMD
  clear hc hs
  clear hl1 hB1 hz1 hk
  go_enter Tryd.func20, Tryd.ntmps20
  go_wp2_with fail
  refine (Hhb.out _).mono ?_
  rintro e' w' ⟨rfl, rfl⟩
  go_wp2_with fail
  refine (Hhi.out _).mono ?_
  rintro e' w' ⟨rfl, rfl⟩
  go_wp2_with fail
  refine (Hhc.out _).mono ?_
  rintro e' w' ⟨rfl, rfl⟩
  go_wp2_with fail
  refine (HCMD.out _).mono ?_
  rintro e' w2 ⟨rfl, hb⟩
  have HM2 := Lib.hid (HM1.out.below hb HM1.out.lt); have HB2 := Lib.hid (HB1.out.trans (hb.mono HB1.out.size))
  clear hb p0 p1 p2 p3 p4 p5 p6 p7 p8 p9 p10 p11
  obtain ⟨p0, p1, p2, p3, p4, p5, p6, p7, p8, p9, p10, p11⟩ := Recs.all HM2.out
  rw [HK.out] at p0
  go_wp2_with fail
  refine (Hhb.out _).mono ?_
  rintro e' w' ⟨rfl, rfl⟩
  go_wp2
  go_ret
  exact ⟨rfl, HB2.out⟩


set_option maxRecDepth 4000 in
set_option maxHeartbeats 1600000 in
theorem refCk_3e (x : Re.Rec) (io : Option Addr) (n ic : Nat) (w : World) (hk : x.kind = 3) (d2 : decide (x.index < 1) = false) (d3 : decide (4294967296 < x.index) = false) (hs : x.cmd.Short 140737488355328) (hc : Cm.check x.cmd = 0) (d9 : (x.bal.round != 0) = false) (d8 : (x.bal.node != 0) = true) :
    Calls Tryd.prog 20 #[.agg (Re.cells x (.slice io n ic))] w (Looks w (.int .i64 (3))) := by
  obtain ⟨w1, e1, hl1, hB1, hz1⟩ := box_rec w x (.slice io n ic)
  obtain ⟨p0, p1, p2, p3, p4, p5, p6, p7, p8, p9, p10, p11⟩ := Recs.all hl1
  rw [hk] at p0
  have HK := Lib.hid hk
  have HM1 := Lib.hid hl1; have HB1 := Lib.hid hB1
  have Hhb : Hid (∀ W, Calls Tryd.prog 26 #[.int .i64 3] W (Says W (.bool false))) := fun W => refHb_any 3 W
  have Hhi : Hid (∀ W, Calls Tryd.prog 40 #[.int .i64 3] W (Says W (.bool true))) := fun W => refHi_any 3 W
  have Hhc : Hid (∀ W, Calls Tryd.prog 27 #[.int .i64 3] W (Says W (.bool true))) := fun W => refHc_any 3 W
  have HCMD := Lib.hid (fun W => refCheck_any x.cmd W hs)
  rw [hc] at HCMD
  clear hc hs
  clear hl1 hB1 hz1 hk
  go_enter Tryd.func20, Tryd.ntmps20
  go_wp2_with fail
  refine (Hhb.out _).mono ?_
  rintro e' w' ⟨rfl, rfl⟩
  go_wp2_with fail
  refine (Hhi.out _).mono ?_
  rintro e' w' ⟨rfl, rfl⟩
  go_wp2_with fail
  refine (Hhc.out _).mono ?_
  rintro e' w' ⟨rfl, rfl⟩
  go_wp2_with fail
  refine (HCMD.out _).mono ?_
  rintro e' w2 ⟨rfl, hb⟩
  have HM2 := Lib.hid (HM1.out.below hb HM1.out.lt); have HB2 := Lib.hid (HB1.out.trans (hb.mono HB1.out.size))
  clear hb p0 p1 p2 p3 p4 p5 p6 p7 p8 p9 p10 p11
  obtain ⟨p0, p1, p2, p3, p4, p5, p6, p7, p8, p9, p10, p11⟩ := Recs.all HM2.out
  rw [HK.out] at p0
  go_wp2_with fail
  refine (Hhb.out _).mono ?_
  rintro e' w' ⟨rfl, rfl⟩
  go_wp2
  go_ret
  exact ⟨rfl, HB2.out⟩


set_option maxRecDepth 4000 in
set_option maxHeartbeats 1600000 in
theorem refCk_3f (x : Re.Rec) (io : Option Addr) (n ic : Nat) (w : World) (hk : x.kind = 3) (d2 : decide (x.index < 1) = false) (d3 : decide (4294967296 < x.index) = false) (hs : x.cmd.Short 140737488355328) (hc : Cm.check x.cmd = 0) (d9 : (x.bal.round != 0) = false) (d8 : (x.bal.node != 0) = false) (d6 : 0 < n) :
    Calls Tryd.prog 20 #[.agg (Re.cells x (.slice io n ic))] w (Looks w (.int .i64 (3))) := by
  obtain ⟨w1, e1, hl1, hB1, hz1⟩ := box_rec w x (.slice io n ic)
  obtain ⟨p0, p1, p2, p3, p4, p5, p6, p7, p8, p9, p10, p11⟩ := Recs.all hl1
  rw [hk] at p0
  have HK := Lib.hid hk
  have HM1 := Lib.hid hl1; have HB1 := Lib.hid hB1
  have Hhb : Hid (∀ W, Calls Tryd.prog 26 #[.int .i64 3] W (Says W (.bool false))) := fun W => refHb_any 3 W
  have Hhi : Hid (∀ W, Calls Tryd.prog 40 #[.int .i64 3] W (Says W (.bool true))) := fun W => refHi_any 3 W
  have Hhc : Hid (∀ W, Calls Tryd.prog 27 #[.int .i64 3] W (Says W (.bool true))) := fun W => refHc_any 3 W
  have HCMD := Lib.hid (fun W => refCheck_any x.cmd W hs)
  rw [hc] at HCMD
  clear hc hs
  clear hl1 hB1 hz1 hk
  go_enter Tryd.func20, Tryd.ntmps20
  go_wp2_with fail
  refine (Hhb.out _).mono ?_
  rintro e' w' ⟨rfl, rfl⟩
  go_wp2_with fail
  refine (Hhi.out _).mono ?_
  rintro e' w' ⟨rfl, rfl⟩
  go_wp2_with fail
  refine (Hhc.out _).mono ?_
  rintro e' w' ⟨rfl, rfl⟩
  go_wp2_with fail
  refine (HCMD.out _).mono ?_
  rintro e' w2 ⟨rfl, hb⟩
  have HM2 := Lib.hid (HM1.out.below hb HM1.out.lt); have HB2 := Lib.hid (HB1.out.trans (hb.mono HB1.out.size))
  clear hb p0 p1 p2 p3 p4 p5 p6 p7 p8 p9 p10 p11
  obtain ⟨p0, p1, p2, p3, p4, p5, p6, p7, p8, p9, p10, p11⟩ := Recs.all HM2.out
  rw [HK.out] at p0
  go_wp2_with fail
  refine (Hhb.out _).mono ?_
  rintro e' w' ⟨rfl, rfl⟩
  go_wp2_with fail
  refine (Hhi.out _).mono ?_
  rintro e' w' ⟨rfl, rfl⟩
  go_wp2_with fail
  refine (Hhc.out _).mono ?_
  rintro e' w' ⟨rfl, rfl⟩
  go_wp2
  go_ret
  exact ⟨rfl, HB2.out⟩


set_option maxRecDepth 4000 in
set_option maxHeartbeats 1600000 in
theorem refCk_3g (x : Re.Rec) (io : Option Addr) (n ic : Nat) (w : World) (hk : x.kind = 3) (d2 : decide (x.index < 1) = false) (d3 : decide (4294967296 < x.index) = false) (hs : x.cmd.Short 140737488355328) (hc : Cm.check x.cmd = 0) (d9 : (x.bal.round != 0) = false) (d8 : (x.bal.node != 0) = false) (d6 : ¬ 0 < n) :
    Calls Tryd.prog 20 #[.agg (Re.cells x (.slice io n ic))] w (Looks w (.int .i64 (0))) := by
  obtain ⟨w1, e1, hl1, hB1, hz1⟩ := box_rec w x (.slice io n ic)
  obtain ⟨p0, p1, p2, p3, p4, p5, p6, p7, p8, p9, p10, p11⟩ := Recs.all hl1
  rw [hk] at p0
  have HK := Lib.hid hk
  have HM1 := Lib.hid hl1; have HB1 := Lib.hid hB1
  have Hhb : Hid (∀ W, Calls Tryd.prog 26 #[.int .i64 3] W (Says W (.bool false))) := fun W => refHb_any 3 W
  have Hhi : Hid (∀ W, Calls Tryd.prog 40 #[.int .i64 3] W (Says W (.bool true))) := fun W => refHi_any 3 W
  have Hhc : Hid (∀ W, Calls Tryd.prog 27 #[.int .i64 3] W (Says W (.bool true))) := fun W => refHc_any 3 W
  have HCMD := Lib.hid (fun W => refCheck_any x.cmd W hs)
  rw [hc] at HCMD
  clear hc hs
  clear hl1 hB1 hz1 hk
  go_enter Tryd.func20, Tryd.ntmps20
  go_wp2_with fail
  refine (Hhb.out _).mono ?_
  rintro e' w' ⟨rfl, rfl⟩
  go_wp2_with fail
  refine (Hhi.out _).mono ?_
  rintro e' w' ⟨rfl, rfl⟩
  go_wp2_with fail
  refine (Hhc.out _).mono ?_
  rintro e' w' ⟨rfl, rfl⟩
  go_wp2_with fail
  refine (HCMD.out _).mono ?_
  rintro e' w2 ⟨rfl, hb⟩
  have HM2 := Lib.hid (HM1.out.below hb HM1.out.lt); have HB2 := Lib.hid (HB1.out.trans (hb.mono HB1.out.size))
  clear hb p0 p1 p2 p3 p4 p5 p6 p7 p8 p9 p10 p11
  obtain ⟨p0, p1, p2, p3, p4, p5, p6, p7, p8, p9, p10, p11⟩ := Recs.all HM2.out
  rw [HK.out] at p0
  go_wp2_with fail
  refine (Hhb.out _).mono ?_
  rintro e' w' ⟨rfl, rfl⟩
  go_wp2_with fail
  refine (Hhi.out _).mono ?_
  rintro e' w' ⟨rfl, rfl⟩
  go_wp2_with fail
  refine (Hhc.out _).mono ?_
  rintro e' w' ⟨rfl, rfl⟩
  go_wp2
  go_ret
  exact ⟨rfl, HB2.out⟩


set_option maxRecDepth 4000 in
set_option maxHeartbeats 1600000 in
theorem refCk_4a (x : Re.Rec) (io : Option Addr) (n ic : Nat) (w : World) (hk : x.kind = 4) (d2 : decide (x.index < 1) = true) :
    Calls Tryd.prog 20 #[.agg (Re.cells x (.slice io n ic))] w (Looks w (.int .i64 (6))) := by
  obtain ⟨w1, e1, hl1, hB1, hz1⟩ := box_rec w x (.slice io n ic)
  obtain ⟨p0, p1, p2, p3, p4, p5, p6, p7, p8, p9, p10, p11⟩ := Recs.all hl1
  rw [hk] at p0
  have HK := Lib.hid hk
  have HM1 := Lib.hid hl1; have HB1 := Lib.hid hB1
  have Hhb : Hid (∀ W, Calls Tryd.prog 26 #[.int .i64 4] W (Says W (.bool false))) := fun W => refHb_any 4 W
  have Hhi : Hid (∀ W, Calls Tryd.prog 40 #[.int .i64 4] W (Says W (.bool true))) := fun W => refHi_any 4 W
  clear hl1 hB1 hz1 hk
  go_enter Tryd.func20, Tryd.ntmps20
  go_wp2_with fail
  refine (Hhb.out _).mono ?_
  rintro e' w' ⟨rfl, rfl⟩
  go_wp2_with fail
  refine (Hhi.out _).mono ?_
  rintro e' w' ⟨rfl, rfl⟩
  go_wp2
  go_ret
  exact ⟨rfl, HB1.out⟩


set_option maxRecDepth 4000 in
set_option maxHeartbeats 1600000 in
theorem refCk_4b (x : Re.Rec) (io : Option Addr) (n ic : Nat) (w : World) (hk : x.kind = 4) (d2 : decide (x.index < 1) = false) (d3 : decide (4294967296 < x.index) = true) :
    Calls Tryd.prog 20 #[.agg (Re.cells x (.slice io n ic))] w (Looks w (.int .i64 (6))) := by
  obtain ⟨w1, e1, hl1, hB1, hz1⟩ := box_rec w x (.slice io n ic)
  obtain ⟨p0, p1, p2, p3, p4, p5, p6, p7, p8, p9, p10, p11⟩ := Recs.all hl1
  rw [hk] at p0
  have HK := Lib.hid hk
  have HM1 := Lib.hid hl1; have HB1 := Lib.hid hB1
  have Hhb : Hid (∀ W, Calls Tryd.prog 26 #[.int .i64 4] W (Says W (.bool false))) := fun W => refHb_any 4 W
  have Hhi : Hid (∀ W, Calls Tryd.prog 40 #[.int .i64 4] W (Says W (.bool true))) := fun W => refHi_any 4 W
  clear hl1 hB1 hz1 hk
  go_enter Tryd.func20, Tryd.ntmps20
  go_wp2_with fail
  refine (Hhb.out _).mono ?_
  rintro e' w' ⟨rfl, rfl⟩
  go_wp2_with fail
  refine (Hhi.out _).mono ?_
  rintro e' w' ⟨rfl, rfl⟩
  go_wp2
  go_ret
  exact ⟨rfl, HB1.out⟩


set_option maxRecDepth 4000 in
set_option maxHeartbeats 1600000 in
theorem refCk_4c (x : Re.Rec) (io : Option Addr) (n ic : Nat) (w : World) (hk : x.kind = 4) (d2 : decide (x.index < 1) = false) (d3 : decide (4294967296 < x.index) = false) (d7 : decide ((32768 : Int) < (n : Int)) = true) :
    Calls Tryd.prog 20 #[.agg (Re.cells x (.slice io n ic))] w (Looks w (.int .i64 (2))) := by
  obtain ⟨w1, e1, hl1, hB1, hz1⟩ := box_rec w x (.slice io n ic)
  obtain ⟨p0, p1, p2, p3, p4, p5, p6, p7, p8, p9, p10, p11⟩ := Recs.all hl1
  rw [hk] at p0
  have HK := Lib.hid hk
  have HM1 := Lib.hid hl1; have HB1 := Lib.hid hB1
  have Hhb : Hid (∀ W, Calls Tryd.prog 26 #[.int .i64 4] W (Says W (.bool false))) := fun W => refHb_any 4 W
  have Hhi : Hid (∀ W, Calls Tryd.prog 40 #[.int .i64 4] W (Says W (.bool true))) := fun W => refHi_any 4 W
  clear hl1 hB1 hz1 hk
  go_enter Tryd.func20, Tryd.ntmps20
  go_wp2_with fail
  refine (Hhb.out _).mono ?_
  rintro e' w' ⟨rfl, rfl⟩
  go_wp2_with fail
  refine (Hhi.out _).mono ?_
  rintro e' w' ⟨rfl, rfl⟩
  go_wp2
  go_ret
  exact ⟨rfl, HB1.out⟩


set_option maxRecDepth 4000 in
set_option maxHeartbeats 1600000 in
theorem refCk_4d (x : Re.Rec) (io : Option Addr) (n ic : Nat) (w : World) (hk : x.kind = 4) (d2 : decide (x.index < 1) = false) (d3 : decide (4294967296 < x.index) = false) (d7 : decide ((32768 : Int) < (n : Int)) = false) (d9 : (x.bal.round != 0) = true) :
    Calls Tryd.prog 20 #[.agg (Re.cells x (.slice io n ic))] w (Looks w (.int .i64 (3))) := by
  obtain ⟨w1, e1, hl1, hB1, hz1⟩ := box_rec w x (.slice io n ic)
  obtain ⟨p0, p1, p2, p3, p4, p5, p6, p7, p8, p9, p10, p11⟩ := Recs.all hl1
  rw [hk] at p0
  have HK := Lib.hid hk
  have HM1 := Lib.hid hl1; have HB1 := Lib.hid hB1
  have Hhb : Hid (∀ W, Calls Tryd.prog 26 #[.int .i64 4] W (Says W (.bool false))) := fun W => refHb_any 4 W
  have Hhi : Hid (∀ W, Calls Tryd.prog 40 #[.int .i64 4] W (Says W (.bool true))) := fun W => refHi_any 4 W
  have Hhc : Hid (∀ W, Calls Tryd.prog 27 #[.int .i64 4] W (Says W (.bool false))) := fun W => refHc_any 4 W
  clear hl1 hB1 hz1 hk
  go_enter Tryd.func20, Tryd.ntmps20
  go_wp2_with fail
  refine (Hhb.out _).mono ?_
  rintro e' w' ⟨rfl, rfl⟩
  go_wp2_with fail
  refine (Hhi.out _).mono ?_
  rintro e' w' ⟨rfl, rfl⟩
  go_wp2_with fail
  refine (Hhc.out _).mono ?_
  rintro e' w' ⟨rfl, rfl⟩
  go_wp2_with fail
  refine (Hhb.out _).mono ?_
  rintro e' w' ⟨rfl, rfl⟩
  go_wp2
  go_ret
  exact ⟨rfl, HB1.out⟩


set_option maxRecDepth 4000 in
set_option maxHeartbeats 1600000 in
theorem refCk_4e (x : Re.Rec) (io : Option Addr) (n ic : Nat) (w : World) (hk : x.kind = 4) (d2 : decide (x.index < 1) = false) (d3 : decide (4294967296 < x.index) = false) (d7 : decide ((32768 : Int) < (n : Int)) = false) (d9 : (x.bal.round != 0) = false) (d8 : (x.bal.node != 0) = true) :
    Calls Tryd.prog 20 #[.agg (Re.cells x (.slice io n ic))] w (Looks w (.int .i64 (3))) := by
  obtain ⟨w1, e1, hl1, hB1, hz1⟩ := box_rec w x (.slice io n ic)
  obtain ⟨p0, p1, p2, p3, p4, p5, p6, p7, p8, p9, p10, p11⟩ := Recs.all hl1
  rw [hk] at p0
  have HK := Lib.hid hk
  have HM1 := Lib.hid hl1; have HB1 := Lib.hid hB1
  have Hhb : Hid (∀ W, Calls Tryd.prog 26 #[.int .i64 4] W (Says W (.bool false))) := fun W => refHb_any 4 W
  have Hhi : Hid (∀ W, Calls Tryd.prog 40 #[.int .i64 4] W (Says W (.bool true))) := fun W => refHi_any 4 W
  have Hhc : Hid (∀ W, Calls Tryd.prog 27 #[.int .i64 4] W (Says W (.bool false))) := fun W => refHc_any 4 W
  clear hl1 hB1 hz1 hk
  go_enter Tryd.func20, Tryd.ntmps20
  go_wp2_with fail
  refine (Hhb.out _).mono ?_
  rintro e' w' ⟨rfl, rfl⟩
  go_wp2_with fail
  refine (Hhi.out _).mono ?_
  rintro e' w' ⟨rfl, rfl⟩
  go_wp2_with fail
  refine (Hhc.out _).mono ?_
  rintro e' w' ⟨rfl, rfl⟩
  go_wp2_with fail
  refine (Hhb.out _).mono ?_
  rintro e' w' ⟨rfl, rfl⟩
  go_wp2
  go_ret
  exact ⟨rfl, HB1.out⟩


set_option maxRecDepth 4000 in
set_option maxHeartbeats 1600000 in
theorem refCk_4f (x : Re.Rec) (io : Option Addr) (n ic : Nat) (w : World) (hk : x.kind = 4) (d2 : decide (x.index < 1) = false) (d3 : decide (4294967296 < x.index) = false) (d7 : decide ((32768 : Int) < (n : Int)) = false) (d9 : (x.bal.round != 0) = false) (d8 : (x.bal.node != 0) = false) (d5 : decide (x.cmd = Cm.zero) = false) :
    Calls Tryd.prog 20 #[.agg (Re.cells x (.slice io n ic))] w (Looks w (.int .i64 (3))) := by
  obtain ⟨w1, e1, hl1, hB1, hz1⟩ := box_rec w x (.slice io n ic)
  obtain ⟨p0, p1, p2, p3, p4, p5, p6, p7, p8, p9, p10, p11⟩ := Recs.all hl1
  rw [hk] at p0
  have HK := Lib.hid hk
  have HM1 := Lib.hid hl1; have HB1 := Lib.hid hB1
  have Hhb : Hid (∀ W, Calls Tryd.prog 26 #[.int .i64 4] W (Says W (.bool false))) := fun W => refHb_any 4 W
  have Hhi : Hid (∀ W, Calls Tryd.prog 40 #[.int .i64 4] W (Says W (.bool true))) := fun W => refHi_any 4 W
  have Hhc : Hid (∀ W, Calls Tryd.prog 27 #[.int .i64 4] W (Says W (.bool false))) := fun W => refHc_any 4 W
  have hgd := guard_cmd
  have heq : ∀ W, (binOp .neq 39 (.agg (Cm.cells x.cmd)) (.agg (Cm.cells Cm.zero))).run Tryd.prog W = .ok (.bool true) W := fun W => by rw [run_neq_cmd2, d5]; rfl
  dsimp only [Cm.cells, Cm.zero, Cm.bareOf] at heq
  clear d5
  clear hl1 hB1 hz1 hk
  go_enter Tryd.func20, Tryd.ntmps20
  go_wp2_with fail
  refine (Hhb.out _).mono ?_
  rintro e' w' ⟨rfl, rfl⟩
  go_wp2_with fail
  refine (Hhi.out _).mono ?_
  rintro e' w' ⟨rfl, rfl⟩
  go_wp2_with fail
  refine (Hhc.out _).mono ?_
  rintro e' w' ⟨rfl, rfl⟩
  go_wp2_with fail
  refine (Hhb.out _).mono ?_
  rintro e' w' ⟨rfl, rfl⟩
  go_wp2_with fail
  refine (Hhi.out _).mono ?_
  rintro e' w' ⟨rfl, rfl⟩
  go_wp2_with fail
  refine (Hhc.out _).mono ?_
  rintro e' w' ⟨rfl, rfl⟩
  go_wp2
  go_ret
  exact ⟨rfl, HB1.out⟩


set_option maxRecDepth 4000 in
set_option maxHeartbeats 1600000 in
theorem refCk_4g (x : Re.Rec) (io : Option Addr) (n ic : Nat) (w : World) (hk : x.kind = 4) (d2 : decide (x.index < 1) = false) (d3 : decide (4294967296 < x.index) = false) (d7 : decide ((32768 : Int) < (n : Int)) = false) (d9 : (x.bal.round != 0) = false) (d8 : (x.bal.node != 0) = false) (d5 : decide (x.cmd = Cm.zero) = true) (d6 : ¬ 0 < n) :
    Calls Tryd.prog 20 #[.agg (Re.cells x (.slice io n ic))] w (Looks w (.int .i64 (3))) := by
  obtain ⟨w1, e1, hl1, hB1, hz1⟩ := box_rec w x (.slice io n ic)
  obtain ⟨p0, p1, p2, p3, p4, p5, p6, p7, p8, p9, p10, p11⟩ := Recs.all hl1
  rw [hk] at p0
  have HK := Lib.hid hk
  have HM1 := Lib.hid hl1; have HB1 := Lib.hid hB1
  have Hhb : Hid (∀ W, Calls Tryd.prog 26 #[.int .i64 4] W (Says W (.bool false))) := fun W => refHb_any 4 W
  have Hhi : Hid (∀ W, Calls Tryd.prog 40 #[.int .i64 4] W (Says W (.bool true))) := fun W => refHi_any 4 W
  have Hhc : Hid (∀ W, Calls Tryd.prog 27 #[.int .i64 4] W (Says W (.bool false))) := fun W => refHc_any 4 W
  have hgd := guard_cmd
  have heq : ∀ W, (binOp .neq 39 (.agg (Cm.cells x.cmd)) (.agg (Cm.cells Cm.zero))).run Tryd.prog W = .ok (.bool false) W := fun W => by rw [run_neq_cmd2, d5]; rfl
  dsimp only [Cm.cells, Cm.zero, Cm.bareOf] at heq
  clear d5
  clear hl1 hB1 hz1 hk
  go_enter Tryd.func20, Tryd.ntmps20
  go_wp2_with fail
  refine (Hhb.out _).mono ?_
  rintro e' w' ⟨rfl, rfl⟩
  go_wp2_with fail
  refine (Hhi.out _).mono ?_
  rintro e' w' ⟨rfl, rfl⟩
  go_wp2_with fail
  refine (Hhc.out _).mono ?_
  rintro e' w' ⟨rfl, rfl⟩
  go_wp2_with fail
  refine (Hhb.out _).mono ?_
  rintro e' w' ⟨rfl, rfl⟩
  go_wp2_with fail
  refine (Hhi.out _).mono ?_
  rintro e' w' ⟨rfl, rfl⟩
  go_wp2_with fail
  refine (Hhc.out _).mono ?_
  rintro e' w' ⟨rfl, rfl⟩
  go_wp2
  go_ret
  exact ⟨rfl, HB1.out⟩


set_option maxRecDepth 4000 in
set_option maxHeartbeats 1600000 in
theorem refCk_4h (x : Re.Rec) (io : Option Addr) (n ic : Nat) (w : World) (hk : x.kind = 4) (d2 : decide (x.index < 1) = false) (d3 : decide (4294967296 < x.index) = false) (d7 : decide ((32768 : Int) < (n : Int)) = false) (d9 : (x.bal.round != 0) = false) (d8 : (x.bal.node != 0) = false) (d5 : decide (x.cmd = Cm.zero) = true) (d6 : 0 < n) :
    Calls Tryd.prog 20 #[.agg (Re.cells x (.slice io n ic))] w (Looks w (.int .i64 (0))) := by
  obtain ⟨w1, e1, hl1, hB1, hz1⟩ := box_rec w x (.slice io n ic)
  obtain ⟨p0, p1, p2, p3, p4, p5, p6, p7, p8, p9, p10, p11⟩ := Recs.all hl1
  rw [hk] at p0
  have HK := Lib.hid hk
  have HM1 := Lib.hid hl1; have HB1 := Lib.hid hB1
  have Hhb : Hid (∀ W, Calls Tryd.prog 26 #[.int .i64 4] W (Says W (.bool false))) := fun W => refHb_any 4 W
  have Hhi : Hid (∀ W, Calls Tryd.prog 40 #[.int .i64 4] W (Says W (.bool true))) := fun W => refHi_any 4 W
  have Hhc : Hid (∀ W, Calls Tryd.prog 27 #[.int .i64 4] W (Says W (.bool false))) := fun W => refHc_any 4 W
  have hgd := guard_cmd
  have heq : ∀ W, (binOp .neq 39 (.agg (Cm.cells x.cmd)) (.agg (Cm.cells Cm.zero))).run Tryd.prog W = .ok (.bool false) W := fun W => by rw [run_neq_cmd2, d5]; rfl
  dsimp only [Cm.cells, Cm.zero, Cm.bareOf] at heq
  clear d5
  clear hl1 hB1 hz1 hk
  go_enter Tryd.func20, Tryd.ntmps20
  go_wp2_with fail
  refine (Hhb.out _).mono ?_
  rintro e' w' ⟨rfl, rfl⟩
  go_wp2_with fail
  refine (Hhi.out _).mono ?_
  rintro e' w' ⟨rfl, rfl⟩
  go_wp2_with fail
  refine (Hhc.out _).mono ?_
  rintro e' w' ⟨rfl, rfl⟩
  go_wp2_with fail
  refine (Hhb.out _).mono ?_
  rintro e' w' ⟨rfl, rfl⟩
  go_wp2_with fail
  refine (Hhi.out _).mono ?_
  rintro e' w' ⟨rfl, rfl⟩
  go_wp2_with fail
  refine (Hhc.out _).mono ?_
  rintro e' w' ⟨rfl, rfl⟩
  go_wp2
  go_ret
  exact ⟨rfl, HB1.out⟩


set_option maxRecDepth 4000 in
set_option maxHeartbeats 800000 in
theorem refCk_no (x : Re.Rec) (vi : Value) (w : World) (hk : x.kind < 1 ∨ 4 < x.kind) :
    Calls Tryd.prog 20 #[.agg (Re.cells x vi)] w (Looks w (.int .i64 5)) := by
  obtain ⟨w1, e1, hl1, hB1, hz1⟩ := box_rec w x vi
  have p0 := hl1.c0
  have HB1 := Lib.hid hB1
  clear hl1 hB1 hz1
  by_cases h : x.kind < 1
  · have d1 : decide (x.kind < 1) = true := decide_eq_true h
    clear hk h
    go_enter Tryd.func20, Tryd.ntmps20
    go_wp2
    go_ret
    exact ⟨rfl, HB1.out⟩
  · have d1 : decide (x.kind < 1) = false := decide_eq_false h
    have d4 : decide (4 < x.kind) = true := decide_eq_true (by omega)
    clear hk h
    go_enter Tryd.func20, Tryd.ntmps20
    go_wp2
    go_ret
    exact ⟨rfl, HB1.out⟩

/-! What it tells, by the kind. -/
theorem Re.form_1 {x : Re.Rec} (h : x.kind = 1) : (decide (Re.own x = x) && Re.whole x) = (!(x.index != 0) && (decide (x.cmd = Cm.zero) && !decide (0 < x.img.length))) := by
  obtain ⟨k, b, i, c, m⟩ := x
  dsimp only at h
  subst h
  rw [Bool.eq_iff_iff]
  simp [Re.own, Re.whole, Re.hb, Re.hi, Re.hc, Re.hm]
  grind
theorem Re.form_2 {x : Re.Rec} (h : x.kind = 2) : (decide (Re.own x = x) && Re.whole x) = !decide (0 < x.img.length) := by
  obtain ⟨k, b, i, c, m⟩ := x
  dsimp only at h
  subst h
  rw [Bool.eq_iff_iff]
  simp [Re.own, Re.whole, Re.hb, Re.hi, Re.hc, Re.hm]
theorem Re.form_3 {x : Re.Rec} (h : x.kind = 3) : (decide (Re.own x = x) && Re.whole x) = (!(x.bal.round != 0) && (!(x.bal.node != 0) && !decide (0 < x.img.length))) := by
  obtain ⟨k, ⟨r, nd⟩, i, c, m⟩ := x
  dsimp only at h
  subst h
  rw [Bool.eq_iff_iff]
  simp [Re.own, Re.whole, Re.hb, Re.hi, Re.hc, Re.hm, Bl.zero]
  grind
theorem Re.form_4 {x : Re.Rec} (h : x.kind = 4) : (decide (Re.own x = x) && Re.whole x) = (!(x.bal.round != 0) && (!(x.bal.node != 0) && (decide (x.cmd = Cm.zero) && decide (0 < x.img.length)))) := by
  obtain ⟨k, ⟨r, nd⟩, i, c, m⟩ := x
  dsimp only at h
  subst h
  rw [Bool.eq_iff_iff]
  simp [Re.own, Re.whole, Re.hb, Re.hi, Re.hc, Re.hm, Bl.zero]
  cases m <;> grind
theorem Re.within_is (i : Int) : Ms.within i 1 4294967296 = (!decide (i < 1) && !decide (4294967296 < i)) := by
  unfold Ms.within
  rw [Bool.eq_iff_iff]
  simp
theorem refCheckRe_any (x : Re.Rec) (vi : Value) (w : World) (hi : Reads w vi x.img) (hs : x.cmd.Short 140737488355328) :
    Calls Tryd.prog 20 #[.agg (Re.cells x vi)] w (Looks w (.int .i64 (Re.check x))) := by
  obtain ⟨io, ic, rfl⟩ := hi.shape
  rw [Re.check_limits]
  have hbig : decide (32768 < x.img.length) = decide ((32768 : Int) < (x.img.length : Int)) := decide_eq_decide.2 (by omega)
  rcases Re.kinds x.kind with h | h | h | h | h

  · rw [Re.limits_1 h, Re.form_1 h, Re.owned_is]
    cases d1 : (x.bal.round == 0) with
    | true => exact refCk_1a x io _ ic w h d1
    | false =>
      cases dm : Bl.may x.bal with
      | false => exact refCk_1b x io _ ic w h d1 dm
      | true =>
        cases d4 : (x.index != 0) with
        | true => exact refCk_1c x io _ ic w h d1 dm d4
        | false =>
          cases d5 : decide (x.cmd = Cm.zero) with
          | false => exact refCk_1d x io _ ic w h d1 dm d4 d5
          | true =>
            cases d6 : decide (0 < x.img.length) with
            | true => exact refCk_1e x io _ ic w h d1 dm d4 d5 (of_decide_eq_true d6)
            | false => exact refCk_1f x io _ ic w h d1 dm d4 d5 (of_decide_eq_false d6)
  · rw [Re.limits_2 h, Re.form_2 h, Re.owned_is, Re.within_is]
    cases d1 : (x.bal.round == 0) with
    | true => exact refCk_2a x io _ ic w h d1
    | false =>
      cases dm : Bl.may x.bal with
      | false => exact refCk_2b x io _ ic w h d1 dm
      | true =>
        cases d2 : decide (x.index < 1) with
        | true => exact refCk_2c x io _ ic w h d1 dm d2
        | false =>
          cases d3 : decide (4294967296 < x.index) with
          | true => exact refCk_2d x io _ ic w h d1 dm d2 d3
          | false =>
            have hred : (if (!false && true) = true then if (!false && !false) = true then Cm.check x.cmd else 6 else 6) = Cm.check x.cmd := rfl
            rw [hred]
            by_cases hc : Cm.check x.cmd = 0
            · rw [hc, if_neg (by simp)]
              cases d6 : decide (0 < x.img.length) with
              | true => exact refCk_2f x io _ ic w h d1 dm d2 d3 hs hc (of_decide_eq_true d6)
              | false => exact refCk_2g x io _ ic w h d1 dm d2 d3 hs hc (of_decide_eq_false d6)
            · rw [if_pos hc]
              exact refCk_2e x io _ ic w h d1 dm d2 d3 hs hc
  · rw [Re.limits_3 h, Re.form_3 h, Re.within_is]
    cases d2 : decide (x.index < 1) with
    | true => exact refCk_3a x io _ ic w h d2
    | false =>
      cases d3 : decide (4294967296 < x.index) with
      | true => exact refCk_3b x io _ ic w h d2 d3
      | false =>
        have hred : (if (!false && !false) = true then Cm.check x.cmd else 6) = Cm.check x.cmd := rfl
        rw [hred]
        by_cases hc : Cm.check x.cmd = 0
        · rw [hc, if_neg (by simp)]
          cases d9 : (x.bal.round != 0) with
          | true => exact refCk_3d x io _ ic w h d2 d3 hs hc d9
          | false =>
            cases d8 : (x.bal.node != 0) with
            | true => exact refCk_3e x io _ ic w h d2 d3 hs hc d9 d8
            | false =>
              cases d6 : decide (0 < x.img.length) with
              | true => exact refCk_3f x io _ ic w h d2 d3 hs hc d9 d8 (of_decide_eq_true d6)
              | false => exact refCk_3g x io _ ic w h d2 d3 hs hc d9 d8 (of_decide_eq_false d6)
        · rw [if_pos hc]
          exact refCk_3c x io _ ic w h d2 d3 hs hc
  · rw [Re.limits_4 h, Re.form_4 h, Re.within_is, hbig]
    cases d2 : decide (x.index < 1) with
    | true => exact refCk_4a x io _ ic w h d2
    | false =>
      cases d3 : decide (4294967296 < x.index) with
      | true => exact refCk_4b x io _ ic w h d2 d3
      | false =>
        cases d7 : decide ((32768 : Int) < (x.img.length : Int)) with
        | true => exact refCk_4c x io _ ic w h d2 d3 d7
        | false =>
          cases d9 : (x.bal.round != 0) with
          | true => exact refCk_4d x io _ ic w h d2 d3 d7 d9
          | false =>
            cases d8 : (x.bal.node != 0) with
            | true => exact refCk_4e x io _ ic w h d2 d3 d7 d9 d8
            | false =>
              cases d5 : decide (x.cmd = Cm.zero) with
              | false => exact refCk_4f x io _ ic w h d2 d3 d7 d9 d8 d5
              | true =>
                cases d6 : decide (0 < x.img.length) with
                | false => exact refCk_4g x io _ ic w h d2 d3 d7 d9 d8 d5 (of_decide_eq_false d6)
                | true => exact refCk_4h x io _ ic w h d2 d3 d7 d9 d8 d5 (of_decide_eq_true d6)
  · rw [Re.limits_no h]
    exact refCk_no x _ w h

end Go.Proofs.YtfdnmmmjaipgoaaDoor


namespace Go.Proofs.YtfdnmmmjaipgoaaDoor
open Go.RowKit

set_option maxRecDepth 4000 in
set_option maxHeartbeats 1600000 in
theorem largeRe_any (x : Re.Rec) (vi : Value) (w : World) (hi : Reads w vi x.img) (hs : x.cmd.Short 9223372036854775807) :
    Calls Tryd.prog 21 #[.agg (Re.cells x vi)] w (Looks w (.bool (Re.large x))) := by
  obtain ⟨w1, e1, hl1, hB1, hz1⟩ := box_rec w x vi
  obtain ⟨io, ic, rfl⟩ := hi.shape
  have hlen := hi.len
  obtain ⟨p0, p1, p2, p3, p4, p5, p6, p7, p8, p9, p10, p11⟩ := Recs.all hl1
  have HB1 := Lib.hid hB1
  have k1 := str_size x.cmd.key; have k2 := str_size x.cmd.val; have k3 := str_size x.cmd.old
  obtain ⟨r, hr⟩ : ∃ r, r = Re.large x := ⟨_, rfl⟩
  rw [← hr]
  unfold Re.large at hr
  obtain ⟨x1, hx1⟩ : ∃ n, n = x.cmd.key.length := ⟨_, rfl⟩
  obtain ⟨x2, hx2⟩ : ∃ n, n = x.cmd.val.length := ⟨_, rfl⟩
  obtain ⟨x3, hx3⟩ : ∃ n, n = x.cmd.old.length := ⟨_, rfl⟩
  obtain ⟨n, hn⟩ : ∃ n, n = x.img.length := ⟨_, rfl⟩
  have z1 : x1 ≤ 9223372036854775807 := hx1 ▸ hs.1
  have z2 : x2 ≤ 9223372036854775807 := hx2 ▸ hs.2.2
  have z3 : x3 ≤ 9223372036854775807 := hx3 ▸ hs.2.1
  have zn : n ≤ 9223372036854775807 := by omega
  rw [← hx1, ← hx2, ← hx3, ← hn] at hr
  rw [← hx1] at k1
  rw [← hx2] at k2
  rw [← hx3] at k3
  rw [← hn] at p11 e1 ⊢
  clear hl1 hB1 hz1 hi hs hx1 hx2 hx3 hn hlen
  by_cases h1 : 200 < x1
  · have d1 : decide ((200 : Int) < (x1 : Int)) = true := by simp; omega
    have HZ : Hid (r = true) := by show _ = _; rw [hr]; simp; omega
    clear hr
    go_enter Tryd.func21, Tryd.ntmps21
    go_wp2
    go_ret
    exact ⟨by rw [HZ.out]; rfl, HB1.out⟩
  have d1 : decide ((200 : Int) < (x1 : Int)) = false := by simp; omega
  by_cases h2 : 200 < x2
  · have d2 : decide ((200 : Int) < (x2 : Int)) = true := by simp; omega
    have HZ : Hid (r = true) := by show _ = _; rw [hr]; simp; omega
    clear hr
    go_enter Tryd.func21, Tryd.ntmps21
    go_wp2
    go_ret
    exact ⟨by rw [HZ.out]; rfl, HB1.out⟩
  have d2 : decide ((200 : Int) < (x2 : Int)) = false := by simp; omega
  by_cases h3 : 200 < x3
  · have d3 : decide ((200 : Int) < (x3 : Int)) = true := by simp; omega
    have HZ : Hid (r = true) := by show _ = _; rw [hr]; simp; omega
    clear hr
    go_enter Tryd.func21, Tryd.ntmps21
    go_wp2
    go_ret
    exact ⟨by rw [HZ.out]; rfl, HB1.out⟩
  have d3 : decide ((200 : Int) < (x3 : Int)) = false := by simp; omega
  by_cases h4 : 300 < n
  · have d4 : decide ((300 : Int) < (n : Int)) = true := by simp; omega
    by_cases h5 : n < 32760
    · have d5 : decide ((n : Int) < (32760 : Int)) = true := by simp; omega
      have HZ : Hid (r = true) := by show _ = _; rw [hr]; simp; omega
      clear hr
      go_enter Tryd.func21, Tryd.ntmps21
      go_wp2
      go_ret
      exact ⟨by rw [HZ.out]; rfl, HB1.out⟩
    have d5 : decide ((n : Int) < (32760 : Int)) = false := by simp; omega
    by_cases h6 : 32780 < n
    · have d6 : decide ((32780 : Int) < (n : Int)) = true := by simp; omega
      have HZ : Hid (r = true) := by show _ = _; rw [hr]; simp; omega
      clear hr
      go_enter Tryd.func21, Tryd.ntmps21
      go_wp2
      go_ret
      exact ⟨by rw [HZ.out]; rfl, HB1.out⟩
    have d6 : decide ((32780 : Int) < (n : Int)) = false := by simp; omega
    have HZ : Hid (r = false) := by show _ = _; rw [hr]; simp; omega
    clear hr
    go_enter Tryd.func21, Tryd.ntmps21
    go_wp2
    go_ret
    exact ⟨by rw [HZ.out]; rfl, HB1.out⟩
  have d4 : decide ((300 : Int) < (n : Int)) = false := by simp; omega
  have d6 : decide ((32780 : Int) < (n : Int)) = false := by simp; omega
  have HZ : Hid (r = false) := by show _ = _; rw [hr]; simp; omega
  clear hr
  go_enter Tryd.func21, Tryd.ntmps21
  go_wp2
  go_ret
  exact ⟨by rw [HZ.out]; rfl, HB1.out⟩

/-- A command's bytes in V1 are not many. -/
theorem Cm.bytes_few1 {c : Cm.Cmd} (hf : c.Fits) (hs : c.Short 1000) : (Cm.bytes 1 c).length ≤ 100000 := by
  have a4 := enc_nine (n := c.kind.toNat) (by have := hf.k1; omega)
  have a5 := enc_nine (n := c.client.toNat) (by have := hf.c1; omega)
  have a6 := enc_nine (n := c.seq.toNat) (by have := hf.q1; omega)
  have a7 := enc_nine (n := c.node.toNat) (by have := hf.n1; omega)
  have a8 := enc_nine (n := c.key.length) (by have := hs.1; omega)
  have a9 := enc_nine (n := c.val.length) (by have := hs.2.2; omega)
  have c1 := hs.1
  have c3 := hs.2.2
  unfold Cm.bytes Cm.encoded
  rw [if_pos rfl]
  simp [Cm.fenc, Cm.F.num, Cm.Cmd.n, Cm.Cmd.s, Pk.text]
  omega

end Go.Proofs.YtfdnmmmjaipgoaaDoor
