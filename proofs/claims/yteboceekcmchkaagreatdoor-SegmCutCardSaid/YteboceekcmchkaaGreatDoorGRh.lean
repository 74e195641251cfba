/- Several texts of mine in one: ReRef ReRef2. -/
import Derived.Test.YteboceekcmchkaaGreatDoorGRf
import Derived.Test.YteboceekcmchkaaGreatDoorGMr
import Derived.Test.YteboceekcmchkaaGreatDoorGCr
import Derived.Test.YteboceekcmchkaaGreatDoorPVers
import Derived.Test.YteboceekcmchkaaGreatDoorGCb
namespace Go.Proofs.YteboceekcmchkaaGreatDoor
open Go.RowKit
set_option maxHeartbeats 3200000
set_option maxRecDepth 4000
theorem Re.owned_is (b : Bl.Bal) : Ms.owned b = (!(b.round == 0) && Bl.may b) := by
 rw [Ms.owned_round, Bool.and_comm]
 cases h : Bl.may b with
 | false => simp
 | true =>
  have := (Bl.may_num b h).1
  rw [Bool.and_true, Bool.and_true, Bool.eq_iff_iff]
  simp
  omega
theorem refHb_any (k : Int) (w : World) : Calls Tryz.prog 57 #[.int .i64 k] w (Says w (.bool (Re.hb k))) := by
 unfold Re.hb
 by_cases h1 : k = 1
 ·subst h1
  go_enter Tryz.func57, Tryz.ntmps57
  go_wp2
  go_ret
  exact ⟨rfl, rfl⟩
 by_cases h2 : k = 2
 ·subst h2
  go_enter Tryz.func57, Tryz.ntmps57
  go_wp2
  go_ret
  exact ⟨rfl, rfl⟩
 have d1 : (k == 1) = false := by simpa using h1
 have d2 : (k == 2) = false := by simpa using h2
 rw [decide_eq_false h1, decide_eq_false h2]
 clear h1 h2
 go_enter Tryz.func57, Tryz.ntmps57
 go_wp2
 go_ret
 exact ⟨rfl, rfl⟩
theorem refHi_any (k : Int) (w : World) : Calls Tryz.prog 58 #[.int .i64 k] w (Says w (.bool (Re.hi k))) := by
 unfold Re.hi
 by_cases h2 : k = 2
 ·subst h2
  go_enter Tryz.func58, Tryz.ntmps58
  go_wp2
  go_ret
  exact ⟨rfl, rfl⟩
 by_cases h3 : k = 3
 ·subst h3
  go_enter Tryz.func58, Tryz.ntmps58
  go_wp2
  go_ret
  exact ⟨rfl, rfl⟩
 by_cases h4 : k = 4
 ·subst h4
  go_enter Tryz.func58, Tryz.ntmps58
  go_wp2
  go_ret
  exact ⟨rfl, rfl⟩
 have d2 : (k == 2) = false := by simpa using h2
 have d3 : (k == 3) = false := by simpa using h3
 have d4 : (k == 4) = false := by simpa using h4
 rw [decide_eq_false h2, decide_eq_false h3, decide_eq_false h4]
 clear h2 h3 h4
 go_enter Tryz.func58, Tryz.ntmps58
 go_wp2
 go_ret
 exact ⟨rfl, rfl⟩
theorem refHc_any (k : Int) (w : World) : Calls Tryz.prog 52 #[.int .i64 k] w (Says w (.bool (Re.hc k))) := by
 unfold Re.hc
 by_cases h2 : k = 2
 ·subst h2
  go_enter Tryz.func52, Tryz.ntmps52
  go_wp2
  go_ret
  exact ⟨rfl, rfl⟩
 by_cases h3 : k = 3
 ·subst h3
  go_enter Tryz.func52, Tryz.ntmps52
  go_wp2
  go_ret
  exact ⟨rfl, rfl⟩
 have d2 : (k == 2) = false := by simpa using h2
 have d3 : (k == 3) = false := by simpa using h3
 rw [decide_eq_false h2, decide_eq_false h3]
 clear h2 h3
 go_enter Tryz.func52, Tryz.ntmps52
 go_wp2
 go_ret
 exact ⟨rfl, rfl⟩
theorem refCk_1a (x : Re.Rec) (io : Option Addr) (n ic : Nat) (w : World) (hk : x.kind = 1) (d1 : (x.bal.round == 0) = true) :
 Calls Tryz.prog 51 #[.agg (Re.cells x (.slice io n ic))] w (Looks w (.int .i64 (6))) := by
 obtain ⟨w1, e1, hl1, hB1, hz1⟩ := box_rec w x (.slice io n ic)
 obtain ⟨p0, p1, p2, p3, p4, p5, p6, p7, p8, p9, p10, p11⟩ := Recs.all hl1
 rw [hk] at p0
 have HK := Lib.hid hk
 have HM1 := Lib.hid hl1; have HB1 := Lib.hid hB1
 have Hhb : Hid (∀ W, Calls Tryz.prog 57 #[.int .i64 1] W (Says W (.bool true))) := fun W => refHb_any 1 W
 clear hl1 hB1 hz1 hk
 go_enter Tryz.func51, Tryz.ntmps51
 go_wp2_with fail
 refine (Hhb.out _).mono ?_
 rintro e' w' ⟨rfl, rfl⟩
 go_wp2
 go_ret
 exact ⟨rfl, HB1.out⟩
theorem refCk_1b (x : Re.Rec) (io : Option Addr) (n ic : Nat) (w : World) (hk : x.kind = 1) (d1 : (x.bal.round == 0) = false) (dm : Bl.may x.bal = false) :
 Calls Tryz.prog 51 #[.agg (Re.cells x (.slice io n ic))] w (Looks w (.int .i64 (6))) := by
 obtain ⟨w1, e1, hl1, hB1, hz1⟩ := box_rec w x (.slice io n ic)
 obtain ⟨p0, p1, p2, p3, p4, p5, p6, p7, p8, p9, p10, p11⟩ := Recs.all hl1
 rw [hk] at p0
 have HK := Lib.hid hk
 have HM1 := Lib.hid hl1; have HB1 := Lib.hid hB1
 have Hhb : Hid (∀ W, Calls Tryz.prog 57 #[.int .i64 1] W (Says W (.bool true))) := fun W => refHb_any 1 W
 have HMAY : Hid (∀ W, Calls Tryz.prog 27 #[.agg (Bl.cells x.bal)] W (Looks W (.bool false))) := fun W => by have := brefMay_any x.bal W; rw [dm] at this; exact this
 clear dm
 clear hl1 hB1 hz1 hk
 go_enter Tryz.func51, Tryz.ntmps51
 go_wp2_with fail
 refine (Hhb.out _).mono ?_
 rintro e' w' ⟨rfl, rfl⟩
 go_wp2_with fail
 refine (HMAY.out _).mono ?_
 rintro e' w2 ⟨rfl, hb⟩
 have HM2 := Lib.hid (HM1.out.below hb HM1.out.lt); have HB2 := Lib.hid (HB1.out.trans (hb.mono HB1.out.size))
 clear hb p0 p1 p2 p3 p4 p5 p6 p7 p8 p9 p10 p11
 obtain ⟨p0, p1, p2, p3, p4, p5, p6, p7, p8, p9, p10, p11⟩ := Recs.all HM2.out
 rw [HK.out] at p0
 go_wp2
 go_ret
 exact ⟨rfl, HB2.out⟩
theorem refCk_1c (x : Re.Rec) (io : Option Addr) (n ic : Nat) (w : World) (hk : x.kind = 1) (d1 : (x.bal.round == 0) = false) (dm : Bl.may x.bal = true) (d4 : (x.index != 0) = true) :
 Calls Tryz.prog 51 #[.agg (Re.cells x (.slice io n ic))] w (Looks w (.int .i64 (3))) := by
 obtain ⟨w1, e1, hl1, hB1, hz1⟩ := box_rec w x (.slice io n ic)
 obtain ⟨p0, p1, p2, p3, p4, p5, p6, p7, p8, p9, p10, p11⟩ := Recs.all hl1
 rw [hk] at p0
 have HK := Lib.hid hk
 have HM1 := Lib.hid hl1; have HB1 := Lib.hid hB1
 have Hhb : Hid (∀ W, Calls Tryz.prog 57 #[.int .i64 1] W (Says W (.bool true))) := fun W => refHb_any 1 W
 have Hhi : Hid (∀ W, Calls Tryz.prog 58 #[.int .i64 1] W (Says W (.bool false))) := fun W => refHi_any 1 W
 have Hhc : Hid (∀ W, Calls Tryz.prog 52 #[.int .i64 1] W (Says W (.bool false))) := fun W => refHc_any 1 W
 have HMAY : Hid (∀ W, Calls Tryz.prog 27 #[.agg (Bl.cells x.bal)] W (Looks W (.bool true))) := fun W => by have := brefMay_any x.bal W; rw [dm] at this; exact this
 clear dm
 clear hl1 hB1 hz1 hk
 go_enter Tryz.func51, Tryz.ntmps51
 go_wp2_with fail
 refine (Hhb.out _).mono ?_
 rintro e' w' ⟨rfl, rfl⟩
 go_wp2_with fail
 refine (HMAY.out _).mono ?_
 rintro e' w2 ⟨rfl, hb⟩
 have HM2 := Lib.hid (HM1.out.below hb HM1.out.lt); have HB2 := Lib.hid (HB1.out.trans (hb.mono HB1.out.size))
 clear hb p0 p1 p2 p3 p4 p5 p6 p7 p8 p9 p10 p11
 obtain ⟨p0, p1, p2, p3, p4, p5, p6, p7, p8, p9, p10, p11⟩ := Recs.all HM2.out
 rw [HK.out] at p0
 go_wp2_with fail
 refine (Hhi.out _).mono ?_
 rintro e' w' ⟨rfl, rfl⟩
 go_wp2_with fail
 refine (Hhc.out _).mono ?_
 rintro e' w' ⟨rfl, rfl⟩
 go_wp2_with fail
 refine (Hhb.out _).mono ?_
 rintro e' w' ⟨rfl, rfl⟩
 go_wp2_with fail
 refine (Hhi.out _).mono ?_
 rintro e' w' ⟨rfl, rfl⟩
 go_wp2
 go_ret
 exact ⟨rfl, HB2.out⟩
theorem refCk_1d (x : Re.Rec) (io : Option Addr) (n ic : Nat) (w : World) (hk : x.kind = 1) (d1 : (x.bal.round == 0) = false) (dm : Bl.may x.bal = true) (d4 : (x.index != 0) = false) (d5 : decide (x.cmd = Cm.zero) = false) :
 Calls Tryz.prog 51 #[.agg (Re.cells x (.slice io n ic))] w (Looks w (.int .i64 (3))) := by
 obtain ⟨w1, e1, hl1, hB1, hz1⟩ := box_rec w x (.slice io n ic)
 obtain ⟨p0, p1, p2, p3, p4, p5, p6, p7, p8, p9, p10, p11⟩ := Recs.all hl1
 rw [hk] at p0
 have HK := Lib.hid hk
 have HM1 := Lib.hid hl1; have HB1 := Lib.hid hB1
 have Hhb : Hid (∀ W, Calls Tryz.prog 57 #[.int .i64 1] W (Says W (.bool true))) := fun W => refHb_any 1 W
 have Hhi : Hid (∀ W, Calls Tryz.prog 58 #[.int .i64 1] W (Says W (.bool false))) := fun W => refHi_any 1 W
 have Hhc : Hid (∀ W, Calls Tryz.prog 52 #[.int .i64 1] W (Says W (.bool false))) := fun W => refHc_any 1 W
 have HMAY : Hid (∀ W, Calls Tryz.prog 27 #[.agg (Bl.cells x.bal)] W (Looks W (.bool true))) := fun W => by have := brefMay_any x.bal W; rw [dm] at this; exact this
 clear dm
 have hgd := guard_cmd
 have heq : ∀ W, (binOp .neq 40 (.agg (Cm.cells x.cmd)) (.agg (Cm.cells Cm.zero))).run Tryz.prog W = .ok (.bool true) W := fun W => by rw [run_neq_cmd2, d5]; rfl
 dsimp only [Cm.cells, Cm.zero, Cm.bareOf] at heq
 clear d5
 clear hl1 hB1 hz1 hk
 go_enter Tryz.func51, Tryz.ntmps51
 go_wp2_with fail
 refine (Hhb.out _).mono ?_
 rintro e' w' ⟨rfl, rfl⟩
 go_wp2_with fail
 refine (HMAY.out _).mono ?_
 rintro e' w2 ⟨rfl, hb⟩
 have HM2 := Lib.hid (HM1.out.below hb HM1.out.lt); have HB2 := Lib.hid (HB1.out.trans (hb.mono HB1.out.size))
 clear hb p0 p1 p2 p3 p4 p5 p6 p7 p8 p9 p10 p11
 obtain ⟨p0, p1, p2, p3, p4, p5, p6, p7, p8, p9, p10, p11⟩ := Recs.all HM2.out
 rw [HK.out] at p0
 go_wp2_with fail
 refine (Hhi.out _).mono ?_
 rintro e' w' ⟨rfl, rfl⟩
 go_wp2_with fail
 refine (Hhc.out _).mono ?_
 rintro e' w' ⟨rfl, rfl⟩
 go_wp2_with fail
 refine (Hhb.out _).mono ?_
 rintro e' w' ⟨rfl, rfl⟩
 go_wp2_with fail
 refine (Hhi.out _).mono ?_
 rintro e' w' ⟨rfl, rfl⟩
 go_wp2_with fail
 refine (Hhc.out _).mono ?_
 rintro e' w' ⟨rfl, rfl⟩
 go_wp2
 go_ret
 exact ⟨rfl, HB2.out⟩
theorem refCk_1e (x : Re.Rec) (io : Option Addr) (n ic : Nat) (w : World) (hk : x.kind = 1) (d1 : (x.bal.round == 0) = false) (dm : Bl.may x.bal = true) (d4 : (x.index != 0) = false) (d5 : decide (x.cmd = Cm.zero) = true) (d6 : 0 < n) :
 Calls Tryz.prog 51 #[.agg (Re.cells x (.slice io n ic))] w (Looks w (.int .i64 (3))) := by
 obtain ⟨w1, e1, hl1, hB1, hz1⟩ := box_rec w x (.slice io n ic)
 obtain ⟨p0, p1, p2, p3, p4, p5, p6, p7, p8, p9, p10, p11⟩ := Recs.all hl1
 rw [hk] at p0
 have HK := Lib.hid hk
 have HM1 := Lib.hid hl1; have HB1 := Lib.hid hB1
 have Hhb : Hid (∀ W, Calls Tryz.prog 57 #[.int .i64 1] W (Says W (.bool true))) := fun W => refHb_any 1 W
 have Hhi : Hid (∀ W, Calls Tryz.prog 58 #[.int .i64 1] W (Says W (.bool false))) := fun W => refHi_any 1 W
 have Hhc : Hid (∀ W, Calls Tryz.prog 52 #[.int .i64 1] W (Says W (.bool false))) := fun W => refHc_any 1 W
 have HMAY : Hid (∀ W, Calls Tryz.prog 27 #[.agg (Bl.cells x.bal)] W (Looks W (.bool true))) := fun W => by have := brefMay_any x.bal W; rw [dm] at this; exact this
 clear dm
 have hgd := guard_cmd
 have heq : ∀ W, (binOp .neq 40 (.agg (Cm.cells x.cmd)) (.agg (Cm.cells Cm.zero))).run Tryz.prog W = .ok (.bool false) W := fun W => by rw [run_neq_cmd2, d5]; rfl
 dsimp only [Cm.cells, Cm.zero, Cm.bareOf] at heq
 clear d5
 clear hl1 hB1 hz1 hk
 go_enter Tryz.func51, Tryz.ntmps51
 go_wp2_with fail
 refine (Hhb.out _).mono ?_
 rintro e' w' ⟨rfl, rfl⟩
 go_wp2_with fail
 refine (HMAY.out _).mono ?_
 rintro e' w2 ⟨rfl, hb⟩
 have HM2 := Lib.hid (HM1.out.below hb HM1.out.lt); have HB2 := Lib.hid (HB1.out.trans (hb.mono HB1.out.size))
 clear hb p0 p1 p2 p3 p4 p5 p6 p7 p8 p9 p10 p11
 obtain ⟨p0, p1, p2, p3, p4, p5, p6, p7, p8, p9, p10, p11⟩ := Recs.all HM2.out
 rw [HK.out] at p0
 go_wp2_with fail
 refine (Hhi.out _).mono ?_
 rintro e' w' ⟨rfl, rfl⟩
 go_wp2_with fail
 refine (Hhc.out _).mono ?_
 rintro e' w' ⟨rfl, rfl⟩
 go_wp2_with fail
 refine (Hhb.out _).mono ?_
 rintro e' w' ⟨rfl, rfl⟩
 go_wp2_with fail
 refine (Hhi.out _).mono ?_
 rintro e' w' ⟨rfl, rfl⟩
 go_wp2_with fail
 refine (Hhc.out _).mono ?_
 rintro e' w' ⟨rfl, rfl⟩
 go_wp2
 go_ret
 exact ⟨rfl, HB2.out⟩
theorem refCk_1f (x : Re.Rec) (io : Option Addr) (n ic : Nat) (w : World) (hk : x.kind = 1) (d1 : (x.bal.round == 0) = false) (dm : Bl.may x.bal = true) (d4 : (x.index != 0) = false) (d5 : decide (x.cmd = Cm.zero) = true) (d6 : ¬ 0 < n) :
 Calls Tryz.prog 51 #[.agg (Re.cells x (.slice io n ic))] w (Looks w (.int .i64 (0))) := by
 obtain ⟨w1, e1, hl1, hB1, hz1⟩ := box_rec w x (.slice io n ic)
 obtain ⟨p0, p1, p2, p3, p4, p5, p6, p7, p8, p9, p10, p11⟩ := Recs.all hl1
 rw [hk] at p0
 have HK := Lib.hid hk
 have HM1 := Lib.hid hl1; have HB1 := Lib.hid hB1
 have Hhb : Hid (∀ W, Calls Tryz.prog 57 #[.int .i64 1] W (Says W (.bool true))) := fun W => refHb_any 1 W
 have Hhi : Hid (∀ W, Calls Tryz.prog 58 #[.int .i64 1] W (Says W (.bool false))) := fun W => refHi_any 1 W
 have Hhc : Hid (∀ W, Calls Tryz.prog 52 #[.int .i64 1] W (Says W (.bool false))) := fun W => refHc_any 1 W
 have HMAY : Hid (∀ W, Calls Tryz.prog 27 #[.agg (Bl.cells x.bal)] W (Looks W (.bool true))) := fun W => by have := brefMay_any x.bal W; rw [dm] at this; exact this
 clear dm
 have hgd := guard_cmd
 have heq : ∀ W, (binOp .neq 40 (.agg (Cm.cells x.cmd)) (.agg (Cm.cells Cm.zero))).run Tryz.prog W = .ok (.bool false) W := fun W => by rw [run_neq_cmd2, d5]; rfl
 dsimp only [Cm.cells, Cm.zero, Cm.bareOf] at heq
 clear d5
 clear hl1 hB1 hz1 hk
 go_enter Tryz.func51, Tryz.ntmps51
 go_wp2_with fail
 refine (Hhb.out _).mono ?_
 rintro e' w' ⟨rfl, rfl⟩
 go_wp2_with fail
 refine (HMAY.out _).mono ?_
 rintro e' w2 ⟨rfl, hb⟩
 have HM2 := Lib.hid (HM1.out.below hb HM1.out.lt); have HB2 := Lib.hid (HB1.out.trans (hb.mono HB1.out.size))
 clear hb p0 p1 p2 p3 p4 p5 p6 p7 p8 p9 p10 p11
 obtain ⟨p0, p1, p2, p3, p4, p5, p6, p7, p8, p9, p10, p11⟩ := Recs.all HM2.out
 rw [HK.out] at p0
 go_wp2_with fail
 refine (Hhi.out _).mono ?_
 rintro e' w' ⟨rfl, rfl⟩
 go_wp2_with fail
 refine (Hhc.out _).mono ?_
 rintro e' w' ⟨rfl, rfl⟩
 go_wp2_with fail
 refine (Hhb.out _).mono ?_
 rintro e' w' ⟨rfl, rfl⟩
 go_wp2_with fail
 refine (Hhi.out _).mono ?_
 rintro e' w' ⟨rfl, rfl⟩
 go_wp2_with fail
 refine (Hhc.out _).mono ?_
 rintro e' w' ⟨rfl, rfl⟩
 go_wp2
 go_ret
 exact ⟨rfl, HB2.out⟩
theorem refCk_2a (x : Re.Rec) (io : Option Addr) (n ic : Nat) (w : World) (hk : x.kind = 2) (d1 : (x.bal.round == 0) = true) :
 Calls Tryz.prog 51 #[.agg (Re.cells x (.slice io n ic))] w (Looks w (.int .i64 (6))) := by
 obtain ⟨w1, e1, hl1, hB1, hz1⟩ := box_rec w x (.slice io n ic)
 obtain ⟨p0, p1, p2, p3, p4, p5, p6, p7, p8, p9, p10, p11⟩ := Recs.all hl1
 rw [hk] at p0
 have HK := Lib.hid hk
 have HM1 := Lib.hid hl1; have HB1 := Lib.hid hB1
 have Hhb : Hid (∀ W, Calls Tryz.prog 57 #[.int .i64 2] W (Says W (.bool true))) := fun W => refHb_any 2 W
 clear hl1 hB1 hz1 hk
 go_enter Tryz.func51, Tryz.ntmps51
 go_wp2_with fail
 refine (Hhb.out _).mono ?_
 rintro e' w' ⟨rfl, rfl⟩
 go_wp2
 go_ret
 exact ⟨rfl, HB1.out⟩
theorem refCk_2b (x : Re.Rec) (io : Option Addr) (n ic : Nat) (w : World) (hk : x.kind = 2) (d1 : (x.bal.round == 0) = false) (dm : Bl.may x.bal = false) :
 Calls Tryz.prog 51 #[.agg (Re.cells x (.slice io n ic))] w (Looks w (.int .i64 (6))) := by
 obtain ⟨w1, e1, hl1, hB1, hz1⟩ := box_rec w x (.slice io n ic)
 obtain ⟨p0, p1, p2, p3, p4, p5, p6, p7, p8, p9, p10, p11⟩ := Recs.all hl1
 rw [hk] at p0
 have HK := Lib.hid hk
 have HM1 := Lib.hid hl1; have HB1 := Lib.hid hB1
 have Hhb : Hid (∀ W, Calls Tryz.prog 57 #[.int .i64 2] W (Says W (.bool true))) := fun W => refHb_any 2 W
 have HMAY : Hid (∀ W, Calls Tryz.prog 27 #[.agg (Bl.cells x.bal)] W (Looks W (.bool false))) := fun W => by have := brefMay_any x.bal W; rw [dm] at this; exact this
 clear dm
 clear hl1 hB1 hz1 hk
 go_enter Tryz.func51, Tryz.ntmps51
 go_wp2_with fail
 refine (Hhb.out _).mono ?_
 rintro e' w' ⟨rfl, rfl⟩
 go_wp2_with fail
 refine (HMAY.out _).mono ?_
 rintro e' w2 ⟨rfl, hb⟩
 have HM2 := Lib.hid (HM1.out.below hb HM1.out.lt); have HB2 := Lib.hid (HB1.out.trans (hb.mono HB1.out.size))
 clear hb p0 p1 p2 p3 p4 p5 p6 p7 p8 p9 p10 p11
 obtain ⟨p0, p1, p2, p3, p4, p5, p6, p7, p8, p9, p10, p11⟩ := Recs.all HM2.out
 rw [HK.out] at p0
 go_wp2
 go_ret
 exact ⟨rfl, HB2.out⟩
theorem refCk_2c (x : Re.Rec) (io : Option Addr) (n ic : Nat) (w : World) (hk : x.kind = 2) (d1 : (x.bal.round == 0) = false) (dm : Bl.may x.bal = true) (d2 : decide (x.index < 1) = true) :
 Calls Tryz.prog 51 #[.agg (Re.cells x (.slice io n ic))] w (Looks w (.int .i64 (6))) := by
 obtain ⟨w1, e1, hl1, hB1, hz1⟩ := box_rec w x (.slice io n ic)
 obtain ⟨p0, p1, p2, p3, p4, p5, p6, p7, p8, p9, p10, p11⟩ := Recs.all hl1
 rw [hk] at p0
 have HK := Lib.hid hk
 have HM1 := Lib.hid hl1; have HB1 := Lib.hid hB1
 have Hhb : Hid (∀ W, Calls Tryz.prog 57 #[.int .i64 2] W (Says W (.bool true))) := fun W => refHb_any 2 W
 have Hhi : Hid (∀ W, Calls Tryz.prog 58 #[.int .i64 2] W (Says W (.bool true))) := fun W => refHi_any 2 W
 have HMAY : Hid (∀ W, Calls Tryz.prog 27 #[.agg (Bl.cells x.bal)] W (Looks W (.bool true))) := fun W => by have := brefMay_any x.bal W; rw [dm] at this; exact this
 clear dm
 clear hl1 hB1 hz1 hk
 go_enter Tryz.func51, Tryz.ntmps51
 go_wp2_with fail
 refine (Hhb.out _).mono ?_
 rintro e' w' ⟨rfl, rfl⟩
 go_wp2_with fail
 refine (HMAY.out _).mono ?_
 rintro e' w2 ⟨rfl, hb⟩
 have HM2 := Lib.hid (HM1.out.below hb HM1.out.lt); have HB2 := Lib.hid (HB1.out.trans (hb.mono HB1.out.size))
 clear hb p0 p1 p2 p3 p4 p5 p6 p7 p8 p9 p10 p11
 obtain ⟨p0, p1, p2, p3, p4, p5, p6, p7, p8, p9, p10, p11⟩ := Recs.all HM2.out
 rw [HK.out] at p0
 go_wp2_with fail
 refine (Hhi.out _).mono ?_
 rintro e' w' ⟨rfl, rfl⟩
 go_wp2
 go_ret
 exact ⟨rfl, HB2.out⟩
theorem refCk_2d (x : Re.Rec) (io : Option Addr) (n ic : Nat) (w : World) (hk : x.kind = 2) (d1 : (x.bal.round == 0) = false) (dm : Bl.may x.bal = true) (d2 : decide (x.index < 1) = false) (d3 : decide (4294967296 < x.index) = true) :
 Calls Tryz.prog 51 #[.agg (Re.cells x (.slice io n ic))] w (Looks w (.int .i64 (6))) := by
 obtain ⟨w1, e1, hl1, hB1, hz1⟩ := box_rec w x (.slice io n ic)
 obtain ⟨p0, p1, p2, p3, p4, p5, p6, p7, p8, p9, p10, p11⟩ := Recs.all hl1
 rw [hk] at p0
 have HK := Lib.hid hk
 have HM1 := Lib.hid hl1; have HB1 := Lib.hid hB1
 have Hhb : Hid (∀ W, Calls Tryz.prog 57 #[.int .i64 2] W (Says W (.bool true))) := fun W => refHb_any 2 W
 have Hhi : Hid (∀ W, Calls Tryz.prog 58 #[.int .i64 2] W (Says W (.bool true))) := fun W => refHi_any 2 W
 have HMAY : Hid (∀ W, Calls Tryz.prog 27 #[.agg (Bl.cells x.bal)] W (Looks W (.bool true))) := fun W => by have := brefMay_any x.bal W; rw [dm] at this; exact this
 clear dm
 clear hl1 hB1 hz1 hk
 go_enter Tryz.func51, Tryz.ntmps51
 go_wp2_with fail
 refine (Hhb.out _).mono ?_
 rintro e' w' ⟨rfl, rfl⟩
 go_wp2_with fail
 refine (HMAY.out _).mono ?_
 rintro e' w2 ⟨rfl, hb⟩
 have HM2 := Lib.hid (HM1.out.below hb HM1.out.lt); have HB2 := Lib.hid (HB1.out.trans (hb.mono HB1.out.size))
 clear hb p0 p1 p2 p3 p4 p5 p6 p7 p8 p9 p10 p11
 obtain ⟨p0, p1, p2, p3, p4, p5, p6, p7, p8, p9, p10, p11⟩ := Recs.all HM2.out
 rw [HK.out] at p0
 go_wp2_with fail
 refine (Hhi.out _).mono ?_
 rintro e' w' ⟨rfl, rfl⟩
 go_wp2
 go_ret
 exact ⟨rfl, HB2.out⟩
theorem refCk_2e (x : Re.Rec) (io : Option Addr) (n ic : Nat) (w : World) (hk : x.kind = 2) (d1 : (x.bal.round == 0) = false) (dm : Bl.may x.bal = true) (d2 : decide (x.index < 1) = false) (d3 : decide (4294967296 < x.index) = false) (hs : x.cmd.Short 140737488355328) (hc : Cm.check x.cmd ≠ 0) :
 Calls Tryz.prog 51 #[.agg (Re.cells x (.slice io n ic))] w (Looks w (.int .i64 (Cm.check x.cmd))) := by
 obtain ⟨w1, e1, hl1, hB1, hz1⟩ := box_rec w x (.slice io n ic)
 obtain ⟨p0, p1, p2, p3, p4, p5, p6, p7, p8, p9, p10, p11⟩ := Recs.all hl1
 rw [hk] at p0
 have HK := Lib.hid hk
 have HM1 := Lib.hid hl1; have HB1 := Lib.hid hB1
 have Hhb : Hid (∀ W, Calls Tryz.prog 57 #[.int .i64 2] W (Says W (.bool true))) := fun W => refHb_any 2 W
 have Hhi : Hid (∀ W, Calls Tryz.prog 58 #[.int .i64 2] W (Says W (.bool true))) := fun W => refHi_any 2 W
 have Hhc : Hid (∀ W, Calls Tryz.prog 52 #[.int .i64 2] W (Says W (.bool true))) := fun W => refHc_any 2 W
 have HMAY : Hid (∀ W, Calls Tryz.prog 27 #[.agg (Bl.cells x.bal)] W (Looks W (.bool true))) := fun W => by have := brefMay_any x.bal W; rw [dm] at this; exact this
 clear dm
 have HCMD := Lib.hid (fun W => refCheck_any x.cmd W hs)
 obtain ⟨c, hcc⟩ : ∃ c, c = Cm.check x.cmd := ⟨_, rfl⟩
 rw [← hcc] at HCMD hc ⊢
 have hne : (c != 0) = true := by simpa using hc
 clear hcc hc hs
 clear hl1 hB1 hz1 hk
 go_enter Tryz.func51, Tryz.ntmps51
 go_wp2_with fail
 refine (Hhb.out _).mono ?_
 rintro e' w' ⟨rfl, rfl⟩
 go_wp2_with fail
 refine (HMAY.out _).mono ?_
 rintro e' w2 ⟨rfl, hb⟩
 have HM2 := Lib.hid (HM1.out.below hb HM1.out.lt); have HB2 := Lib.hid (HB1.out.trans (hb.mono HB1.out.size))
 clear hb p0 p1 p2 p3 p4 p5 p6 p7 p8 p9 p10 p11
 obtain ⟨p0, p1, p2, p3, p4, p5, p6, p7, p8, p9, p10, p11⟩ := Recs.all HM2.out
 rw [HK.out] at p0
 go_wp2_with fail
 refine (Hhi.out _).mono ?_
 rintro e' w' ⟨rfl, rfl⟩
 go_wp2_with fail
 refine (Hhc.out _).mono ?_
 rintro e' w' ⟨rfl, rfl⟩
 go_wp2_with fail
 refine (HCMD.out _).mono ?_
 rintro e' w3 ⟨rfl, hb⟩
 have HM3 := Lib.hid (HM2.out.below hb HM2.out.lt); have HB3 := Lib.hid (HB2.out.trans (hb.mono HB2.out.size))
 clear hb p0 p1 p2 p3 p4 p5 p6 p7 p8 p9 p10 p11
 obtain ⟨p0, p1, p2, p3, p4, p5, p6, p7, p8, p9, p10, p11⟩ := Recs.all HM3.out
 rw [HK.out] at p0
 go_wp2
 go_ret
 exact ⟨rfl, HB3.out⟩
theorem refCk_2f (x : Re.Rec) (io : Option Addr) (n ic : Nat) (w : World) (hk : x.kind = 2) (d1 : (x.bal.round == 0) = false) (dm : Bl.may x.bal = true) (d2 : decide (x.index < 1) = false) (d3 : decide (4294967296 < x.index) = false) (hs : x.cmd.Short 140737488355328) (hc : Cm.check x.cmd = 0) (d6 : 0 < n) :
 Calls Tryz.prog 51 #[.agg (Re.cells x (.slice io n ic))] w (Looks w (.int .i64 (3))) := by
 obtain ⟨w1, e1, hl1, hB1, hz1⟩ := box_rec w x (.slice io n ic)
 obtain ⟨p0, p1, p2, p3, p4, p5, p6, p7, p8, p9, p10, p11⟩ := Recs.all hl1
 rw [hk] at p0
 have HK := Lib.hid hk
 have HM1 := Lib.hid hl1; have HB1 := Lib.hid hB1
 have Hhb : Hid (∀ W, Calls Tryz.prog 57 #[.int .i64 2] W (Says W (.bool true))) := fun W => refHb_any 2 W
 have Hhi : Hid (∀ W, Calls Tryz.prog 58 #[.int .i64 2] W (Says W (.bool true))) := fun W => refHi_any 2 W
 have Hhc : Hid (∀ W, Calls Tryz.prog 52 #[.int .i64 2] W (Says W (.bool true))) := fun W => refHc_any 2 W
 have HMAY : Hid (∀ W, Calls Tryz.prog 27 #[.agg (Bl.cells x.bal)] W (Looks W (.bool true))) := fun W => by have := brefMay_any x.bal W; rw [dm] at this; exact this
 clear dm
 have HCMD := Lib.hid (fun W => refCheck_any x.cmd W hs)
 rw [hc] at HCMD
 clear hc hs
 clear hl1 hB1 hz1 hk
 go_enter Tryz.func51, Tryz.ntmps51
 go_wp2_with fail
 refine (Hhb.out _).mono ?_
 rintro e' w' ⟨rfl, rfl⟩
 go_wp2_with fail
 refine (HMAY.out _).mono ?_
 rintro e' w2 ⟨rfl, hb⟩
 have HM2 := Lib.hid (HM1.out.below hb HM1.out.lt); have HB2 := Lib.hid (HB1.out.trans (hb.mono HB1.out.size))
 clear hb p0 p1 p2 p3 p4 p5 p6 p7 p8 p9 p10 p11
 obtain ⟨p0, p1, p2, p3, p4, p5, p6, p7, p8, p9, p10, p11⟩ := Recs.all HM2.out
 rw [HK.out] at p0
 go_wp2_with fail
 refine (Hhi.out _).mono ?_
 rintro e' w' ⟨rfl, rfl⟩
 go_wp2_with fail
 refine (Hhc.out _).mono ?_
 rintro e' w' ⟨rfl, rfl⟩
 go_wp2_with fail
 refine (HCMD.out _).mono ?_
 rintro e' w3 ⟨rfl, hb⟩
 have HM3 := Lib.hid (HM2.out.below hb HM2.out.lt); have HB3 := Lib.hid (HB2.out.trans (hb.mono HB2.out.size))
 clear hb p0 p1 p2 p3 p4 p5 p6 p7 p8 p9 p10 p11
 obtain ⟨p0, p1, p2, p3, p4, p5, p6, p7, p8, p9, p10, p11⟩ := Recs.all HM3.out
 rw [HK.out] at p0
 go_wp2_with fail
 refine (Hhb.out _).mono ?_
 rintro e' w' ⟨rfl, rfl⟩
 go_wp2_with fail
 refine (Hhi.out _).mono ?_
 rintro e' w' ⟨rfl, rfl⟩
 go_wp2_with fail
 refine (Hhc.out _).mono ?_
 rintro e' w' ⟨rfl, rfl⟩
 go_wp2
 go_ret
 exact ⟨rfl, HB3.out⟩
theorem refCk_2g (x : Re.Rec) (io : Option Addr) (n ic : Nat) (w : World) (hk : x.kind = 2) (d1 : (x.bal.round == 0) = false) (dm : Bl.may x.bal = true) (d2 : decide (x.index < 1) = false) (d3 : decide (4294967296 < x.index) = false) (hs : x.cmd.Short 140737488355328) (hc : Cm.check x.cmd = 0) (d6 : ¬ 0 < n) :
 Calls Tryz.prog 51 #[.agg (Re.cells x (.slice io n ic))] w (Looks w (.int .i64 (0))) := by
 obtain ⟨w1, e1, hl1, hB1, hz1⟩ := box_rec w x (.slice io n ic)
 obtain ⟨p0, p1, p2, p3, p4, p5, p6, p7, p8, p9, p10, p11⟩ := Recs.all hl1
 rw [hk] at p0
 have HK := Lib.hid hk
 have HM1 := Lib.hid hl1; have HB1 := Lib.hid hB1
 have Hhb : Hid (∀ W, Calls Tryz.prog 57 #[.int .i64 2] W (Says W (.bool true))) := fun W => refHb_any 2 W
 have Hhi : Hid (∀ W, Calls Tryz.prog 58 #[.int .i64 2] W (Says W (.bool true))) := fun W => refHi_any 2 W
 have Hhc : Hid (∀ W, Calls Tryz.prog 52 #[.int .i64 2] W (Says W (.bool true))) := fun W => refHc_any 2 W
 have HMAY : Hid (∀ W, Calls Tryz.prog 27 #[.agg (Bl.cells x.bal)] W (Looks W (.bool true))) := fun W => by have := brefMay_any x.bal W; rw [dm] at this; exact this
 clear dm
 have HCMD := Lib.hid (fun W => refCheck_any x.cmd W hs)
 rw [hc] at HCMD
 clear hc hs
 clear hl1 hB1 hz1 hk
 go_enter Tryz.func51, Tryz.ntmps51
 go_wp2_with fail
 refine (Hhb.out _).mono ?_
 rintro e' w' ⟨rfl, rfl⟩
 go_wp2_with fail
 refine (HMAY.out _).mono ?_
 rintro e' w2 ⟨rfl, hb⟩
 have HM2 := Lib.hid (HM1.out.below hb HM1.out.lt); have HB2 := Lib.hid (HB1.out.trans (hb.mono HB1.out.size))
 clear hb p0 p1 p2 p3 p4 p5 p6 p7 p8 p9 p10 p11
 obtain ⟨p0, p1, p2, p3, p4, p5, p6, p7, p8, p9, p10, p11⟩ := Recs.all HM2.out
 rw [HK.out] at p0
 go_wp2_with fail
 refine (Hhi.out _).mono ?_
 rintro e' w' ⟨rfl, rfl⟩
 go_wp2_with fail
 refine (Hhc.out _).mono ?_
 rintro e' w' ⟨rfl, rfl⟩
 go_wp2_with fail
 refine (HCMD.out _).mono ?_
 rintro e' w3 ⟨rfl, hb⟩
 have HM3 := Lib.hid (HM2.out.below hb HM2.out.lt); have HB3 := Lib.hid (HB2.out.trans (hb.mono HB2.out.size))
 clear hb p0 p1 p2 p3 p4 p5 p6 p7 p8 p9 p10 p11
 obtain ⟨p0, p1, p2, p3, p4, p5, p6, p7, p8, p9, p10, p11⟩ := Recs.all HM3.out
 rw [HK.out] at p0
 go_wp2_with fail
 refine (Hhb.out _).mono ?_
 rintro e' w' ⟨rfl, rfl⟩
 go_wp2_with fail
 refine (Hhi.out _).mono ?_
 rintro e' w' ⟨rfl, rfl⟩
 go_wp2_with fail
 refine (Hhc.out _).mono ?_
 rintro e' w' ⟨rfl, rfl⟩
 go_wp2
 go_ret
 exact ⟨rfl, HB3.out⟩
theorem refCk_3a (x : Re.Rec) (io : Option Addr) (n ic : Nat) (w : World) (hk : x.kind = 3) (d2 : decide (x.index < 1) = true) :
 Calls Tryz.prog 51 #[.agg (Re.cells x (.slice io n ic))] w (Looks w (.int .i64 (6))) := by
 obtain ⟨w1, e1, hl1, hB1, hz1⟩ := box_rec w x (.slice io n ic)
 obtain ⟨p0, p1, p2, p3, p4, p5, p6, p7, p8, p9, p10, p11⟩ := Recs.all hl1
 rw [hk] at p0
 have HK := Lib.hid hk
 have HM1 := Lib.hid hl1; have HB1 := Lib.hid hB1
 have Hhb : Hid (∀ W, Calls Tryz.prog 57 #[.int .i64 3] W (Says W (.bool false))) := fun W => refHb_any 3 W
 have Hhi : Hid (∀ W, Calls Tryz.prog 58 #[.int .i64 3] W (Says W (.bool true))) := fun W => refHi_any 3 W
 clear hl1 hB1 hz1 hk
 go_enter Tryz.func51, Tryz.ntmps51
 go_wp2_with fail
 refine (Hhb.out _).mono ?_
 rintro e' w' ⟨rfl, rfl⟩
 go_wp2_with fail
 refine (Hhi.out _).mono ?_
 rintro e' w' ⟨rfl, rfl⟩
 go_wp2
 go_ret
 exact ⟨rfl, HB1.out⟩
theorem refCk_3b (x : Re.Rec) (io : Option Addr) (n ic : Nat) (w : World) (hk : x.kind = 3) (d2 : decide (x.index < 1) = false) (d3 : decide (4294967296 < x.index) = true) :
 Calls Tryz.prog 51 #[.agg (Re.cells x (.slice io n ic))] w (Looks w (.int .i64 (6))) := by
 obtain ⟨w1, e1, hl1, hB1, hz1⟩ := box_rec w x (.slice io n ic)
 obtain ⟨p0, p1, p2, p3, p4, p5, p6, p7, p8, p9, p10, p11⟩ := Recs.all hl1
 rw [hk] at p0
 have HK := Lib.hid hk
 have HM1 := Lib.hid hl1; have HB1 := Lib.hid hB1
 have Hhb : Hid (∀ W, Calls Tryz.prog 57 #[.int .i64 3] W (Says W (.bool false))) := fun W => refHb_any 3 W
 have Hhi : Hid (∀ W, Calls Tryz.prog 58 #[.int .i64 3] W (Says W (.bool true))) := fun W => refHi_any 3 W
 clear hl1 hB1 hz1 hk
 go_enter Tryz.func51, Tryz.ntmps51
 go_wp2_with fail
 refine (Hhb.out _).mono ?_
 rintro e' w' ⟨rfl, rfl⟩
 go_wp2_with fail
 refine (Hhi.out _).mono ?_
 rintro e' w' ⟨rfl, rfl⟩
 go_wp2
 go_ret
 exact ⟨rfl, HB1.out⟩
theorem refCk_3c (x : Re.Rec) (io : Option Addr) (n ic : Nat) (w : World) (hk : x.kind = 3) (d2 : decide (x.index < 1) = false) (d3 : decide (4294967296 < x.index) = false) (hs : x.cmd.Short 140737488355328) (hc : Cm.check x.cmd ≠ 0) :
 Calls Tryz.prog 51 #[.agg (Re.cells x (.slice io n ic))] w (Looks w (.int .i64 (Cm.check x.cmd))) := by
 obtain ⟨w1, e1, hl1, hB1, hz1⟩ := box_rec w x (.slice io n ic)
 obtain ⟨p0, p1, p2, p3, p4, p5, p6, p7, p8, p9, p10, p11⟩ := Recs.all hl1
 rw [hk] at p0
 have HK := Lib.hid hk
 have HM1 := Lib.hid hl1; have HB1 := Lib.hid hB1
 have Hhb : Hid (∀ W, Calls Tryz.prog 57 #[.int .i64 3] W (Says W (.bool false))) := fun W => refHb_any 3 W
 have Hhi : Hid (∀ W, Calls Tryz.prog 58 #[.int .i64 3] W (Says W (.bool true))) := fun W => refHi_any 3 W
 have Hhc : Hid (∀ W, Calls Tryz.prog 52 #[.int .i64 3] W (Says W (.bool true))) := fun W => refHc_any 3 W
 have HCMD := Lib.hid (fun W => refCheck_any x.cmd W hs)
 obtain ⟨c, hcc⟩ : ∃ c, c = Cm.check x.cmd := ⟨_, rfl⟩
 rw [← hcc] at HCMD hc ⊢
 have hne : (c != 0) = true := by simpa using hc
 clear hcc hc hs
 clear hl1 hB1 hz1 hk
 go_enter Tryz.func51, Tryz.ntmps51
 go_wp2_with fail
 refine (Hhb.out _).mono ?_
 rintro e' w' ⟨rfl, rfl⟩
 go_wp2_with fail
 refine (Hhi.out _).mono ?_
 rintro e' w' ⟨rfl, rfl⟩
 go_wp2_with fail
 refine (Hhc.out _).mono ?_
 rintro e' w' ⟨rfl, rfl⟩
 go_wp2_with fail
 refine (HCMD.out _).mono ?_
 rintro e' w2 ⟨rfl, hb⟩
 have HM2 := Lib.hid (HM1.out.below hb HM1.out.lt); have HB2 := Lib.hid (HB1.out.trans (hb.mono HB1.out.size))
 clear hb p0 p1 p2 p3 p4 p5 p6 p7 p8 p9 p10 p11
 obtain ⟨p0, p1, p2, p3, p4, p5, p6, p7, p8, p9, p10, p11⟩ := Recs.all HM2.out
 rw [HK.out] at p0
 go_wp2
 go_ret
 exact ⟨rfl, HB2.out⟩
theorem refCk_3d (x : Re.Rec) (io : Option Addr) (n ic : Nat) (w : World) (hk : x.kind = 3) (d2 : decide (x.index < 1) = false) (d3 : decide (4294967296 < x.index) = false) (hs : x.cmd.Short 140737488355328) (hc : Cm.check x.cmd = 0) (d9 : (x.bal.round != 0) = true) :
 Calls Tryz.prog 51 #[.agg (Re.cells x (.slice io n ic))] w (Looks w (.int .i64 (3))) := by
 obtain ⟨w1, e1, hl1, hB1, hz1⟩ := box_rec w x (.slice io n ic)
 obtain ⟨p0, p1, p2, p3, p4, p5, p6, p7, p8, p9, p10, p11⟩ := Recs.all hl1
 rw [hk] at p0
 have HK := Lib.hid hk
 have HM1 := Lib.hid hl1; have HB1 := Lib.hid hB1
 have Hhb : Hid (∀ W, Calls Tryz.prog 57 #[.int .i64 3] W (Says W (.bool false))) := fun W => refHb_any 3 W
 have Hhi : Hid (∀ W, Calls Tryz.prog 58 #[.int .i64 3] W (Says W (.bool true))) := fun W => refHi_any 3 W
 have Hhc : Hid (∀ W, Calls Tryz.prog 52 #[.int .i64 3] W (Says W (.bool true))) := fun W => refHc_any 3 W
 have HCMD := Lib.hid (fun W => refCheck_any x.cmd W hs)
 rw [hc] at HCMD
 clear hc hs
 clear hl1 hB1 hz1 hk
 go_enter Tryz.func51, Tryz.ntmps51
 go_wp2_with fail
 refine (Hhb.out _).mono ?_
 rintro e' w' ⟨rfl, rfl⟩
 go_wp2_with fail
 refine (Hhi.out _).mono ?_
 rintro e' w' ⟨rfl, rfl⟩
 go_wp2_with fail
 refine (Hhc.out _).mono ?_
 rintro e' w' ⟨rfl, rfl⟩
 go_wp2_with fail
 refine (HCMD.out _).mono ?_
 rintro e' w2 ⟨rfl, hb⟩
 have HM2 := Lib.hid (HM1.out.below hb HM1.out.lt); have HB2 := Lib.hid (HB1.out.trans (hb.mono HB1.out.size))
 clear hb p0 p1 p2 p3 p4 p5 p6 p7 p8 p9 p10 p11
 obtain ⟨p0, p1, p2, p3, p4, p5, p6, p7, p8, p9, p10, p11⟩ := Recs.all HM2.out
 rw [HK.out] at p0
 go_wp2_with fail
 refine (Hhb.out _).mono ?_
 rintro e' w' ⟨rfl, rfl⟩
 go_wp2
 go_ret
 exact ⟨rfl, HB2.out⟩
theorem refCk_3e (x : Re.Rec) (io : Option Addr) (n ic : Nat) (w : World) (hk : x.kind = 3) (d2 : decide (x.index < 1) = false) (d3 : decide (4294967296 < x.index) = false) (hs : x.cmd.Short 140737488355328) (hc : Cm.check x.cmd = 0) (d9 : (x.bal.round != 0) = false) (d8 : (x.bal.node != 0) = true) :
 Calls Tryz.prog 51 #[.agg (Re.cells x (.slice io n ic))] w (Looks w (.int .i64 (3))) := by
 obtain ⟨w1, e1, hl1, hB1, hz1⟩ := box_rec w x (.slice io n ic)
 obtain ⟨p0, p1, p2, p3, p4, p5, p6, p7, p8, p9, p10, p11⟩ := Recs.all hl1
 rw [hk] at p0
 have HK := Lib.hid hk
 have HM1 := Lib.hid hl1; have HB1 := Lib.hid hB1
 have Hhb : Hid (∀ W, Calls Tryz.prog 57 #[.int .i64 3] W (Says W (.bool false))) := fun W => refHb_any 3 W
 have Hhi : Hid (∀ W, Calls Tryz.prog 58 #[.int .i64 3] W (Says W (.bool true))) := fun W => refHi_any 3 W
 have Hhc : Hid (∀ W, Calls Tryz.prog 52 #[.int .i64 3] W (Says W (.bool true))) := fun W => refHc_any 3 W
 have HCMD := Lib.hid (fun W => refCheck_any x.cmd W hs)
 rw [hc] at HCMD
 clear hc hs
 clear hl1 hB1 hz1 hk
 go_enter Tryz.func51, Tryz.ntmps51
 go_wp2_with fail
 refine (Hhb.out _).mono ?_
 rintro e' w' ⟨rfl, rfl⟩
 go_wp2_with fail
 refine (Hhi.out _).mono ?_
 rintro e' w' ⟨rfl, rfl⟩
 go_wp2_with fail
 refine (Hhc.out _).mono ?_
 rintro e' w' ⟨rfl, rfl⟩
 go_wp2_with fail
 refine (HCMD.out _).mono ?_
 rintro e' w2 ⟨rfl, hb⟩
 have HM2 := Lib.hid (HM1.out.below hb HM1.out.lt); have HB2 := Lib.hid (HB1.out.trans (hb.mono HB1.out.size))
 clear hb p0 p1 p2 p3 p4 p5 p6 p7 p8 p9 p10 p11
 obtain ⟨p0, p1, p2, p3, p4, p5, p6, p7, p8, p9, p10, p11⟩ := Recs.all HM2.out
 rw [HK.out] at p0
 go_wp2_with fail
 refine (Hhb.out _).mono ?_
 rintro e' w' ⟨rfl, rfl⟩
 go_wp2
 go_ret
 exact ⟨rfl, HB2.out⟩
theorem refCk_3f (x : Re.Rec) (io : Option Addr) (n ic : Nat) (w : World) (hk : x.kind = 3) (d2 : decide (x.index < 1) = false) (d3 : decide (4294967296 < x.index) = false) (hs : x.cmd.Short 140737488355328) (hc : Cm.check x.cmd = 0) (d9 : (x.bal.round != 0) = false) (d8 : (x.bal.node != 0) = false) (d6 : 0 < n) :
 Calls Tryz.prog 51 #[.agg (Re.cells x (.slice io n ic))] w (Looks w (.int .i64 (3))) := by
 obtain ⟨w1, e1, hl1, hB1, hz1⟩ := box_rec w x (.slice io n ic)
 obtain ⟨p0, p1, p2, p3, p4, p5, p6, p7, p8, p9, p10, p11⟩ := Recs.all hl1
 rw [hk] at p0
 have HK := Lib.hid hk
 have HM1 := Lib.hid hl1; have HB1 := Lib.hid hB1
 have Hhb : Hid (∀ W, Calls Tryz.prog 57 #[.int .i64 3] W (Says W (.bool false))) := fun W => refHb_any 3 W
 have Hhi : Hid (∀ W, Calls Tryz.prog 58 #[.int .i64 3] W (Says W (.bool true))) := fun W => refHi_any 3 W
 have Hhc : Hid (∀ W, Calls Tryz.prog 52 #[.int .i64 3] W (Says W (.bool true))) := fun W => refHc_any 3 W
 have HCMD := Lib.hid (fun W => refCheck_any x.cmd W hs)
 rw [hc] at HCMD
 clear hc hs
 clear hl1 hB1 hz1 hk
 go_enter Tryz.func51, Tryz.ntmps51
 go_wp2_with fail
 refine (Hhb.out _).mono ?_
 rintro e' w' ⟨rfl, rfl⟩
 go_wp2_with fail
 refine (Hhi.out _).mono ?_
 rintro e' w' ⟨rfl, rfl⟩
 go_wp2_with fail
 refine (Hhc.out _).mono ?_
 rintro e' w' ⟨rfl, rfl⟩
 go_wp2_with fail
 refine (HCMD.out _).mono ?_
 rintro e' w2 ⟨rfl, hb⟩
 have HM2 := Lib.hid (HM1.out.below hb HM1.out.lt); have HB2 := Lib.hid (HB1.out.trans (hb.mono HB1.out.size))
 clear hb p0 p1 p2 p3 p4 p5 p6 p7 p8 p9 p10 p11
 obtain ⟨p0, p1, p2, p3, p4, p5, p6, p7, p8, p9, p10, p11⟩ := Recs.all HM2.out
 rw [HK.out] at p0
 go_wp2_with fail
 refine (Hhb.out _).mono ?_
 rintro e' w' ⟨rfl, rfl⟩
 go_wp2_with fail
 refine (Hhi.out _).mono ?_
 rintro e' w' ⟨rfl, rfl⟩
 go_wp2_with fail
 refine (Hhc.out _).mono ?_
 rintro e' w' ⟨rfl, rfl⟩
 go_wp2
 go_ret
 exact ⟨rfl, HB2.out⟩
theorem refCk_3g (x : Re.Rec) (io : Option Addr) (n ic : Nat) (w : World) (hk : x.kind = 3) (d2 : decide (x.index < 1) = false) (d3 : decide (4294967296 < x.index) = false) (hs : x.cmd.Short 140737488355328) (hc : Cm.check x.cmd = 0) (d9 : (x.bal.round != 0) = false) (d8 : (x.bal.node != 0) = false) (d6 : ¬ 0 < n) :
 Calls Tryz.prog 51 #[.agg (Re.cells x (.slice io n ic))] w (Looks w (.int .i64 (0))) := by
 obtain ⟨w1, e1, hl1, hB1, hz1⟩ := box_rec w x (.slice io n ic)
 obtain ⟨p0, p1, p2, p3, p4, p5, p6, p7, p8, p9, p10, p11⟩ := Recs.all hl1
 rw [hk] at p0
 have HK := Lib.hid hk
 have HM1 := Lib.hid hl1; have HB1 := Lib.hid hB1
 have Hhb : Hid (∀ W, Calls Tryz.prog 57 #[.int .i64 3] W (Says W (.bool false))) := fun W => refHb_any 3 W
 have Hhi : Hid (∀ W, Calls Tryz.prog 58 #[.int .i64 3] W (Says W (.bool true))) := fun W => refHi_any 3 W
 have Hhc : Hid (∀ W, Calls Tryz.prog 52 #[.int .i64 3] W (Says W (.bool true))) := fun W => refHc_any 3 W
 have HCMD := Lib.hid (fun W => refCheck_any x.cmd W hs)
 rw [hc] at HCMD
 clear hc hs
 clear hl1 hB1 hz1 hk
 go_enter Tryz.func51, Tryz.ntmps51
 go_wp2_with fail
 refine (Hhb.out _).mono ?_
 rintro e' w' ⟨rfl, rfl⟩
 go_wp2_with fail
 refine (Hhi.out _).mono ?_
 rintro e' w' ⟨rfl, rfl⟩
 go_wp2_with fail
 refine (Hhc.out _).mono ?_
 rintro e' w' ⟨rfl, rfl⟩
 go_wp2_with fail
 refine (HCMD.out _).mono ?_
 rintro e' w2 ⟨rfl, hb⟩
 have HM2 := Lib.hid (HM1.out.below hb HM1.out.lt); have HB2 := Lib.hid (HB1.out.trans (hb.mono HB1.out.size))
 clear hb p0 p1 p2 p3 p4 p5 p6 p7 p8 p9 p10 p11
 obtain ⟨p0, p1, p2, p3, p4, p5, p6, p7, p8, p9, p10, p11⟩ := Recs.all HM2.out
 rw [HK.out] at p0
 go_wp2_with fail
 refine (Hhb.out _).mono ?_
 rintro e' w' ⟨rfl, rfl⟩
 go_wp2_with fail
 refine (Hhi.out _).mono ?_
 rintro e' w' ⟨rfl, rfl⟩
 go_wp2_with fail
 refine (Hhc.out _).mono ?_
 rintro e' w' ⟨rfl, rfl⟩
 go_wp2
 go_ret
 exact ⟨rfl, HB2.out⟩
theorem refCk_4a (x : Re.Rec) (io : Option Addr) (n ic : Nat) (w : World) (hk : x.kind = 4) (d2 : decide (x.index < 1) = true) :
 Calls Tryz.prog 51 #[.agg (Re.cells x (.slice io n ic))] w (Looks w (.int .i64 (6))) := by
 obtain ⟨w1, e1, hl1, hB1, hz1⟩ := box_rec w x (.slice io n ic)
 obtain ⟨p0, p1, p2, p3, p4, p5, p6, p7, p8, p9, p10, p11⟩ := Recs.all hl1
 rw [hk] at p0
 have HK := Lib.hid hk
 have HM1 := Lib.hid hl1; have HB1 := Lib.hid hB1
 have Hhb : Hid (∀ W, Calls Tryz.prog 57 #[.int .i64 4] W (Says W (.bool false))) := fun W => refHb_any 4 W
 have Hhi : Hid (∀ W, Calls Tryz.prog 58 #[.int .i64 4] W (Says W (.bool true))) := fun W => refHi_any 4 W
 clear hl1 hB1 hz1 hk
 go_enter Tryz.func51, Tryz.ntmps51
 go_wp2_with fail
 refine (Hhb.out _).mono ?_
 rintro e' w' ⟨rfl, rfl⟩
 go_wp2_with fail
 refine (Hhi.out _).mono ?_
 rintro e' w' ⟨rfl, rfl⟩
 go_wp2
 go_ret
 exact ⟨rfl, HB1.out⟩
theorem refCk_4b (x : Re.Rec) (io : Option Addr) (n ic : Nat) (w : World) (hk : x.kind = 4) (d2 : decide (x.index < 1) = false) (d3 : decide (4294967296 < x.index) = true) :
 Calls Tryz.prog 51 #[.agg (Re.cells x (.slice io n ic))] w (Looks w (.int .i64 (6))) := by
 obtain ⟨w1, e1, hl1, hB1, hz1⟩ := box_rec w x (.slice io n ic)
 obtain ⟨p0, p1, p2, p3, p4, p5, p6, p7, p8, p9, p10, p11⟩ := Recs.all hl1
 rw [hk] at p0
 have HK := Lib.hid hk
 have HM1 := Lib.hid hl1; have HB1 := Lib.hid hB1
 have Hhb : Hid (∀ W, Calls Tryz.prog 57 #[.int .i64 4] W (Says W (.bool false))) := fun W => refHb_any 4 W
 have Hhi : Hid (∀ W, Calls Tryz.prog 58 #[.int .i64 4] W (Says W (.bool true))) := fun W => refHi_any 4 W
 clear hl1 hB1 hz1 hk
 go_enter Tryz.func51, Tryz.ntmps51
 go_wp2_with fail
 refine (Hhb.out _).mono ?_
 rintro e' w' ⟨rfl, rfl⟩
 go_wp2_with fail
 refine (Hhi.out _).mono ?_
 rintro e' w' ⟨rfl, rfl⟩
 go_wp2
 go_ret
 exact ⟨rfl, HB1.out⟩
theorem refCk_4c (x : Re.Rec) (io : Option Addr) (n ic : Nat) (w : World) (hk : x.kind = 4) (d2 : decide (x.index < 1) = false) (d3 : decide (4294967296 < x.index) = false) (d7 : decide ((32768 : Int) < (n : Int)) = true) :
 Calls Tryz.prog 51 #[.agg (Re.cells x (.slice io n ic))] w (Looks w (.int .i64 (2))) := by
 obtain ⟨w1, e1, hl1, hB1, hz1⟩ := box_rec w x (.slice io n ic)
 obtain ⟨p0, p1, p2, p3, p4, p5, p6, p7, p8, p9, p10, p11⟩ := Recs.all hl1
 rw [hk] at p0
 have HK := Lib.hid hk
 have HM1 := Lib.hid hl1; have HB1 := Lib.hid hB1
 have Hhb : Hid (∀ W, Calls Tryz.prog 57 #[.int .i64 4] W (Says W (.bool false))) := fun W => refHb_any 4 W
 have Hhi : Hid (∀ W, Calls Tryz.prog 58 #[.int .i64 4] W (Says W (.bool true))) := fun W => refHi_any 4 W
 clear hl1 hB1 hz1 hk
 go_enter Tryz.func51, Tryz.ntmps51
 go_wp2_with fail
 refine (Hhb.out _).mono ?_
 rintro e' w' ⟨rfl, rfl⟩
 go_wp2_with fail
 refine (Hhi.out _).mono ?_
 rintro e' w' ⟨rfl, rfl⟩
 go_wp2
 go_ret
 exact ⟨rfl, HB1.out⟩
theorem refCk_4d (x : Re.Rec) (io : Option Addr) (n ic : Nat) (w : World) (hk : x.kind = 4) (d2 : decide (x.index < 1) = false) (d3 : decide (4294967296 < x.index) = false) (d7 : decide ((32768 : Int) < (n : Int)) = false) (d9 : (x.bal.round != 0) = true) :
 Calls Tryz.prog 51 #[.agg (Re.cells x (.slice io n ic))] w (Looks w (.int .i64 (3))) := by
 obtain ⟨w1, e1, hl1, hB1, hz1⟩ := box_rec w x (.slice io n ic)
 obtain ⟨p0, p1, p2, p3, p4, p5, p6, p7, p8, p9, p10, p11⟩ := Recs.all hl1
 rw [hk] at p0
 have HK := Lib.hid hk
 have HM1 := Lib.hid hl1; have HB1 := Lib.hid hB1
 have Hhb : Hid (∀ W, Calls Tryz.prog 57 #[.int .i64 4] W (Says W (.bool false))) := fun W => refHb_any 4 W
 have Hhi : Hid (∀ W, Calls Tryz.prog 58 #[.int .i64 4] W (Says W (.bool true))) := fun W => refHi_any 4 W
 have Hhc : Hid (∀ W, Calls Tryz.prog 52 #[.int .i64 4] W (Says W (.bool false))) := fun W => refHc_any 4 W
 clear hl1 hB1 hz1 hk
 go_enter Tryz.func51, Tryz.ntmps51
 go_wp2_with fail
 refine (Hhb.out _).mono ?_
 rintro e' w' ⟨rfl, rfl⟩
 go_wp2_with fail
 refine (Hhi.out _).mono ?_
 rintro e' w' ⟨rfl, rfl⟩
 go_wp2_with fail
 refine (Hhc.out _).mono ?_
 rintro e' w' ⟨rfl, rfl⟩
 go_wp2_with fail
 refine (Hhb.out _).mono ?_
 rintro e' w' ⟨rfl, rfl⟩
 go_wp2
 go_ret
 exact ⟨rfl, HB1.out⟩
theorem refCk_4e (x : Re.Rec) (io : Option Addr) (n ic : Nat) (w : World) (hk : x.kind = 4) (d2 : decide (x.index < 1) = false) (d3 : decide (4294967296 < x.index) = false) (d7 : decide ((32768 : Int) < (n : Int)) = false) (d9 : (x.bal.round != 0) = false) (d8 : (x.bal.node != 0) = true) :
 Calls Tryz.prog 51 #[.agg (Re.cells x (.slice io n ic))] w (Looks w (.int .i64 (3))) := by
 obtain ⟨w1, e1, hl1, hB1, hz1⟩ := box_rec w x (.slice io n ic)
 obtain ⟨p0, p1, p2, p3, p4, p5, p6, p7, p8, p9, p10, p11⟩ := Recs.all hl1
 rw [hk] at p0
 have HK := Lib.hid hk
 have HM1 := Lib.hid hl1; have HB1 := Lib.hid hB1
 have Hhb : Hid (∀ W, Calls Tryz.prog 57 #[.int .i64 4] W (Says W (.bool false))) := fun W => refHb_any 4 W
 have Hhi : Hid (∀ W, Calls Tryz.prog 58 #[.int .i64 4] W (Says W (.bool true))) := fun W => refHi_any 4 W
 have Hhc : Hid (∀ W, Calls Tryz.prog 52 #[.int .i64 4] W (Says W (.bool false))) := fun W => refHc_any 4 W
 clear hl1 hB1 hz1 hk
 go_enter Tryz.func51, Tryz.ntmps51
 go_wp2_with fail
 refine (Hhb.out _).mono ?_
 rintro e' w' ⟨rfl, rfl⟩
 go_wp2_with fail
 refine (Hhi.out _).mono ?_
 rintro e' w' ⟨rfl, rfl⟩
 go_wp2_with fail
 refine (Hhc.out _).mono ?_
 rintro e' w' ⟨rfl, rfl⟩
 go_wp2_with fail
 refine (Hhb.out _).mono ?_
 rintro e' w' ⟨rfl, rfl⟩
 go_wp2
 go_ret
 exact ⟨rfl, HB1.out⟩
theorem refCk_4f (x : Re.Rec) (io : Option Addr) (n ic : Nat) (w : World) (hk : x.kind = 4) (d2 : decide (x.index < 1) = false) (d3 : decide (4294967296 < x.index) = false) (d7 : decide ((32768 : Int) < (n : Int)) = false) (d9 : (x.bal.round != 0) = false) (d8 : (x.bal.node != 0) = false) (d5 : decide (x.cmd = Cm.zero) = false) :
 Calls Tryz.prog 51 #[.agg (Re.cells x (.slice io n ic))] w (Looks w (.int .i64 (3))) := by
 obtain ⟨w1, e1, hl1, hB1, hz1⟩ := box_rec w x (.slice io n ic)
 obtain ⟨p0, p1, p2, p3, p4, p5, p6, p7, p8, p9, p10, p11⟩ := Recs.all hl1
 rw [hk] at p0
 have HK := Lib.hid hk
 have HM1 := Lib.hid hl1; have HB1 := Lib.hid hB1
 have Hhb : Hid (∀ W, Calls Tryz.prog 57 #[.int .i64 4] W (Says W (.bool false))) := fun W => refHb_any 4 W
 have Hhi : Hid (∀ W, Calls Tryz.prog 58 #[.int .i64 4] W (Says W (.bool true))) := fun W => refHi_any 4 W
 have Hhc : Hid (∀ W, Calls Tryz.prog 52 #[.int .i64 4] W (Says W (.bool false))) := fun W => refHc_any 4 W
 have hgd := guard_cmd
 have heq : ∀ W, (binOp .neq 40 (.agg (Cm.cells x.cmd)) (.agg (Cm.cells Cm.zero))).run Tryz.prog W = .ok (.bool true) W := fun W => by rw [run_neq_cmd2, d5]; rfl
 dsimp only [Cm.cells, Cm.zero, Cm.bareOf] at heq
 clear d5
 clear hl1 hB1 hz1 hk
 go_enter Tryz.func51, Tryz.ntmps51
 go_wp2_with fail
 refine (Hhb.out _).mono ?_
 rintro e' w' ⟨rfl, rfl⟩
 go_wp2_with fail
 refine (Hhi.out _).mono ?_
 rintro e' w' ⟨rfl, rfl⟩
 go_wp2_with fail
 refine (Hhc.out _).mono ?_
 rintro e' w' ⟨rfl, rfl⟩
 go_wp2_with fail
 refine (Hhb.out _).mono ?_
 rintro e' w' ⟨rfl, rfl⟩
 go_wp2_with fail
 refine (Hhi.out _).mono ?_
 rintro e' w' ⟨rfl, rfl⟩
 go_wp2_with fail
 refine (Hhc.out _).mono ?_
 rintro e' w' ⟨rfl, rfl⟩
 go_wp2
 go_ret
 exact ⟨rfl, HB1.out⟩
theorem refCk_4g (x : Re.Rec) (io : Option Addr) (n ic : Nat) (w : World) (hk : x.kind = 4) (d2 : decide (x.index < 1) = false) (d3 : decide (4294967296 < x.index) = false) (d7 : decide ((32768 : Int) < (n : Int)) = false) (d9 : (x.bal.round != 0) = false) (d8 : (x.bal.node != 0) = false) (d5 : decide (x.cmd = Cm.zero) = true) (d6 : ¬ 0 < n) :
 Calls Tryz.prog 51 #[.agg (Re.cells x (.slice io n ic))] w (Looks w (.int .i64 (3))) := by
 obtain ⟨w1, e1, hl1, hB1, hz1⟩ := box_rec w x (.slice io n ic)
 obtain ⟨p0, p1, p2, p3, p4, p5, p6, p7, p8, p9, p10, p11⟩ := Recs.all hl1
 rw [hk] at p0
 have HK := Lib.hid hk
 have HM1 := Lib.hid hl1; have HB1 := Lib.hid hB1
 have Hhb : Hid (∀ W, Calls Tryz.prog 57 #[.int .i64 4] W (Says W (.bool false))) := fun W => refHb_any 4 W
 have Hhi : Hid (∀ W, Calls Tryz.prog 58 #[.int .i64 4] W (Says W (.bool true))) := fun W => refHi_any 4 W
 have Hhc : Hid (∀ W, Calls Tryz.prog 52 #[.int .i64 4] W (Says W (.bool false))) := fun W => refHc_any 4 W
 have hgd := guard_cmd
 have heq : ∀ W, (binOp .neq 40 (.agg (Cm.cells x.cmd)) (.agg (Cm.cells Cm.zero))).run Tryz.prog W = .ok (.bool false) W := fun W => by rw [run_neq_cmd2, d5]; rfl
 dsimp only [Cm.cells, Cm.zero, Cm.bareOf] at heq
 clear d5
 clear hl1 hB1 hz1 hk
 go_enter Tryz.func51, Tryz.ntmps51
 go_wp2_with fail
 refine (Hhb.out _).mono ?_
 rintro e' w' ⟨rfl, rfl⟩
 go_wp2_with fail
 refine (Hhi.out _).mono ?_
 rintro e' w' ⟨rfl, rfl⟩
 go_wp2_with fail
 refine (Hhc.out _).mono ?_
 rintro e' w' ⟨rfl, rfl⟩
 go_wp2_with fail
 refine (Hhb.out _).mono ?_
 rintro e' w' ⟨rfl, rfl⟩
 go_wp2_with fail
 refine (Hhi.out _).mono ?_
 rintro e' w' ⟨rfl, rfl⟩
 go_wp2_with fail
 refine (Hhc.out _).mono ?_
 rintro e' w' ⟨rfl, rfl⟩
 go_wp2
 go_ret
 exact ⟨rfl, HB1.out⟩
theorem refCk_4h (x : Re.Rec) (io : Option Addr) (n ic : Nat) (w : World) (hk : x.kind = 4) (d2 : decide (x.index < 1) = false) (d3 : decide (4294967296 < x.index) = false) (d7 : decide ((32768 : Int) < (n : Int)) = false) (d9 : (x.bal.round != 0) = false) (d8 : (x.bal.node != 0) = false) (d5 : decide (x.cmd = Cm.zero) = true) (d6 : 0 < n) :
 Calls Tryz.prog 51 #[.agg (Re.cells x (.slice io n ic))] w (Looks w (.int .i64 (0))) := by
 obtain ⟨w1, e1, hl1, hB1, hz1⟩ := box_rec w x (.slice io n ic)
 obtain ⟨p0, p1, p2, p3, p4, p5, p6, p7, p8, p9, p10, p11⟩ := Recs.all hl1
 rw [hk] at p0
 have HK := Lib.hid hk
 have HM1 := Lib.hid hl1; have HB1 := Lib.hid hB1
 have Hhb : Hid (∀ W, Calls Tryz.prog 57 #[.int .i64 4] W (Says W (.bool false))) := fun W => refHb_any 4 W
 have Hhi : Hid (∀ W, Calls Tryz.prog 58 #[.int .i64 4] W (Says W (.bool true))) := fun W => refHi_any 4 W
 have Hhc : Hid (∀ W, Calls Tryz.prog 52 #[.int .i64 4] W (Says W (.bool false))) := fun W => refHc_any 4 W
 have hgd := guard_cmd
 have heq : ∀ W, (binOp .neq 40 (.agg (Cm.cells x.cmd)) (.agg (Cm.cells Cm.zero))).run Tryz.prog W = .ok (.bool false) W := fun W => by rw [run_neq_cmd2, d5]; rfl
 dsimp only [Cm.cells, Cm.zero, Cm.bareOf] at heq
 clear d5
 clear hl1 hB1 hz1 hk
 go_enter Tryz.func51, Tryz.ntmps51
 go_wp2_with fail
 refine (Hhb.out _).mono ?_
 rintro e' w' ⟨rfl, rfl⟩
 go_wp2_with fail
 refine (Hhi.out _).mono ?_
 rintro e' w' ⟨rfl, rfl⟩
 go_wp2_with fail
 refine (Hhc.out _).mono ?_
 rintro e' w' ⟨rfl, rfl⟩
 go_wp2_with fail
 refine (Hhb.out _).mono ?_
 rintro e' w' ⟨rfl, rfl⟩
 go_wp2_with fail
 refine (Hhi.out _).mono ?_
 rintro e' w' ⟨rfl, rfl⟩
 go_wp2_with fail
 refine (Hhc.out _).mono ?_
 rintro e' w' ⟨rfl, rfl⟩
 go_wp2
 go_ret
 exact ⟨rfl, HB1.out⟩
theorem refCk_no (x : Re.Rec) (vi : Value) (w : World) (hk : x.kind < 1 ∨ 4 < x.kind) :
 Calls Tryz.prog 51 #[.agg (Re.cells x vi)] w (Looks w (.int .i64 5)) := by
 obtain ⟨w1, e1, hl1, hB1, hz1⟩ := box_rec w x vi
 have p0 := hl1.c0
 have HB1 := Lib.hid hB1
 clear hl1 hB1 hz1
 by_cases h : x.kind < 1
 ·have d1 : decide (x.kind < 1) = true := decide_eq_true h
  clear hk h
  go_enter Tryz.func51, Tryz.ntmps51
  go_wp2
  go_ret
  exact ⟨rfl, HB1.out⟩
 ·have d1 : decide (x.kind < 1) = false := decide_eq_false h
  have d4 : decide (4 < x.kind) = true := decide_eq_true (by omega)
  clear hk h
  go_enter Tryz.func51, Tryz.ntmps51
  go_wp2
  go_ret
  exact ⟨rfl, HB1.out⟩
theorem Re.form_1 {x : Re.Rec} (h : x.kind = 1) : (decide (Re.own x = x) && Re.whole x) = (!(x.index != 0) && (decide (x.cmd = Cm.zero) && !decide (0 < x.img.length))) := by
 obtain ⟨k, b, i, c, m⟩ := x
 dsimp only at h
 subst h
 rw [Bool.eq_iff_iff]
 simp [Re.own, Re.whole, Re.hb, Re.hi, Re.hc, Re.hm]
 grind
theorem Re.form_2 {x : Re.Rec} (h : x.kind = 2) : (decide (Re.own x = x) && Re.whole x) = !decide (0 < x.img.length) := by
 obtain ⟨k, b, i, c, m⟩ := x
 dsimp only at h
 subst h
 rw [Bool.eq_iff_iff]
 simp [Re.own, Re.whole, Re.hb, Re.hi, Re.hc, Re.hm]
theorem Re.form_3 {x : Re.Rec} (h : x.kind = 3) : (decide (Re.own x = x) && Re.whole x) = (!(x.bal.round != 0) && (!(x.bal.node != 0) && !decide (0 < x.img.length))) := by
 obtain ⟨k, ⟨r, nd⟩, i, c, m⟩ := x
 dsimp only at h
 subst h
 rw [Bool.eq_iff_iff]
 simp [Re.own, Re.whole, Re.hb, Re.hi, Re.hc, Re.hm, Bl.zero]
 grind
theorem Re.form_4 {x : Re.Rec} (h : x.kind = 4) : (decide (Re.own x = x) && Re.whole x) = (!(x.bal.round != 0) && (!(x.bal.node != 0) && (decide (x.cmd = Cm.zero) && decide (0 < x.img.length)))) := by
 obtain ⟨k, ⟨r, nd⟩, i, c, m⟩ := x
 dsimp only at h
 subst h
 rw [Bool.eq_iff_iff]
 simp [Re.own, Re.whole, Re.hb, Re.hi, Re.hc, Re.hm, Bl.zero]
 cases m <;> grind
theorem Re.within_is (i : Int) : Ms.within i 1 4294967296 = (!decide (i < 1) && !decide (4294967296 < i)) := by
 unfold Ms.within
 rw [Bool.eq_iff_iff]
 simp
theorem refCheckRe_any (x : Re.Rec) (vi : Value) (w : World) (hi : Reads w vi x.img) (hs : x.cmd.Short 140737488355328) :
 Calls Tryz.prog 51 #[.agg (Re.cells x vi)] w (Looks w (.int .i64 (Re.check x))) := by
 obtain ⟨io, ic, rfl⟩ := hi.shape
 rw [Re.check_limits]
 have hbig : decide (32768 < x.img.length) = decide ((32768 : Int) < (x.img.length : Int)) := decide_eq_decide.2 (by omega)
 rcases Re.kinds x.kind with h | h | h | h | h
 ·rw [Re.limits_1 h, Re.form_1 h, Re.owned_is]
  cases d1 : (x.bal.round == 0) with
  | true => exact refCk_1a x io _ ic w h d1
  | false =>
   cases dm : Bl.may x.bal with
   | false => exact refCk_1b x io _ ic w h d1 dm
   | true =>
    cases d4 : (x.index != 0) with
    | true => exact refCk_1c x io _ ic w h d1 dm d4
    | false =>
     cases d5 : decide (x.cmd = Cm.zero) with
     | false => exact refCk_1d x io _ ic w h d1 dm d4 d5
     | true =>
      cases d6 : decide (0 < x.img.length) with
      | true => exact refCk_1e x io _ ic w h d1 dm d4 d5 (of_decide_eq_true d6)
      | false => exact refCk_1f x io _ ic w h d1 dm d4 d5 (of_decide_eq_false d6)
 ·rw [Re.limits_2 h, Re.form_2 h, Re.owned_is, Re.within_is]
  cases d1 : (x.bal.round == 0) with
  | true => exact refCk_2a x io _ ic w h d1
  | false =>
   cases dm : Bl.may x.bal with
   | false => exact refCk_2b x io _ ic w h d1 dm
   | true =>
    cases d2 : decide (x.index < 1) with
    | true => exact refCk_2c x io _ ic w h d1 dm d2
    | false =>
     cases d3 : decide (4294967296 < x.index) with
     | true => exact refCk_2d x io _ ic w h d1 dm d2 d3
     | false =>
      have hred : (if (!false && true) = true then if (!false && !false) = true then Cm.check x.cmd else 6 else 6) = Cm.check x.cmd := rfl
      rw [hred]
      by_cases hc : Cm.check x.cmd = 0
      ·rw [hc, if_neg (by simp)]
       cases d6 : decide (0 < x.img.length) with
       | true => exact refCk_2f x io _ ic w h d1 dm d2 d3 hs hc (of_decide_eq_true d6)
       | false => exact refCk_2g x io _ ic w h d1 dm d2 d3 hs hc (of_decide_eq_false d6)
      ·rw [if_pos hc]
       exact refCk_2e x io _ ic w h d1 dm d2 d3 hs hc
 ·rw [Re.limits_3 h, Re.form_3 h, Re.within_is]
  cases d2 : decide (x.index < 1) with
  | true => exact refCk_3a x io _ ic w h d2
  | false =>
   cases d3 : decide (4294967296 < x.index) with
   | true => exact refCk_3b x io _ ic w h d2 d3
   | false =>
    have hred : (if (!false && !false) = true then Cm.check x.cmd else 6) = Cm.check x.cmd := rfl
    rw [hred]
    by_cases hc : Cm.check x.cmd = 0
    ·rw [hc, if_neg (by simp)]
     cases d9 : (x.bal.round != 0) with
     | true => exact refCk_3d x io _ ic w h d2 d3 hs hc d9
     | false =>
      cases d8 : (x.bal.node != 0) with
      | true => exact refCk_3e x io _ ic w h d2 d3 hs hc d9 d8
      | false =>
       cases d6 : decide (0 < x.img.length) with
       | true => exact refCk_3f x io _ ic w h d2 d3 hs hc d9 d8 (of_decide_eq_true d6)
       | false => exact refCk_3g x io _ ic w h d2 d3 hs hc d9 d8 (of_decide_eq_false d6)
    ·rw [if_pos hc]
     exact refCk_3c x io _ ic w h d2 d3 hs hc
 ·rw [Re.limits_4 h, Re.form_4 h, Re.within_is, hbig]
  cases d2 : decide (x.index < 1) with
  | true => exact refCk_4a x io _ ic w h d2
  | false =>
   cases d3 : decide (4294967296 < x.index) with
   | true => exact refCk_4b x io _ ic w h d2 d3
   | false =>
    cases d7 : decide ((32768 : Int) < (x.img.length : Int)) with
    | true => exact refCk_4c x io _ ic w h d2 d3 d7
    | false =>
     cases d9 : (x.bal.round != 0) with
     | true => exact refCk_4d x io _ ic w h d2 d3 d7 d9
     | false =>
      cases d8 : (x.bal.node != 0) with
      | true => exact refCk_4e x io _ ic w h d2 d3 d7 d9 d8
      | false =>
       cases d5 : decide (x.cmd = Cm.zero) with
       | false => exact refCk_4f x io _ ic w h d2 d3 d7 d9 d8 d5
       | true =>
        cases d6 : decide (0 < x.img.length) with
        | false => exact refCk_4g x io _ ic w h d2 d3 d7 d9 d8 d5 (of_decide_eq_false d6)
        | true => exact refCk_4h x io _ ic w h d2 d3 d7 d9 d8 d5 (of_decide_eq_true d6)
 ·rw [Re.limits_no h]
  exact refCk_no x _ w h
theorem refHasRe_any (v : Int) (x : Re.Rec) (vi : Value) (w : World) (hi : Reads w vi x.img) (hs : x.cmd.Short 140737488355328) :
 Calls Tryz.prog 26 #[.int .i64 v, .agg (Re.cells x vi)] w (Looks w (.int .i64 (Re.olderIn v x))) := by
 obtain ⟨w1, e1, hl1, hB1, hz1⟩ := box_rec w x vi
 obtain ⟨p0, p1, p2, p3, p4, p5, p6, p7, p8, p9, p10, p11⟩ := Recs.all hl1
 have HM1 := Lib.hid hl1; have HB1 := Lib.hid hB1
 have HC1 := Lib.hid (refCheckRe_any x vi w1 (hi.below hB1) hs)
 obtain ⟨r, hr⟩ : ∃ r, r = Re.olderIn v x := ⟨_, rfl⟩
 rw [← hr]
 unfold Re.olderIn at hr
 obtain ⟨c, hc⟩ : ∃ c, c = Re.check x := ⟨_, rfl⟩
 rw [← hc] at hr HC1
 have HHC := Lib.hid (fun W => refHc_any x.kind W)
 have HHAS := Lib.hid (fun W => refHas_any v x.cmd.kind W)
 obtain ⟨y, hy⟩ : ∃ y, y = Vs.has v x.cmd.kind := ⟨_, rfl⟩
 obtain ⟨t, ht⟩ : ∃ t, t = Re.hc x.kind := ⟨_, rfl⟩
 rw [← hy, ← ht] at hr
 rw [← hy] at HHAS
 rw [← ht] at HHC
 have HR := Lib.hid hr
 clear hl1 hB1 hz1 hi hs hr hc hy ht
 go_enter Tryz.func26, Tryz.ntmps26
 go_wp2_with fail
 refine HC1.out.mono ?_
 rintro e2 w2 ⟨rfl, hb⟩
 have HM2 := Lib.hid (HM1.out.below hb HM1.out.lt); have HB2 := Lib.hid (HB1.out.trans (hb.mono HB1.out.size))
 clear hb p0 p1 p2 p3 p4 p5 p6 p7 p8 p9 p10 p11
 by_cases h0 : c = 0
 ·subst h0
  have HR2 := Lib.hid (HR.out.trans (if_neg (by simp)))
  have p0 := Recs.c0 HM2.out
  have p4 := Recs.c4 HM2.out
  cases t with
  | false =>
   have HZ : Hid (r = 0) := HR2.out.trans rfl
   go_wp2_with fail
   refine (HHC.out _).mono ?_
   rintro e3 w3 ⟨rfl, rfl⟩
   go_wp2
   go_ret
   exact ⟨by rw [HZ.out]; rfl, HB2.out⟩
  | true =>
   cases y with
   | false =>
    have HZ : Hid (r = 8) := HR2.out.trans rfl
    go_wp2_with fail
    refine (HHC.out _).mono ?_
    rintro e3 w3 ⟨rfl, rfl⟩
    go_wp2_with fail
    refine (HHAS.out _).mono ?_
    rintro e4 w4 ⟨rfl, rfl⟩
    go_wp2
    go_ret
    exact ⟨by rw [HZ.out]; rfl, HB2.out⟩
   | true =>
    have HZ : Hid (r = 0) := HR2.out.trans rfl
    go_wp2_with fail
    refine (HHC.out _).mono ?_
    rintro e3 w3 ⟨rfl, rfl⟩
    go_wp2_with fail
    refine (HHAS.out _).mono ?_
    rintro e4 w4 ⟨rfl, rfl⟩
    go_wp2
    go_ret
    exact ⟨by rw [HZ.out]; rfl, HB2.out⟩
 ·have hne : (c != 0) = true := by simpa using h0
  have HZ : Hid (r = c) := HR.out.trans (if_pos h0)
  go_wp2
  go_ret
  exact ⟨by rw [HZ.out]; rfl, HB2.out⟩
theorem largeRe_any (x : Re.Rec) (vi : Value) (w : World) (hi : Reads w vi x.img) (hs : x.cmd.Short 9223372036854775807) :
 Calls Tryz.prog 33 #[.agg (Re.cells x vi)] w (Looks w (.bool (Re.large x))) := by
 obtain ⟨w1, e1, hl1, hB1, hz1⟩ := box_rec w x vi
 obtain ⟨io, ic, rfl⟩ := hi.shape
 have hlen := hi.len
 obtain ⟨p0, p1, p2, p3, p4, p5, p6, p7, p8, p9, p10, p11⟩ := Recs.all hl1
 have HB1 := Lib.hid hB1
 have k1 := str_size x.cmd.key; have k2 := str_size x.cmd.val; have k3 := str_size x.cmd.old
 obtain ⟨r, hr⟩ : ∃ r, r = Re.large x := ⟨_, rfl⟩
 rw [← hr]
 unfold Re.large at hr
 obtain ⟨x1, hx1⟩ : ∃ n, n = x.cmd.key.length := ⟨_, rfl⟩
 obtain ⟨x2, hx2⟩ : ∃ n, n = x.cmd.val.length := ⟨_, rfl⟩
 obtain ⟨x3, hx3⟩ : ∃ n, n = x.cmd.old.length := ⟨_, rfl⟩
 obtain ⟨n, hn⟩ : ∃ n, n = x.img.length := ⟨_, rfl⟩
 have z1 : x1 ≤ 9223372036854775807 := hx1 ▸ hs.1
 have z2 : x2 ≤ 9223372036854775807 := hx2 ▸ hs.2.2
 have z3 : x3 ≤ 9223372036854775807 := hx3 ▸ hs.2.1
 have zn : n ≤ 9223372036854775807 := by omega
 rw [← hx1, ← hx2, ← hx3, ← hn] at hr
 rw [← hx1] at k1
 rw [← hx2] at k2
 rw [← hx3] at k3
 rw [← hn] at p11 e1 ⊢
 clear hl1 hB1 hz1 hi hs hx1 hx2 hx3 hn hlen
 by_cases h1 : 200 < x1
 ·have d1 : decide ((200 : Int) < (x1 : Int)) = true := by simp; omega
  have HZ : Hid (r = true) := by show _ = _; rw [hr]; simp; omega
  clear hr
  go_enter Tryz.func33, Tryz.ntmps33
  go_wp2
  go_ret
  exact ⟨by rw [HZ.out]; rfl, HB1.out⟩
 have d1 : decide ((200 : Int) < (x1 : Int)) = false := by simp; omega
 by_cases h2 : 200 < x2
 ·have d2 : decide ((200 : Int) < (x2 : Int)) = true := by simp; omega
  have HZ : Hid (r = true) := by show _ = _; rw [hr]; simp; omega
  clear hr
  go_enter Tryz.func33, Tryz.ntmps33
  go_wp2
  go_ret
  exact ⟨by rw [HZ.out]; rfl, HB1.out⟩
 have d2 : decide ((200 : Int) < (x2 : Int)) = false := by simp; omega
 by_cases h3 : 200 < x3
 ·have d3 : decide ((200 : Int) < (x3 : Int)) = true := by simp; omega
  have HZ : Hid (r = true) := by show _ = _; rw [hr]; simp; omega
  clear hr
  go_enter Tryz.func33, Tryz.ntmps33
  go_wp2
  go_ret
  exact ⟨by rw [HZ.out]; rfl, HB1.out⟩
 have d3 : decide ((200 : Int) < (x3 : Int)) = false := by simp; omega
 by_cases h4 : 300 < n
 ·have d4 : decide ((300 : Int) < (n : Int)) = true := by simp; omega
  by_cases h5 : n < 32760
  ·have d5 : decide ((n : Int) < (32760 : Int)) = true := by simp; omega
   have HZ : Hid (r = true) := by show _ = _; rw [hr]; simp; omega
   clear hr
   go_enter Tryz.func33, Tryz.ntmps33
   go_wp2
   go_ret
   exact ⟨by rw [HZ.out]; rfl, HB1.out⟩
  have d5 : decide ((n : Int) < (32760 : Int)) = false := by simp; omega
  by_cases h6 : 32780 < n
  ·have d6 : decide ((32780 : Int) < (n : Int)) = true := by simp; omega
   have HZ : Hid (r = true) := by show _ = _; rw [hr]; simp; omega
   clear hr
   go_enter Tryz.func33, Tryz.ntmps33
   go_wp2
   go_ret
   exact ⟨by rw [HZ.out]; rfl, HB1.out⟩
  have d6 : decide ((32780 : Int) < (n : Int)) = false := by simp; omega
  have HZ : Hid (r = false) := by show _ = _; rw [hr]; simp; omega
  clear hr
  go_enter Tryz.func33, Tryz.ntmps33
  go_wp2
  go_ret
  exact ⟨by rw [HZ.out]; rfl, HB1.out⟩
 have d4 : decide ((300 : Int) < (n : Int)) = false := by simp; omega
 have d6 : decide ((32780 : Int) < (n : Int)) = false := by simp; omega
 have HZ : Hid (r = false) := by show _ = _; rw [hr]; simp; omega
 clear hr
 go_enter Tryz.func33, Tryz.ntmps33
 go_wp2
 go_ret
 exact ⟨by rw [HZ.out]; rfl, HB1.out⟩
theorem Cm.bytes_few1 {c : Cm.Cmd} (hf : c.Fits) (hs : c.Short 1000) : (Cm.bytes 1 c).length ≤ 100000 := by
 have a4 := enc_nine (n := c.kind.toNat) (by have := hf.k1; omega)
 have a5 := enc_nine (n := c.client.toNat) (by have := hf.c1; omega)
 have a6 := enc_nine (n := c.seq.toNat) (by have := hf.q1; omega)
 have a7 := enc_nine (n := c.node.toNat) (by have := hf.n1; omega)
 have a8 := enc_nine (n := c.key.length) (by have := hs.1; omega)
 have a9 := enc_nine (n := c.val.length) (by have := hs.2.2; omega)
 have c1 := hs.1
 have c3 := hs.2.2
 unfold Cm.bytes Cm.encoded
 rw [if_pos rfl]
 simp [Cm.fenc, Cm.F.num, Cm.Cmd.n, Cm.Cmd.s, Pk.text]
 omega
theorem refBytesRe_1 (x : Re.Rec) (vi : Value) (w : World) (hk : x.kind = 1) (hi : Reads w vi x.img) (hf : x.Fits) :
 Calls Tryz.prog 56 #[.agg (Re.cells x vi)] w (Makes w 5 (Re.bytes x)) := by
 obtain ⟨w1, e1, hl1, hB1, hz1⟩ := box_rec w x vi
 obtain ⟨p0, p1, p2, p3, p4, p5, p6, p7, p8, p9, p10, p11⟩ := Recs.all hl1
 obtain ⟨io, ic, rfl⟩ := hi.shape
 have HBY : Hid (Re.bytes x = Ms.nbytes (Re.nums x) ++ Re.tail x) := rfl
 have HNB : Hid (Ms.nbytes (Re.nums x) = enc ((1 : Int)).toNat ++ (enc x.bal.round.toNat ++ (enc x.bal.node.toNat ++ enc x.index.toNat))) := by show _ = _; rw [← hk]; simp [Ms.nbytes, Re.nums]
 have HTL : Hid (Re.tail x = []) := by show _ = _; unfold Re.tail; rw [hk]; rfl
 have HHC : Hid (∀ W, Calls Tryz.prog 52 #[.int .i64 1] W (Says W (.bool false))) := fun W => refHc_any 1 W
 have HF : Hid (∀ z ∈ Re.nums x, -9223372036854775808 ≤ z ∧ z ≤ 9223372036854775807) := hf.n
 have HK := Lib.hid hk
 rw [hk] at p0
 have HM1 := Lib.hid hl1; have HB1 := Lib.hid hB1
 have HIW := Lib.hid (fun W (h : Below w.heap.size w W) => hi.below h)
 clear hl1 hB1 hz1 hi hf hk
 go_enter Tryz.func56, Tryz.ntmps56
 go_wp2_with fail
 refine (bytes_any 1 _ (by omega) (by omega)).mono ?_
 rintro e2 w2 ⟨u2, rfl, ho2, hb2⟩
 have HO2 := Lib.hid ho2; have HB2 := Lib.hid hb2
 have HL2 : Hid ((enc ((1 : Int)).toNat).length ≤ 9) := enc_nine (by decide)
 obtain ⟨K2, hK2⟩ : ∃ K, K = enc ((1 : Int)).toNat := ⟨_, rfl⟩
 rw [← hK2] at HO2 HL2 HNB
 clear ho2 hb2 hK2 p0 p1 p2 p3 p4 p5 p6 p7 p8 p9 p10 p11
 obtain ⟨p0, p1, p2, p3, p4, p5, p6, p7, p8, p9, p10, p11⟩ := Recs.all (HM1.out.below HB2.out HM1.out.lt)
 rw [HK.out] at p0
 go_wp2_with fail
 refine (bytes_any x.bal.round _ (HF.out x.bal.round (by simp [Re.nums])).1 (HF.out x.bal.round (by simp [Re.nums])).2).mono ?_
 rintro e3 wa3 ⟨ua3, rfl, hoa, hba⟩
 have hm : (enc (x.bal.round).toNat).length ≤ 9 := enc_nine (by have := (HF.out x.bal.round (by simp [Re.nums])).2; omega)
 obtain ⟨M3, hM⟩ : ∃ M, M = enc (x.bal.round).toNat := ⟨_, rfl⟩
 rw [← hM] at hoa hm HNB
 have hown := HO2.out.keep hba (Nat.le_refl _)
 have hB := HB2.out.trans (hba.mono HB2.out.size)
 have hl := HL2.out
 clear hM hba p0 p1 p2 p3 p4 p5 p6 p7 p8 p9 p10 p11
 go_wp2_with (at_builtin; refine append_bytes rfl _ _ 24 5 rfl Tryz.underlying24 info_u8 w1.heap.size K2 M3 _ _ rfl rfl hown hoa.reads (by omega) w1 hB (Nat.le_refl _) ?_; intro vb wb3 hoz hbz hgz; have HOz := Lib.hid hoz; have HB3 := Lib.hid hbz; clear hoz hbz hgz; obtain ⟨p0, p1, p2, p3, p4, p5, p6, p7, p8, p9, p10, p11⟩ := Recs.all (HM1.out.below HB3.out HM1.out.lt); rw [HK.out] at p0)
 obtain ⟨K3, hK⟩ : ∃ K, K = K2 ++ M3 := ⟨_, rfl⟩
 have HL3 : Hid (K3.length ≤ 18) := by show _ ≤ _; rw [hK, List.length_append]; omega
 rw [← hK] at HOz
 have HO3 := HOz
 have HK3 := Lib.hid hK
 clear hK hown hB hoa HOz hl hm
 go_wp2_with fail
 refine (bytes_any x.bal.node _ (HF.out x.bal.node (by simp [Re.nums])).1 (HF.out x.bal.node (by simp [Re.nums])).2).mono ?_
 rintro e4 wa4 ⟨ua4, rfl, hoa, hba⟩
 have hm : (enc (x.bal.node).toNat).length ≤ 9 := enc_nine (by have := (HF.out x.bal.node (by simp [Re.nums])).2; omega)
 obtain ⟨M4, hM⟩ : ∃ M, M = enc (x.bal.node).toNat := ⟨_, rfl⟩
 rw [← hM] at hoa hm HNB
 have hown := HO3.out.keep hba (Nat.le_refl _)
 have hB := HB3.out.trans (hba.mono HB3.out.size)
 have hl := HL3.out
 clear hM hba p0 p1 p2 p3 p4 p5 p6 p7 p8 p9 p10 p11
 go_wp2_with (at_builtin; refine append_bytes rfl _ _ 24 5 rfl Tryz.underlying24 info_u8 w1.heap.size K3 M4 _ _ rfl rfl hown hoa.reads (by omega) w1 hB (Nat.le_refl _) ?_; intro vb wb4 hoz hbz hgz; have HOz := Lib.hid hoz; have HB4 := Lib.hid hbz; clear hoz hbz hgz; obtain ⟨p0, p1, p2, p3, p4, p5, p6, p7, p8, p9, p10, p11⟩ := Recs.all (HM1.out.below HB4.out HM1.out.lt); rw [HK.out] at p0)
 obtain ⟨K4, hK⟩ : ∃ K, K = K3 ++ M4 := ⟨_, rfl⟩
 have HL4 : Hid (K4.length ≤ 27) := by show _ ≤ _; rw [hK, List.length_append]; omega
 rw [← hK] at HOz
 have HO4 := HOz
 have HK4 := Lib.hid hK
 clear hK hown hB hoa HOz hl hm
 go_wp2_with fail
 refine (bytes_any x.index _ (HF.out x.index (by simp [Re.nums])).1 (HF.out x.index (by simp [Re.nums])).2).mono ?_
 rintro e5 wa5 ⟨ua5, rfl, hoa, hba⟩
 have hm : (enc (x.index).toNat).length ≤ 9 := enc_nine (by have := (HF.out x.index (by simp [Re.nums])).2; omega)
 obtain ⟨M5, hM⟩ : ∃ M, M = enc (x.index).toNat := ⟨_, rfl⟩
 rw [← hM] at hoa hm HNB
 have hown := HO4.out.keep hba (Nat.le_refl _)
 have hB := HB4.out.trans (hba.mono HB4.out.size)
 have hl := HL4.out
 clear hM hba p0 p1 p2 p3 p4 p5 p6 p7 p8 p9 p10 p11
 go_wp2_with (at_builtin; refine append_bytes rfl _ _ 24 5 rfl Tryz.underlying24 info_u8 w1.heap.size K4 M5 _ _ rfl rfl hown hoa.reads (by omega) w1 hB (Nat.le_refl _) ?_; intro vb wb5 hoz hbz hgz; have HOz := Lib.hid hoz; have HB5 := Lib.hid hbz; clear hoz hbz hgz; obtain ⟨p0, p1, p2, p3, p4, p5, p6, p7, p8, p9, p10, p11⟩ := Recs.all (HM1.out.below HB5.out HM1.out.lt); rw [HK.out] at p0)
 obtain ⟨K5, hK⟩ : ∃ K, K = K4 ++ M5 := ⟨_, rfl⟩
 have HL5 : Hid (K5.length ≤ 36) := by show _ ≤ _; rw [hK, List.length_append]; omega
 rw [← hK] at HOz
 have HO5 := HOz
 have HK5 := Lib.hid hK
 clear hK hown hB hoa HOz hl hm
 go_wp2_with fail
 refine (HHC.out _).mono ?_
 rintro e' w' ⟨rfl, rfl⟩
 go_wp2
 go_ret
 have HOE := HO5; have HBE := HB5
 refine ⟨_, rfl, ?_, HB1.out.trans (HBE.out.mono HB1.out.size)⟩
 have hfin := HOE.out.mono HB1.out.size
 rw [HBY.out, HTL.out, HNB.out]
 rw [HK5.out, HK4.out, HK3.out] at hfin
 simp only [List.append_assoc, List.append_nil] at hfin ⊢
 exact hfin
theorem refBytesRe_2 (x : Re.Rec) (vi : Value) (w : World) (hk : x.kind = 2) (hi : Reads w vi x.img) (hf : x.Fits) (hs : x.cmd.Short 1000) (hc : 1 ≤ x.cmd.kind ∧ x.cmd.kind ≤ 8) :
 Calls Tryz.prog 56 #[.agg (Re.cells x vi)] w (Makes w 5 (Re.bytes x)) := by
 obtain ⟨w1, e1, hl1, hB1, hz1⟩ := box_rec w x vi
 obtain ⟨p0, p1, p2, p3, p4, p5, p6, p7, p8, p9, p10, p11⟩ := Recs.all hl1
 obtain ⟨io, ic, rfl⟩ := hi.shape
 have HBY : Hid (Re.bytes x = Ms.nbytes (Re.nums x) ++ Re.tail x) := rfl
 have HNB : Hid (Ms.nbytes (Re.nums x) = enc ((2 : Int)).toNat ++ (enc x.bal.round.toNat ++ (enc x.bal.node.toNat ++ enc x.index.toNat))) := by show _ = _; rw [← hk]; simp [Ms.nbytes, Re.nums]
 have HTL : Hid (Re.tail x = Cm.bytes 1 x.cmd) := by show _ = _; unfold Re.tail; rw [hk]; rfl
 have HHC : Hid (∀ W, Calls Tryz.prog 52 #[.int .i64 2] W (Says W (.bool true))) := fun W => refHc_any 2 W
 have HF : Hid (∀ z ∈ Re.nums x, -9223372036854775808 ≤ z ∧ z ≤ 9223372036854775807) := hf.n
 have HK := Lib.hid hk
 rw [hk] at p0
 have HM1 := Lib.hid hl1; have HB1 := Lib.hid hB1
 have HIW := Lib.hid (fun W (h : Below w.heap.size w W) => hi.below h)
 have HCB := Lib.hid (fun W => refBytesCmd_any 1 x.cmd W (.inl rfl) hc.1 hc.2 hf.c hs)
 have HCL : Hid ((Cm.bytes 1 x.cmd).length ≤ 100000) := by
  exact Cm.bytes_few1 hf.c hs
 clear hl1 hB1 hz1 hi hf hk hc hs
 go_enter Tryz.func56, Tryz.ntmps56
 go_wp2_with fail
 refine (bytes_any 2 _ (by omega) (by omega)).mono ?_
 rintro e2 w2 ⟨u2, rfl, ho2, hb2⟩
 have HO2 := Lib.hid ho2; have HB2 := Lib.hid hb2
 have HL2 : Hid ((enc ((2 : Int)).toNat).length ≤ 9) := enc_nine (by decide)
 obtain ⟨K2, hK2⟩ : ∃ K, K = enc ((2 : Int)).toNat := ⟨_, rfl⟩
 rw [← hK2] at HO2 HL2 HNB
 clear ho2 hb2 hK2 p0 p1 p2 p3 p4 p5 p6 p7 p8 p9 p10 p11
 obtain ⟨p0, p1, p2, p3, p4, p5, p6, p7, p8, p9, p10, p11⟩ := Recs.all (HM1.out.below HB2.out HM1.out.lt)
 rw [HK.out] at p0
 go_wp2_with fail
 refine (bytes_any x.bal.round _ (HF.out x.bal.round (by simp [Re.nums])).1 (HF.out x.bal.round (by simp [Re.nums])).2).mono ?_
 rintro e3 wa3 ⟨ua3, rfl, hoa, hba⟩
 have hm : (enc (x.bal.round).toNat).length ≤ 9 := enc_nine (by have := (HF.out x.bal.round (by simp [Re.nums])).2; omega)
 obtain ⟨M3, hM⟩ : ∃ M, M = enc (x.bal.round).toNat := ⟨_, rfl⟩
 rw [← hM] at hoa hm HNB
 have hown := HO2.out.keep hba (Nat.le_refl _)
 have hB := HB2.out.trans (hba.mono HB2.out.size)
 have hl := HL2.out
 clear hM hba p0 p1 p2 p3 p4 p5 p6 p7 p8 p9 p10 p11
 go_wp2_with (at_builtin; refine append_bytes rfl _ _ 24 5 rfl Tryz.underlying24 info_u8 w1.heap.size K2 M3 _ _ rfl rfl hown hoa.reads (by omega) w1 hB (Nat.le_refl _) ?_; intro vb wb3 hoz hbz hgz; have HOz := Lib.hid hoz; have HB3 := Lib.hid hbz; clear hoz hbz hgz; obtain ⟨p0, p1, p2, p3, p4, p5, p6, p7, p8, p9, p10, p11⟩ := Recs.all (HM1.out.below HB3.out HM1.out.lt); rw [HK.out] at p0)
 obtain ⟨K3, hK⟩ : ∃ K, K = K2 ++ M3 := ⟨_, rfl⟩
 have HL3 : Hid (K3.length ≤ 18) := by show _ ≤ _; rw [hK, List.length_append]; omega
 rw [← hK] at HOz
 have HO3 := HOz
 have HK3 := Lib.hid hK
 clear hK hown hB hoa HOz hl hm
 go_wp2_with fail
 refine (bytes_any x.bal.node _ (HF.out x.bal.node (by simp [Re.nums])).1 (HF.out x.bal.node (by simp [Re.nums])).2).mono ?_
 rintro e4 wa4 ⟨ua4, rfl, hoa, hba⟩
 have hm : (enc (x.bal.node).toNat).length ≤ 9 := enc_nine (by have := (HF.out x.bal.node (by simp [Re.nums])).2; omega)
 obtain ⟨M4, hM⟩ : ∃ M, M = enc (x.bal.node).toNat := ⟨_, rfl⟩
 rw [← hM] at hoa hm HNB
 have hown := HO3.out.keep hba (Nat.le_refl _)
 have hB := HB3.out.trans (hba.mono HB3.out.size)
 have hl := HL3.out
 clear hM hba p0 p1 p2 p3 p4 p5 p6 p7 p8 p9 p10 p11
 go_wp2_with (at_builtin; refine append_bytes rfl _ _ 24 5 rfl Tryz.underlying24 info_u8 w1.heap.size K3 M4 _ _ rfl rfl hown hoa.reads (by omega) w1 hB (Nat.le_refl _) ?_; intro vb wb4 hoz hbz hgz; have HOz := Lib.hid hoz; have HB4 := Lib.hid hbz; clear hoz hbz hgz; obtain ⟨p0, p1, p2, p3, p4, p5, p6, p7, p8, p9, p10, p11⟩ := Recs.all (HM1.out.below HB4.out HM1.out.lt); rw [HK.out] at p0)
 obtain ⟨K4, hK⟩ : ∃ K, K = K3 ++ M4 := ⟨_, rfl⟩
 have HL4 : Hid (K4.length ≤ 27) := by show _ ≤ _; rw [hK, List.length_append]; omega
 rw [← hK] at HOz
 have HO4 := HOz
 have HK4 := Lib.hid hK
 clear hK hown hB hoa HOz hl hm
 go_wp2_with fail
 refine (bytes_any x.index _ (HF.out x.index (by simp [Re.nums])).1 (HF.out x.index (by simp [Re.nums])).2).mono ?_
 rintro e5 wa5 ⟨ua5, rfl, hoa, hba⟩
 have hm : (enc (x.index).toNat).length ≤ 9 := enc_nine (by have := (HF.out x.index (by simp [Re.nums])).2; omega)
 obtain ⟨M5, hM⟩ : ∃ M, M = enc (x.index).toNat := ⟨_, rfl⟩
 rw [← hM] at hoa hm HNB
 have hown := HO4.out.keep hba (Nat.le_refl _)
 have hB := HB4.out.trans (hba.mono HB4.out.size)
 have hl := HL4.out
 clear hM hba p0 p1 p2 p3 p4 p5 p6 p7 p8 p9 p10 p11
 go_wp2_with (at_builtin; refine append_bytes rfl _ _ 24 5 rfl Tryz.underlying24 info_u8 w1.heap.size K4 M5 _ _ rfl rfl hown hoa.reads (by omega) w1 hB (Nat.le_refl _) ?_; intro vb wb5 hoz hbz hgz; have HOz := Lib.hid hoz; have HB5 := Lib.hid hbz; clear hoz hbz hgz; obtain ⟨p0, p1, p2, p3, p4, p5, p6, p7, p8, p9, p10, p11⟩ := Recs.all (HM1.out.below HB5.out HM1.out.lt); rw [HK.out] at p0)
 obtain ⟨K5, hK⟩ : ∃ K, K = K4 ++ M5 := ⟨_, rfl⟩
 have HL5 : Hid (K5.length ≤ 36) := by show _ ≤ _; rw [hK, List.length_append]; omega
 rw [← hK] at HOz
 have HO5 := HOz
 have HK5 := Lib.hid hK
 clear hK hown hB hoa HOz hl hm
 go_wp2_with fail
 refine (HHC.out _).mono ?_
 rintro e' w' ⟨rfl, rfl⟩
 go_wp2_with fail
 refine (HCB.out _).mono ?_
 rintro e6 wa6 ⟨ua6, rfl, hoa, hba⟩
 have hm := HCL.out
 obtain ⟨M6, hM⟩ : ∃ M, M = Cm.bytes 1 x.cmd := ⟨_, rfl⟩
 rw [← hM] at hoa hm HTL
 have hown := HO5.out.keep hba (Nat.le_refl _)
 have hB := HB5.out.trans (hba.mono HB5.out.size)
 have hl := HL5.out
 clear hM hba p0 p1 p2 p3 p4 p5 p6 p7 p8 p9 p10 p11
 go_wp2_with (at_builtin; refine append_bytes rfl _ _ 24 5 rfl Tryz.underlying24 info_u8 w1.heap.size K5 M6 _ _ rfl rfl hown hoa.reads (by omega) w1 hB (Nat.le_refl _) ?_; intro vb wb6 hoz hbz hgz; have HOE := Lib.hid hoz; have HBE := Lib.hid hbz; clear hoz hbz hgz; obtain ⟨p0, p1, p2, p3, p4, p5, p6, p7, p8, p9, p10, p11⟩ := Recs.all (HM1.out.below HBE.out HM1.out.lt); rw [HK.out] at p0)
 go_ret
 refine ⟨_, rfl, ?_, HB1.out.trans (HBE.out.mono HB1.out.size)⟩
 have hfin := HOE.out.mono HB1.out.size
 rw [HBY.out, HTL.out, HNB.out]
 rw [HK5.out, HK4.out, HK3.out] at hfin
 simp only [List.append_assoc] at hfin ⊢
 exact hfin
theorem refBytesRe_3 (x : Re.Rec) (vi : Value) (w : World) (hk : x.kind = 3) (hi : Reads w vi x.img) (hf : x.Fits) (hs : x.cmd.Short 1000) (hc : 1 ≤ x.cmd.kind ∧ x.cmd.kind ≤ 8) :
 Calls Tryz.prog 56 #[.agg (Re.cells x vi)] w (Makes w 5 (Re.bytes x)) := by
 obtain ⟨w1, e1, hl1, hB1, hz1⟩ := box_rec w x vi
 obtain ⟨p0, p1, p2, p3, p4, p5, p6, p7, p8, p9, p10, p11⟩ := Recs.all hl1
 obtain ⟨io, ic, rfl⟩ := hi.shape
 have HBY : Hid (Re.bytes x = Ms.nbytes (Re.nums x) ++ Re.tail x) := rfl
 have HNB : Hid (Ms.nbytes (Re.nums x) = enc ((3 : Int)).toNat ++ (enc x.bal.round.toNat ++ (enc x.bal.node.toNat ++ enc x.index.toNat))) := by show _ = _; rw [← hk]; simp [Ms.nbytes, Re.nums]
 have HTL : Hid (Re.tail x = Cm.bytes 1 x.cmd) := by show _ = _; unfold Re.tail; rw [hk]; rfl
 have HHC : Hid (∀ W, Calls Tryz.prog 52 #[.int .i64 3] W (Says W (.bool true))) := fun W => refHc_any 3 W
 have HF : Hid (∀ z ∈ Re.nums x, -9223372036854775808 ≤ z ∧ z ≤ 9223372036854775807) := hf.n
 have HK := Lib.hid hk
 rw [hk] at p0
 have HM1 := Lib.hid hl1; have HB1 := Lib.hid hB1
 have HIW := Lib.hid (fun W (h : Below w.heap.size w W) => hi.below h)
 have HCB := Lib.hid (fun W => refBytesCmd_any 1 x.cmd W (.inl rfl) hc.1 hc.2 hf.c hs)
 have HCL : Hid ((Cm.bytes 1 x.cmd).length ≤ 100000) := by
  exact Cm.bytes_few1 hf.c hs
 clear hl1 hB1 hz1 hi hf hk hc hs
 go_enter Tryz.func56, Tryz.ntmps56
 go_wp2_with fail
 refine (bytes_any 3 _ (by omega) (by omega)).mono ?_
 rintro e2 w2 ⟨u2, rfl, ho2, hb2⟩
 have HO2 := Lib.hid ho2; have HB2 := Lib.hid hb2
 have HL2 : Hid ((enc ((3 : Int)).toNat).length ≤ 9) := enc_nine (by decide)
 obtain ⟨K2, hK2⟩ : ∃ K, K = enc ((3 : Int)).toNat := ⟨_, rfl⟩
 rw [← hK2] at HO2 HL2 HNB
 clear ho2 hb2 hK2 p0 p1 p2 p3 p4 p5 p6 p7 p8 p9 p10 p11
 obtain ⟨p0, p1, p2, p3, p4, p5, p6, p7, p8, p9, p10, p11⟩ := Recs.all (HM1.out.below HB2.out HM1.out.lt)
 rw [HK.out] at p0
 go_wp2_with fail
 refine (bytes_any x.bal.round _ (HF.out x.bal.round (by simp [Re.nums])).1 (HF.out x.bal.round (by simp [Re.nums])).2).mono ?_
 rintro e3 wa3 ⟨ua3, rfl, hoa, hba⟩
 have hm : (enc (x.bal.round).toNat).length ≤ 9 := enc_nine (by have := (HF.out x.bal.round (by simp [Re.nums])).2; omega)
 obtain ⟨M3, hM⟩ : ∃ M, M = enc (x.bal.round).toNat := ⟨_, rfl⟩
 rw [← hM] at hoa hm HNB
 have hown := HO2.out.keep hba (Nat.le_refl _)
 have hB := HB2.out.trans (hba.mono HB2.out.size)
 have hl := HL2.out
 clear hM hba p0 p1 p2 p3 p4 p5 p6 p7 p8 p9 p10 p11
 go_wp2_with (at_builtin; refine append_bytes rfl _ _ 24 5 rfl Tryz.underlying24 info_u8 w1.heap.size K2 M3 _ _ rfl rfl hown hoa.reads (by omega) w1 hB (Nat.le_refl _) ?_; intro vb wb3 hoz hbz hgz; have HOz := Lib.hid hoz; have HB3 := Lib.hid hbz; clear hoz hbz hgz; obtain ⟨p0, p1, p2, p3, p4, p5, p6, p7, p8, p9, p10, p11⟩ := Recs.all (HM1.out.below HB3.out HM1.out.lt); rw [HK.out] at p0)
 obtain ⟨K3, hK⟩ : ∃ K, K = K2 ++ M3 := ⟨_, rfl⟩
 have HL3 : Hid (K3.length ≤ 18) := by show _ ≤ _; rw [hK, List.length_append]; omega
 rw [← hK] at HOz
 have HO3 := HOz
 have HK3 := Lib.hid hK
 clear hK hown hB hoa HOz hl hm
 go_wp2_with fail
 refine (bytes_any x.bal.node _ (HF.out x.bal.node (by simp [Re.nums])).1 (HF.out x.bal.node (by simp [Re.nums])).2).mono ?_
 rintro e4 wa4 ⟨ua4, rfl, hoa, hba⟩
 have hm : (enc (x.bal.node).toNat).length ≤ 9 := enc_nine (by have := (HF.out x.bal.node (by simp [Re.nums])).2; omega)
 obtain ⟨M4, hM⟩ : ∃ M, M = enc (x.bal.node).toNat := ⟨_, rfl⟩
 rw [← hM] at hoa hm HNB
 have hown := HO3.out.keep hba (Nat.le_refl _)
 have hB := HB3.out.trans (hba.mono HB3.out.size)
 have hl := HL3.out
 clear hM hba p0 p1 p2 p3 p4 p5 p6 p7 p8 p9 p10 p11
 go_wp2_with (at_builtin; refine append_bytes rfl _ _ 24 5 rfl Tryz.underlying24 info_u8 w1.heap.size K3 M4 _ _ rfl rfl hown hoa.reads (by omega) w1 hB (Nat.le_refl _) ?_; intro vb wb4 hoz hbz hgz; have HOz := Lib.hid hoz; have HB4 := Lib.hid hbz; clear hoz hbz hgz; obtain ⟨p0, p1, p2, p3, p4, p5, p6, p7, p8, p9, p10, p11⟩ := Recs.all (HM1.out.below HB4.out HM1.out.lt); rw [HK.out] at p0)
 obtain ⟨K4, hK⟩ : ∃ K, K = K3 ++ M4 := ⟨_, rfl⟩
 have HL4 : Hid (K4.length ≤ 27) := by show _ ≤ _; rw [hK, List.length_append]; omega
 rw [← hK] at HOz
 have HO4 := HOz
 have HK4 := Lib.hid hK
 clear hK hown hB hoa HOz hl hm
 go_wp2_with fail
 refine (bytes_any x.index _ (HF.out x.index (by simp [Re.nums])).1 (HF.out x.index (by simp [Re.nums])).2).mono ?_
 rintro e5 wa5 ⟨ua5, rfl, hoa, hba⟩
 have hm : (enc (x.index).toNat).length ≤ 9 := enc_nine (by have := (HF.out x.index (by simp [Re.nums])).2; omega)
 obtain ⟨M5, hM⟩ : ∃ M, M = enc (x.index).toNat := ⟨_, rfl⟩
 rw [← hM] at hoa hm HNB
 have hown := HO4.out.keep hba (Nat.le_refl _)
 have hB := HB4.out.trans (hba.mono HB4.out.size)
 have hl := HL4.out
 clear hM hba p0 p1 p2 p3 p4 p5 p6 p7 p8 p9 p10 p11
 go_wp2_with (at_builtin; refine append_bytes rfl _ _ 24 5 rfl Tryz.underlying24 info_u8 w1.heap.size K4 M5 _ _ rfl rfl hown hoa.reads (by omega) w1 hB (Nat.le_refl _) ?_; intro vb wb5 hoz hbz hgz; have HOz := Lib.hid hoz; have HB5 := Lib.hid hbz; clear hoz hbz hgz; obtain ⟨p0, p1, p2, p3, p4, p5, p6, p7, p8, p9, p10, p11⟩ := Recs.all (HM1.out.below HB5.out HM1.out.lt); rw [HK.out] at p0)
 obtain ⟨K5, hK⟩ : ∃ K, K = K4 ++ M5 := ⟨_, rfl⟩
 have HL5 : Hid (K5.length ≤ 36) := by show _ ≤ _; rw [hK, List.length_append]; omega
 rw [← hK] at HOz
 have HO5 := HOz
 have HK5 := Lib.hid hK
 clear hK hown hB hoa HOz hl hm
 go_wp2_with fail
 refine (HHC.out _).mono ?_
 rintro e' w' ⟨rfl, rfl⟩
 go_wp2_with fail
 refine (HCB.out _).mono ?_
 rintro e6 wa6 ⟨ua6, rfl, hoa, hba⟩
 have hm := HCL.out
 obtain ⟨M6, hM⟩ : ∃ M, M = Cm.bytes 1 x.cmd := ⟨_, rfl⟩
 rw [← hM] at hoa hm HTL
 have hown := HO5.out.keep hba (Nat.le_refl _)
 have hB := HB5.out.trans (hba.mono HB5.out.size)
 have hl := HL5.out
 clear hM hba p0 p1 p2 p3 p4 p5 p6 p7 p8 p9 p10 p11
 go_wp2_with (at_builtin; refine append_bytes rfl _ _ 24 5 rfl Tryz.underlying24 info_u8 w1.heap.size K5 M6 _ _ rfl rfl hown hoa.reads (by omega) w1 hB (Nat.le_refl _) ?_; intro vb wb6 hoz hbz hgz; have HOE := Lib.hid hoz; have HBE := Lib.hid hbz; clear hoz hbz hgz; obtain ⟨p0, p1, p2, p3, p4, p5, p6, p7, p8, p9, p10, p11⟩ := Recs.all (HM1.out.below HBE.out HM1.out.lt); rw [HK.out] at p0)
 go_ret
 refine ⟨_, rfl, ?_, HB1.out.trans (HBE.out.mono HB1.out.size)⟩
 have hfin := HOE.out.mono HB1.out.size
 rw [HBY.out, HTL.out, HNB.out]
 rw [HK5.out, HK4.out, HK3.out] at hfin
 simp only [List.append_assoc] at hfin ⊢
 exact hfin
theorem refBytesRe_4 (x : Re.Rec) (vi : Value) (w : World) (hk : x.kind = 4) (hi : Reads w vi x.img) (hf : x.Fits) (hm : x.img.length ≤ 100000) :
 Calls Tryz.prog 56 #[.agg (Re.cells x vi)] w (Makes w 5 (Re.bytes x)) := by
 obtain ⟨w1, e1, hl1, hB1, hz1⟩ := box_rec w x vi
 obtain ⟨p0, p1, p2, p3, p4, p5, p6, p7, p8, p9, p10, p11⟩ := Recs.all hl1
 obtain ⟨io, ic, rfl⟩ := hi.shape
 have HBY : Hid (Re.bytes x = Ms.nbytes (Re.nums x) ++ Re.tail x) := rfl
 have HNB : Hid (Ms.nbytes (Re.nums x) = enc ((4 : Int)).toNat ++ (enc x.bal.round.toNat ++ (enc x.bal.node.toNat ++ enc x.index.toNat))) := by show _ = _; rw [← hk]; simp [Ms.nbytes, Re.nums]
 have HTL : Hid (Re.tail x = Pk.text x.img) := by show _ = _; unfold Re.tail; rw [hk]; rfl
 have HHC : Hid (∀ W, Calls Tryz.prog 52 #[.int .i64 4] W (Says W (.bool false))) := fun W => refHc_any 4 W
 have HF : Hid (∀ z ∈ Re.nums x, -9223372036854775808 ≤ z ∧ z ≤ 9223372036854775807) := hf.n
 have HK := Lib.hid hk
 rw [hk] at p0
 have HM1 := Lib.hid hl1; have HB1 := Lib.hid hB1
 have HIW := Lib.hid (fun W (h : Below w.heap.size w W) => hi.below h)
 have HIM := Lib.hid hm
 clear hl1 hB1 hz1 hi hf hk hm
 go_enter Tryz.func56, Tryz.ntmps56
 go_wp2_with fail
 refine (bytes_any 4 _ (by omega) (by omega)).mono ?_
 rintro e2 w2 ⟨u2, rfl, ho2, hb2⟩
 have HO2 := Lib.hid ho2; have HB2 := Lib.hid hb2
 have HL2 : Hid ((enc ((4 : Int)).toNat).length ≤ 9) := enc_nine (by decide)
 obtain ⟨K2, hK2⟩ : ∃ K, K = enc ((4 : Int)).toNat := ⟨_, rfl⟩
 rw [← hK2] at HO2 HL2 HNB
 clear ho2 hb2 hK2 p0 p1 p2 p3 p4 p5 p6 p7 p8 p9 p10 p11
 obtain ⟨p0, p1, p2, p3, p4, p5, p6, p7, p8, p9, p10, p11⟩ := Recs.all (HM1.out.below HB2.out HM1.out.lt)
 rw [HK.out] at p0
 go_wp2_with fail
 refine (bytes_any x.bal.round _ (HF.out x.bal.round (by simp [Re.nums])).1 (HF.out x.bal.round (by simp [Re.nums])).2).mono ?_
 rintro e3 wa3 ⟨ua3, rfl, hoa, hba⟩
 have hm : (enc (x.bal.round).toNat).length ≤ 9 := enc_nine (by have := (HF.out x.bal.round (by simp [Re.nums])).2; omega)
 obtain ⟨M3, hM⟩ : ∃ M, M = enc (x.bal.round).toNat := ⟨_, rfl⟩
 rw [← hM] at hoa hm HNB
 have hown := HO2.out.keep hba (Nat.le_refl _)
 have hB := HB2.out.trans (hba.mono HB2.out.size)
 have hl := HL2.out
 clear hM hba p0 p1 p2 p3 p4 p5 p6 p7 p8 p9 p10 p11
 go_wp2_with (at_builtin; refine append_bytes rfl _ _ 24 5 rfl Tryz.underlying24 info_u8 w1.heap.size K2 M3 _ _ rfl rfl hown hoa.reads (by omega) w1 hB (Nat.le_refl _) ?_; intro vb wb3 hoz hbz hgz; have HOz := Lib.hid hoz; have HB3 := Lib.hid hbz; clear hoz hbz hgz; obtain ⟨p0, p1, p2, p3, p4, p5, p6, p7, p8, p9, p10, p11⟩ := Recs.all (HM1.out.below HB3.out HM1.out.lt); rw [HK.out] at p0)
 obtain ⟨K3, hK⟩ : ∃ K, K = K2 ++ M3 := ⟨_, rfl⟩
 have HL3 : Hid (K3.length ≤ 18) := by show _ ≤ _; rw [hK, List.length_append]; omega
 rw [← hK] at HOz
 have HO3 := HOz
 have HK3 := Lib.hid hK
 clear hK hown hB hoa HOz hl hm
 go_wp2_with fail
 refine (bytes_any x.bal.node _ (HF.out x.bal.node (by simp [Re.nums])).1 (HF.out x.bal.node (by simp [Re.nums])).2).mono ?_
 rintro e4 wa4 ⟨ua4, rfl, hoa, hba⟩
 have hm : (enc (x.bal.node).toNat).length ≤ 9 := enc_nine (by have := (HF.out x.bal.node (by simp [Re.nums])).2; omega)
 obtain ⟨M4, hM⟩ : ∃ M, M = enc (x.bal.node).toNat := ⟨_, rfl⟩
 rw [← hM] at hoa hm HNB
 have hown := HO3.out.keep hba (Nat.le_refl _)
 have hB := HB3.out.trans (hba.mono HB3.out.size)
 have hl := HL3.out
 clear hM hba p0 p1 p2 p3 p4 p5 p6 p7 p8 p9 p10 p11
 go_wp2_with (at_builtin; refine append_bytes rfl _ _ 24 5 rfl Tryz.underlying24 info_u8 w1.heap.size K3 M4 _ _ rfl rfl hown hoa.reads (by omega) w1 hB (Nat.le_refl _) ?_; intro vb wb4 hoz hbz hgz; have HOz := Lib.hid hoz; have HB4 := Lib.hid hbz; clear hoz hbz hgz; obtain ⟨p0, p1, p2, p3, p4, p5, p6, p7, p8, p9, p10, p11⟩ := Recs.all (HM1.out.below HB4.out HM1.out.lt); rw [HK.out] at p0)
 obtain ⟨K4, hK⟩ : ∃ K, K = K3 ++ M4 := ⟨_, rfl⟩
 have HL4 : Hid (K4.length ≤ 27) := by show _ ≤ _; rw [hK, List.length_append]; omega
 rw [← hK] at HOz
 have HO4 := HOz
 have HK4 := Lib.hid hK
 clear hK hown hB hoa HOz hl hm
 go_wp2_with fail
 refine (bytes_any x.index _ (HF.out x.index (by simp [Re.nums])).1 (HF.out x.index (by simp [Re.nums])).2).mono ?_
 rintro e5 wa5 ⟨ua5, rfl, hoa, hba⟩
 have hm : (enc (x.index).toNat).length ≤ 9 := enc_nine (by have := (HF.out x.index (by simp [Re.nums])).2; omega)
 obtain ⟨M5, hM⟩ : ∃ M, M = enc (x.index).toNat := ⟨_, rfl⟩
 rw [← hM] at hoa hm HNB
 have hown := HO4.out.keep hba (Nat.le_refl _)
 have hB := HB4.out.trans (hba.mono HB4.out.size)
 have hl := HL4.out
 clear hM hba p0 p1 p2 p3 p4 p5 p6 p7 p8 p9 p10 p11
 go_wp2_with (at_builtin; refine append_bytes rfl _ _ 24 5 rfl Tryz.underlying24 info_u8 w1.heap.size K4 M5 _ _ rfl rfl hown hoa.reads (by omega) w1 hB (Nat.le_refl _) ?_; intro vb wb5 hoz hbz hgz; have HOz := Lib.hid hoz; have HB5 := Lib.hid hbz; clear hoz hbz hgz; obtain ⟨p0, p1, p2, p3, p4, p5, p6, p7, p8, p9, p10, p11⟩ := Recs.all (HM1.out.below HB5.out HM1.out.lt); rw [HK.out] at p0)
 obtain ⟨K5, hK⟩ : ∃ K, K = K4 ++ M5 := ⟨_, rfl⟩
 have HL5 : Hid (K5.length ≤ 36) := by show _ ≤ _; rw [hK, List.length_append]; omega
 rw [← hK] at HOz
 have HO5 := HOz
 have HK5 := Lib.hid hK
 clear hK hown hB hoa HOz hl hm
 go_wp2_with fail
 refine (HHC.out _).mono ?_
 rintro e' w' ⟨rfl, rfl⟩
 obtain ⟨n, hn⟩ : ∃ n, n = x.img.length := ⟨_, rfl⟩
 rw [← hn] at p11 HIM HIW HM1 e1 ⊢
 have HN := Lib.hid hn
 clear hn
 go_wp2_with fail
 refine (bytes_any (n : Int) _ (by omega) (by have := HIM.out; omega)).mono ?_
 rintro e6 wa6 ⟨ua6, rfl, hoa, hba⟩
 rw [Int.toNat_natCast] at hoa
 have hm : (enc n).length ≤ 9 := enc_nine (by have := HIM.out; omega)
 obtain ⟨M6, hM⟩ : ∃ M, M = enc n := ⟨_, rfl⟩
 rw [← hM] at hoa hm
 have HM6 := Lib.hid hM
 have hown := HO5.out.keep hba (Nat.le_refl _)
 have hB := HB5.out.trans (hba.mono HB5.out.size)
 have hl := HL5.out
 clear hM hba p0 p1 p2 p3 p4 p5 p6 p7 p8 p9 p10 p11
 go_wp2_with (first
  | (at_builtin; refine append_bytes rfl _ _ 24 5 rfl Tryz.underlying24 info_u8 w1.heap.size K5 M6 _ _ rfl rfl hown hoa.reads (by omega) w1 hB (Nat.le_refl _) ?_
     intro vb wb6 hoz hbz hgz
     have HO6 := Lib.hid hoz; have HB6 := Lib.hid hbz
     clear hoz hbz hgz
     obtain ⟨p0, p1, p2, p3, p4, p5, p6, p7, p8, p9, p10, p11⟩ := Recs.all (HM1.out.below HB6.out HM1.out.lt)
     rw [HK.out] at p0)
  | (at_builtin; refine append_bytes rfl _ _ 24 5 rfl Tryz.underlying24 info_u8 w1.heap.size (K5 ++ M6) x.img _ _ rfl rfl HO6.out (HIW.out _ (HB1.out.trans (HB6.out.mono HB1.out.size))) (by have := HIM.out; have := HN.out; rw [List.length_append]; omega) w1 HB6.out (Nat.le_refl _) ?_
     intro vd wd hoz hbz hgz
     have HOE := Lib.hid hoz; have HBE := Lib.hid hbz
     clear hoz hbz hgz))
 go_ret
 refine ⟨_, rfl, ?_, HB1.out.trans (HBE.out.mono HB1.out.size)⟩
 have hfin := HOE.out.mono HB1.out.size
 rw [HBY.out, HTL.out, HNB.out]
 rw [HK5.out, HK4.out, HK3.out, HM6.out, HN.out] at hfin
 unfold Pk.text
 simp only [List.append_assoc] at hfin ⊢
 exact hfin
theorem refBytesRe_any (x : Re.Rec) (vi : Value) (w : World) (ho : Re.older x = 0) (hi : Reads w vi x.img) (hf : x.Fits) (hs : x.cmd.Short 1000) (hm : x.img.length ≤ 100000) :
 Calls Tryz.prog 56 #[.agg (Re.cells x vi)] w (Makes w 5 (Re.bytes x)) := by
 have hg := Re.check_good (Re.older_good ho).1
 have hkc : Re.hc x.kind = true → 1 ≤ x.cmd.kind ∧ x.cmd.kind ≤ 8 := fun h => by
  have h1 := (Cm.check_ok (hg.cmd h)).1
  unfold Cm.known at h1
  simpa using h1
 rcases Re.kinds x.kind with h | h | h | h | h
 ·exact refBytesRe_1 x vi w h hi hf
 ·exact refBytesRe_2 x vi w h hi hf hs (hkc (by rw [h]; rfl))
 ·exact refBytesRe_3 x vi w h hi hf hs (hkc (by rw [h]; rfl))
 ·exact refBytesRe_4 x vi w h hi hf hm
 ·have := hg.kind
  rw [(Re.has_no h).2.2.2.2] at this
  cases this
end Go.Proofs.YteboceekcmchkaaGreatDoor
