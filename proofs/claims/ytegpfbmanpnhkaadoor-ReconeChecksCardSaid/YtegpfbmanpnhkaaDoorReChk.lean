/- What is wrong with the fields that a record's kind has; the record without the others: a walk for each kind. Written by wip/tools/genchk16.py. -/
import Derived.Test.YtegpfbmanpnhkaaDoorReLeaf
import Derived.Test.YtegpfbmanpnhkaaDoorCmdChk
namespace Go.Proofs.YtegpfbmanpnhkaaDoor
open Go.RowKit

/-- What is wrong with the fields that a kind has. -/
def Re.limits (x : Re.Rec) : Int := if Re.known x.kind = false then 5 else if Re.ranged x = false then 6 else if (Re.hm x.kind && decide (32768 < x.img.length)) = true then 2 else if Re.hc x.kind = true then Cm.check x.cmd else 0
theorem Re.check_limits (x : Re.Rec) : Re.check x = if Re.limits x ≠ 0 then Re.limits x else if (decide (Re.own x = x) && Re.whole x) = false then 3 else 0 := by
  unfold Re.check Re.limits
  by_cases h1 : Re.known x.kind = false
  · simp only [if_pos h1]; rfl
  simp only [if_neg h1]
  by_cases h2 : Re.ranged x = false
  · simp only [if_pos h2]; rfl
  simp only [if_neg h2]
  by_cases h3 : (Re.hm x.kind && decide (32768 < x.img.length)) = true
  · simp only [if_pos h3]; rfl
  simp only [if_neg h3]
  by_cases h4 : Re.hc x.kind = true
  · simp only [if_pos h4]
    by_cases h5 : Cm.check x.cmd ≠ 0
    · rw [if_pos ⟨h4, h5⟩, if_pos h5]
    · rw [if_neg fun h => h5 h.2, if_neg h5]
  · simp only [if_neg h4]
    rw [if_neg fun h => h4 h.1]
    rfl
/-! By the kind. -/
theorem Re.limits_1 {x : Re.Rec} (h : x.kind = 1) : Re.limits x = if Ms.owned x.bal = true then 0 else 6 := by
  unfold Re.limits Re.ranged
  rw [h]
  show (if (!(true && !Ms.owned x.bal) && true) = false then (6 : Int) else 0) = _
  cases Ms.owned x.bal <;> rfl
theorem Re.limits_2 {x : Re.Rec} (h : x.kind = 2) : Re.limits x = if Ms.owned x.bal = true then (if Ms.within x.index 1 4294967296 = true then Cm.check x.cmd else 6) else 6 := by
  unfold Re.limits Re.ranged
  rw [h]
  show (if (!(true && !Ms.owned x.bal) && !(true && !Ms.within x.index 1 4294967296)) = false then (6 : Int) else Cm.check x.cmd) = _
  cases Ms.owned x.bal <;> cases Ms.within x.index 1 4294967296 <;> rfl
theorem Re.limits_3 {x : Re.Rec} (h : x.kind = 3) : Re.limits x = if Ms.within x.index 1 4294967296 = true then Cm.check x.cmd else 6 := by
  unfold Re.limits Re.ranged
  rw [h]
  show (if (!(false && !Ms.owned x.bal) && !(true && !Ms.within x.index 1 4294967296)) = false then (6 : Int) else Cm.check x.cmd) = _
  cases Ms.owned x.bal <;> cases Ms.within x.index 1 4294967296 <;> rfl
theorem Re.limits_4 {x : Re.Rec} (h : x.kind = 4) : Re.limits x = if Ms.within x.index 1 4294967296 = true then (if decide (32768 < x.img.length) = true then 2 else 0) else 6 := by
  unfold Re.limits Re.ranged
  rw [h]
  show (if (!(false && !Ms.owned x.bal) && !(true && !Ms.within x.index 1 4294967296)) = false then (6 : Int) else if decide (32768 < x.img.length) = true then 2 else 0) = _
  cases Ms.owned x.bal <;> cases Ms.within x.index 1 4294967296 <;> rfl
theorem Re.limits_no {x : Re.Rec} (h : x.kind < 1 ∨ 4 < x.kind) : Re.limits x = 5 := by
  unfold Re.limits
  rw [if_pos (Re.has_no h).2.2.2.2]

theorem reBal_is {b : Bl.Bal} (w : World) (t : Bool) (h : Ms.owned b = t) : Calls Tryd.prog 36 #[.agg (Bl.cells b)] w (Looks w (.int .i64 (if t = true then 0 else 6))) := by
  have := reBal_any b w
  rw [h] at this
  exact this
theorem reIndex_is {n : Int} (w : World) (t : Bool) (h : Ms.within n 1 4294967296 = t) : Calls Tryd.prog 37 #[.int .i64 n] w (Says w (.int .i64 (if t = true then 0 else 6))) := by
  have := reIndex_any n w
  rw [h] at this
  exact this
theorem reImage_is {u : Value} {l : List UInt8} (w : World) (hu : Reads w u l) (t : Bool) (h : decide (32768 < l.length) = t) : Calls Tryd.prog 39 #[u] w (Says w (.int .i64 (if t = true then 2 else 0))) := by
  have := reImage_any u l w hu
  rw [h] at this
  exact this

set_option maxRecDepth 4000 in
set_option maxHeartbeats 1600000 in
theorem reLimits_1 (x : Re.Rec) (vi : Value) (w : World) (hk : x.kind = 1) :
    Calls Tryd.prog 17 #[.agg (Re.cells x vi)] w (Looks w (.int .i64 (Re.limits x))) := by
  rw [Re.limits_1 hk]
  obtain ⟨w1, e1, hl1, hB1, hz1⟩ := box_rec w x vi
  obtain ⟨p0, p1, p2, p3, p4, p5, p6, p7, p8, p9, p10, p11⟩ := Recs.all hl1
  rw [hk] at p0
  have HM1 := Lib.hid hl1; have HB1 := Lib.hid hB1
  obtain ⟨r, hr⟩ : ∃ r : Int, r = if Ms.owned x.bal = true then 0 else 6 := ⟨_, rfl⟩
  have HC := Lib.hid (reBal_any x.bal w1)
  rw [← hr] at HC ⊢
  clear hl1 hB1 hz1 hk hr
  go_enter Tryd.func17, Tryd.ntmps17
  go_wp2_with fail
  refine HC.out.mono ?_
  rintro e2 w2 ⟨rfl, hb⟩
  go_wp2
  go_ret
  exact ⟨rfl, HB1.out.trans (hb.mono HB1.out.size)⟩

set_option maxRecDepth 4000 in
set_option maxHeartbeats 1600000 in
theorem reLimits_2 (x : Re.Rec) (vi : Value) (w : World) (hk : x.kind = 2) (hW : WordsIn w) (hs : x.cmd.Short 140737488355328) :
    Calls Tryd.prog 17 #[.agg (Re.cells x vi)] w (Looks w (.int .i64 (Re.limits x))) := by
  rw [Re.limits_2 hk]
  obtain ⟨w1, e1, hl1, hB1, hz1⟩ := box_rec w x vi
  obtain ⟨p0, p1, p2, p3, p4, p5, p6, p7, p8, p9, p10, p11⟩ := Recs.all hl1
  rw [hk] at p0
  have HM1 := Lib.hid hl1; have HB1 := Lib.hid hB1
  have HW := Lib.hid (fun W (h : Below w.heap.size w W) => check_any x.cmd W (hW.below h) hs)
  obtain ⟨c, hc⟩ : ∃ c, c = Cm.check x.cmd := ⟨_, rfl⟩
  rw [← hc] at HW ⊢
  obtain ⟨r, hr⟩ : ∃ r : Int, r = if Ms.owned x.bal = true then (if Ms.within x.index 1 4294967296 = true then c else 6) else 6 := ⟨_, rfl⟩
  rw [← hr]
  clear hl1 hB1 hz1 hk hW hs hc
  cases t : Ms.owned x.bal with
  | false =>
    have HC : Hid (Calls Tryd.prog 36 #[.agg (Bl.cells x.bal)] w1 (Looks w1 (.int .i64 6))) := reBal_is w1 _ t
    have HZ : Hid (r = 6) := by show _ = _; rw [hr, t]; rfl
    clear t hr
    go_enter Tryd.func17, Tryd.ntmps17
    go_wp2_with fail
    refine HC.out.mono ?_
    rintro e2 w2 ⟨rfl, hb⟩
    go_wp2
    go_ret
    exact ⟨by rw [HZ.out]; rfl, HB1.out.trans (hb.mono HB1.out.size)⟩
  | true =>
    have HC : Hid (Calls Tryd.prog 36 #[.agg (Bl.cells x.bal)] w1 (Looks w1 (.int .i64 0))) := reBal_is w1 _ t
    rw [t, if_pos rfl] at hr
    clear t
    cases y : Ms.within x.index 1 4294967296 with
    | false =>
      have HI : Hid (∀ W, Calls Tryd.prog 37 #[.int .i64 x.index] W (Says W (.int .i64 6))) := fun W => reIndex_is W _ y
      have HZ : Hid (r = 6) := by show _ = _; rw [hr, y]; rfl
      clear y hr
      go_enter Tryd.func17, Tryd.ntmps17
      go_wp2_with fail
      refine HC.out.mono ?_
      rintro e2 w2 ⟨rfl, hb⟩
      have HM2 := Lib.hid (HM1.out.below hb HM1.out.lt); have HB2 := Lib.hid (HB1.out.trans (hb.mono HB1.out.size))
      clear hb p0 p1 p2 p3 p4 p5 p6 p7 p8 p9 p10 p11
      obtain ⟨p0, p1, p2, p3, p4, p5, p6, p7, p8, p9, p10, p11⟩ := Recs.all HM2.out
      go_wp2_with fail
      refine (HI.out _).mono ?_
      rintro e3 w3 ⟨rfl, rfl⟩
      go_wp2
      go_ret
      exact ⟨by rw [HZ.out]; rfl, HB2.out⟩
    | true =>
      have HI : Hid (∀ W, Calls Tryd.prog 37 #[.int .i64 x.index] W (Says W (.int .i64 0))) := fun W => reIndex_is W _ y
      have HZ : Hid (r = c) := by show _ = _; rw [hr, y]; rfl
      clear y hr
      go_enter Tryd.func17, Tryd.ntmps17
      go_wp2_with fail
      refine HC.out.mono ?_
      rintro e2 w2 ⟨rfl, hb⟩
      have HM2 := Lib.hid (HM1.out.below hb HM1.out.lt); have HB2 := Lib.hid (HB1.out.trans (hb.mono HB1.out.size))
      clear hb p0 p1 p2 p3 p4 p5 p6 p7 p8 p9 p10 p11
      obtain ⟨p0, p1, p2, p3, p4, p5, p6, p7, p8, p9, p10, p11⟩ := Recs.all HM2.out
      go_wp2_with fail
      refine (HI.out _).mono ?_
      rintro e3 w3 ⟨rfl, rfl⟩
      go_wp2_with fail
      refine (HW.out _ HB2.out).mono ?_
      rintro e4 w4 ⟨rfl, hb⟩
      go_wp2
      go_ret
      exact ⟨by rw [HZ.out]; rfl, HB2.out.trans (hb.mono HB2.out.size)⟩

set_option maxRecDepth 4000 in
set_option maxHeartbeats 1600000 in
theorem reLimits_3 (x : Re.Rec) (vi : Value) (w : World) (hk : x.kind = 3) (hW : WordsIn w) (hs : x.cmd.Short 140737488355328) :
    Calls Tryd.prog 17 #[.agg (Re.cells x vi)] w (Looks w (.int .i64 (Re.limits x))) := by
  rw [Re.limits_3 hk]
  obtain ⟨w1, e1, hl1, hB1, hz1⟩ := box_rec w x vi
  obtain ⟨p0, p1, p2, p3, p4, p5, p6, p7, p8, p9, p10, p11⟩ := Recs.all hl1
  rw [hk] at p0
  have HM1 := Lib.hid hl1; have HB1 := Lib.hid hB1
  have HW := Lib.hid (fun W (h : Below w.heap.size w W) => check_any x.cmd W (hW.below h) hs)
  obtain ⟨c, hc⟩ : ∃ c, c = Cm.check x.cmd := ⟨_, rfl⟩
  rw [← hc] at HW ⊢
  obtain ⟨r, hr⟩ : ∃ r : Int, r = if Ms.within x.index 1 4294967296 = true then c else 6 := ⟨_, rfl⟩
  rw [← hr]
  clear hl1 hB1 hz1 hk hW hs hc
  cases y : Ms.within x.index 1 4294967296 with
  | false =>
    have HI : Hid (∀ W, Calls Tryd.prog 37 #[.int .i64 x.index] W (Says W (.int .i64 6))) := fun W => reIndex_is W _ y
    have HZ : Hid (r = 6) := by show _ = _; rw [hr, y]; rfl
    clear y hr
    go_enter Tryd.func17, Tryd.ntmps17
    go_wp2_with fail
    refine (HI.out _).mono ?_
    rintro e3 w3 ⟨rfl, rfl⟩
    go_wp2
    go_ret
    exact ⟨by rw [HZ.out]; rfl, HB1.out⟩
  | true =>
    have HI : Hid (∀ W, Calls Tryd.prog 37 #[.int .i64 x.index] W (Says W (.int .i64 0))) := fun W => reIndex_is W _ y
    have HZ : Hid (r = c) := by show _ = _; rw [hr, y]; rfl
    clear y hr
    go_enter Tryd.func17, Tryd.ntmps17
    go_wp2_with fail
    refine (HI.out _).mono ?_
    rintro e3 w3 ⟨rfl, rfl⟩
    go_wp2_with fail
    refine (HW.out _ HB1.out).mono ?_
    rintro e4 w4 ⟨rfl, hb⟩
    go_wp2
    go_ret
    exact ⟨by rw [HZ.out]; rfl, HB1.out.trans (hb.mono HB1.out.size)⟩

set_option maxRecDepth 4000 in
set_option maxHeartbeats 1600000 in
theorem reLimits_4 (x : Re.Rec) (vi : Value) (w : World) (hk : x.kind = 4) (hi : Reads w vi x.img) :
    Calls Tryd.prog 17 #[.agg (Re.cells x vi)] w (Looks w (.int .i64 (Re.limits x))) := by
  rw [Re.limits_4 hk]
  obtain ⟨w1, e1, hl1, hB1, hz1⟩ := box_rec w x vi
  obtain ⟨p0, p1, p2, p3, p4, p5, p6, p7, p8, p9, p10, p11⟩ := Recs.all hl1
  rw [hk] at p0
  have HM1 := Lib.hid hl1; have HB1 := Lib.hid hB1
  have HU := Lib.hid (hi.below hB1)
  have HC := Lib.hid (reImage_any vi x.img w1 HU.out)
  obtain ⟨io, ic, rfl⟩ := hi.shape
  obtain ⟨c, hc⟩ : ∃ c : Int, c = if decide (32768 < x.img.length) = true then 2 else 0 := ⟨_, rfl⟩
  rw [← hc] at HC ⊢
  obtain ⟨r, hr⟩ : ∃ r : Int, r = if Ms.within x.index 1 4294967296 = true then c else 6 := ⟨_, rfl⟩
  rw [← hr]
  clear hl1 hB1 hz1 hk hi hc
  cases y : Ms.within x.index 1 4294967296 with
  | false =>
    have HI : Hid (∀ W, Calls Tryd.prog 37 #[.int .i64 x.index] W (Says W (.int .i64 6))) := fun W => reIndex_is W _ y
    have HZ : Hid (r = 6) := by show _ = _; rw [hr, y]; rfl
    clear y hr
    go_enter Tryd.func17, Tryd.ntmps17
    go_wp2_with fail
    refine (HI.out _).mono ?_
    rintro e3 w3 ⟨rfl, rfl⟩
    go_wp2
    go_ret
    exact ⟨by rw [HZ.out]; rfl, HB1.out⟩
  | true =>
    have HI : Hid (∀ W, Calls Tryd.prog 37 #[.int .i64 x.index] W (Says W (.int .i64 0))) := fun W => reIndex_is W _ y
    have HZ : Hid (r = c) := by show _ = _; rw [hr, y]; rfl
    clear y hr
    go_enter Tryd.func17, Tryd.ntmps17
    go_wp2_with fail
    refine (HI.out _).mono ?_
    rintro e3 w3 ⟨rfl, rfl⟩
    go_wp2_with fail
    refine HC.out.mono ?_
    rintro e4 w4 ⟨rfl, rfl⟩
    go_wp2
    go_ret
    exact ⟨by rw [HZ.out]; rfl, HB1.out⟩

set_option maxRecDepth 4000 in
set_option maxHeartbeats 1600000 in
theorem reLimits_no (x : Re.Rec) (vi : Value) (w : World) (hk : x.kind < 1 ∨ 4 < x.kind) :
    Calls Tryd.prog 17 #[.agg (Re.cells x vi)] w (Looks w (.int .i64 (Re.limits x))) := by
  rw [Re.limits_no hk]
  obtain ⟨w1, e1, hl1, hB1, hz1⟩ := box_rec w x vi
  have p0 := hl1.c0
  have d1 : (x.kind == 1) = false := by simp; omega
  have d2 : (x.kind == 2) = false := by simp; omega
  have d3 : (x.kind == 3) = false := by simp; omega
  have d4 : (x.kind == 4) = false := by simp; omega
  have HB1 := Lib.hid hB1
  clear hl1 hB1 hz1 hk
  go_enter Tryd.func17, Tryd.ntmps17
  go_wp2
  go_ret
  exact ⟨rfl, HB1.out⟩

theorem reLimits_any (x : Re.Rec) (vi : Value) (w : World) (hW : WordsIn w) (hi : Reads w vi x.img) (hs : x.cmd.Short 140737488355328) :
    Calls Tryd.prog 17 #[.agg (Re.cells x vi)] w (Looks w (.int .i64 (Re.limits x))) := by
  rcases Re.kinds x.kind with h | h | h | h | h
  · exact reLimits_1 x vi w h
  · exact reLimits_2 x vi w h hW hs
  · exact reLimits_3 x vi w h hW hs
  · exact reLimits_4 x vi w h hi
  · exact reLimits_no x vi w h

end Go.Proofs.YtegpfbmanpnhkaaDoor
