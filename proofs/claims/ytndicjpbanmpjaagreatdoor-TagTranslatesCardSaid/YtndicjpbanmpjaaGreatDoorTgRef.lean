/- Letters, as the document says: whether a version has a message, its letter. -/
import Derived.Test.YtndicjpbanmpjaaGreatDoorTgMath
import Derived.Test.YtndicjpbanmpjaaGreatDoorGMx
import Derived.Test.YtndicjpbanmpjaaGreatDoorMsRefD
import Derived.Test.YtndicjpbanmpjaaGreatDoorGFt
namespace Go.Proofs.YtndicjpbanmpjaaGreatDoor
open Go.RowKit

set_option maxRecDepth 4000 in
set_option maxHeartbeats 1600000 in
theorem refTgCheck_any (v : Int) (m : Ms.Msg) (ve vi : Value) (w : World) (he : ReadsE w ve m.ents) (hi : Reads w vi m.img) (hs : ∀ e ∈ m.ents, e.cmd.Short 140737488355328) :
    Calls Tryz.prog 9 #[.int .i64 v, .agg (Ms.cells m ve vi)] w (Looks w (.int .i64 (Tg.check v m))) := by
  obtain ⟨w1, e1, hl1, hB1, hz1⟩ := box_msg w m ve vi
  obtain ⟨p0, p1, p2, p3, p4, p5, p6, p7, p8, p9⟩ := Msgs.ten hl1
  have HB1 := Lib.hid hB1
  have HE1 := Lib.hid (he.below hB1); have HI1 := Lib.hid (hi.below hB1); have HS := Lib.hid hs
  clear hl1 hB1 hz1 he hi hs
  by_cases h1 : v = 1
  · subst h1
    have HZ : Hid (Tg.check 1 m = Ms.older m) := rfl
    go_enter Tryz.func9, Tryz.ntmps9
    go_wp2_with fail
    refine (refOlderM_any m ve vi _ HE1.out HI1.out HS.out).mono ?_
    rintro e2 w2 ⟨rfl, hb⟩
    go_wp2
    go_ret
    exact ⟨by rw [HZ.out]; rfl, HB1.out.trans (hb.mono HB1.out.size)⟩
  · by_cases h2 : v = 2
    · subst h2
      have HZ : Hid (Tg.check 2 m = Ms.check m) := rfl
      go_enter Tryz.func9, Tryz.ntmps9
      go_wp2_with fail
      refine (refCheckM_any m ve vi _ HE1.out HI1.out HS.out).mono ?_
      rintro e2 w2 ⟨rfl, hb⟩
      go_wp2
      go_ret
      exact ⟨by rw [HZ.out]; rfl, HB1.out.trans (hb.mono HB1.out.size)⟩
    · have HZ : Hid (Tg.check v m = 8) := by show _ = _; unfold Tg.check; rw [if_neg h1, if_neg h2]
      by_cases h3 : v < 1
      · have d1 : decide (v < 1) = true := decide_eq_true h3
        clear h1 h2
        go_enter Tryz.func9, Tryz.ntmps9
        go_wp2
        go_ret
        exact ⟨by rw [HZ.out]; rfl, HB1.out⟩
      · have d1 : decide (v < 1) = false := decide_eq_false h3
        have h4 : 2 < v := by omega
        have d2 : decide (2 < v) = true := decide_eq_true h4
        clear h1 h2
        go_enter Tryz.func9, Tryz.ntmps9
        go_wp2
        go_ret
        exact ⟨by rw [HZ.out]; rfl, HB1.out⟩

set_option maxRecDepth 4000 in
set_option maxHeartbeats 3200000 in
theorem refLetter_any (v : Int) (m : Ms.Msg) (ve vi : Value) (w : World) (hck : Tg.check v m = 0) (he : ReadsE w ve m.ents) (hi : Reads w vi m.img) (hf : m.Fits) :
    Calls Tryz.prog 12 #[.int .i64 v, .agg (Ms.cells m ve vi)] w (Makes w 5 (Tg.letter v m)) := by
  obtain ⟨w1, e1, hl1, hB1, hz1⟩ := box_msg w m ve vi
  obtain ⟨l1, l2⟩ := Tg.body_len hck hf
  obtain ⟨hv, hc⟩ := Tg.check_good hck
  have hg := Ms.check_good hc
  obtain ⟨hn1, hn2⟩ := Ms.good_len hg
  have hsh : ∀ e ∈ m.ents, e.cmd.Short 48 := fun e he => Cm.check_short (Ms.ents_ok _ _ hg.ents e he).2
  have HM1 := Lib.hid hl1; have HB1 := Lib.hid hB1
  have HE := Lib.hid (fun W (h : Below w.heap.size w W) => (ReadsR.below he h : ReadsE W ve m.ents)); have HI := Lib.hid (fun W (h : Below w.heap.size w W) => hi.below h)
  have HL1 := Lib.hid l1; have HL2 := Lib.hid l2; have HC := Lib.hid hc; have HSH := Lib.hid hsh; have HN1 := Lib.hid hn1; have HN2 := Lib.hid hn2; have HF := Lib.hid hf
  have HK : Hid (∀ e ∈ m.ents, 1 ≤ e.cmd.kind ∧ e.cmd.kind ≤ 8) := Ms.ent_kinds hc
  have HLB : Hid ((Tg.bytes v m).length ≤ 65536) := by show _ ≤ _; unfold Tg.body at l2; rw [List.length_cons] at l2; omega
  have hz := hB1.size
  clear hl1 hB1 hz1 hck he hi hf l1 l2 hc hg hn1 hn2 hsh
  have hlit : ∀ (c : UInt8) (z : Int), z = (c.toNat : Int) → ∃ w2, w1.alloc (.cells #[.int .u8 z] 5) = w2 ∧ Owns w2 w.heap.size 5 (.slice (some ⟨w1.heap.size, 0, none⟩) 1 1) [c] ∧ Below w1.heap.size w1 w2 := fun c z h =>
    ⟨_, rfl, (Owns.laid w1 _ [c] 1 _ rfl (by rw [h]; rfl) (by decide)).mono hz, (Below.refl _ w1).alloc (Nat.le_refl _) _⟩
  rcases hv with rfl | rfl
  · obtain ⟨w2, e2, ho2, hb2⟩ := hlit 1 1 rfl
    have HO2 := Lib.hid ho2; have HB2 := Lib.hid (HB1.out.trans (hb2.mono hz)); have HM2 := Lib.hid (HM1.out.below hb2 HM1.out.lt)
    obtain ⟨p0, p1, p2, p3, p4, p5, p6, p7, p8, p9⟩ := Msgs.ten HM2.out
    clear hlit ho2 hb2
    go_enter Tryz.func12, Tryz.ntmps12
    go_wp2_with fail
    refine (refMBytes_any m ve vi w2 (HE.out _ HB2.out) (HI.out _ HB2.out) HF.out (fun e h => ⟨Short.up (HSH.out e h) (by omega), HK.out e h⟩) (by have := HN1.out; omega) (by have := HN2.out; omega)).mono ?_
    rintro e3 w3 ⟨x, rfl, hx, hb3⟩
    have HB3 := Lib.hid (HB2.out.trans (hb3.mono HB2.out.size)); have HX3 := Lib.hid hx.reads; have HO3 := Lib.hid (HO2.out.keep hb3 (Nat.le_refl _))
    obtain ⟨xo, xc, rfl⟩ := hx.reads.shape
    obtain ⟨xn, hxn⟩ : ∃ xn, xn = (Tg.bytes 1 m).length := ⟨_, rfl⟩
    have hxn' : xn = (Ms.bytes m).length := hxn
    rw [← hxn'] at HX3 ⊢
    have hxl : xn ≤ 65536 := by have := HLB.out; omega
    have HXN := Lib.hid hxn'
    clear hb3 hx hxn hxn' p0 p1 p2 p3 p4 p5 p6 p7 p8 p9
    go_wp2_with (at_builtin; refine append_bytes rfl _ _ 25 5 rfl Tryz.underlying25 info_u8 w.heap.size [1] (Ms.bytes m) (.slice (some ⟨w1.heap.size, 0, none⟩) 1 1) (.slice xo xn xc) rfl rfl HO3.out HX3.out (by have := HXN.out; simp; omega) w HB3.out (Nat.le_refl _) ?_; intro u4 w4 ho4 hb4 hg4; clear hg4)
    have HB4 := Lib.hid hb4; have HY4 : Hid (Reads w4 u4 (Tg.body 1 m)) := ho4.reads
    clear ho4 hb4
    refine (refFrame_any u4 (Tg.body 1 m) w4 HY4.out (by have := HL2.out; omega)).mono ?_
    rintro e5 w5 ⟨y, rfl, hy, hb5⟩
    go_wp2
    go_ret
    exact ⟨_, rfl, hy.mono HB4.out.size, HB4.out.trans (hb5.mono HB4.out.size)⟩
  · obtain ⟨w2, e2, ho2, hb2⟩ := hlit 2 2 rfl
    have HO2 := Lib.hid ho2; have HB2 := Lib.hid (HB1.out.trans (hb2.mono hz)); have HM2 := Lib.hid (HM1.out.below hb2 HM1.out.lt)
    obtain ⟨p0, p1, p2, p3, p4, p5, p6, p7, p8, p9⟩ := Msgs.ten HM2.out
    clear hlit ho2 hb2
    go_enter Tryz.func12, Tryz.ntmps12
    go_wp2_with fail
    refine (refBytes14_any m ve vi w2 HC.out (HE.out _ HB2.out) (HI.out _ HB2.out) HF.out (fun e h => Short.up (HSH.out e h) (by omega))).mono ?_
    rintro e3 w3 ⟨x, rfl, hx, hb3⟩
    have HB3 := Lib.hid (HB2.out.trans (hb3.mono HB2.out.size)); have HX3 := Lib.hid hx.reads; have HO3 := Lib.hid (HO2.out.keep hb3 (Nat.le_refl _))
    obtain ⟨xo, xc, rfl⟩ := hx.reads.shape
    obtain ⟨xn, hxn⟩ : ∃ xn, xn = (Tg.bytes 2 m).length := ⟨_, rfl⟩
    have hxn' : xn = (Mt.bytes m).length := hxn
    rw [← hxn'] at HX3 ⊢
    have hxl : xn ≤ 65536 := by have := HLB.out; omega
    have HXN := Lib.hid hxn'
    clear hb3 hx hxn hxn' p0 p1 p2 p3 p4 p5 p6 p7 p8 p9
    go_wp2_with (at_builtin; refine append_bytes rfl _ _ 25 5 rfl Tryz.underlying25 info_u8 w.heap.size [2] (Mt.bytes m) (.slice (some ⟨w1.heap.size, 0, none⟩) 1 1) (.slice xo xn xc) rfl rfl HO3.out HX3.out (by have := HXN.out; simp; omega) w HB3.out (Nat.le_refl _) ?_; intro u4 w4 ho4 hb4 hg4; clear hg4)
    have HB4 := Lib.hid hb4; have HY4 : Hid (Reads w4 u4 (Tg.body 2 m)) := ho4.reads
    clear ho4 hb4
    refine (refFrame_any u4 (Tg.body 2 m) w4 HY4.out (by have := HL2.out; omega)).mono ?_
    rintro e5 w5 ⟨y, rfl, hy, hb5⟩
    go_wp2
    go_ret
    exact ⟨_, rfl, hy.mono HB4.out.size, HB4.out.trans (hb5.mono HB4.out.size)⟩

end Go.Proofs.YtndicjpbanmpjaaGreatDoor
