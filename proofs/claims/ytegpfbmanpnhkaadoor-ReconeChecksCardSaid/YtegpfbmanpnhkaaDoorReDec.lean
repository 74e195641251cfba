/- A record decoded in F1. -/
import Derived.Test.YtegpfbmanpnhkaaDoorReGet
namespace Go.Proofs.YtegpfbmanpnhkaaDoor
open Go.RowKit

/-- What a decoding gives. -/
def RDecd (w : World) (r : Re.Rec × Int) (e : Ending) (w' : World) : Prop :=
  Below w.heap.size w w' ∧ ∃ vi, e = .returned (.tuple #[.agg (Re.cells r.1 vi), .int .i64 r.2]) ∧ Reads w' vi r.1.img ∧ vi.oneCell' = true

set_option maxRecDepth 4000 in
set_option maxHeartbeats 3200000 in
theorem decodeRe_any (u : Value) (s : List UInt8) (w : World) (hW : WordsIn w) (hu : Reads w u s) (hb : s.length ≤ 1000000) :
    Calls Tryd.prog 14 #[u] w (RDecd w (Re.decode s)) := by
  obtain ⟨w1, e1, hl1, hB1, hz1⟩ := box_rec w Re.zero (.slice none 0 0)
  dsimp only [Re.cells, Re.zero, Bl.zero, Cm.zero, Cm.bareOf] at e1
  have HK1 := Lib.hid hl1; have HB1 := Lib.hid hB1; have HU1 := Lib.hid (hu.below hB1); have HZ := Lib.hid hz1
  have HW := Lib.hid (fun W (h : Below w.heap.size w W) => hW.below h)
  obtain ⟨r, hr⟩ : ∃ r, r = Re.decode s := ⟨_, rfl⟩
  rw [← hr]
  unfold Re.decode at hr
  obtain ⟨_, hinv2, _⟩ := Re.got_inv s
  obtain ⟨t, ht⟩ : ∃ t, t = (Re.got s).1 := ⟨_, rfl⟩
  rw [show Cm.done s (Re.got s).2.1 (Re.got s).2.2 = Re.dn s from rfl, ← ht] at hr
  rw [← ht] at hinv2
  have HT := Lib.hid ht; have HRES := Lib.hid hr
  have HSH : Hid (t.cmd.Short 140737488355328) := ⟨Nat.le_trans hinv2.1 (by omega), Nat.le_trans hinv2.2.1 (by omega), Nat.le_trans hinv2.2.2 (by omega)⟩
  clear hl1 hB1 hz1 hu hr ht hW hinv2
  go_enter Tryd.func14, Tryd.ntmps14
  go_wp2_with fail
  refine (newreader_any u s _ w1.heap.size (Nat.le_refl _) HU1.out (by omega)).mono ?_
  rintro e2 w2 ⟨o, rv, rfl, ho, hr2, hb2⟩
  have HK2 := Lib.hid (HK1.out.below hb2 HK1.out.lt); have HB2 := Lib.hid (HB1.out.trans (hb2.mono HB1.out.size)); have HR2 := Lib.hid hr2
  have HX2 := Lib.hid hb2
  clear hr2 hb2
  go_wp2_with fail
  refine (readRe_any _ w1.heap.size o rv s HR2.out HX2.out.size).mono ?_
  rintro e3 w3 ⟨y, vi, rfl, hy, hi, hb3⟩
  obtain ⟨io, ic, rfl⟩ := hi.shape
  obtain ⟨xn, hxn⟩ : ∃ xn, xn = y.img.length := ⟨_, rfl⟩
  rw [← hxn] at hi ⊢
  have HI3 := Lib.hid hi; have HB3 := Lib.hid (HB2.out.trans (hb3.mono (Nat.le_of_lt (by have := HZ.out; omega))))
  have HK3 := Lib.hid (HK2.out.below hb3 (by have := HZ.out; omega))
  obtain ⟨z, hz⟩ : ∃ z, z = Re.dn s := ⟨_, rfl⟩
  rw [← hz] at hy HRES ⊢
  rw [← HT.out] at hy
  have HY := Lib.hid hy
  clear hi hb3 hxn hy hz
  by_cases h0 : z = 0
  · subst h0
    obtain rfl : y = t := HY.out rfl
    have HR5 := Lib.hid (HRES.out.trans (if_neg (by simp)))
    have HOL := Lib.hid (fun W (h : Below w.heap.size w W) (h' : Reads W (.slice io xn ic) y.img) => olderRe_any y (.slice io xn ic) W (HW.out _ h) h' HSH.out)
    obtain ⟨v, hv⟩ : ∃ v, v = Re.older y := ⟨_, rfl⟩
    rw [← hv] at HOL HR5
    clear hv
    go_wp2_with (first
      | (refine store_rec (by rfl) _ _ (by rfl) w3.heap.size Re.zero _ y (.slice io xn ic) (by rfl) (by rfl) rfl (Lies.new _ _ _) ?_
         intro w5 hl4 hg4
         have hb := fresh_below hg4
         have HI5 := Lib.hid (HI3.out.below hb)
         have HK5 := Lib.hid (HK3.out.below hb HK3.out.lt); have HM5 := Lib.hid hl4; have HB5 := Lib.hid (HB3.out.trans (hb.mono HB3.out.size))
         clear hl4 hg4 hb)
      | (refine load_rec (by rfl) _ (by rfl) w3.heap.size y (.slice io xn ic) (by rfl) HM5.out ?_)
      | fail)
    refine (HOL.out _ HB5.out HI5.out).mono ?_
    rintro e6 w6 ⟨rfl, hb⟩
    have HI6 := Lib.hid (HI5.out.below hb)
    have HK6 := Lib.hid (HK5.out.below hb HK5.out.lt); have HM6 := Lib.hid (HM5.out.below hb HM5.out.lt); have HB6 := Lib.hid (HB5.out.trans (hb.mono HB5.out.size))
    clear hb
    by_cases hy0 : v = 0
    · subst hy0
      have HZ2 : Hid (r = (y, 0)) := HR5.out.trans (if_neg (by simp))
      go_wp2_with (first
        | (refine load_rec (by rfl) _ (by rfl) w3.heap.size y (.slice io xn ic) (by rfl) HM6.out ?_)
        | (refine store_rec (by rfl) _ _ (by rfl) w.heap.size Re.zero _ y (.slice io xn ic) (by rfl) (by rfl) rfl HK6.out ?_
           intro w7 hl7 hg7
           have HB7 := Lib.hid (HB6.out.grown hg7 HB6.out.size (by rintro j hj; cases hj; exact Nat.le_refl _))
           have HI7 := Lib.hid (HI6.out.kept_rec HK6.out hg7))
        | fail)
      refine ret_rec2 rfl rfl hl7 rfl ?_
      rw [HZ2.out]
      exact ⟨HB7.out, .slice io xn ic, rfl, HI7.out, rfl⟩
    · have hne : (v != 0) = true := by simpa using hy0
      have HZ2 : Hid (r = (Re.zero, v)) := HR5.out.trans (if_pos hy0)
      clear hy0
      go_wp2_with (first
        | (refine store_rec (by rfl) _ _ (by rfl) w.heap.size Re.zero _ Re.zero (.slice none 0 0) (by rfl) (by rfl) rfl HK6.out ?_
           intro w7 hl7 hg7
           have HB7 := Lib.hid (HB6.out.grown hg7 HB6.out.size (by rintro j hj; cases hj; exact Nat.le_refl _)))
        | fail)
      refine ret_rec2 rfl rfl hl7 rfl ?_
      rw [HZ2.out]
      exact ⟨HB7.out, .slice none 0 0, rfl, Reads.empty _, rfl⟩
  · have hne : (z != 0) = true := by simpa using h0
    have heq : (z == 0) = false := by simpa using h0
    have HZ2 : Hid (r = (Re.zero, z)) := HRES.out.trans (if_pos h0)
    clear h0
    go_wp2_with (first
      | (refine store_rec (by rfl) _ _ (by rfl) w3.heap.size Re.zero _ y (.slice io xn ic) (by rfl) (by rfl) rfl (Lies.new _ _ _) ?_
         intro w5 hl4 hg4
         have hb := fresh_below hg4
         have HI5 := Lib.hid (HI3.out.below hb)
         have HK5 := Lib.hid (HK3.out.below hb HK3.out.lt); have HM5 := Lib.hid hl4; have HB5 := Lib.hid (HB3.out.trans (hb.mono HB3.out.size))
         clear hl4 hg4 hb)
      | (refine store_rec (by rfl) _ _ (by rfl) w.heap.size Re.zero _ Re.zero (.slice none 0 0) (by rfl) (by rfl) rfl HK5.out ?_
         intro w7 hl7 hg7
         have HB7 := Lib.hid (HB5.out.grown hg7 HB5.out.size (by rintro j hj; cases hj; exact Nat.le_refl _)))
      | fail)
    refine ret_rec2 rfl rfl hl7 rfl ?_
    rw [HZ2.out]
    exact ⟨HB7.out, .slice none 0 0, rfl, Reads.empty _, rfl⟩

end Go.Proofs.YtegpfbmanpnhkaaDoor
