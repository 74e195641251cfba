/- A message decoded in V2. -/
import Derived.Test.YtodpdmlgjmgajaaGreatDoorMtRead
import Derived.Test.YtodpdmlgjmgajaaGreatDoorGMg
namespace Go.Proofs.YtodpdmlgjmgajaaGreatDoor
open Go.RowKit

set_option maxRecDepth 4000 in
set_option maxHeartbeats 3200000 in
theorem decodeMt_any (u : Value) (s : List UInt8) (w : World) (hF : FieldsIn w) (hW : WordsIn w) (hu : Reads w u s) (hb : s.length ≤ 1000000000) :
    Calls Tryz.prog 10 #[u] w (MDecd w (Mt.decode s)) := by
  obtain ⟨w1, e1, hl1, hB1, hz1⟩ := box_msg w Ms.zero (.slice none 0 0) (.slice none 0 0)
  dsimp only [Ms.cells, Ms.zero, Bl.zero] at e1
  have HK1 := Lib.hid hl1; have HB1 := Lib.hid hB1; have HU1 := Lib.hid (hu.below hB1); have HZ := Lib.hid hz1
  have HF := Lib.hid (fun W (h : Below w.heap.size w W) => hF.below h); have HW := Lib.hid (fun W (h : Below w.heap.size w W) => hW.below h)
  obtain ⟨hinv1, hinv2, _, hinv4⟩ := Mt.got_inv s
  have hr := Mt.decode_got s
  obtain ⟨r, hrr⟩ : ∃ r, r = Mt.decode s := ⟨_, rfl⟩
  rw [← hrr] at hr ⊢
  obtain ⟨t, ht⟩ : ∃ t, t = Mt.got s := ⟨_, rfl⟩
  rw [← ht] at hr hinv1 hinv2 hinv4
  have HT := Lib.hid ht; have HRES := Lib.hid hr
  have HSH : Hid (∀ e ∈ t.1.ents, e.cmd.Short 140737488355328) := fun e he => ⟨Nat.le_trans (hinv2 e he).1 (by omega), Nat.le_trans (hinv2 e he).2.1 (by omega), Nat.le_trans (hinv2 e he).2.2 (by omega)⟩
  clear hl1 hB1 hz1 hu hr hrr ht hF hW hinv1 hinv2 hinv4
  go_enter Tryz.func10, Tryz.ntmps10
  go_wp2_with fail
  refine (newreader_any u s _ w1.heap.size (Nat.le_refl _) HU1.out (by omega)).mono ?_
  rintro e2 w2 ⟨o, rv, rfl, ho, hr2, hb2⟩
  have HK2 := Lib.hid (HK1.out.below hb2 HK1.out.lt); have HB2 := Lib.hid (HB1.out.trans (hb2.mono HB1.out.size)); have HR2 := Lib.hid hr2
  have HX2 := Lib.hid hb2
  have hlo : w.heap.size < o := by have := HZ.out; omega
  clear hr2 hb2
  go_wp2_with fail
  refine (readMt_any _ w1.heap.size o rv s HR2.out HX2.out.size).mono ?_
  rintro e3 w3 ⟨ve, vi, rfl, hle, hi, hb3⟩
  rw [← HT.out] at hle hi ⊢
  obtain ⟨vo, vn, vc, rfl⟩ := hle.slice
  obtain ⟨io, ic, rfl⟩ := hi.shape
  obtain ⟨xn, hxn⟩ : ∃ xn, xn = t.1.img.length := ⟨_, rfl⟩
  rw [← hxn] at hi ⊢
  obtain ⟨z, hz⟩ : ∃ z, z = t.2 := ⟨_, rfl⟩
  rw [← hz] at HRES ⊢
  have HE3 := Lib.hid hle; have HI3 := Lib.hid hi; have HB3 := Lib.hid (HB2.out.trans (hb3.mono (Nat.le_of_lt (by have := HZ.out; omega))))
  have HK3 := Lib.hid (HK2.out.below hb3 (by have := HZ.out; omega))
  clear hle hi hb3 hxn hz
  have hlt3 : w.heap.size < w3.heap.size := HK3.out.lt
  by_cases h0 : z = 0
  · subst h0
    have HR5 := Lib.hid (HRES.out.trans (if_neg (by simp)))
    go_wp2_with (first
      | (refine store_msg (by rfl) _ _ (by rfl) w3.heap.size Ms.zero _ _ t.1 (.slice vo vn vc) (.slice io xn ic) (by rfl) (by rfl) rfl rfl (Lies.new _ _ _) ?_
         intro w5 hl4 hg4
         have hb := fresh_below hg4
         have HE5 := Lib.hid (HE3.out.saves (SavesO.of_below hb)); have HI5 := Lib.hid (HI3.out.below hb)
         have HK5 := Lib.hid (HK3.out.below hb HK3.out.lt); have HM5 := Lib.hid hl4; have HB5 := Lib.hid (HB3.out.trans (hb.mono HB3.out.size))
         clear hl4 hg4 hb
         obtain ⟨p0, p1, p2, p3, p4, p5, p6, p7, p8, p9⟩ := Msgs.ten HM5.out)
      | fail)
    have HC5 := Lib.hid (checkM_any t.1 (.slice vo vn vc) (.slice io xn ic) w5 (HF.out _ HB5.out) (HW.out _ HB5.out) HE5.out.reads HI5.out HSH.out)
    obtain ⟨y, hy⟩ : ∃ y, y = Ms.check t.1 := ⟨_, rfl⟩
    rw [← hy] at HC5 HR5
    clear hy
    refine HC5.out.mono ?_
    rintro e6 w6 ⟨rfl, hb⟩
    have HE6 := Lib.hid (HE5.out.saves (SavesO.of_below hb)); have HI6 := Lib.hid (HI5.out.below hb)
    have HK6 := Lib.hid (HK5.out.below hb HK5.out.lt); have HM6 := Lib.hid (HM5.out.below hb HM5.out.lt); have HB6 := Lib.hid (HB5.out.trans (hb.mono HB5.out.size))
    clear hb p0 p1 p2 p3 p4 p5 p6 p7 p8 p9
    obtain ⟨p0, p1, p2, p3, p4, p5, p6, p7, p8, p9⟩ := Msgs.ten HM6.out
    by_cases hy0 : y = 0
    · subst hy0
      have HZ2 : Hid (r = (t.1, 0)) := HR5.out.trans (if_neg (by simp))
      go_wp2_with (refine store_msg (by rfl) _ _ (by rfl) w.heap.size Ms.zero _ _ t.1 (.slice vo vn vc) (.slice io xn ic) (by rfl) (by rfl) rfl rfl HK6.out ?_; intro w7 hl7 hg7)
      refine ret_msg2 rfl rfl hl7 rfl ?_
      rw [HZ2.out]
      exact ⟨HB6.out.grown hg7 HB6.out.size (by rintro j hj; cases hj; exact Nat.le_refl _), _, _, rfl, (HE6.out.kept HK6.out (by decide) hg7).reads, HI6.out.kept_msg HK6.out hg7, rfl, rfl⟩
    · have hne : (y != 0) = true := by simpa using hy0
      have HZ2 : Hid (r = (Ms.zero, y)) := HR5.out.trans (if_pos hy0)
      clear hy0
      go_wp2_with (refine store_msg (by rfl) _ _ (by rfl) w.heap.size Ms.zero _ _ Ms.zero (.slice none 0 0) (.slice none 0 0) (by rfl) (by rfl) rfl rfl HK6.out ?_; intro w7 hl7 hg7)
      refine ret_msg2 rfl rfl hl7 rfl ?_
      rw [HZ2.out]
      exact ⟨HB6.out.grown hg7 HB6.out.size (by rintro j hj; cases hj; exact Nat.le_refl _), _, _, rfl, ReadsR.empty _ 10, Reads.empty _, rfl, rfl⟩
  · have hne : (z != 0) = true := by simpa using h0
    have heq : (z == 0) = false := by simpa using h0
    have HZ2 : Hid (r = (Ms.zero, z)) := HRES.out.trans (if_pos h0)
    clear h0
    go_wp2_with (first
      | (refine store_msg (by rfl) _ _ (by rfl) w3.heap.size Ms.zero _ _ t.1 (.slice vo vn vc) (.slice io xn ic) (by rfl) (by rfl) rfl rfl (Lies.new _ _ _) ?_
         intro w5 hl4 hg4
         have hb := fresh_below hg4
         have HE5 := Lib.hid (HE3.out.saves (SavesO.of_below hb)); have HI5 := Lib.hid (HI3.out.below hb)
         have HK5 := Lib.hid (HK3.out.below hb HK3.out.lt); have HM5 := Lib.hid hl4; have HB5 := Lib.hid (HB3.out.trans (hb.mono HB3.out.size))
         clear hl4 hg4 hb
         obtain ⟨p0, p1, p2, p3, p4, p5, p6, p7, p8, p9⟩ := Msgs.ten HM5.out)
      | (refine store_msg (by rfl) _ _ (by rfl) w.heap.size Ms.zero _ _ Ms.zero (.slice none 0 0) (.slice none 0 0) (by rfl) (by rfl) rfl rfl HK5.out ?_; intro w7 hl7 hg7)
      | fail)
    refine ret_msg2 rfl rfl hl7 rfl ?_
    rw [HZ2.out]
    exact ⟨HB5.out.grown hg7 HB5.out.size (by rintro j hj; cases hj; exact Nat.le_refl _), _, _, rfl, ReadsR.empty _ 10, Reads.empty _, rfl, rfl⟩

end Go.Proofs.YtodpdmlgjmgajaaGreatDoor
