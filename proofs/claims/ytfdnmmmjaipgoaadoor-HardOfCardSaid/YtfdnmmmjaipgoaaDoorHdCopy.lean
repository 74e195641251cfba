/- The program's state: copied; what a record is of an image. -/
import Derived.Test.YtfdnmmmjaipgoaaDoorHdSix
import Derived.Test.YtfdnmmmjaipgoaaDoorHdRefOf
import Derived.Test.YtfdnmmmjaipgoaaDoorGEf
import Derived.Test.YtfdnmmmjaipgoaaDoorClone
namespace Go.Proofs.YtfdnmmmjaipgoaaDoor
open Go.RowKit

/-- The lengths that a copy asks for. -/
structure Hd.Hard.Few (h : Hd.Hard) : Prop where
  img : h.img.length ≤ 140737488351232
  acc : h.acc.length ≤ 900000
  chs : h.chs.length ≤ 900000
theorem box_six (w : World) (T : TypeId) (h : Hd.Hard) (vi va vc : Value) (r : HardR w h vi va vc) : ∃ w1, w.alloc (.cells (Hd.cells h vi va vc) T) = w1 ∧ SixAt w1 w.heap.size T h.prom h.base vi va vc ∧ Below w.heap.size w w1 ∧ w1.heap.size = w.heap.size + 1 :=
  ⟨_, rfl, ⟨Lies.new w _ _, r.sl.1, r.sl.2.1, r.sl.2.2⟩, (Below.refl _ w).alloc (Nat.le_refl _) _, by simp⟩

set_option maxRecDepth 4000 in
set_option maxHeartbeats 3200000 in
theorem copied_any (h : Hd.Hard) (vi va vc : Value) (w : World) (hr : HardR w h vi va vc) (hf : h.Few) :
    Calls Tryd.prog 23 #[.agg (Hd.cells h vi va vc)] w (MadeH w h) := by
  obtain ⟨w1, e1, hx1, hB1, hs1⟩ := box_six w 51 h vi va vc hr
  obtain ⟨w2, e2, hz2, hB2, hs2⟩ := box_zero w1 30
  have HX2 := Lib.hid (hx1.below hB2 (by omega))
  have HZ2 := Lib.hid hz2
  have HB2 : Hid (Below w.heap.size w w2) := hB1.trans (hB2.mono hB1.size)
  have HR2 := Lib.hid (hr.below HB2.out)
  have HF := Lib.hid hf
  have HNE : Hid (w1.heap.size = w.heap.size + 1) := hs1
  obtain ⟨_, _, _, c3, _, _⟩ := HX2.out.all
  clear hx1 hz2 hB1 hB2 hs2 hr hf hs1
  go_enter Tryd.func23, Tryd.ntmps23
  go_wp2_with fail
  refine (clone_any vi h.img w2 HR2.out.img HF.out.img).mono ?_
  rintro e w3 ⟨v3, rfl, ho3, hb3⟩
  obtain ⟨io, ic, rfl⟩ := (ho3.reads).shape
  have HI3 := Lib.hid ho3.reads
  have HR3 := Lib.hid (HR2.out.below hb3)
  have HX3 := Lib.hid (HX2.out.below hb3 HX2.out.lies.lt)
  have HZ3 := Lib.hid (HZ2.out.below hb3 HZ2.out.lies.lt)
  have HB3 : Hid (Below w.heap.size w w3) := HB2.out.trans (hb3.mono HB2.out.size)
  clear ho3 hb3 c3
  go_wp2_with (refine store_img rfl _ _ rfl io h.img.length ic rfl rfl HX3.out ?_; intro w4 hx4 hg4; have HX4 := Lib.hid hx4; have HG4 := Lib.hid hg4; have c4 : w4.cell? ⟨w.heap.size, 4, none⟩ = some va := HX4.out.all.2.2.2.2.1; clear hx4 hg4)
  have HR4 : Hid (HardR w4 h (.slice io h.img.length ic) va vc) := (show HardR w3 h (.slice io h.img.length ic) va vc from ⟨HI3.out, HR3.out.acc, HR3.out.chs⟩).over HX3.out HG4.out
  have HZ4 := Lib.hid (HZ3.out.kept HG4.out (by rw [HNE.out]; omega))
  have HB4 : Hid (Below w.heap.size w w4) := HB3.out.grown HG4.out HB3.out.size (by rintro j hj; cases hj; exact Nat.le_refl _)
  refine (clone_ents va h.acc w4 HR4.out.acc (by have := HF.out.acc; omega)).mono ?_
  rintro e w5 ⟨v5, rfl, ho5, hb5⟩
  obtain ⟨ao, ac, hs5⟩ := ho5.shape
  have HA5 := Lib.hid (ho5.reads (En.sized _))
  rw [List.length_map] at hs5
  have HR5 := Lib.hid (HR4.out.below hb5)
  have HX5 := Lib.hid (HX4.out.below hb5 HX4.out.lies.lt)
  have HZ5 := Lib.hid (HZ4.out.below hb5 HZ4.out.lies.lt)
  have HB5 : Hid (Below w.heap.size w w5) := HB4.out.trans (hb5.mono HB4.out.size)
  clear ho5 hb5 c4
  subst hs5
  go_wp2_with (refine store_acc rfl _ _ rfl ao h.acc.length ac rfl rfl HX5.out ?_; intro w6 hx6 hg6; have HX6 := Lib.hid hx6; have HG6 := Lib.hid hg6; have c5 : w6.cell? ⟨w.heap.size, 5, none⟩ = some vc := HX6.out.all.2.2.2.2.2; clear hx6 hg6)
  have HR6 : Hid (HardR w6 h (.slice io h.img.length ic) (.slice ao h.acc.length ac) vc) := (show HardR w5 h (.slice io h.img.length ic) (.slice ao h.acc.length ac) vc from ⟨HR5.out.img, HA5.out, HR5.out.chs⟩).over HX5.out HG6.out
  have HZ6 := Lib.hid (HZ5.out.kept HG6.out (by rw [HNE.out]; omega))
  have HB6 : Hid (Below w.heap.size w w6) := HB5.out.grown HG6.out HB5.out.size (by rintro j hj; cases hj; exact Nat.le_refl _)
  refine (clone_ents vc h.chs w6 HR6.out.chs (by have := HF.out.chs; omega)).mono ?_
  rintro e w7 ⟨v7, rfl, ho7, hb7⟩
  obtain ⟨co, cc, hs7⟩ := ho7.shape
  have HC7 := Lib.hid (ho7.reads (En.sized _))
  rw [List.length_map] at hs7
  have HR7 := Lib.hid (HR6.out.below hb7)
  have HX7 := Lib.hid (HX6.out.below hb7 HX6.out.lies.lt)
  have HZ7 := Lib.hid (HZ6.out.below hb7 HZ6.out.lies.lt)
  have HB7 : Hid (Below w.heap.size w w7) := HB6.out.trans (hb7.mono HB6.out.size)
  clear ho7 hb7 c5
  subst hs7
  go_wp2_with (first
    | (refine store_chs rfl _ _ rfl co h.chs.length cc rfl rfl HX7.out ?_; intro w8 hx8 hg8; have HX8 := Lib.hid hx8; have HG8 := Lib.hid hg8; have HZ8 := Lib.hid (HZ7.out.kept HG8.out (by rw [HNE.out]; omega)); clear hx8 hg8)
    | (refine load_hard rfl _ rfl rfl HX8.out ?_)
    | (refine store_hard rfl _ _ rfl rfl HZ8.out HX8.out rfl ?_; intro w9 hx9 hg9; have HX9 := Lib.hid hx9; have HG9 := Lib.hid hg9; clear hx9 hg9))
  have HR8 : HardR w8 h (.slice io h.img.length ic) (.slice ao h.acc.length ac) (.slice co h.chs.length cc) := (show HardR w7 h (.slice io h.img.length ic) (.slice ao h.acc.length ac) (.slice co h.chs.length cc) from ⟨HR7.out.img, HR7.out.acc, HC7.out⟩).over HX7.out HG8.out
  have HB8 : Below w.heap.size w w8 := HB7.out.grown HG8.out HB7.out.size (by rintro j hj; cases hj; exact Nat.le_refl _)
  refine ret_hard1 rfl rfl HX9.out rfl ?_
  exact ⟨_, _, _, rfl, HR8.over HZ8.out HG9.out, HB8.grown HG9.out HB8.size (by rintro j hj; cases hj; rw [HNE.out]; omega)⟩

set_option maxRecDepth 4000 in
/-- The record of an image. -/
theorem image_any (b : Int) (vi : Value) (l : List UInt8) (w : World) (hv : Reads w vi l) :
    Calls Tryd.prog 36 #[.int .i64 b, vi] w (fun e w' => e = .returned (.agg (Re.cells ⟨4, Bl.zero, b, Cm.zero, l⟩ vi)) ∧ Below w.heap.size w w') := by
  obtain ⟨io, ic, rfl⟩ := hv.shape
  obtain ⟨n, hn⟩ : ∃ n, n = l.length := ⟨_, rfl⟩
  rw [← hn]
  clear hn hv
  go_enter Tryd.func36, Tryd.ntmps36
  go_wp2_with (refine store_rec rfl _ _ rfl w.heap.size Re.zero Nil ⟨4, Bl.zero, b, Cm.zero, l⟩ (.slice io n ic) rfl rfl rfl (Lies.new _ _ _) ?_; intro w5 hl5 hg5; have HL5 := Lib.hid hl5; have HB5 : Hid (Below w.heap.size w w5) := fresh_below hg5; clear hl5 hg5)
  refine ret_rec1 rfl rfl HL5.out rfl ?_
  exact ⟨rfl, HB5.out⟩

set_option maxRecDepth 4000 in
theorem cloneH_any (h : Hd.Hard) (vi va vc : Value) (w : World) (hr : HardR w h vi va vc) (hf : h.Few) :
    Calls Tryd.prog 16 #[.agg (Hd.cells h vi va vc)] w (MadeH w h) := by
  obtain ⟨w1, e1, hx1, hB1, hs1⟩ := box_six w 30 h vi va vc hr
  obtain ⟨w2, e2, hz2, hB2, hs2⟩ := box_zero w1 30
  have HX2 := Lib.hid (hx1.below hB2 (by omega))
  have HZ2 := Lib.hid hz2
  have HB2 : Hid (Below w.heap.size w w2) := hB1.trans (hB2.mono hB1.size)
  have HR2 := Lib.hid (hr.below HB2.out)
  have HF := Lib.hid hf
  have HNE : Hid (w1.heap.size = w.heap.size + 1) := hs1
  have HC := Lib.hid (copied_any h vi va vc w2 HR2.out HF.out)
  clear hx1 hz2 hB1 hB2 hs2 hr hf hs1
  go_enter Tryd.func16, Tryd.ntmps16
  obtain ⟨c0, c1, c2, c3, c4, c5⟩ := HX2.out.all
  go_wp2_with fail
  refine HC.out.mono ?_
  rintro e w3 ⟨ui, ua, uc, rfl, hr3, hb3⟩
  clear c0 c1 c2 c3 c4 c5
  have HR3 := Lib.hid hr3
  have HB3 : Hid (Below w.heap.size w w3) := HB2.out.trans (hb3.mono HB2.out.size)
  have HZ3 := Lib.hid (HZ2.out.below hb3 HZ2.out.lies.lt)
  have HX3 : Hid (SixAt (w3.alloc (.cells (Hd.cells h ui ua uc) 30)) w3.heap.size 30 h.prom h.base ui ua uc) := ⟨Lies.new _ _ _, hr3.sl.1, hr3.sl.2.1, hr3.sl.2.2⟩
  clear hr3 hb3
  go_wp2_with (refine store_hard rfl _ _ rfl rfl HZ3.out HX3.out rfl ?_; intro w9 hx9 hg9; have HX9 := Lib.hid hx9; have HG9 := Lib.hid hg9; clear hx9 hg9)
  refine ret_hard1 rfl rfl HX9.out rfl ?_
  exact ⟨_, _, _, rfl, HR3.out.over HZ3.out HG9.out, HB3.out.grown HG9.out HB3.out.size (by rintro j hj; cases hj; rw [HNE.out]; omega)⟩
end Go.Proofs.YtfdnmmmjaipgoaaDoor
