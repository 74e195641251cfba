/- The law SegmReads. Written by wip/tools/genlaw20.py. -/
import Derived.Test.YteboceekcmchkaaGreatDoorSgLaw1
namespace Go.Proofs.YteboceekcmchkaaGreatDoor
open Go.RowKit
set_option maxHeartbeats 6400000
set_option maxRecDepth 8000
theorem run_first_sg (w : World) (ao : Option Addr) (n cap f : Nat) (hf : f ≤ cap) :
 (Instr.slice 24 (.slice ao n cap) none (some (.int .i64 (f : Int))) none).run Tryz.prog w = .ok (.slice ao f cap) w := by
 have he : Tryz.prog.elem 24 = 5 := by kernel_rfl
 have hi : (Tryz.prog.info? 5).isSome = true := by kernel_rfl
 obtain ⟨i, hi⟩ := Option.isSome_iff_exists.1 hi
 have hrun := run_slice_h (P := Tryz.prog) (w := w) 24 ao n cap (by rw [he]; exact Tryz.underlying24) .i64 (f : Int) (by omega) (by omega)
 rw [he] at hrun
 refine hrun.trans ?_
 rw [run_sizeOf _ hi, show Tryz.prog.cellsOf 5 = 1 by kernel_rfl]
 simp only [Result.andThen, Int.toNat_natCast]
 cases ao <;> simp [sliced, Addr.add]
theorem segmReads_any (u : Value) (b : List UInt8) (w : World) (hT : CrcTab w) (hW : WordsIn w) (hu : Reads w u b) :
 Calls Tryz.prog 6 #[u] w (Truly w) := by
 have HT := Lib.hid (fun W (h : Below w.heap.size w W) => hT.below h)
 have HW := Lib.hid (fun W (h : Below w.heap.size w W) => hW.below h)
 obtain ⟨uo, uc, rfl⟩ := hu.shape
 have HU := Lib.hid (fun W (h : Below w.heap.size w W) => hu.below h)
 obtain ⟨_, hcap, hcap2, _⟩ := hu.len
 obtain ⟨un, hun⟩ : ∃ n, n = b.length := ⟨_, rfl⟩
 rw [← hun] at HU hcap ⊢
 have HUN := Lib.hid hun
 have HB0 : Hid (Below w.heap.size w w) := Below.refl _ _
 clear hT hW hu hun
 by_cases hlong : 1500 < un
 ·go_enter Tryz.func6, Tryz.ntmps6
  go_wp2_with fail
  refine (awakeSg_any w (HT.out _ HB0.out) (HW.out _ HB0.out)).mono ?_
  rintro ea wa ⟨rfl, hba⟩
  go_wp2
  go_ret
  exact truly_of (HB0.out.trans (hba.mono HB0.out.size))
 ·have HLEN : Hid (b.length ≤ 4000000) := by have := HUN.out; show _ ≤ _; omega
  by_cases hw : ∃ f s l a, Sg.Whole b f s l a
  ·obtain ⟨f, s, l, a, hw⟩ := hw
   have hbd := hw.bound
   have hf := hw.format
   have HWH := Lib.hid hw
   have hau : a ≤ un := by have := HUN.out; omega
   have hread := readSg_whole (.slice uo un uc) b w (HT.out _ HB0.out) (HW.out _ HB0.out) (HU.out _ HB0.out) HLEN.out hw
   obtain ⟨H, hH⟩ : ∃ H, H = Hd.of l := ⟨_, rfl⟩
   have HVAL : Hid (Hd.Valid H) := by rw [hH]; exact Hd.valid_of l
   have HHH := Lib.hid hH
   have hread2 : Hid (∀ W, Below w.heap.size w W → Calls Tryz.prog 18 #[.slice uo a uc] W (SgWhole W f l a)) := fun W hb => by
    have hr := (HU.out W hb).take a (by have := HUN.out; omega)
    exact readSg_whole (.slice uo a uc) (b.take a) W (HT.out _ hb) (HW.out _ hb) hr (by rw [List.length_take]; have := HLEN.out; omega) HWH.out.again
   obtain ⟨ln, hln⟩ : ∃ n, n = l.length := ⟨_, rfl⟩
   unfold SgWhole at hread hread2
   rw [← hH, ← hln] at hread hread2
   have HREAD := Lib.hid hread
   have hslice : ∀ W : World, (Instr.slice 24 (.slice uo un uc) none (some (.int .i64 (a : Int))) none).run Tryz.prog W = .ok (.slice uo a uc) W := fun W => run_first_sg W _ _ _ a (by omega)
   clear hw hbd hread hH hln
   go_enter Tryz.func6, Tryz.ntmps6
   go_wp2_with fail
   refine HREAD.out.mono ?_
   rintro e w2 ⟨hb2, vi, va, vc, rfl, hr2⟩
   have HB2 := Lib.hid hb2; have HR2 := Lib.hid hr2
   clear hb2 hr2
   go_wp2_with (first
    | (refine store_cont rfl _ _ rfl rfl (Conts.mk (Lies.new w2 50 _) ⟨_, _, _, rfl⟩ ⟨_, _, _, rfl⟩ ⟨_, _, _, rfl⟩ : Conts _ _ 0 Hd.zero Nil Nil Nil 0 0) (Conts.new w2 f HR2.out _ _) rfl ?_
       intro w3 hxw3 hgw3
       have HXw3 := Lib.hid hxw3
       have HGw3 : Hid (Below w2.heap.size w2 w3) := fresh_below hgw3
       obtain ⟨c0, c1, c2, c3, c4, c5, c6, c7, c8⟩ := hxw3.all
       clear hxw3 hgw3)
    | fail)
   have HB3 : Hid (Below w.heap.size w w3) := HB2.out.trans (HGw3.out.mono HB2.out.size)
   refine (hread2.out w3 HB3.out).mono ?_
   rintro e w4 ⟨hb4, ui, ua, uc4, rfl, hr4⟩
   have HB34 := Lib.hid hb4
   have HB4 := Lib.hid (HB3.out.trans (hb4.mono HB3.out.size)); have HR4 := Lib.hid hr4
   have HX4 := Lib.hid (HXw3.out.below hb4 HXw3.out.lies.lt)
   clear hb4 hr4 c0 c1 c2 c3 c4 c5 c6 c7 c8
   have HA : Hid (∀ e ∈ H.acc, e.cmd.Short 140737488355328) := Hd.entry_short HVAL.out.acc
   have HC : Hid (∀ e ∈ H.chs, e.cmd.Short 140737488355328) := Hd.entry_short HVAL.out.chs
   have hff : (f == 1) = true ∨ ((f == 1) = false ∧ (f == 2) = true) := by
    rcases hf with rfl | rfl
    ·exact .inl rfl
    ·exact .inr ⟨rfl, rfl⟩
   clear hf
   rcases hff with p1 | ⟨p1, p2⟩
   all_goals
    go_wp2_with (first
     | (refine store_cont rfl _ _ rfl rfl (Conts.mk (Lies.new w4 50 _) ⟨_, _, _, rfl⟩ ⟨_, _, _, rfl⟩ ⟨_, _, _, rfl⟩ : Conts _ _ 0 Hd.zero Nil Nil Nil 0 0) (Conts.new w4 f HR4.out _ _) rfl ?_
        intro w5 hxw5 hgw5
        have HXw5 := Lib.hid hxw5
        have HGw5 : Hid (Below w4.heap.size w4 w5) := fresh_below hgw5
        obtain ⟨d0, d1, d2, d3, d4, d5, d6, d7, d8⟩ := hxw5.all
        clear hxw5 hgw5
        obtain ⟨c0, c1, c2, c3, c4, c5, c6, c7, c8⟩ := (HX4.out.below HGw5.out HX4.out.lies.lt).all)
     | fail)
    have HB5 : Hid (Below w.heap.size w w5) := HB4.out.trans (HGw5.out.mono HB4.out.size)
    have HRC5 : Hid (HardR w5 H vi va vc) := ((HR2.out.below HGw3.out).below HB34.out).below HGw5.out
    have HRD5 : Hid (HardR w5 H ui ua uc4) := HR4.out.below HGw5.out
    clear HX4
    refine (refCheckH_any true H vi va vc w5 HRC5.out ⟨fun _ => HVAL.out, fun _ => rfl⟩ HA.out HC.out).mono ?_
    rintro e w6 ⟨rfl, hb6⟩
    have HB6 := Lib.hid (HB5.out.trans (hb6.mono HB5.out.size))
    have HRC6 := Lib.hid (HRC5.out.below hb6); have HRD6 := Lib.hid (HRD5.out.below hb6)
    have hc6 := (HXw3.out.below ((HB34.out.trans (HGw5.out.mono HB34.out.size)).trans (hb6.mono (Nat.le_trans HB34.out.size HGw5.out.size))) HXw3.out.lies.lt)
    have hd6 := HXw5.out.below hb6 HXw5.out.lies.lt
    clear c0 c1 c2 c3 c4 c5 c6 c7 c8 d0 d1 d2 d3 d4 d5 d6 d7 d8 hb6
    obtain ⟨c0, c1, c2, c3, c4, c5, c6, c7, c8⟩ := hc6.all
    obtain ⟨d0, d1, d2, d3, d4, d5, d6, d7, d8⟩ := hd6.all
    clear hc6 hd6
    go_wp2_with fail
    refine (sameH_any H H vi va vc ui ua uc4 w6 HRC6.out HRD6.out).mono ?_
    rw [show decide (H = H) = true by simp]
    rintro e w7 ⟨rfl, hb7⟩
    have HB7 := Lib.hid (HB6.out.trans (hb7.mono HB6.out.size))
    clear hb7 c0 c1 c2 c3 c4 c5 c6 c7 c8 d0 d1 d2 d3 d4 d5 d6 d7 d8
    go_wp2_with fail
    refine (awakeSg_any w7 (HT.out _ HB7.out) (HW.out _ HB7.out)).mono ?_
    rintro ea wa ⟨rfl, hba⟩
    go_wp2
    go_ret
    exact truly_of (HB7.out.trans (hba.mono HB7.out.size))
  ·have hread := readSg_torn (.slice uo un uc) b w (HT.out _ HB0.out) (HW.out _ HB0.out) (HU.out _ HB0.out) HLEN.out (fun f s l a h => hw ⟨f, s, l, a, h⟩)
   have HREAD := Lib.hid hread
   clear hread hw
   go_enter Tryz.func6, Tryz.ntmps6
   go_wp2_with fail
   refine HREAD.out.mono ?_
   rintro e w2 ⟨rfl, hb2⟩
   have HB2 := Lib.hid hb2
   have HZ : Hid (HardR w2 Hd.zero Nil Nil Nil) := HardR.zero w2
   clear hb2
   go_wp2_with (first
    | (refine store_cont rfl _ _ rfl rfl (Conts.mk (Lies.new w2 50 _) ⟨_, _, _, rfl⟩ ⟨_, _, _, rfl⟩ ⟨_, _, _, rfl⟩ : Conts _ _ 0 Hd.zero Nil Nil Nil 0 0) (Conts.new w2 0 HZ.out _ _) rfl ?_
       intro w3 hxw3 hgw3
       have HXw3 := Lib.hid hxw3
       have HGw3 : Hid (Below w2.heap.size w2 w3) := fresh_below hgw3
       obtain ⟨c0, c1, c2, c3, c4, c5, c6, c7, c8⟩ := hxw3.all
       clear hxw3 hgw3)
    | fail)
   have HB3 : Hid (Below w.heap.size w w3) := HB2.out.trans (HGw3.out.mono HB2.out.size)
   refine (awakeSg_any w3 (HT.out _ HB3.out) (HW.out _ HB3.out)).mono ?_
   rintro ea wa ⟨rfl, hba⟩
   go_wp2
   go_ret
   exact truly_of (HB3.out.trans (hba.mono HB3.out.size))
end Go.Proofs.YteboceekcmchkaaGreatDoor
