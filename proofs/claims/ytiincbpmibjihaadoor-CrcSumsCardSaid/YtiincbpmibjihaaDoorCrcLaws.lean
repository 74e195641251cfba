/- The laws of layer 2, walked: each returns true and changes nothing that was there. -/
import Derived.Test.YtiincbpmibjihaaDoorCrcRef
import Derived.Test.YtiincbpmibjihaaDoorCrcText
import Derived.Lib.LaidU8
namespace Go.Proofs.YtiincbpmibjihaaDoor
open Go.RowKit

theorem info_u8 : (Tryd.prog.info? 5).map (fun i => (i.zero, i.size, i.bytes)) = some (some (.int .u8 0), 1, 1) := by kernel_rfl

theorem crcTab_of {W : World} (h : Lib.VarReads Tryd.prog W "changeover/crc.shifts" (Lib.tabData .u32 Crc.tab)) : CrcTab W := by
  obtain ⟨g, t, cs, fuel, p, hg, ht, hvar, hd⟩ := h
  have hty : (Tryd.prog.globals[0]?).map (·.type) = some 34 := by kernel_rfl
  have hgn : Tryd.prog.globalNamed "changeover/crc.shifts" = some 0 := by kernel_rfl
  obtain rfl := Option.some.inj (hgn.symm.trans hg)
  obtain rfl := Option.some.inj (hty.symm.trans ht)
  have e := Lib.cells_of_tab (n := 16) Tryd.underlying34 Tryd.underlying24 (by kernel_rfl) (by kernel_rfl) hd
  intro i hi
  have hT : Lib.TabIs Tryd.prog W "changeover/crc.shifts" .u32 Crc.tab := by unfold Lib.TabIs; rw [hvar, ← e]
  exact hT.cell hgn i hi

theorem crc_digits : ((Crc.sum [49, 50, 51, 52, 53, 54, 55, 56, 57]).toNat : Int) = 3421780262 := by decide +kernel
theorem crc_fifteen : Crc.text 15 = [48, 48, 48, 48, 48, 48, 48, 102] := by decide +kernel
theorem crc_nothing : ((Crc.add 0#32 []).toNat : Int) = 0 := by decide +kernel

set_option maxRecDepth 4000 in
set_option maxHeartbeats 800000 in
theorem crcAwake_any (w : World) (hT : CrcTab w) : Calls Tryd.prog 6 #[] w (Truly w) := by
  have hr := Reads.fresh w 5 [49, 50, 51, 52, 53, 54, 55, 56, 57] 9 #[.int .u8 49, .int .u8 50, .int .u8 51, .int .u8 52, .int .u8 53, .int .u8 54, .int .u8 55, .int .u8 56, .int .u8 57] rfl rfl (by omega) (9, 10)
  have hT1 := hT.below ((Below.refl w.heap.size w).alloc (Nat.le_refl _) (.cells #[.int .u8 49, .int .u8 50, .int .u8 51, .int .u8 52, .int .u8 53, .int .u8 54, .int .u8 55, .int .u8 56, .int .u8 57] 5 (9, 10)))
  have kc := fun (w : World) (C : Array Value) (n c : Nat) => Lib.run_convert_bytes_const (P := Tryd.prog) w 22 5 C n c Tryd.underlying22 Tryd.underlying5
  go_enter Tryd.func6, Tryd.ntmps6
  go_wp2_with fail
  refine (crcSum_any _ _ _ hr hT1).mono ?_
  rintro e w1 ⟨rfl, rfl⟩
  rw [crc_digits]
  go_wp2_with fail
  refine (crcText_any 15 _ (by omega)).mono ?_
  rintro e w2 ⟨rfl, hb⟩
  rw [crc_fifteen]
  go_wp2_with fail
  go_ret
  exact ⟨rfl, on ((Below.refl _ _).alloc (Nat.le_refl _) _) hb⟩

set_option maxRecDepth 4000 in
set_option maxHeartbeats 800000 in
theorem crcSums_any (v : Value) (l : List UInt8) (w : World) (hv : Reads w v l) (hT : CrcTab w) : Calls Tryd.prog 3 #[v] w (Truly w) := by
  obtain ⟨ao, cap, rfl⟩ := hv.shape
  obtain ⟨_, hl1, hl2, _⟩ := hv.len
  by_cases hbig : 2000 < l.length
  · go_enter Tryd.func3, Tryd.ntmps3
    go_wp2_with (go_at_call 6; refine (crcAwake_any _ hT).mono ?_; rintro e w' ⟨rfl, hb⟩)
    go_ret
    exact ⟨rfl, hb⟩
  · obtain ⟨s, hs⟩ : ∃ s, s = (Crc.sum l).toNat := ⟨_, rfl⟩
    have hsl : s < 4294967296 := by rw [hs]; exact (Crc.sum l).isLt
    go_enter Tryd.func3, Tryd.ntmps3
    go_wp2_with fail
    refine (crcSum_any _ _ _ hv hT).mono ?_
    rintro e w1 ⟨rfl, rfl⟩
    rw [← hs]
    go_wp2_with fail
    refine (refSum_any _ _ _ hv).mono ?_
    rintro e w1 ⟨rfl, rfl⟩
    rw [← hs]
    clear hs
    go_wp2_with fail
    refine (crcText_any s _ hsl).mono ?_
    rintro e w1 ⟨rfl, hb1⟩
    go_wp2_with fail
    refine (refText_any s _ hsl).mono ?_
    rintro e w2 ⟨rfl, rfl⟩
    go_wp2_with fail
    refine (crcAwake_any _ (hT.below hb1)).mono ?_
    rintro e w3 ⟨rfl, hb3⟩
    go_wp2_with fail
    go_ret
    exact ⟨rfl, on hb1 hb3⟩

set_option maxRecDepth 4000 in
set_option maxHeartbeats 800000 in
theorem crcGoesOn_any (v u : Value) (l m : List UInt8) (w : World) (hv : Reads w v l) (hu : Reads w u m) (hT : CrcTab w) : Calls Tryd.prog 4 #[v, u] w (Truly w) := by
  obtain ⟨ao, cap, rfl⟩ := hv.shape
  obtain ⟨ao2, cap2, rfl⟩ := hu.shape
  obtain ⟨_, hl1, hl2, _⟩ := hv.len
  obtain ⟨_, hl3, hl4, _⟩ := hu.len
  by_cases hbig : 2000 < l.length
  · go_enter Tryd.func4, Tryd.ntmps4
    go_wp2_with (go_at_call 6; refine (crcAwake_any _ hT).mono ?_; rintro e w' ⟨rfl, hb⟩)
    go_ret
    exact ⟨rfl, hb⟩
  by_cases hbig2 : 2000 < m.length
  · go_enter Tryd.func4, Tryd.ntmps4
    go_wp2_with (go_at_call 6; refine (crcAwake_any _ hT).mono ?_; rintro e w' ⟨rfl, hb⟩)
    go_ret
    exact ⟨rfl, hb⟩
  · go_enter Tryd.func4, Tryd.ntmps4
    go_wp2_with fail
    refine (crcSum_any _ _ _ hv hT).mono ?_
    rintro e w1 ⟨rfl, rfl⟩
    go_wp2_with fail
    refine (crcAdd_any _ _ m _ hu hT).mono ?_
    rintro e w1 ⟨rfl, rfl⟩
    rw [Crc.add_sum]
    obtain ⟨s, hs⟩ : ∃ s, s = (Crc.sum (l ++ m)).toNat := ⟨_, rfl⟩
    rw [← hs]
    have HS := Lib.hid hs
    clear hs
    have hv0 := hv.below ((Below.refl w.heap.size w).alloc (Nat.le_refl _) (.cells #[] 5))
    go_wp2_with (first
      | (at_builtin; refine append_bytes rfl (.tmp 18) (.tmp 19) 22 5 rfl Tryd.underlying22 info_u8 w.heap.size [] l (.slice (some ⟨w.heap.size, 0, none⟩) 0 0) (.slice ao l.length cap) rfl rfl (Owns.lit0 w _) hv0 (by simp; omega) w ((Below.refl w.heap.size w).alloc (Nat.le_refl _) _) (Nat.le_refl _) ?_; intro v1 w1 ho1 hb1 _; rw [List.nil_append] at ho1)
      | (at_builtin; refine append_bytes rfl (.tmp 20) (.tmp 21) 22 5 rfl Tryd.underlying22 info_u8 w.heap.size l m v1 (.slice ao2 m.length cap2) rfl rfl ho1 (hu.below hb1) (by omega) w hb1 (Nat.le_refl _) ?_; intro v2 w2 ho2 hb2 _))
    go_wp2_with fail
    refine (refSum_any _ _ _ ho2.reads).mono ?_
    rintro e w3 ⟨rfl, rfl⟩
    rw [← HS.out]
    go_wp2_with fail
    refine (crcAdd_any 0#32 _ [] _ (Reads.empty _) (hT.below hb2)).mono ?_
    rintro e w3 ⟨rfl, rfl⟩
    rw [crc_nothing]
    go_wp2_with fail
    refine (crcAwake_any _ (hT.below hb2)).mono ?_
    rintro e w3 ⟨rfl, hb3⟩
    go_wp2_with fail
    go_ret
    exact ⟨rfl, on hb2 hb3⟩
end Go.Proofs.YtiincbpmibjihaaDoor
