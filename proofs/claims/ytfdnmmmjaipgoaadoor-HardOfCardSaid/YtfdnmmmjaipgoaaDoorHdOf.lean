/- Apply and Of, as the program has them. -/
import Derived.Test.YtfdnmmmjaipgoaaDoorHdAfter
namespace Go.Proofs.YtfdnmmmjaipgoaaDoor
open Go.RowKit

theorem En.cut_len (b : Int) (l : List En.Ent) : (En.cut b l).length ≤ l.length := List.length_filter_le _ _
theorem Hd.apply_len (h : Hd.Hard) (x : Re.Rec) : (Hd.apply h x).acc.length ≤ h.acc.length + 1 ∧ (Hd.apply h x).chs.length ≤ h.chs.length + 1 := by
  unfold Hd.apply
  split
  · exact ⟨by omega, by omega⟩
  · split
    · have h1 := En.cut_len x.index h.acc
      have h2 := En.cut_len x.index h.chs
      exact ⟨by show (En.cut x.index h.acc).length ≤ _; omega, by show (En.cut x.index h.chs).length ≤ _; omega⟩
    · exact Hd.two_len h.base (h.acc, h.chs) x
theorem Hd.of_len (l : List Re.Rec) : (Hd.of l).acc.length ≤ l.length ∧ (Hd.of l).chs.length ≤ l.length := by
  induction l using Hd.snoc_ind with
  | h0 => exact ⟨by simp [Hd.of, Hd.zero], by simp [Hd.of, Hd.zero]⟩
  | h1 l x ih =>
    rw [Hd.of_snoc, List.length_append]
    have := Hd.apply_len (Hd.of l) x
    exact ⟨by simp; omega, by simp; omega⟩
theorem Hd.Valid.few {h : Hd.Hard} (v : Hd.Valid h) (h1 : h.acc.length ≤ 900000) (h2 : h.chs.length ≤ 900000) : h.Few := ⟨by have := v.img; omega, h1, h2⟩

set_option maxRecDepth 4000 in
set_option maxHeartbeats 1600000 in
theorem apply_any (h : Hd.Hard) (vi va vc : Value) (x : Re.Rec) (xi : Value) (w : World) (hW : WordsIn w) (hr : HardR w h vi va vc) (hv : Hd.Valid h) (hla : h.acc.length ≤ 800000 ∧ h.chs.length ≤ 800000) (hx : Reads w xi x.img) (hs : x.cmd.Short 140737488355328) :
    Calls Tryd.prog 17 #[.agg (Hd.cells h vi va vc), .agg (Re.cells x xi)] w (MadeH w (Hd.apply h x)) := by
  obtain ⟨w1, e1, hx1, hB1, hs1⟩ := box_six w 30 h vi va vc hr
  obtain ⟨w2, e2, hl2, hB2, hs2⟩ := box_rec w1 x xi
  obtain ⟨w3, e3, hz3, hB3, hs3⟩ := box_zero w2 30
  rw [hs1] at hl2 hs2
  rw [hs2] at hz3
  have hB : Below w.heap.size w w3 := (hB1.trans (hB2.mono hB1.size)).trans (hB3.mono (Nat.le_trans hB1.size hB2.size))
  have HX3 := Lib.hid ((hx1.below hB2 (by omega)).below hB3 (by omega))
  have HL3 := Lib.hid (hl2.below hB3 (by omega))
  have HZ3 := Lib.hid hz3
  have HB := Lib.hid hB
  have HCALL := Lib.hid (after_any h vi va vc x xi w3 (hW.below hB) (hr.below hB) hv ⟨by omega, by omega⟩ (hx.below hB) hs)
  have HF : Hid (Hd.Hard.Few (Hd.apply h x)) := Hd.Valid.few (Hd.valid_apply hv x) (by have := Hd.apply_len h x; omega) (by have := Hd.apply_len h x; omega)
  have HS : Hid (w1.heap.size = w.heap.size + 1 ∧ w2.heap.size = w.heap.size + 1 + 1) := ⟨hs1, hs2⟩
  obtain ⟨c0, c1, c2, c3, c4, c5⟩ := HX3.out.all
  clear hx1 hl2 hz3 hB1 hB2 hB3 hB hs1 hs2 hs3 hW hr hv hla hx hs
  go_enter Tryd.func17, Tryd.ntmps17
  go_wp2_with (refine load_rec rfl _ rfl (w.heap.size + 1) x xi (by first | rfl | (show _ = _; rw [← HS.out.1]; rfl)) HL3.out ?_)
  refine HCALL.out.mono ?_
  rintro e w4 ⟨ui, ua, uc, rfl, hr4, hb4⟩
  have HR4 := Lib.hid hr4
  have HB4 : Hid (Below w.heap.size w w4) := HB.out.trans (hb4.mono HB.out.size)
  have HZ4 := Lib.hid (HZ3.out.below hb4 HZ3.out.lies.lt)
  clear hr4 hb4 c0 c1 c2 c3 c4 c5 HX3 HL3 HCALL
  go_wp2_with fail
  refine (copied_any (Hd.apply h x) ui ua uc w4 HR4.out HF.out).mono ?_
  rintro e w5 ⟨ti, ta, tc, rfl, hr5, hb5⟩
  have HR5 := Lib.hid hr5
  have HB5 : Hid (Below w.heap.size w w5) := HB4.out.trans (hb5.mono HB4.out.size)
  have HZ5 := Lib.hid (HZ4.out.below hb5 HZ4.out.lies.lt)
  have HX5 : Hid (SixAt (w5.alloc (.cells (Hd.cells (Hd.apply h x) ti ta tc) 30)) w5.heap.size 30 (Hd.apply h x).prom (Hd.apply h x).base ti ta tc) := ⟨Lies.new _ _ _, hr5.sl.1, hr5.sl.2.1, hr5.sl.2.2⟩
  clear hr5 hb5
  go_wp2_with (refine store_hard rfl _ _ rfl (by first | rfl | (show _ = _; rw [HS.out.2]; rfl)) HZ5.out HX5.out rfl ?_; intro w9 hx9 hg9; have HX9 := Lib.hid hx9; have HG9 := Lib.hid hg9; clear hx9 hg9)
  refine ret_hard1 rfl (by first | rfl | (rw [HS.out.2]; rfl) | simp [HS.out.2]) HX9.out rfl ?_
  exact ⟨_, _, _, rfl, HR5.out.over HZ5.out HG9.out, HB5.out.grown HG9.out HB5.out.size (by rintro j hj; cases hj; omega)⟩

set_option maxRecDepth 4000 in
set_option maxHeartbeats 3200000 in
theorem hardOf_any {p : Nat → TypeId → Prop} (v : Value) (l : List Re.Rec) (w : World) (hW : WordsIn w) (hv : RecsP p w v l) (hs : ∀ x ∈ l, x.cmd.Short 140737488355328) (hlen : l.length ≤ 1000) :
    Calls Tryd.prog 8 #[v] w (MadeH w (Hd.of l)) := by
  obtain ⟨ao, cap, rfl, hc1, hc2⟩ := ListP.shape hv
  have HP := Lib.hid (fun h => ListP.places hv cellR_first h)
  obtain ⟨w1, e1, hz1, hB1, hs1⟩ := box_zero w 30
  obtain ⟨w2, e2, hx2, hB2, hs2⟩ := box_zero w1 51
  rw [hs1] at hx2
  have HZ2 := Lib.hid (hz1.below hB2 (by omega))
  have HX2 := Lib.hid hx2
  have HBB : Hid (Below w.heap.size w w2) := hB1.trans (hB2.mono hB1.size)
  obtain ⟨gz, hgz⟩ : ∃ g, g = w.heap.size := ⟨_, rfl⟩
  obtain ⟨gh, hgh⟩ : ∃ g, g = w.heap.size + 1 := ⟨_, rfl⟩
  rw [← hgz] at HZ2
  rw [← hgh] at HX2
  obtain ⟨n, hn⟩ : ∃ n, n = l.length := ⟨_, rfl⟩
  rw [← hn] at hc1 HP hlen ⊢
  have HN := Lib.hid hn; have HS := Lib.hid hs; have HLEN := Lib.hid hlen; have HW := Lib.hid hW
  have HSZ2 : Hid (gz ≠ gh ∧ w.heap.size ≤ gz ∧ w.heap.size ≤ gh) := ⟨by omega, by omega, by omega⟩
  have hnb : n < 9223372036854775808 := by omega
  have he1 : w1.heap.size = gh := by omega
  clear hv hn hs hz1 hx2 hB1 hB2 hlen hc2 hW
  go_enter Tryd.func8, Tryd.ntmps8
  go_wp2
  rw [← hgh, ← hgz]
  clear e1 e2 hs1 hs2 he1 hgz hgh
  go_loopw [8] (fun i wr => ∃ (k : Nat) (vi va vc : Value), i = .int .i64 (k : Int) ∧ k ≤ n ∧ Hid (SixAt wr gh 51 (Hd.of (l.take k)).prom (Hd.of (l.take k)).base vi va vc) ∧ Hid (HardR wr (Hd.of (l.take k)) vi va vc) ∧ Hid (SixAt wr gz 30 Bl.zero 0 Nil Nil Nil) ∧ Hid (Below w.heap.size w wr)) (fun i _ => n - (intOf i).toNat)
  case atStart => exact ⟨0, Nil, Nil, Nil, rfl, by omega, HX2.out, ⟨Reads.empty w2, ReadsR.empty _ _, ReadsR.empty _ _⟩, HZ2.out, HBB.out⟩
  case round =>
    obtain ⟨k, vi, va, vc, rfl, hk, HX, HR, HZ, HB⟩ := hrel
    by_cases hlt : k < n
    · obtain ⟨x, hxl⟩ : ∃ x, l[k]? = some x := ⟨_, List.getElem?_eq_getElem (by have := HN.out; omega)⟩
      obtain ⟨g, off, rfl, _, hc⟩ := HP.out (by have := HN.out; omega)
      obtain ⟨u, hu, hcell⟩ := hc k x hxl
      obtain ⟨uo, uc, rfl⟩ := hu.1.shape
      have HU := Lib.hid (fun W (h : Below w.heap.size w W) => hu.1.below h)
      have HSX := Lib.hid (HS.out x (List.mem_of_getElem? hxl))
      have HOF : Hid (Hd.of (l.take (k + 1)) = Hd.apply (Hd.of (l.take k)) x) := by show _ = _; rw [Hd.take_snoc hxl, Hd.of_snoc]
      have HCELL : Hid (∀ j v, (Re.cells x (.slice uo x.img.length uc))[j]? = some v → wr.cell? ⟨g, off + k * 12 + j, none⟩ = some v) := fun j v hj => by rw [Nat.add_assoc]; exact hcell wr HB.out j v hj
      clear hc hu hcell hxl
      have HGB : Hid (gh < wr.heap.size ∧ gz < wr.heap.size) := ⟨HX.out.lies.lt, HZ.out.lies.lt⟩
      obtain ⟨h, hh⟩ : ∃ h, h = Hd.of (l.take k) := ⟨_, rfl⟩
      have HV : Hid (Hd.Valid h) := by rw [hh]; exact Hd.valid_of _
      have HLL : Hid (h.acc.length ≤ 900000 ∧ h.chs.length ≤ 900000) := by
        have h1 := Hd.of_len (l.take k)
        rw [← hh, List.length_take] at h1
        have := HLEN.out
        exact ⟨by have := h1.1; omega, by have := h1.2; omega⟩
      rw [← hh] at HX HR HOF
      clear hh
      go_wp2_with (first
        | (refine load_rec_at rfl _ rfl g (off + k * 12) x (.slice uo x.img.length uc) rfl HCELL.out ?_)
        | (refine store_rec rfl _ _ rfl wr.heap.size Re.zero Nil x (.slice uo x.img.length uc) rfl rfl rfl (Lies.new _ _ _) ?_; intro w5 hl5 hg5; have HL5 := Lib.hid hl5; have HB5 : Hid (Below wr.heap.size wr w5) := fresh_below hg5; have HX5 := Lib.hid (HX.out.below HB5.out HGB.out.1); clear hl5 hg5)
        | (refine load_state rfl _ rfl rfl HX5.out ?_)
        | (refine load_rec rfl _ rfl wr.heap.size x (.slice uo x.img.length uc) rfl HL5.out ?_))
      have HBX : Hid (Below w.heap.size w w5) := HB.out.trans (HB5.out.mono HB.out.size)
      refine (after_any h vi va vc x (.slice uo x.img.length uc) w5 (HW.out.below HBX.out) (HR.out.below HB5.out) HV.out HLL.out (HU.out _ HBX.out) HSX.out).mono ?_
      rintro e w6 ⟨ui, ua, uc', rfl, hr6, hb6⟩
      have HR6 := Lib.hid hr6
      have HX6 := Lib.hid (HX5.out.below hb6 HX5.out.lies.lt)
      have HZ6 := Lib.hid ((HZ.out.below HB5.out HGB.out.2).below hb6 (Nat.lt_of_lt_of_le HGB.out.2 HB5.out.size))
      have HB6 : Hid (Below w.heap.size w w6) := HBX.out.trans (hb6.mono HBX.out.size)
      have HY6 : Hid (SixAt (w6.alloc (.cells (Hd.cells (Hd.apply h x) ui ua uc') 30)) w6.heap.size 30 (Hd.apply h x).prom (Hd.apply h x).base ui ua uc') := ⟨Lies.new _ _ _, hr6.sl.1, hr6.sl.2.1, hr6.sl.2.2⟩
      clear hr6 hb6 HL5 HCELL
      go_wp2_with (refine store_state rfl _ _ rfl rfl HX6.out HY6.out rfl ?_; intro w7 hx7 hg7; have HX7 := Lib.hid hx7; have HG7 := Lib.hid hg7; clear hx7 hg7)
      have HX8 : Hid (SixAt w7 gh 51 (Hd.of (l.take (k + 1))).prom (Hd.of (l.take (k + 1))).base ui ua uc') := by rw [HOF.out]; exact HX7.out
      have HR8 : Hid (HardR w7 (Hd.of (l.take (k + 1))) ui ua uc') := by rw [HOF.out]; exact HR6.out.over HX6.out HG7.out
      have HZ8 := Lib.hid (HZ6.out.kept HG7.out HSZ2.out.1)
      have HB8 : Hid (Below w.heap.size w w7) := HB6.out.grown HG7.out HB6.out.size (by rintro j hj; cases hj; have := HSZ2.out.2.2; omega)
      go_wp2
      go_roundw
      case rel => exact ⟨k + 1, ui, ua, uc', by go_num, by omega, HX8.out, HR8.out, HZ8.out, HB8.out⟩
      case measure => simp [intOf]; omega
    · obtain rfl : n = k := by omega
      have hall : l.take n = l := List.take_of_length_le (by have := HN.out; omega)
      rw [hall] at HX HR
      have HF : Hid (Hd.Hard.Few (Hd.of l)) := Hd.Valid.few (Hd.valid_of l) (by have := (Hd.of_len l).1; have := HN.out; have := HLEN.out; omega) (by have := (Hd.of_len l).2; have := HN.out; have := HLEN.out; omega)
      clear hall
      go_wp2_with (refine load_state rfl _ rfl rfl HX.out ?_)
      refine (copied_any (Hd.of l) vi va vc wr HR.out HF.out).mono ?_
      rintro e w5 ⟨ti, ta, tc, rfl, hr5, hb5⟩
      have HR5 := Lib.hid hr5
      have HB5 : Hid (Below w.heap.size w w5) := HB.out.trans (hb5.mono HB.out.size)
      have HZ5 := Lib.hid (HZ.out.below hb5 HZ.out.lies.lt)
      have HX5 : Hid (SixAt (w5.alloc (.cells (Hd.cells (Hd.of l) ti ta tc) 30)) w5.heap.size 30 (Hd.of l).prom (Hd.of l).base ti ta tc) := ⟨Lies.new _ _ _, hr5.sl.1, hr5.sl.2.1, hr5.sl.2.2⟩
      clear hr5 hb5
      go_wp2_with (refine store_hard rfl _ _ rfl rfl HZ5.out HX5.out rfl ?_; intro w9 hx9 hg9; have HX9 := Lib.hid hx9; have HG9 := Lib.hid hg9; clear hx9 hg9)
      refine ret_hard1 rfl rfl HX9.out rfl ?_
      exact ⟨_, _, _, rfl, HR5.out.over HZ5.out HG9.out, HB5.out.grown HG9.out HB5.out.size (by rintro j hj; cases hj; have := HSZ2.out.2.1; omega)⟩
end Go.Proofs.YtfdnmmmjaipgoaaDoor
