/- Several texts of mine in one: GFs GFt. -/
import Derived.Test.YteboceekcmchkaaGreatDoorRows
import Derived.Test.YteboceekcmchkaaGreatDoorPMem
import Derived.Test.YteboceekcmchkaaGreatDoorGFr
import Derived.Lib.LaidU8
import Derived.Test.YteboceekcmchkaaGreatDoorPGRd
import Derived.Test.YteboceekcmchkaaGreatDoorPPkMath
import Derived.Lib.AppendZerosOnto
import Derived.Lib.SliceRun
import Derived.Deep.RegionWith
namespace Go.Proofs.YteboceekcmchkaaGreatDoor
open Go.RowKit
set_option maxHeartbeats 800000
set_option maxRecDepth 4000
def CrcTab (w : World) : Prop := ∀ i, i < 16 → w.cell? ⟨0, i, none⟩ = some (.int .u32 (Crc.tab.getD i 0))
theorem CrcTab.below {w w' : World} (h : CrcTab w) (hb : Below w.heap.size w w') : CrcTab w' := fun i hi => by
 rw [hb.cell (World.block_lt_of_cell? w _ (h i hi))]; exact h i hi
theorem crcAdd_any (s : Crc.R) (v : Value) (l : List UInt8) (w : World) (hv : Reads w v l) (hT : CrcTab w) :
 Calls Tryz.prog 123 #[.int .u32 (s.toNat : Int), v] w fun e w' => e = .returned (.int .u32 ((Crc.add s l).toNat : Int)) ∧ w = w' := by
 obtain ⟨ao, cap, rfl⟩ := hv.shape
 obtain ⟨_, hl1, hl2, _⟩ := hv.len
 have hs := s.isLt
 have HT := Lib.hid hT; clear hT
 have hn := Crc.not_is s
 obtain ⟨s', hs'⟩ : ∃ s', s' = ~~~ s := ⟨_, rfl⟩
 rw [← hs'] at hn
 have HS := Lib.hid hs'; clear hs'
 have hsl := s'.isLt
 go_enter Tryz.func123, Tryz.ntmps123
 go_wp2
 clear hn
 go_loop [5, 12] (fun x i => ∃ (k : Nat) (r : Crc.R), k ≤ l.length ∧ i = .int .i64 (k : Int) ∧ x = .int .u32 (r.toNat : Int) ∧ Hid (r = Crc.run s' (l.take k))) (fun _ i => l.length - (intOf i).toNat)
 case atStart => exact ⟨0, s', by omega, rfl, rfl, rfl⟩
 case round =>
  obtain ⟨k, r, hk, rfl, rfl, HR⟩ := hrel
  have hrl := r.isLt
  by_cases hlt : k < l.length
  ·obtain ⟨b, off, rfl, hc⟩ := hv.place (by omega)
   obtain ⟨c, hlc⟩ : ∃ c, c = l[k] := ⟨_, rfl⟩
   have hc1 := hc k c (by rw [hlc]; exact List.getElem?_eq_getElem hlt)
   have HC := Lib.hid hlc
   clear hc hlc
   have hcb := c.toNat_lt
   have e1 := Crc.byte_in r c
   obtain ⟨r1, hr1⟩ : ∃ r1, r1 = r ^^^ Crc.wide c := ⟨_, rfl⟩
   rw [← hr1] at e1
   obtain ⟨j1, hj1, e2, t1, ht1, hg1, e3⟩ := Crc.four_bits r1
   obtain ⟨r2, hr2⟩ : ∃ r2, r2 = Crc.steps 4 r1 := ⟨_, rfl⟩
   rw [← hr2] at e3
   obtain ⟨j2, hj2, e4, t2, ht2, hg2, e5⟩ := Crc.four_bits r2
   obtain ⟨r3, hr3⟩ : ∃ r3, r3 = Crc.steps 4 r2 := ⟨_, rfl⟩
   rw [← hr3] at e5
   have c1 := HT.out j1 hj1
   have c2 := HT.out j2 hj2
   rw [hg1] at c1
   rw [hg2] at c2
   have b1 := r1.isLt
   have b2 := r2.isLt
   have b3 := r3.isLt
   have H3 : Hid (r3 = Crc.run s' (l.take (k + 1))) := by
    show r3 = _
    rw [Crc.run_take _ _ _ hlt, ← HR.out, ← HC.out, Crc.upd_eight, ← hr1, ← hr2, ← hr3]
   clear hg1 hg2 hr1 hr2 hr3
   go_wp2
   go_round
   case rel => exact ⟨k + 1, r3, by omega, by go_num, rfl, H3⟩
   case measure => simp [intOf]; omega
  ·have hn := Crc.not_is r
   obtain ⟨r4, hr4⟩ : ∃ r4, r4 = ~~~ r := ⟨_, rfl⟩
   rw [← hr4] at hn
   have H4 : Hid (r4 = Crc.add s l) := by
    have := HR.out
    rw [List.take_of_length_le (by omega)] at this
    show _ = _
    rw [hr4, this, HS.out]; rfl
   clear hr4
   go_wp2
   go_ret
   exact ⟨ret_int (by rw [H4.out]), rfl⟩
theorem crcSum_any (v : Value) (l : List UInt8) (w : World) (hv : Reads w v l) (hT : CrcTab w) :
 Calls Tryz.prog 99 #[v] w fun e w' => e = .returned (.int .u32 ((Crc.sum l).toNat : Int)) ∧ w = w' := by
 go_enter Tryz.func99, Tryz.ntmps99
 go_wp2_with (go_at_call 123; refine (crcAdd_any 0#32 _ l _ hv hT).mono ?_; rintro e w' ⟨rfl, rfl⟩)
 go_ret
 exact ⟨rfl, rfl⟩
theorem refSum_any (v : Value) (l : List UInt8) (w : World) (hv : Reads w v l) :
 Calls Tryz.prog 55 #[v] w fun e w' => e = .returned (.int .u32 ((Crc.sum l).toNat : Int)) ∧ w = w' := by
 obtain ⟨ao, cap, rfl⟩ := hv.shape
 obtain ⟨_, hl1, hl2, _⟩ := hv.len
 obtain ⟨r0, hr0⟩ : ∃ r0 : Crc.R, r0 = ~~~ 0#32 := ⟨_, rfl⟩
 have hz : (4294967295 : Int) = (r0.toNat : Int) := by rw [hr0]; rfl
 have H0 := Lib.hid hr0; clear hr0
 have HZ := Lib.hid hz; clear hz
 go_enter Tryz.func55, Tryz.ntmps55
 go_wp2
 go_loop [3, 4] (fun x i => ∃ (k : Nat) (r : Crc.R), k ≤ l.length ∧ i = .int .i64 (k : Int) ∧ x = .int .u32 (r.toNat : Int) ∧ Hid (r = Crc.run r0 (l.take k))) (fun _ i => l.length - (intOf i).toNat)
 case atStart => exact ⟨0, r0, by omega, rfl, by rw [← HZ.out], rfl⟩
 case round =>
  obtain ⟨k, r, hk, rfl, rfl, HR⟩ := hrel
  have hrl := r.isLt
  by_cases hlt : k < l.length
  ·obtain ⟨b, off, rfl, hc⟩ := hv.place (by omega)
   obtain ⟨c, hlc⟩ : ∃ c, c = l[k] := ⟨_, rfl⟩
   have hc1 := hc k c (by rw [hlc]; exact List.getElem?_eq_getElem hlt)
   have HC := Lib.hid hlc
   clear hc hlc
   have hcb := c.toNat_lt
   have e1 := Crc.byte_in r c
   obtain ⟨r1, hr1⟩ : ∃ r1, r1 = r ^^^ Crc.wide c := ⟨_, rfl⟩
   rw [← hr1] at e1
   have H1 := Lib.hid hr1; clear hr1
   have b1 := r1.isLt
   go_wp2
   clear e1
   go_loop [3, 5] (fun x i => ∃ (j : Nat) (q : Crc.R), j ≤ 8 ∧ i = .int .i64 (j : Int) ∧ x = .int .u32 (q.toNat : Int) ∧ Hid (q = Crc.steps j r1)) (fun _ i => 8 - (intOf i).toNat)
   case atStart => exact ⟨0, r1, by omega, rfl, rfl, rfl⟩
   case round =>
    obtain ⟨j, q, hj, rfl, rfl, HQ⟩ := hrel
    have bq := q.isLt
    by_cases hj8 : j < 8
    ·have H2 : Hid (Crc.step q = Crc.steps (j + 1) r1) := by
      show _ = _
      rw [Crc.steps_snoc, ← HQ.out]
     by_cases hodd : q.toNat % 2 = 1
     ·have e3 := Crc.step_odd q hodd
      obtain ⟨q1, hq1⟩ : ∃ q1, q1 = Crc.step q := ⟨_, rfl⟩
      rw [← hq1] at e3 H2
      have ho : ((q.toNat : Int) % 2 == 1) = true := by simp; omega
      clear hq1 hodd
      go_wp2
      go_round
      case rel => exact ⟨j + 1, q1, by omega, by go_num, rfl, H2⟩
      case measure => simp [intOf]; omega
     ·have e3 := Crc.step_evn q (by omega)
      obtain ⟨q1, hq1⟩ : ∃ q1, q1 = Crc.step q := ⟨_, rfl⟩
      rw [← hq1] at e3 H2
      have ho : ((q.toNat : Int) % 2 == 1) = false := by simp; omega
      clear hq1 hodd
      go_wp2
      go_round
      case rel => exact ⟨j + 1, q1, by omega, by go_num, rfl, H2⟩
      case measure => simp [intOf]; omega
    ·obtain rfl : j = 8 := by omega
     have H3 : Hid (q = Crc.run r0 (l.take (k + 1))) := by
      show q = _
      rw [Crc.run_take _ _ _ hlt, ← HR.out, ← HC.out, HQ.out, H1.out]; rfl
     go_wp2
     go_round
     case rel => exact ⟨k + 1, q, by omega, by go_num, rfl, H3⟩
     case measure => simp [intOf]; omega
  ·have hn := Crc.not_in r
   obtain ⟨r4, hr4⟩ : ∃ r4, r4 = ~~~ r := ⟨_, rfl⟩
   rw [← hr4] at hn
   have H4 : Hid (r4 = Crc.sum l) := by
    have := HR.out
    rw [List.take_of_length_le (by omega)] at this
    show _ = _
    rw [hr4, this, H0.out]; rfl
   clear hr4
   go_wp2
   go_ret
   exact ⟨ret_int (by rw [H4.out]), rfl⟩
theorem crcTab_of {W : World} (h : Lib.VarReads Tryz.prog W "changeover/crc.shifts" (Lib.tabData .u32 Crc.tab)) : CrcTab W := by
 obtain ⟨g, t, cs, fuel, p, hg, ht, hvar, hd⟩ := h
 have hty : (Tryz.prog.globals[0]?).map (·.type) = some 171 := by kernel_rfl
 have hgn : Tryz.prog.globalNamed "changeover/crc.shifts" = some 0 := by kernel_rfl
 obtain rfl := Option.some.inj (hgn.symm.trans hg)
 obtain rfl := Option.some.inj (hty.symm.trans ht)
 have e := Lib.cells_of_tab (n := 16) Tryz.underlying171 Tryz.underlying93 (by kernel_rfl) (by kernel_rfl) hd
 intro i hi
 have hT : Lib.TabIs Tryz.prog W "changeover/crc.shifts" .u32 Crc.tab := by unfold Lib.TabIs; rw [hvar, ← e]
 exact hT.cell hgn i hi
def sizeErr (n : Int) : Int := if n < 1 then 3 else if 65536 < n then 2 else 0
theorem sizeError_any (n : Int) (w : World) :
 Calls Tryz.prog 63 #[.int .i64 n] w fun e w' => e = .returned (.int .i64 (sizeErr n)) ∧ w = w' := by
 unfold sizeErr
 by_cases a : n < 1
 ·rw [if_pos a]
  go_enter Tryz.func63, Tryz.ntmps63
  go_wp2
  all_goals (go_ret; exact ⟨rfl, rfl⟩)
 ·rw [if_neg a]
  by_cases b : 65536 < n
  ·rw [if_pos b]
   go_enter Tryz.func63, Tryz.ntmps63
   go_wp2
   all_goals (go_ret; exact ⟨rfl, rfl⟩)
  ·rw [if_neg b]
   go_enter Tryz.func63, Tryz.ntmps63
   go_wp2
   all_goals (go_ret; exact ⟨rfl, rfl⟩)
theorem tail_any (v : Value) (l : List UInt8) (w : World) (hv : Reads w v l) (hT : CrcTab w) :
 Calls Tryz.prog 66 #[v] w (Makes w 5 (Frm.tail l)) := by
 obtain ⟨s, hs⟩ : ∃ s, s = (Crc.sum l).toNat := ⟨_, rfl⟩
 have hsl : s < 4294967296 := by rw [hs]; exact (Crc.sum l).isLt
 have ht : Frm.tail l = Frm.le s := by rw [hs]; rfl
 rw [ht]
 have HS := Lib.hid hs; clear hs ht
 go_enter Tryz.func66, Tryz.ntmps66
 go_wp2_with fail
 refine (crcSum_any _ _ _ hv hT).mono ?_
 rintro e w1 ⟨rfl, rfl⟩
 rw [← HS.out]
 go_wp2_with fail
 go_ret
 refine ⟨_, rfl, Owns.laid _ _ _ _ _ rfl ?_ (by decide), (Below.refl _ _).alloc (Nat.le_refl _) _⟩
 simp only [cellsOf, Frm.le, List.map_cons, List.map_nil, UInt8.toNat_ofNat']
 simp
 omega
theorem equal_any (v u : Value) (l m : List UInt8) (w : World) (hv : Reads w v l) (hu : Reads w u m) :
 Calls Tryz.prog 101 #[v, u] w fun e w' => e = .returned (.bool (l == m)) ∧ w = w' := by
 obtain ⟨ao, cap, rfl⟩ := hv.shape
 obtain ⟨ao2, cap2, rfl⟩ := hu.shape
 have c1 := run_string_of (P := Tryz.prog) l Tryz.underlying24 Tryz.underlying5 Tryz.underlying9 hv
 have c2 := run_string_of (P := Tryz.prog) m Tryz.underlying24 Tryz.underlying5 Tryz.underlying9 hu
 go_enter Tryz.func101, Tryz.ntmps101
 go_wp2
 go_ret
 exact ⟨ret_bool rfl, rfl⟩
theorem grow_any (n : Nat) (w : World) (h0 : 0 < n) (hn : n ≤ 140737488355328) :
 Calls Tryz.prog 97 #[.slice none 0 0, .int .i64 (n : Int)] w (Makes w 5 []) := by
 obtain ⟨i, hi, hz, hs, hb⟩ := info_parts info_u8
 obtain ⟨G, hG⟩ : ∃ G, G = grownCap w n 0 5 := ⟨_, rfl⟩
 have hG1 : n ≤ G := by rw [hG]; exact grownCap_ge w _ _ _
 have hG2 : G ≤ maxLen := by rw [hG]; exact grownCap_le_maxLen w _ _ _ (by unfold maxLen; omega)
 obtain ⟨C, hC⟩ : ∃ C : Array Value, C = (([] : List Value).toArray ++ Builtin.zeroCells (Value.int .u8 0).cells n ++ Builtin.zeroCells (Value.int .u8 0).cells (G - n)) := ⟨_, rfl⟩
 have hCs : C.size = G := by rw [hC]; simp [size_zeroCells, Value.cells]; omega
 have hrun : ∀ ty, (Builtin.append_ #[24, 3] ty #[.slice none 0 0, .int .i64 (n : Int)]).run Tryz.prog w = .ok (.slice (some ⟨w.heap.size, 0, none⟩) n G) (w.drew.alloc (.cells C 5)) := by
  intro ty
  have h := Lib.run_append_grow_zeros (P := Tryz.prog) w 24 3 ty 5 i (.int .u8 0) .i64 .i64 Tryz.underlying24 Tryz.underlying3 hi hz none 0 0 [] (run_firstCells_none w.drew i.size 0 0 0) n h0 (by omega) (by omega) (by omega) (by rw [hb]; omega) (by rw [Nat.zero_add, nextslicecap_zero (by omega), hb]; omega)
  rw [Nat.zero_add, ← hG, ← hC] at h
  exact h
 clear hG hC
 have hG3 : G ≤ 9223372036854775807 := by unfold maxLen at hG2; omega
 have hfin : Owns (w.drew.alloc (.cells C 5)) w.heap.size 5 (.slice (some ⟨w.heap.size, 0, none⟩) 0 G) [] := ⟨by simp [cellsOf], .inr ⟨w.heap.size, G, C, rfl, Nat.le_refl _, heap_alloc_new w.drew _, by simp, hG2, by omega, by simp [cellsOf]⟩⟩
 clear hCs hG2
 go_enter Tryz.func97, Tryz.ntmps97
 go_wp2_with (at_builtin; refine Lib.wpList_append_run _ rfl _ _ _ _ rfl _ _ rfl rfl _ _ (hrun _) ?_)
 all_goals
  go_ret
  exact ⟨_, rfl, hfin, (Below.refl _ _).drew.alloc (Nat.le_refl _) _⟩
end Go.Proofs.YteboceekcmchkaaGreatDoor

namespace Go.Proofs.YteboceekcmchkaaGreatDoor
open Go.RowKit
set_option maxHeartbeats 1600000
set_option maxRecDepth 4000
theorem flat_take {α : Type} {ls : List (List α)} {k : Nat} {l : List α} (h : ls[k]? = some l) : (ls.take (k + 1)).flatten = (ls.take k).flatten ++ l := by
 rw [List.take_add_one, h]; simp
theorem flat_len {α : Type} {ls : List (List α)} {k : Nat} {l : List α} (h : ls[k]? = some l) : (ls.take k).flatten.length + l.length ≤ ls.flatten.length := by
 have e := congrArg (fun x : List (List α) => x.flatten.length) (List.take_append_drop (k + 1) ls)
 simp only [List.flatten_append, List.length_append, flat_take h] at e
 omega
theorem concat_any (v : Value) (ls : List (List UInt8)) (w : World) (hv : ReadsL w v ls) (h0 : 0 < ls.flatten.length) (hlen : ls.flatten.length ≤ 140737488351232) :
 Calls Tryz.prog 64 #[v] w (Makes w 5 ls.flatten) := by
 obtain ⟨ao, cap, rfl, hc1, hc2⟩ := hv.shape
 have hpos : 0 < ls.length := by
  cases ls with
  | nil => simp at h0
  | cons _ _ => simp
 obtain ⟨b, off, rfl, hcell⟩ := hv.place hpos
 have HC := Lib.hid hcell
 clear hcell
 have H0 := Lib.hid h0; clear h0
 go_enter Tryz.func64, Tryz.ntmps64
 go_wp2
 go_loop [3, 11] (fun s i => ∃ k S : Nat, i = .int .i64 (k : Int) ∧ s = .int .i64 (S : Int) ∧ k ≤ ls.length ∧ S ≤ 140737488351232 ∧ Hid (S = (ls.take k).flatten.length)) (fun _ i => ls.length - (intOf i).toNat)
 case atStart => exact ⟨0, 0, rfl, rfl, by omega, by omega, show 0 = _ by simp⟩
 case round =>
  obtain ⟨k, S, rfl, rfl, hk, hS, HS⟩ := hrel
  by_cases hlt : k < ls.length
  ·obtain ⟨l, hl⟩ : ∃ l, ls[k]? = some l := ⟨_, List.getElem?_eq_getElem hlt⟩
   obtain ⟨u, hu, hr⟩ := HC.out k l hl
   obtain ⟨uo, ucap, rfl⟩ := hr.shape
   have hle := flat_len hl
   have H1 : Hid (S + l.length = (ls.take (k + 1)).flatten.length) := by show _ = _; rw [flat_take hl, List.length_append, HS.out]
   have hSl : S + l.length ≤ 140737488351232 := by have := HS.out; omega
   clear hr hl hle
   go_wp2
   go_round
   case rel => exact ⟨k + 1, S + l.length, by go_num, by go_num, by omega, hSl, H1⟩
   case measure => simp [intOf]; omega
  ·have hSv : Hid (S = ls.flatten.length) := by show _ = _; rw [HS.out, List.take_of_length_le (by omega)]
   have hS0 : 0 < S := by have := hSv.out; have := H0.out; omega
   clear HS
   go_wp2_with fail
   refine (grow_any S w hS0 (by omega)).mono ?_
   rintro e w1 ⟨v1, rfl, ho1, hb1⟩
   go_wp2_with fail
   go_loopw [6, 27] (fun x i wr => ∃ k : Nat, i = .int .i64 (k : Int) ∧ k ≤ ls.length ∧ Owns wr w.heap.size 5 x (ls.take k).flatten ∧ Below w.heap.size w wr) (fun _ i _ => ls.length - (intOf i).toNat)
   case atStart => exact ⟨0, rfl, by omega, by simpa using ho1, hb1⟩
   case round =>
    clear ho1 hb1
    obtain ⟨k, rfl, hk, ho, hb⟩ := hrel
    by_cases hlt : k < ls.length
    ·obtain ⟨l, hl⟩ : ∃ l, ls[k]? = some l := ⟨_, List.getElem?_eq_getElem hlt⟩
     obtain ⟨u, hu, hr⟩ := HC.out k l hl
     obtain ⟨uo, ucap, rfl⟩ := hr.shape
     have hle := flat_len hl
     have hu' : wr.cell? ⟨b, off + k, none⟩ = some (.slice uo l.length ucap) := (hb.cell (p := ⟨b, off + k, none⟩) (World.block_lt_of_cell? w _ hu)).trans hu
     have hr' := hr.below hb
     have hlen2 : (ls.take k).flatten.length + l.length ≤ 140737488355328 := by omega
     have H2 : Hid ((ls.take (k + 1)).flatten = (ls.take k).flatten ++ l) := flat_take hl
     clear hu hr hle hl
     go_wp2_with (at_builtin; refine append_bytes rfl _ _ 24 5 rfl Tryz.underlying24 info_u8 w.heap.size _ l _ _ rfl rfl ho hr' hlen2 w hb (Nat.le_refl _) ?_; intro v' w' ho' hb' _)
     go_roundw
     case rel => exact ⟨k + 1, by go_num, by omega, by rw [H2.out]; exact ho', hb'⟩
     case measure => simp [intOf]; omega
    ·rw [List.take_of_length_le (by omega)] at ho
     go_wp2
     go_ret
     exact ⟨_, rfl, ho, hb⟩
theorem add_ok (v u : Value) (l m : List UInt8) (w : World) (hv : Reads w v l) (hu : Reads w u m) (hT : CrcTab w) (h0 : 1 ≤ m.length) (h1 : m.length ≤ 65536) (hlen : l.length ≤ 140737488000000) :
 Calls Tryz.prog 35 #[v, u] w fun e w' => ∃ x, e = .returned (.tuple #[x, .int .i64 0]) ∧ Owns w' w.heap.size 5 x (l ++ Frm.frame m) ∧ Below w.heap.size w w' := by
 obtain ⟨ao, cap, rfl⟩ := hv.shape
 obtain ⟨uo, ucap, rfl⟩ := hu.shape
 have hs : sizeErr (m.length : Int) = 0 := by unfold sizeErr; rw [if_neg (by omega), if_neg (by omega)]
 have h9 := enc_nine (n := m.length) (by omega)
 obtain ⟨n, hn⟩ : ∃ n, n = m.length := ⟨_, rfl⟩
 rw [← hn] at h0 h1 hs
 have HS := Lib.hid hs; clear hs
 have HN := Lib.hid hn
 rw [← hn]
 go_enter Tryz.func35, Tryz.ntmps35
 clear hn
 go_wp2_with fail
 refine (sizeError_any n _).mono ?_
 rintro e w' ⟨rfl, rfl⟩
 rw [HS.out]
 go_wp2_with fail
 refine (put_any _ [] n _ (Reads.empty _) (by simp) (by omega) (by omega)).mono ?_
 rintro e w1 ⟨x1, rfl, ho1, hb1⟩
 rw [List.nil_append, Int.toNat_natCast] at ho1
 obtain ⟨x1o, x1c, rfl⟩ := ho1.reads.shape
 go_wp2_with fail
 refine (tail_any _ m _ (by rw [HN.out]; exact hu.below hb1) (hT.below hb1)).mono ?_
 rintro e w2 ⟨x2, rfl, ho2, hb2⟩
 obtain ⟨x2o, x2c, rfl⟩ := ho2.reads.shape
 have hb12 := on hb1 hb2
 have hL : ReadsL (w2.alloc (.cells #[.slice ao l.length cap, .slice x1o (enc n).length x1c, .slice uo n ucap, .slice x2o (Frm.tail m).length x2c] 24)) (.slice (some ⟨w2.heap.size, 0, none⟩) 4 4) [l, enc n, m, Frm.tail m] := by
  refine ReadsL.laid w2 _ _ _ 4 _ rfl rfl rfl (by omega) fun j a b ha hb => ?_
  match j with
  | 0 => simp at ha hb; subst ha hb; exact hv.below hb12
  | 1 => simp at ha hb; subst ha hb; exact ho1.reads.below hb2
  | 2 => simp at ha hb; subst ha hb; rw [HN.out]; exact hu.below hb12
  | 3 => simp at ha hb; subst ha hb; exact ho2.reads
  | j + 4 => simp at ha
 have hfl : [l, enc n, m, Frm.tail m].flatten = l ++ Frm.frame m := by unfold Frm.frame; rw [← HN.out]; simp
 have hfn : (l ++ Frm.frame m).length = l.length + ((enc n).length + n + 4) := by rw [List.length_append, Frm.frame_len, ← HN.out]
 have hle : (enc n).length ≤ 9 := by rw [HN.out]; exact h9
 have hc := concat_any _ _ _ hL (by rw [hfl, hfn]; omega) (by rw [hfl, hfn]; omega)
 rw [hfl] at hc
 clear hfl hfn hL
 go_wp2_with (go_at_call 64; refine hc.mono ?_; rintro e w3 ⟨x3, rfl, ho3, hb3⟩)
 go_ret2
 exact ⟨_, rfl, ho3.mono (by have := hb12.size; simp; omega), on hb12 (on ((Below.refl _ _).alloc (Nat.le_refl _) _) hb3)⟩
theorem le_take (s k : Nat) (hk : k < 4) : (Frm.le s).take (k + 1) = (Frm.le s).take k ++ [UInt8.ofNat (s / 256 ^ k)] := by
 match k, hk with
 | 0, _ => simp [Frm.le]
 | 1, _ => simp [Frm.le]
 | 2, _ => simp [Frm.le]
 | 3, _ => simp [Frm.le]
theorem refFrame_any (v : Value) (m : List UInt8) (w : World) (hv : Reads w v m) (hlen : m.length ≤ 140737488000000) :
 Calls Tryz.prog 30 #[v] w (Makes w 5 (Frm.frame m)) := by
 obtain ⟨ao, cap, rfl⟩ := hv.shape
 have h9 := enc_nine (n := m.length) (by omega)
 go_enter Tryz.func30, Tryz.ntmps30
 go_wp2_with fail
 refine (bytes_any m.length _ (by omega) (by omega)).mono ?_
 rintro e w1 ⟨x1, rfl, ho1, hb1⟩
 rw [Int.toNat_natCast] at ho1
 go_wp2_with (at_builtin; refine append_bytes rfl _ _ 24 5 rfl Tryz.underlying24 info_u8 w.heap.size _ m _ _ rfl rfl ho1 (hv.below hb1) (by omega) w hb1 (Nat.le_refl _) ?_; intro x2 w2 ho2 hb2 _)
 go_wp2_with fail
 refine (refSum_any _ m _ (hv.below hb2)).mono ?_
 rintro e w3 ⟨rfl, rfl⟩
 obtain ⟨s, hs⟩ : ∃ s, s = (Crc.sum m).toNat := ⟨_, rfl⟩
 have hsl : s < 4294967296 := by rw [hs]; exact (Crc.sum m).isLt
 rw [← hs]
 have HS : Hid (Frm.tail m = Frm.le s) := by show _ = _; rw [hs]; rfl
 clear hs ho1 hb1
 go_wp2_with fail
 go_loopw [3, 4, 5] (fun x s' i wr => ∃ k q : Nat, i = .int .i64 (k : Int) ∧ s' = .int .u32 (q : Int) ∧ k ≤ 4 ∧ q < 4294967296 ∧ Hid (q = s / 256 ^ k) ∧ Owns wr w.heap.size 5 x (enc m.length ++ m ++ (Frm.le s).take k) ∧ Below w.heap.size w wr) (fun _ _ i _ => 4 - (intOf i).toNat)
 case atStart => exact ⟨0, s, rfl, rfl, by omega, hsl, show s = s / 256 ^ 0 by simp, by simpa using ho2, hb2⟩
 case round =>
  clear ho2 hb2
  obtain ⟨k, q, rfl, rfl, hk, hq, HQ, ho, hb⟩ := hrel
  by_cases hk4 : k < 4
  ·have hsz := hb.size
   have hl2 : (enc m.length ++ m ++ (Frm.le s).take k).length + 1 ≤ 140737488355328 := by simp; omega
   have H2 : Hid ((Frm.le s).take (k + 1) = (Frm.le s).take k ++ [UInt8.ofNat q]) := by show _ = _; rw [le_take s k hk4, HQ.out]
   have H3 : Hid (q / 256 = s / 256 ^ (k + 1)) := by show _ = _; rw [HQ.out, Nat.div_div_eq_div_mul, Nat.pow_succ]
   go_wp2_with (at_builtin; refine append_bytes rfl _ _ 24 5 rfl Tryz.underlying24 info_u8 w.heap.size _ [UInt8.ofNat q] _ _ rfl rfl (ho.alloc _) (Reads.one _ _ _ _ (by rw [UInt8.toNat_ofNat']; omega)) hl2 w (hb.alloc (by omega) _) (Nat.le_refl _) ?_; intro x' w' ho' hb' _)
   go_roundw
   case rel => exact ⟨k + 1, q / 256, by go_num, by go_num, by omega, by omega, H3, by rw [H2.out, ← List.append_assoc]; exact ho', hb'⟩
   case measure => simp [intOf]; omega
  ·rw [List.take_of_length_le (by rw [Frm.le_len]; omega)] at ho
   go_wp2
   go_ret
   exact ⟨_, rfl, by unfold Frm.frame; rw [HS.out]; exact ho, hb⟩
theorem Reads.cut {w : World} {b off n cap : Nat} {l : List UInt8} (h : Reads w (.slice (some ⟨b, off, none⟩) n cap) l) (f k : Nat) (hk : f + k ≤ l.length) : Reads w (.slice (some ⟨b, off + f, none⟩) k (cap - f)) ((l.drop f).take k) := by
 obtain ⟨ao', cap', hv, h1, h2, h3, h4⟩ := h
 simp only [Value.slice.injEq] at hv
 obtain ⟨rfl, rfl, rfl⟩ := hv
 have e : ((l.drop f).take k).length = k := by simp; omega
 refine ⟨some ⟨b, off + f, none⟩, cap - f, by rw [e], by rw [e]; omega, by omega, (fun h => by cases h), fun x hx j u hu => ?_⟩
 cases hx
 have := h4 _ rfl (f + j) u (by
  simp only [cellsOf, List.getElem?_map, List.getElem?_take, List.getElem?_drop] at hu ⊢
  split at hu
  ·exact hu
  ·simp at hu)
 rw [Addr.add_lit] at this ⊢
 rw [Nat.add_assoc]; exact this
def Parts (w : World) (vb : Value) (l : List UInt8) (r : List UInt8 × Int × Int) (e : Ending) (w' : World) : Prop :=
 ∃ v, e = .returned (.tuple #[v, .int .i64 r.2.1, .int .i64 r.2.2]) ∧ (∀ w0, Reads w0 vb l → Reads w0 v r.1) ∧ Below w.heap.size w w'
theorem Parts.none (w : World) (vb : Value) (l : List UInt8) (e : Int) (w' : World) (h : Below w.heap.size w w') : Parts w vb l ([], 0, e) (.returned (.tuple #[.slice none 0 0, .int .i64 0, .int .i64 e])) w' :=
 ⟨_, rfl, fun w0 _ => Reads.empty w0, h⟩
def Fresh (w : World) (r : List UInt8 × Int × Int) (e : Ending) (w' : World) : Prop :=
 ∃ v, e = .returned (.tuple #[v, .int .i64 r.2.1, .int .i64 r.2.2]) ∧ Owns w' w.heap.size 5 v r.1 ∧ Below w.heap.size w w'
theorem Fresh.none (w : World) (e : Int) (w' : World) (h : Below w.heap.size w w') : Fresh w ([], 0, e) (.returned (.tuple #[.slice none 0 0, .int .i64 0, .int .i64 e])) w' :=
 ⟨_, rfl, Owns.empty _ _ _, h⟩
theorem next_any (v : Value) (l : List UInt8) (pl : Int) (w : World) (hv : Reads w v l) (hT : CrcTab w) (hlen : l.length ≤ 140737487000000) :
 Calls Tryz.prog 68 #[v, .int .i64 pl] w (Fresh w (Frm.next l pl)) := by
 obtain ⟨ao, cap, rfl⟩ := hv.shape
 obtain ⟨_, hc1, hc2, _⟩ := hv.len
 rcases Frm.next_cases l pl with ⟨e, he, hg, hn⟩ | ⟨p, n, c, rfl, h2, h3, h4, hg, h5, hcase⟩
 ·rw [hn]
  have HG := Lib.hid hg; clear hg hn
  go_enter Tryz.func68, Tryz.ntmps68
  go_wp2_with fail
  refine (get_is _ l pl _ _ _ _ hv HG).mono ?_
  rintro e' w' ⟨rfl, rfl⟩
  go_wp2_with fail
  go_ret3
  exact Fresh.none _ _ _ (Below.refl _ _)
 ·have HG := Lib.hid hg; clear hg h5
  obtain ⟨f, hf⟩ : ∃ f, f = p + c := ⟨_, rfl⟩
  rw [← hf] at h2 HG hcase
  have hpf : p < f := by omega
  clear hf
  have hs0 : sizeErr (n : Int) = 3 ∧ n = 0 ∨ sizeErr (n : Int) = 2 ∧ 65536 < n ∨ sizeErr (n : Int) = 0 ∧ 0 < n ∧ n ≤ 65536 := by unfold sizeErr; split; omega; split <;> omega
  rcases hcase with ⟨h0, hn⟩ | ⟨h0, hn⟩ | ⟨h0, h1, ⟨hs, hn⟩ | ⟨hs, hcase⟩⟩
  ·rw [hn]; clear hn hs0
   subst h0
   have HS : Hid (sizeErr 0 = 3) := rfl
   go_enter Tryz.func68, Tryz.ntmps68
   go_wp2_with fail
   refine (get_is _ l p _ _ _ _ hv HG).mono ?_
   rintro e' w' ⟨rfl, rfl⟩
   go_wp2_with fail
   refine (sizeError_any _ _).mono ?_
   rintro e' w' ⟨rfl, rfl⟩
   rw [HS.out]
   go_wp2_with fail
   go_ret3
   exact Fresh.none _ _ _ (Below.refl _ _)
  ·rw [hn]; clear hn
   have HS : Hid (sizeErr (n : Int) = 2) := by show _ = _; omega
   clear hs0
   go_enter Tryz.func68, Tryz.ntmps68
   go_wp2_with fail
   refine (get_is _ l p _ _ _ _ hv HG).mono ?_
   rintro e' w' ⟨rfl, rfl⟩
   go_wp2_with fail
   refine (sizeError_any _ _).mono ?_
   rintro e' w' ⟨rfl, rfl⟩
   rw [HS.out]
   go_wp2_with fail
   go_ret3
   exact Fresh.none _ _ _ (Below.refl _ _)
  ·rw [hn]; clear hn
   have HS : Hid (sizeErr (n : Int) = 0) := by show _ = _; omega
   clear hs0
   go_enter Tryz.func68, Tryz.ntmps68
   go_wp2_with fail
   refine (get_is _ l p _ _ _ _ hv HG).mono ?_
   rintro e' w' ⟨rfl, rfl⟩
   go_wp2_with fail
   refine (sizeError_any _ _).mono ?_
   rintro e' w' ⟨rfl, rfl⟩
   rw [HS.out]
   go_wp2_with fail
   go_ret3
   exact Fresh.none _ _ _ (Below.refl _ _)
  ·obtain ⟨b, off, rfl, _⟩ := hv.place (by omega)
   have hr1 := hv.cut f n (by omega)
   have hr2 := hv.cut (f + n) 4 (by omega)
   have hfc : ¬ cap = f := by omega
   have hfn : ¬ cap = f + n := by omega
   have hl1 : ((l.drop f).take n).length ≤ 140737488000000 := by simp; omega
   have HL := Lib.hid hl1
   have HS : Hid (sizeErr (n : Int) = 0) := by show _ = _; omega
   clear hs0 hl1
   have hw : ∀ {t : Bool} {r : List UInt8 × Int × Int}, Hid (((l.drop (f + n)).take 4 == Frm.tail ((l.drop f).take n)) = t) →
    (∀ (w2 : World), Below w.heap.size w w2 → if t = true then ∀ x, Owns w2 w.heap.size 5 x ((l.drop f).take n) → Fresh w r (.returned (.tuple #[x, .int .i64 ((f : Int) + (n : Int) + 4), .int .i64 0])) w2
      else Fresh w r (.returned (.tuple #[.slice none 0 0, .int .i64 0, .int .i64 4])) w2) →
    Calls Tryz.prog 68 #[.slice (some ⟨b, off, none⟩) l.length cap, .int .i64 (p : Int)] w (Fresh w r) := by
    intro t r HT hP
    have HP := Lib.hid hP; clear hP
    go_enter Tryz.func68, Tryz.ntmps68
    go_wp2_with fail
    refine (get_is _ l p _ _ _ _ hv HG).mono ?_
    rintro e' w' ⟨rfl, rfl⟩
    go_wp2_with fail
    refine (sizeError_any _ _).mono ?_
    rintro e' w' ⟨rfl, rfl⟩
    rw [HS.out]
    go_wp2_with fail
    go_region_with (first
     | (go_at_call 66; refine (tail_any _ ((l.drop f).take n) _ ?h1 ?h2).mono ?_; (case h1 => exact hr1); (case h2 => exact hT); rintro e' w1 ⟨x1, rfl, ho1, hb1⟩; obtain ⟨x1o, x1c, rfl⟩ := ho1.reads.shape)
     | (go_at_call 101; refine (equal_any _ _ ((l.drop (f + n)).take 4) (Frm.tail ((l.drop f).take n)) _ ?h1 ?h2).mono ?_; (case h1 => exact hr2.below (on (Below.refl _ w).drew hb1)); (case h2 => exact ho1.reads); rintro e' w2 ⟨rfl, rfl⟩; rw [HT.out]))
    all_goals
     have hB := on (Below.refl w.heap.size w).drew hb1
     cases t with
     | true =>
      go_wp2_with fail
      refine (clone_any _ ((l.drop f).take n) _ (hr1.below hB) (by have := HL.out; omega)).mono ?_
      rintro e' w3 ⟨x3, rfl, ho3, hb3⟩
      go_wp2_with fail
      go_ret3
      have hP := HP.out w3 (on hB hb3)
      simp only [if_true] at hP
      exact hP x3 (ho3.mono hB.size)
     | false =>
      go_wp2_with fail
      go_ret3
      have hP := HP.out _ hB
      rw [if_neg (by simp)] at hP
      exact hP
   rcases hcase with ⟨he, hn⟩ | ⟨he, hn⟩
   ·rw [hn]
    refine hw (t := true) (by show _ = _; simpa using he) fun w2 hb2 => ?_
    rw [if_pos rfl]
    exact fun x hx => ⟨x, by simp, hx, hb2⟩
   ·rw [hn]
    refine hw (t := false) (by show _ = _; simpa using he) fun w2 hb2 => ?_
    rw [if_neg (by simp)]
    exact Fresh.none _ _ _ hb2
end Go.Proofs.YteboceekcmchkaaGreatDoor
