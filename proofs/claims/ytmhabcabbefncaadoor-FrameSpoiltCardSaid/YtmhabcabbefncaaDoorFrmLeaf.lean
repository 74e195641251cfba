/- frame's small functions, and what it calls of the library: bytes.Equal, slices.Clone, slices.Grow at nil. -/
import Derived.Test.YtmhabcabbefncaaDoorRows
import Derived.Test.YtmhabcabbefncaaDoorMem
import Derived.Test.YtmhabcabbefncaaDoorFrmMath
import Derived.Test.YtmhabcabbefncaaDoorPut
import Derived.Test.YtmhabcabbefncaaDoorCrcAdd
import Derived.Lib.AppendZerosOnto
import Derived.Lib.SliceRun
namespace Go.Proofs.YtmhabcabbefncaaDoor
open Go.RowKit

/-- A literal of bytes, just laid. -/
theorem Owns.laid (w : World) (E : TypeId) (l : List UInt8) (n : Nat) (cs : Array Value) (hn : n = l.length) (hc : cs.toList = cellsOf l) (hm : n ≤ 9223372036854775807) : Owns (w.alloc (.cells cs E)) w.heap.size E (.slice (some ⟨w.heap.size, 0, none⟩) n n) l := by
  subst hn
  have hs : cs.size = l.length := by rw [← Array.length_toList, hc, cellsOf_len]
  refine ⟨by simp [cellsOf_len], .inr ⟨w.heap.size, l.length, cs, rfl, Nat.le_refl _, heap_alloc_new w _, Nat.le_refl _, by unfold maxLen; omega, by simpa using hs, ?_⟩⟩
  rw [hc, List.take_of_length_le (by rw [cellsOf_len]; omega)]

/-- What a frame's size may be. -/
def sizeErr (n : Int) : Int := if n < 1 then 3 else if 65536 < n then 2 else 0

set_option maxRecDepth 4000 in
set_option maxHeartbeats 400000 in
theorem sizeError_any (n : Int) (w : World) :
    Calls Tryd.prog 17 #[.int .i64 n] w fun e w' => e = .returned (.int .i64 (sizeErr n)) ∧ w = w' := by
  unfold sizeErr
  by_cases a : n < 1
  · rw [if_pos a]
    go_enter Tryd.func17, Tryd.ntmps17
    go_wp2
    all_goals (go_ret; exact ⟨rfl, rfl⟩)
  · rw [if_neg a]
    by_cases b : 65536 < n
    · rw [if_pos b]
      go_enter Tryd.func17, Tryd.ntmps17
      go_wp2
      all_goals (go_ret; exact ⟨rfl, rfl⟩)
    · rw [if_neg b]
      go_enter Tryd.func17, Tryd.ntmps17
      go_wp2
      all_goals (go_ret; exact ⟨rfl, rfl⟩)

/-- Len's answer. -/
def frmLen (n : Nat) : Nat := if n < 1 ∨ 65536 < n then 0 else (enc n).length + n + 4

set_option maxRecDepth 4000 in
set_option maxHeartbeats 400000 in
theorem frmLen_any (n : Nat) (w : World) (h1 : n ≤ 9223372036854775807) :
    Calls Tryd.prog 9 #[.int .i64 (n : Int)] w fun e w' => e = .returned (.int .i64 (frmLen n : Int)) ∧ w = w' := by
  have h9 := enc_nine h1
  unfold frmLen
  by_cases a : n < 1 ∨ 65536 < n
  · rw [if_pos a]
    obtain ⟨s, hs⟩ : ∃ s, s = sizeErr n := ⟨_, rfl⟩
    have hs0 : s = 3 ∨ s = 2 := by rw [hs]; unfold sizeErr; split; exact .inl rfl; split; exact .inr rfl; omega
    have HS := Lib.hid hs; clear hs
    go_enter Tryd.func9, Tryd.ntmps9
    go_wp2_with fail
    refine (sizeError_any n _).mono ?_
    rintro e w' ⟨rfl, rfl⟩
    rw [← HS.out]
    rcases hs0 with rfl | rfl
    all_goals
      go_wp2_with fail
      go_ret
      exact ⟨rfl, rfl⟩
  · rw [if_neg a]
    have hs : sizeErr n = 0 := by unfold sizeErr; rw [if_neg (by omega), if_neg (by omega)]
    obtain ⟨k, hk⟩ : ∃ k : Nat, k = (enc n).length := ⟨_, rfl⟩
    have hk9 : k ≤ 9 := by omega
    rw [← hk]
    have HK := Lib.hid hk; clear hk h9
    have HS := Lib.hid hs; clear hs
    go_enter Tryd.func9, Tryd.ntmps9
    go_wp2_with fail
    refine (sizeError_any n _).mono ?_
    rintro e w' ⟨rfl, rfl⟩
    rw [HS.out]
    go_wp2_with fail
    refine (len_is n _ n k rfl (by omega) HK).mono ?_
    rintro e w' ⟨rfl, rfl⟩
    go_wp2_with fail
    go_ret
    exact ⟨ret_int (by omega), rfl⟩

set_option maxRecDepth 4000 in
set_option maxHeartbeats 400000 in
theorem tail_any (v : Value) (l : List UInt8) (w : World) (hv : Reads w v l) (hT : CrcTab w) :
    Calls Tryd.prog 20 #[v] w (Makes w 5 (Frm.tail l)) := by
  obtain ⟨s, hs⟩ : ∃ s, s = (Crc.sum l).toNat := ⟨_, rfl⟩
  have hsl : s < 4294967296 := by rw [hs]; exact (Crc.sum l).isLt
  have ht : Frm.tail l = Frm.le s := by rw [hs]; rfl
  rw [ht]
  have HS := Lib.hid hs; clear hs ht
  go_enter Tryd.func20, Tryd.ntmps20
  go_wp2_with fail
  refine (crcSum_any _ _ _ hv hT).mono ?_
  rintro e w1 ⟨rfl, rfl⟩
  rw [← HS.out]
  go_wp2_with fail
  go_ret
  refine ⟨_, rfl, Owns.laid _ _ _ _ _ rfl ?_ (by decide), (Below.refl _ _).alloc (Nat.le_refl _) _⟩
  simp only [cellsOf, Frm.le, List.map_cons, List.map_nil, UInt8.toNat_ofNat']
  simp
  omega

set_option maxRecDepth 4000 in
set_option maxHeartbeats 400000 in
theorem equal_any (v u : Value) (l m : List UInt8) (w : World) (hv : Reads w v l) (hu : Reads w u m) :
    Calls Tryd.prog 25 #[v, u] w fun e w' => e = .returned (.bool (l == m)) ∧ w = w' := by
  obtain ⟨ao, cap, rfl⟩ := hv.shape
  obtain ⟨ao2, cap2, rfl⟩ := hu.shape
  have c1 := run_string_of (P := Tryd.prog) l Tryd.underlying22 Tryd.underlying5 Tryd.underlying9 hv
  have c2 := run_string_of (P := Tryd.prog) m Tryd.underlying22 Tryd.underlying5 Tryd.underlying9 hu
  go_enter Tryd.func25, Tryd.ntmps25
  go_wp2
  go_ret
  exact ⟨ret_bool rfl, rfl⟩

set_option maxRecDepth 4000 in
set_option maxHeartbeats 400000 in
theorem clone_any (v : Value) (l : List UInt8) (w : World) (hv : Reads w v l) (hlen : l.length ≤ 140737488351232) :
    Calls Tryd.prog 26 #[v] w (Makes w 5 l) := by
  have hq : ∀ (w : World) (a : Option Addr) (n c n' c' : Nat), (binOp .eql 22 (.slice a n c) (.slice none n' c')).run Tryd.prog w = .ok (.bool a.isNone) w := fun w a n c n' c' => Lib.run_eql_slice_nil w _ _ a n c n' c' Tryd.underlying22
  obtain ⟨ao, cap, rfl⟩ := hv.shape
  have hnil := hv.len.2.2.2
  have hcap := hv.len.2.1
  have hv0 := hv.below ((Below.refl w.heap.size w).alloc (Nat.le_refl _) (.cells #[] 5))
  cases ao with
  | none =>
    obtain rfl : cap = 0 := hnil rfl
    obtain rfl : l = [] := List.eq_nil_of_length_eq_zero (by omega)
    go_enter Tryd.func26, Tryd.ntmps26
    go_wp2
    go_ret
    exact ⟨_, rfl, Owns.empty _ _ _, Below.refl _ _⟩
  | some x =>
    go_enter Tryd.func26, Tryd.ntmps26
    go_wp2_with (at_builtin; refine append_bytes rfl _ _ 22 5 rfl Tryd.underlying22 info_u8 w.heap.size [] l _ _ rfl rfl (Owns.lit0 w _) hv0 (by simp; omega) w ((Below.refl w.heap.size w).alloc (Nat.le_refl _) _) (Nat.le_refl _) ?_; intro v1 w1 ho1 hb1 _; rw [List.nil_append] at ho1)
    go_ret
    exact ⟨_, rfl, ho1, hb1⟩

set_option maxRecDepth 4000 in
set_option maxHeartbeats 400000 in
theorem grow_any (n : Nat) (w : World) (h0 : 0 < n) (hn : n ≤ 140737488355328) :
    Calls Tryd.prog 29 #[.slice none 0 0, .int .i64 (n : Int)] w (Makes w 5 []) := by
  obtain ⟨i, hi, hz, hs, hb⟩ := info_parts info_u8
  obtain ⟨G, hG⟩ : ∃ G, G = grownCap w n 0 5 := ⟨_, rfl⟩
  have hG1 : n ≤ G := by rw [hG]; exact grownCap_ge w _ _ _
  have hG2 : G ≤ maxLen := by rw [hG]; exact grownCap_le_maxLen w _ _ _ (by unfold maxLen; omega)
  obtain ⟨C, hC⟩ : ∃ C : Array Value, C = (([] : List Value).toArray ++ Builtin.zeroCells (Value.int .u8 0).cells n ++ Builtin.zeroCells (Value.int .u8 0).cells (G - n)) := ⟨_, rfl⟩
  have hCs : C.size = G := by rw [hC]; simp [size_zeroCells, Value.cells]; omega
  have hrun : ∀ ty, (Builtin.append_ #[22, 3] ty #[.slice none 0 0, .int .i64 (n : Int)]).run Tryd.prog w = .ok (.slice (some ⟨w.heap.size, 0, none⟩) n G) (w.drew.alloc (.cells C 5)) := by
    intro ty
    have h := Lib.run_append_grow_zeros (P := Tryd.prog) w 22 3 ty 5 i (.int .u8 0) .i64 .i64 Tryd.underlying22 Tryd.underlying3 hi hz none 0 0 [] (run_firstCells_none w.drew i.size 0 0 0) n h0 (by omega) (by omega) (by omega) (by rw [hb]; omega) (by rw [Nat.zero_add, nextslicecap_zero (by omega), hb]; omega)
    rw [Nat.zero_add, ← hG, ← hC] at h
    exact h
  clear hG hC
  have hG3 : G ≤ 9223372036854775807 := by unfold maxLen at hG2; omega
  have hfin : Owns (w.drew.alloc (.cells C 5)) w.heap.size 5 (.slice (some ⟨w.heap.size, 0, none⟩) 0 G) [] := ⟨by simp [cellsOf], .inr ⟨w.heap.size, G, C, rfl, Nat.le_refl _, heap_alloc_new w.drew _, by simp, hG2, by omega, by simp [cellsOf]⟩⟩
  clear hCs hG2
  go_enter Tryd.func29, Tryd.ntmps29
  go_wp2_with (at_builtin; refine Lib.wpList_append_run _ rfl _ _ _ _ rfl _ _ rfl rfl _ _ (hrun _) ?_)
  all_goals
    go_ret
    exact ⟨_, rfl, hfin, (Below.refl _ _).drew.alloc (Nat.le_refl _) _⟩
end Go.Proofs.YtmhabcabbefncaaDoor
