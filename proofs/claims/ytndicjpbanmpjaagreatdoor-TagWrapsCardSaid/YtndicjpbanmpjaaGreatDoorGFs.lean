/- Several texts of mine in one: CrcAdd CrcRef CrcTab FrmLeaf RefGet. -/
import Derived.Test.YtndicjpbanmpjaaGreatDoorRows
import Derived.Test.YtndicjpbanmpjaaGreatDoorKit
import Derived.Test.YtndicjpbanmpjaaGreatDoorGFr
import Derived.Lib.LaidU8
import Derived.Test.YtndicjpbanmpjaaGreatDoorApp
import Derived.Test.YtndicjpbanmpjaaGreatDoorMem
import Derived.Test.YtndicjpbanmpjaaGreatDoorGNum
import Derived.Test.YtndicjpbanmpjaaGreatDoorClone
import Derived.Lib.AppendZerosOnto
import Derived.Lib.SliceRun
namespace Go.Proofs.YtndicjpbanmpjaaGreatDoor
open Go.RowKit

/-- The table of crc holds its sixteen constants. -/
def CrcTab (w : World) : Prop := ∀ i, i < 16 → w.cell? ⟨1, i, none⟩ = some (.int .u32 (Crc.tab.getD i 0))
theorem CrcTab.below {w w' : World} (h : CrcTab w) (hb : Below w.heap.size w w') : CrcTab w' := fun i hi => by
  rw [hb.cell (World.block_lt_of_cell? w _ (h i hi))]; exact h i hi

set_option maxRecDepth 4000 in
set_option maxHeartbeats 800000 in
theorem crcAdd_any (s : Crc.R) (v : Value) (l : List UInt8) (w : World) (hv : Reads w v l) (hT : CrcTab w) :
    Calls Tryz.prog 84 #[.int .u32 (s.toNat : Int), v] w fun e w' => e = .returned (.int .u32 ((Crc.add s l).toNat : Int)) ∧ w = w' := by
  obtain ⟨ao, cap, rfl⟩ := hv.shape
  obtain ⟨_, hl1, hl2, _⟩ := hv.len
  have hs := s.isLt
  have HT := Lib.hid hT; clear hT
  have hn := Crc.not_is s
  obtain ⟨s', hs'⟩ : ∃ s', s' = ~~~ s := ⟨_, rfl⟩
  rw [← hs'] at hn
  have HS := Lib.hid hs'; clear hs'
  have hsl := s'.isLt
  go_enter Tryz.func84, Tryz.ntmps84
  go_wp2
  clear hn
  go_loop [5, 12] (fun x i => ∃ (k : Nat) (r : Crc.R), k ≤ l.length ∧ i = .int .i64 (k : Int) ∧ x = .int .u32 (r.toNat : Int) ∧ Hid (r = Crc.run s' (l.take k))) (fun _ i => l.length - (intOf i).toNat)
  case atStart => exact ⟨0, s', by omega, rfl, rfl, rfl⟩
  case round =>
    obtain ⟨k, r, hk, rfl, rfl, HR⟩ := hrel
    have hrl := r.isLt
    by_cases hlt : k < l.length
    · obtain ⟨b, off, rfl, hc⟩ := hv.place (by omega)
      obtain ⟨c, hlc⟩ : ∃ c, c = l[k] := ⟨_, rfl⟩
      have hc1 := hc k c (by rw [hlc]; exact List.getElem?_eq_getElem hlt)
      have HC := Lib.hid hlc
      clear hc hlc
      have hcb := c.toNat_lt
      have e1 := Crc.byte_in r c
      obtain ⟨r1, hr1⟩ : ∃ r1, r1 = r ^^^ Crc.wide c := ⟨_, rfl⟩
      rw [← hr1] at e1
      obtain ⟨j1, hj1, e2, t1, ht1, hg1, e3⟩ := Crc.four_bits r1
      obtain ⟨r2, hr2⟩ : ∃ r2, r2 = Crc.steps 4 r1 := ⟨_, rfl⟩
      rw [← hr2] at e3
      obtain ⟨j2, hj2, e4, t2, ht2, hg2, e5⟩ := Crc.four_bits r2
      obtain ⟨r3, hr3⟩ : ∃ r3, r3 = Crc.steps 4 r2 := ⟨_, rfl⟩
      rw [← hr3] at e5
      have c1 := HT.out j1 hj1
      have c2 := HT.out j2 hj2
      rw [hg1] at c1
      rw [hg2] at c2
      have b1 := r1.isLt
      have b2 := r2.isLt
      have b3 := r3.isLt
      have H3 : Hid (r3 = Crc.run s' (l.take (k + 1))) := by
        show r3 = _
        rw [Crc.run_take _ _ _ hlt, ← HR.out, ← HC.out, Crc.upd_eight, ← hr1, ← hr2, ← hr3]
      clear hg1 hg2 hr1 hr2 hr3
      go_wp2
      go_round
      case rel => exact ⟨k + 1, r3, by omega, by go_num, rfl, H3⟩
      case measure => simp [intOf]; omega
    · have hn := Crc.not_is r
      obtain ⟨r4, hr4⟩ : ∃ r4, r4 = ~~~ r := ⟨_, rfl⟩
      rw [← hr4] at hn
      have H4 : Hid (r4 = Crc.add s l) := by
        have := HR.out
        rw [List.take_of_length_le (by omega)] at this
        show _ = _
        rw [hr4, this, HS.out]; rfl
      clear hr4
      go_wp2
      go_ret
      exact ⟨ret_int (by rw [H4.out]), rfl⟩

theorem crcSum_any (v : Value) (l : List UInt8) (w : World) (hv : Reads w v l) (hT : CrcTab w) :
    Calls Tryz.prog 63 #[v] w fun e w' => e = .returned (.int .u32 ((Crc.sum l).toNat : Int)) ∧ w = w' := by
  go_enter Tryz.func63, Tryz.ntmps63
  go_wp2_with (go_at_call 84; refine (crcAdd_any 0#32 _ l _ hv hT).mono ?_; rintro e w' ⟨rfl, rfl⟩)
  go_ret
  exact ⟨rfl, rfl⟩
end Go.Proofs.YtndicjpbanmpjaaGreatDoor


namespace Go.Proofs.YtndicjpbanmpjaaGreatDoor
open Go.RowKit

set_option maxRecDepth 4000 in
set_option maxHeartbeats 800000 in
theorem refSum_any (v : Value) (l : List UInt8) (w : World) (hv : Reads w v l) :
    Calls Tryz.prog 50 #[v] w fun e w' => e = .returned (.int .u32 ((Crc.sum l).toNat : Int)) ∧ w = w' := by
  obtain ⟨ao, cap, rfl⟩ := hv.shape
  obtain ⟨_, hl1, hl2, _⟩ := hv.len
  obtain ⟨r0, hr0⟩ : ∃ r0 : Crc.R, r0 = ~~~ 0#32 := ⟨_, rfl⟩
  have hz : (4294967295 : Int) = (r0.toNat : Int) := by rw [hr0]; rfl
  have H0 := Lib.hid hr0; clear hr0
  have HZ := Lib.hid hz; clear hz
  go_enter Tryz.func50, Tryz.ntmps50
  go_wp2
  go_loop [3, 4] (fun x i => ∃ (k : Nat) (r : Crc.R), k ≤ l.length ∧ i = .int .i64 (k : Int) ∧ x = .int .u32 (r.toNat : Int) ∧ Hid (r = Crc.run r0 (l.take k))) (fun _ i => l.length - (intOf i).toNat)
  case atStart => exact ⟨0, r0, by omega, rfl, by rw [← HZ.out], rfl⟩
  case round =>
    obtain ⟨k, r, hk, rfl, rfl, HR⟩ := hrel
    have hrl := r.isLt
    by_cases hlt : k < l.length
    · obtain ⟨b, off, rfl, hc⟩ := hv.place (by omega)
      obtain ⟨c, hlc⟩ : ∃ c, c = l[k] := ⟨_, rfl⟩
      have hc1 := hc k c (by rw [hlc]; exact List.getElem?_eq_getElem hlt)
      have HC := Lib.hid hlc
      clear hc hlc
      have hcb := c.toNat_lt
      have e1 := Crc.byte_in r c
      obtain ⟨r1, hr1⟩ : ∃ r1, r1 = r ^^^ Crc.wide c := ⟨_, rfl⟩
      rw [← hr1] at e1
      have H1 := Lib.hid hr1; clear hr1
      have b1 := r1.isLt
      go_wp2
      clear e1
      go_loop [3, 5] (fun x i => ∃ (j : Nat) (q : Crc.R), j ≤ 8 ∧ i = .int .i64 (j : Int) ∧ x = .int .u32 (q.toNat : Int) ∧ Hid (q = Crc.steps j r1)) (fun _ i => 8 - (intOf i).toNat)
      case atStart => exact ⟨0, r1, by omega, rfl, rfl, rfl⟩
      case round =>
        obtain ⟨j, q, hj, rfl, rfl, HQ⟩ := hrel
        have bq := q.isLt
        by_cases hj8 : j < 8
        · have H2 : Hid (Crc.step q = Crc.steps (j + 1) r1) := by
            show _ = _
            rw [Crc.steps_snoc, ← HQ.out]
          by_cases hodd : q.toNat % 2 = 1
          · have e3 := Crc.step_odd q hodd
            obtain ⟨q1, hq1⟩ : ∃ q1, q1 = Crc.step q := ⟨_, rfl⟩
            rw [← hq1] at e3 H2
            have ho : ((q.toNat : Int) % 2 == 1) = true := by simp; omega
            clear hq1 hodd
            go_wp2
            go_round
            case rel => exact ⟨j + 1, q1, by omega, by go_num, rfl, H2⟩
            case measure => simp [intOf]; omega
          · have e3 := Crc.step_evn q (by omega)
            obtain ⟨q1, hq1⟩ : ∃ q1, q1 = Crc.step q := ⟨_, rfl⟩
            rw [← hq1] at e3 H2
            have ho : ((q.toNat : Int) % 2 == 1) = false := by simp; omega
            clear hq1 hodd
            go_wp2
            go_round
            case rel => exact ⟨j + 1, q1, by omega, by go_num, rfl, H2⟩
            case measure => simp [intOf]; omega
        · obtain rfl : j = 8 := by omega
          have H3 : Hid (q = Crc.run r0 (l.take (k + 1))) := by
            show q = _
            rw [Crc.run_take _ _ _ hlt, ← HR.out, ← HC.out, HQ.out, H1.out]; rfl
          go_wp2
          go_round
          case rel => exact ⟨k + 1, q, by omega, by go_num, rfl, H3⟩
          case measure => simp [intOf]; omega
    · have hn := Crc.not_in r
      obtain ⟨r4, hr4⟩ : ∃ r4, r4 = ~~~ r := ⟨_, rfl⟩
      rw [← hr4] at hn
      have H4 : Hid (r4 = Crc.sum l) := by
        have := HR.out
        rw [List.take_of_length_le (by omega)] at this
        show _ = _
        rw [hr4, this, H0.out]; rfl
      clear hr4
      go_wp2
      go_ret
      exact ⟨ret_int (by rw [H4.out]), rfl⟩
end Go.Proofs.YtndicjpbanmpjaaGreatDoor


namespace Go.Proofs.YtndicjpbanmpjaaGreatDoor
open Go.RowKit

theorem crcTab_of {W : World} (h : Lib.VarReads Tryz.prog W "changeover/crc.shifts" (Lib.tabData .u32 Crc.tab)) : CrcTab W := by
  obtain ⟨g, t, cs, fuel, p, hg, ht, hvar, hd⟩ := h
  have hty : (Tryz.prog.globals[1]?).map (·.type) = some 121 := by kernel_rfl
  have hgn : Tryz.prog.globalNamed "changeover/crc.shifts" = some 1 := by kernel_rfl
  obtain rfl := Option.some.inj (hgn.symm.trans hg)
  obtain rfl := Option.some.inj (hty.symm.trans ht)
  have e := Lib.cells_of_tab (n := 16) Tryz.underlying121 Tryz.underlying76 (by kernel_rfl) (by kernel_rfl) hd
  intro i hi
  have hT : Lib.TabIs Tryz.prog W "changeover/crc.shifts" .u32 Crc.tab := by unfold Lib.TabIs; rw [hvar, ← e]
  exact hT.cell hgn i hi

end Go.Proofs.YtndicjpbanmpjaaGreatDoor


namespace Go.Proofs.YtndicjpbanmpjaaGreatDoor
open Go.RowKit

/-- What a frame's size may be. -/
def sizeErr (n : Int) : Int := if n < 1 then 3 else if 65536 < n then 2 else 0

set_option maxRecDepth 4000 in
set_option maxHeartbeats 400000 in
theorem sizeError_any (n : Int) (w : World) :
    Calls Tryz.prog 32 #[.int .i64 n] w fun e w' => e = .returned (.int .i64 (sizeErr n)) ∧ w = w' := by
  unfold sizeErr
  by_cases a : n < 1
  · rw [if_pos a]
    go_enter Tryz.func32, Tryz.ntmps32
    go_wp2
    all_goals (go_ret; exact ⟨rfl, rfl⟩)
  · rw [if_neg a]
    by_cases b : 65536 < n
    · rw [if_pos b]
      go_enter Tryz.func32, Tryz.ntmps32
      go_wp2
      all_goals (go_ret; exact ⟨rfl, rfl⟩)
    · rw [if_neg b]
      go_enter Tryz.func32, Tryz.ntmps32
      go_wp2
      all_goals (go_ret; exact ⟨rfl, rfl⟩)

set_option maxRecDepth 4000 in
set_option maxHeartbeats 400000 in
theorem tail_any (v : Value) (l : List UInt8) (w : World) (hv : Reads w v l) (hT : CrcTab w) :
    Calls Tryz.prog 35 #[v] w (Makes w 5 (Frm.tail l)) := by
  obtain ⟨s, hs⟩ : ∃ s, s = (Crc.sum l).toNat := ⟨_, rfl⟩
  have hsl : s < 4294967296 := by rw [hs]; exact (Crc.sum l).isLt
  have ht : Frm.tail l = Frm.le s := by rw [hs]; rfl
  rw [ht]
  have HS := Lib.hid hs; clear hs ht
  go_enter Tryz.func35, Tryz.ntmps35
  go_wp2_with fail
  refine (crcSum_any _ _ _ hv hT).mono ?_
  rintro e w1 ⟨rfl, rfl⟩
  rw [← HS.out]
  go_wp2_with fail
  go_ret
  refine ⟨_, rfl, Owns.laid _ _ _ _ _ rfl ?_ (by decide), (Below.refl _ _).alloc (Nat.le_refl _) _⟩
  simp only [cellsOf, Frm.le, List.map_cons, List.map_nil, UInt8.toNat_ofNat']
  simp
  omega

set_option maxRecDepth 4000 in
set_option maxHeartbeats 400000 in
theorem equal_any (v u : Value) (l m : List UInt8) (w : World) (hv : Reads w v l) (hu : Reads w u m) :
    Calls Tryz.prog 42 #[v, u] w fun e w' => e = .returned (.bool (l == m)) ∧ w = w' := by
  obtain ⟨ao, cap, rfl⟩ := hv.shape
  obtain ⟨ao2, cap2, rfl⟩ := hu.shape
  have c1 := run_string_of (P := Tryz.prog) l Tryz.underlying25 Tryz.underlying5 Tryz.underlying9 hv
  have c2 := run_string_of (P := Tryz.prog) m Tryz.underlying25 Tryz.underlying5 Tryz.underlying9 hu
  go_enter Tryz.func42, Tryz.ntmps42
  go_wp2
  go_ret
  exact ⟨ret_bool rfl, rfl⟩

set_option maxRecDepth 4000 in
set_option maxHeartbeats 400000 in
theorem grow_any (n : Nat) (w : World) (h0 : 0 < n) (hn : n ≤ 140737488355328) :
    Calls Tryz.prog 61 #[.slice none 0 0, .int .i64 (n : Int)] w (Makes w 5 []) := by
  obtain ⟨i, hi, hz, hs, hb⟩ := info_parts info_u8
  obtain ⟨G, hG⟩ : ∃ G, G = grownCap w n 0 5 := ⟨_, rfl⟩
  have hG1 : n ≤ G := by rw [hG]; exact grownCap_ge w _ _ _
  have hG2 : G ≤ maxLen := by rw [hG]; exact grownCap_le_maxLen w _ _ _ (by unfold maxLen; omega)
  obtain ⟨C, hC⟩ : ∃ C : Array Value, C = (([] : List Value).toArray ++ Builtin.zeroCells (Value.int .u8 0).cells n ++ Builtin.zeroCells (Value.int .u8 0).cells (G - n)) := ⟨_, rfl⟩
  have hCs : C.size = G := by rw [hC]; simp [size_zeroCells, Value.cells]; omega
  have hrun : ∀ ty, (Builtin.append_ #[25, 3] ty #[.slice none 0 0, .int .i64 (n : Int)]).run Tryz.prog w = .ok (.slice (some ⟨w.heap.size, 0, none⟩) n G) (w.drew.alloc (.cells C 5)) := by
    intro ty
    have h := Lib.run_append_grow_zeros (P := Tryz.prog) w 25 3 ty 5 i (.int .u8 0) .i64 .i64 Tryz.underlying25 Tryz.underlying3 hi hz none 0 0 [] (run_firstCells_none w.drew i.size 0 0 0) n h0 (by omega) (by omega) (by omega) (by rw [hb]; omega) (by rw [Nat.zero_add, nextslicecap_zero (by omega), hb]; omega)
    rw [Nat.zero_add, ← hG, ← hC] at h
    exact h
  clear hG hC
  have hG3 : G ≤ 9223372036854775807 := by unfold maxLen at hG2; omega
  have hfin : Owns (w.drew.alloc (.cells C 5)) w.heap.size 5 (.slice (some ⟨w.heap.size, 0, none⟩) 0 G) [] := ⟨by simp [cellsOf], .inr ⟨w.heap.size, G, C, rfl, Nat.le_refl _, heap_alloc_new w.drew _, by simp, hG2, by omega, by simp [cellsOf]⟩⟩
  clear hCs hG2
  go_enter Tryz.func61, Tryz.ntmps61
  go_wp2_with (at_builtin; refine Lib.wpList_append_run _ rfl _ _ _ _ rfl _ _ rfl rfl _ _ (hrun _) ?_)
  all_goals
    go_ret
    exact ⟨_, rfl, hfin, (Below.refl _ _).drew.alloc (Nat.le_refl _) _⟩
end Go.Proofs.YtndicjpbanmpjaaGreatDoor


namespace Go.Proofs.YtndicjpbanmpjaaGreatDoor
open Go.RowKit

theorem pow_lt9 {k : Nat} (h : k ≤ 8) : 128 ^ k ≤ 128 ^ 8 := Nat.pow_le_pow_right (by omega) h

/-- A group is added. -/
theorem add_group {U acc k c : Nat} (hU : U = 128 ^ k) (ha : acc < 128 ^ k) (hk : k ≤ 8) : U * (c % 128) ≤ 9151314442816847872 ∧ acc + U * (c % 128) ≤ 9223372036854775807 := by
  have h8 := pow_lt9 hk
  have h1 : U * (c % 128) ≤ U * 127 := Nat.mul_le_mul_left _ (by omega)
  rw [← hU] at h8 ha
  omega

set_option maxRecDepth 4000 in
set_option maxHeartbeats 800000 in
theorem refGet_in (v : Value) (l : List UInt8) (p : Nat) (w : World) (hv : Reads w v l) (hp : p ≤ l.length) :
    Calls Tryz.prog 29 #[v, .int .i64 (p : Int)] w (Three w (getp l p)) := by
  obtain ⟨ao, cap, rfl⟩ := hv.shape
  have hl := hv.len
  obtain ⟨n, hn⟩ : ∃ n, n = l.length := ⟨_, rfl⟩
  rw [← hn]
  have hpn : p ≤ n := by omega
  have hnc : n ≤ cap := by omega
  have hc9 : cap ≤ 9223372036854775807 := by omega
  have HN := Lib.hid hn
  have hb1 : decide ((p : Int) < 0) = false := by simp
  have hb2 : decide (n < p) = false := by simp; omega
  have HV := Lib.hid hv
  clear hl hn hp hv
  go_enter Tryz.func29, Tryz.ntmps29
  go_wp2
  go_loop [9, 7, 8] (fun x y z => ∃ j acc U : Nat, x = .int .i64 (j : Int) ∧ y = .int .i64 (acc : Int) ∧ z = .int .i64 (U : Int) ∧ p ≤ j ∧ j ≤ n ∧ j ≤ p + 9 ∧ Hid (U = 128 ^ (min (j - p) 8)) ∧ Hid (acc < 128 ^ (j - p)) ∧ Hid (getv (j - p) acc (l.drop j) = getv 0 0 (l.drop p))) (fun x _ _ => n - (intOf x).toNat)
  case atStart => exact ⟨p, 0, 1, rfl, rfl, rfl, by omega, by omega, by omega, show 1 = 128 ^ (min (p - p) 8) by simp, show 0 < 128 ^ (p - p) by simp, by show getv (p - p) 0 _ = _; rw [Nat.sub_self]⟩
  case round =>
    obtain ⟨j, acc, U, rfl, rfl, rfl, hpj, hj, hj9, HU, HA, HE⟩ := hrel
    by_cases hlt : j < n
    · obtain ⟨b, off, rfl, hc⟩ := HV.out.place (by have := HN.out; omega)
      obtain ⟨c, hlc⟩ : ∃ c, l[j]? = some c := ⟨_, List.getElem?_eq_getElem (by have := HN.out; omega)⟩
      have hc := hc j c hlc
      have HLC := Lib.hid hlc; clear hlc
      have hc256 := c.toNat_lt
      by_cases h9 : j = p + 9
      · have HG : Hid (getp l p = (0, 0, 3)) := getp_err (e := 3) (by have := HN.out; omega) (by omega) (by rw [← HE.out, drop_at HLC.out, h9, Nat.add_sub_cancel_left, getv_nine])
        subst h9
        by_cases hz : c.toNat = 0
        all_goals
          go_wp2
          go_ret3
          exact ⟨three HG.out, rfl⟩
      · by_cases hz : p < j ∧ c.toNat = 0
        · obtain ⟨hz1, hz2⟩ := hz
          have HG : Hid (getp l p = (0, 0, 3)) := getp_err (e := 3) (by have := HN.out; omega) (by omega) (by rw [← HE.out, drop_at HLC.out, getv_zero (by omega) hz2])
          go_wp2
          go_ret3
          exact ⟨three HG.out, rfl⟩
        · have hz' : j - p = 0 ∨ 0 < c.toNat := by omega
          have hU : U = 128 ^ (j - p) := by rw [HU.out, show min (j - p) 8 = j - p by omega]
          obtain ⟨g1, g2⟩ := add_group (c := c.toNat) hU HA.out (by omega)
          obtain ⟨m, hm⟩ : ∃ m, m = U * (c.toNat % 128) := ⟨_, rfl⟩
          rw [← hm] at g1 g2
          have hm' : (U : Int) * ((c.toNat : Int) % 128) = (m : Int) := by rw [hm]; push_cast; rfl
          rw [hU] at hm
          have HM := Lib.hid hm; clear hm hz hU
          have z2 : decide (9 ≤ (j : Int) - (p : Int)) = false := by simp; omega
          have z3 : p < j → ((c.toNat : Int) == 0) = false := by intro; simp; omega
          by_cases h128 : c.toNat < 128
          · have HG : Hid (getp l p = (((acc + m : Nat) : Int), (j : Int) + 1, 0)) := by
              show _ = _
              rw [getp_ok (n := acc + m) (c := j - p + 1) (by have := HN.out; omega) (by rw [← HE.out, drop_at HLC.out, getv_last (by omega) hz' h128, HM.out, Nat.mod_eq_of_lt h128, Nat.mul_comm])]
              simp; omega
            rcases (show j = p ∨ p < j by omega) with rfl | hpj'
            · go_wp2
              go_ret3
              exact ⟨three (by rw [HG.out]; simp), rfl⟩
            · have z4 := z3 hpj'
              clear z3
              go_wp2
              go_ret3
              exact ⟨three (by rw [HG.out]; simp), rfl⟩
          · have HE2 : Hid (getv (j + 1 - p) (acc + m) (l.drop (j + 1)) = getv 0 0 (l.drop p)) := by
              show _ = _
              rw [← HE.out, drop_at HLC.out, getv_more (by omega) h128, HM.out, show c.toNat % 128 = c.toNat - 128 by omega, show j + 1 - p = j - p + 1 by omega, Nat.mul_comm (128 ^ (j - p))]
            have HA2 : Hid (acc + m < 128 ^ (j + 1 - p)) := by
              show _ < _
              rw [HM.out, show j + 1 - p = j - p + 1 by omega, Nat.mul_comm]
              exact acc_more HA.out (by omega)
            by_cases h8 : j < p + 8
            · have hUb : U ≤ 562949953421312 := by
                rw [HU.out]
                exact Nat.le_trans (Nat.pow_le_pow_right (by omega) (show min (j - p) 8 ≤ 7 by omega)) (by decide)
              have HU2 : Hid (U * 128 = 128 ^ (min (j + 1 - p) 8)) := by
                show _ = _
                rw [HU.out, show min (j + 1 - p) 8 = min (j - p) 8 + 1 by omega, Nat.pow_succ]
              rcases (show j = p ∨ p < j by omega) with rfl | hpj'
              · go_wp2
                go_round
                case rel => exact ⟨j + 1, acc + m, U * 128, by go_num, by go_num, by go_num, by omega, by omega, by omega, HU2, HA2, HE2⟩
                case measure => simp [intOf]; omega
              · have z4 := z3 hpj'
                clear z3
                go_wp2
                go_round
                case rel => exact ⟨j + 1, acc + m, U * 128, by go_num, by go_num, by go_num, by omega, by omega, by omega, HU2, HA2, HE2⟩
                case measure => simp [intOf]; omega
            · have HU2 : Hid (U = 128 ^ (min (j + 1 - p) 8)) := by
                show _ = _
                rw [HU.out, show min (j + 1 - p) 8 = min (j - p) 8 by omega]
              have z4 := z3 (by omega)
              clear z3
              go_wp2
              go_round
              case rel => exact ⟨j + 1, acc + m, U, by go_num, by go_num, rfl, by omega, by omega, by omega, HU2, HA2, HE2⟩
              case measure => simp [intOf]; omega
    · have HG : Hid (getp l p = (0, 0, 1)) := getp_err (e := 1) (by have := HN.out; omega) (by omega) (by rw [← HE.out, List.drop_eq_nil_of_le (by have := HN.out; omega)]; rfl)
      go_wp2
      go_ret3
      exact ⟨three HG.out, rfl⟩

set_option maxRecDepth 4000 in
set_option maxHeartbeats 800000 in
theorem refGet_out (v : Value) (l : List UInt8) (pl : Int) (w : World) (hv : Reads w v l) (h : pl < 0 ∨ (l.length : Int) < pl) :
    Calls Tryz.prog 29 #[v, .int .i64 pl] w (Three w (getp l pl)) := by
  obtain ⟨ao, cap, rfl⟩ := hv.shape
  have hr : getp l pl = (0, 0, 6) := by unfold getp; rw [if_pos h]
  rw [hr]
  obtain ⟨n, hn⟩ : ∃ n, n = l.length := ⟨_, rfl⟩
  rw [← hn] at h ⊢
  clear hr hn hv
  by_cases h1 : pl < 0
  · clear h
    go_enter Tryz.func29, Tryz.ntmps29
    go_wp2
    go_ret3
    exact ⟨rfl, rfl⟩
  · have h2 : (n : Int) < pl := by omega
    clear h
    go_enter Tryz.func29, Tryz.ntmps29
    go_wp2
    go_ret3
    exact ⟨rfl, rfl⟩

/-- Get, at any bytes and any place. -/
theorem refGet_any (v : Value) (l : List UInt8) (pl : Int) (w : World) (hv : Reads w v l) :
    Calls Tryz.prog 29 #[v, .int .i64 pl] w (Three w (getp l pl)) := by
  by_cases h : pl < 0 ∨ (l.length : Int) < pl
  · exact refGet_out v l pl w hv h
  · obtain ⟨p, rfl⟩ := Int.eq_ofNat_of_zero_le (show 0 ≤ pl by omega)
    exact refGet_in v l p w hv (by omega)

/-- Get, where the three results have names of their own. -/
theorem refGet_is (v : Value) (l : List UInt8) (pl : Int) (w : World) (a b c : Int) (hv : Reads w v l) (h : Hid (getp l pl = (a, b, c))) :
    Calls Tryz.prog 29 #[v, .int .i64 pl] w fun e w' => e = .returned (.tuple #[.int .i64 a, .int .i64 b, .int .i64 c]) ∧ w = w' := by
  have hg := refGet_any v l pl w hv
  rw [h.out] at hg
  exact hg
end Go.Proofs.YtndicjpbanmpjaaGreatDoor
