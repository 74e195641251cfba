/- crc.Add, crc.Sum: the plain function, by the table. -/
import Derived.Test.YtmhabcabbefncaaDoorRows
import Derived.Test.YtmhabcabbefncaaDoorKit
import Derived.Test.YtmhabcabbefncaaDoorCrcU32
namespace Go.Proofs.YtmhabcabbefncaaDoor
open Go.RowKit

/-- The table of crc holds its sixteen constants. -/
def CrcTab (w : World) : Prop := ∀ i, i < 16 → w.cell? ⟨0, i, none⟩ = some (.int .u32 (Crc.tab.getD i 0))
theorem CrcTab.below {w w' : World} (h : CrcTab w) (hb : Below w.heap.size w w') : CrcTab w' := fun i hi => by
  rw [hb.cell (World.block_lt_of_cell? w _ (h i hi))]; exact h i hi

set_option maxRecDepth 4000 in
set_option maxHeartbeats 800000 in
theorem crcAdd_any (s : Crc.R) (v : Value) (l : List UInt8) (w : World) (hv : Reads w v l) (hT : CrcTab w) :
    Calls Tryd.prog 32 #[.int .u32 (s.toNat : Int), v] w fun e w' => e = .returned (.int .u32 ((Crc.add s l).toNat : Int)) ∧ w = w' := by
  obtain ⟨ao, cap, rfl⟩ := hv.shape
  obtain ⟨_, hl1, hl2, _⟩ := hv.len
  have hs := s.isLt
  have HT := Lib.hid hT; clear hT
  have hn := Crc.not_is s
  obtain ⟨s', hs'⟩ : ∃ s', s' = ~~~ s := ⟨_, rfl⟩
  rw [← hs'] at hn
  have HS := Lib.hid hs'; clear hs'
  have hsl := s'.isLt
  go_enter Tryd.func32, Tryd.ntmps32
  go_wp2
  clear hn
  go_loop [5, 12] (fun x i => ∃ (k : Nat) (r : Crc.R), k ≤ l.length ∧ i = .int .i64 (k : Int) ∧ x = .int .u32 (r.toNat : Int) ∧ Hid (r = Crc.run s' (l.take k))) (fun _ i => l.length - (intOf i).toNat)
  case atStart => exact ⟨0, s', by omega, rfl, rfl, rfl⟩
  case round =>
    obtain ⟨k, r, hk, rfl, rfl, HR⟩ := hrel
    have hrl := r.isLt
    by_cases hlt : k < l.length
    · obtain ⟨b, off, rfl, hc⟩ := hv.place (by omega)
      obtain ⟨c, hlc⟩ : ∃ c, c = l[k] := ⟨_, rfl⟩
      have hc1 := hc k c (by rw [hlc]; exact List.getElem?_eq_getElem hlt)
      have HC := Lib.hid hlc
      clear hc hlc
      have hcb := c.toNat_lt
      have e1 := Crc.byte_in r c
      obtain ⟨r1, hr1⟩ : ∃ r1, r1 = r ^^^ Crc.wide c := ⟨_, rfl⟩
      rw [← hr1] at e1
      obtain ⟨j1, hj1, e2, t1, ht1, hg1, e3⟩ := Crc.four_bits r1
      obtain ⟨r2, hr2⟩ : ∃ r2, r2 = Crc.steps 4 r1 := ⟨_, rfl⟩
      rw [← hr2] at e3
      obtain ⟨j2, hj2, e4, t2, ht2, hg2, e5⟩ := Crc.four_bits r2
      obtain ⟨r3, hr3⟩ : ∃ r3, r3 = Crc.steps 4 r2 := ⟨_, rfl⟩
      rw [← hr3] at e5
      have c1 := HT.out j1 hj1
      have c2 := HT.out j2 hj2
      rw [hg1] at c1
      rw [hg2] at c2
      have b1 := r1.isLt
      have b2 := r2.isLt
      have b3 := r3.isLt
      have H3 : Hid (r3 = Crc.run s' (l.take (k + 1))) := by
        show r3 = _
        rw [Crc.run_take _ _ _ hlt, ← HR.out, ← HC.out, Crc.upd_eight, ← hr1, ← hr2, ← hr3]
      clear hg1 hg2 hr1 hr2 hr3
      go_wp2
      go_round
      case rel => exact ⟨k + 1, r3, by omega, by go_num, rfl, H3⟩
      case measure => simp [intOf]; omega
    · have hn := Crc.not_is r
      obtain ⟨r4, hr4⟩ : ∃ r4, r4 = ~~~ r := ⟨_, rfl⟩
      rw [← hr4] at hn
      have H4 : Hid (r4 = Crc.add s l) := by
        have := HR.out
        rw [List.take_of_length_le (by omega)] at this
        show _ = _
        rw [hr4, this, HS.out]; rfl
      clear hr4
      go_wp2
      go_ret
      exact ⟨ret_int (by rw [H4.out]), rfl⟩

theorem crcSum_any (v : Value) (l : List UInt8) (w : World) (hv : Reads w v l) (hT : CrcTab w) :
    Calls Tryd.prog 30 #[v] w fun e w' => e = .returned (.int .u32 ((Crc.sum l).toNat : Int)) ∧ w = w' := by
  go_enter Tryd.func30, Tryd.ntmps30
  go_wp2_with (go_at_call 32; refine (crcAdd_any 0#32 _ l _ hv hT).mono ?_; rintro e w' ⟨rfl, rfl⟩)
  go_ret
  exact ⟨rfl, rfl⟩
end Go.Proofs.YtmhabcabbefncaaDoor
