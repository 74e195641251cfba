/- The document's own sum, bit by bit (changeoverref02.Sum). -/
import Derived.Test.YtmhabcabbefncaaDoorCrcAdd
namespace Go.Proofs.YtmhabcabbefncaaDoor
open Go.RowKit

set_option maxRecDepth 4000 in
set_option maxHeartbeats 800000 in
theorem refSum_any (v : Value) (l : List UInt8) (w : World) (hv : Reads w v l) :
    Calls Tryd.prog 23 #[v] w fun e w' => e = .returned (.int .u32 ((Crc.sum l).toNat : Int)) ∧ w = w' := by
  obtain ⟨ao, cap, rfl⟩ := hv.shape
  obtain ⟨_, hl1, hl2, _⟩ := hv.len
  obtain ⟨r0, hr0⟩ : ∃ r0 : Crc.R, r0 = ~~~ 0#32 := ⟨_, rfl⟩
  have hz : (4294967295 : Int) = (r0.toNat : Int) := by rw [hr0]; rfl
  have H0 := Lib.hid hr0; clear hr0
  have HZ := Lib.hid hz; clear hz
  go_enter Tryd.func23, Tryd.ntmps23
  go_wp2
  go_loop [3, 4] (fun x i => ∃ (k : Nat) (r : Crc.R), k ≤ l.length ∧ i = .int .i64 (k : Int) ∧ x = .int .u32 (r.toNat : Int) ∧ Hid (r = Crc.run r0 (l.take k))) (fun _ i => l.length - (intOf i).toNat)
  case atStart => exact ⟨0, r0, by omega, rfl, by rw [← HZ.out], rfl⟩
  case round =>
    obtain ⟨k, r, hk, rfl, rfl, HR⟩ := hrel
    have hrl := r.isLt
    by_cases hlt : k < l.length
    · obtain ⟨b, off, rfl, hc⟩ := hv.place (by omega)
      obtain ⟨c, hlc⟩ : ∃ c, c = l[k] := ⟨_, rfl⟩
      have hc1 := hc k c (by rw [hlc]; exact List.getElem?_eq_getElem hlt)
      have HC := Lib.hid hlc
      clear hc hlc
      have hcb := c.toNat_lt
      have e1 := Crc.byte_in r c
      obtain ⟨r1, hr1⟩ : ∃ r1, r1 = r ^^^ Crc.wide c := ⟨_, rfl⟩
      rw [← hr1] at e1
      have H1 := Lib.hid hr1; clear hr1
      have b1 := r1.isLt
      go_wp2
      clear e1
      go_loop [3, 5] (fun x i => ∃ (j : Nat) (q : Crc.R), j ≤ 8 ∧ i = .int .i64 (j : Int) ∧ x = .int .u32 (q.toNat : Int) ∧ Hid (q = Crc.steps j r1)) (fun _ i => 8 - (intOf i).toNat)
      case atStart => exact ⟨0, r1, by omega, rfl, rfl, rfl⟩
      case round =>
        obtain ⟨j, q, hj, rfl, rfl, HQ⟩ := hrel
        have bq := q.isLt
        by_cases hj8 : j < 8
        · have H2 : Hid (Crc.step q = Crc.steps (j + 1) r1) := by
            show _ = _
            rw [Crc.steps_snoc, ← HQ.out]
          by_cases hodd : q.toNat % 2 = 1
          · have e3 := Crc.step_odd q hodd
            obtain ⟨q1, hq1⟩ : ∃ q1, q1 = Crc.step q := ⟨_, rfl⟩
            rw [← hq1] at e3 H2
            have ho : ((q.toNat : Int) % 2 == 1) = true := by simp; omega
            clear hq1 hodd
            go_wp2
            go_round
            case rel => exact ⟨j + 1, q1, by omega, by go_num, rfl, H2⟩
            case measure => simp [intOf]; omega
          · have e3 := Crc.step_evn q (by omega)
            obtain ⟨q1, hq1⟩ : ∃ q1, q1 = Crc.step q := ⟨_, rfl⟩
            rw [← hq1] at e3 H2
            have ho : ((q.toNat : Int) % 2 == 1) = false := by simp; omega
            clear hq1 hodd
            go_wp2
            go_round
            case rel => exact ⟨j + 1, q1, by omega, by go_num, rfl, H2⟩
            case measure => simp [intOf]; omega
        · obtain rfl : j = 8 := by omega
          have H3 : Hid (q = Crc.run r0 (l.take (k + 1))) := by
            show q = _
            rw [Crc.run_take _ _ _ hlt, ← HR.out, ← HC.out, HQ.out, H1.out]; rfl
          go_wp2
          go_round
          case rel => exact ⟨k + 1, q, by omega, by go_num, rfl, H3⟩
          case measure => simp [intOf]; omega
    · have hn := Crc.not_in r
      obtain ⟨r4, hr4⟩ : ∃ r4, r4 = ~~~ r := ⟨_, rfl⟩
      rw [← hr4] at hn
      have H4 : Hid (r4 = Crc.sum l) := by
        have := HR.out
        rw [List.take_of_length_le (by omega)] at this
        show _ = _
        rw [hr4, this, H0.out]; rfl
      clear hr4
      go_wp2
      go_ret
      exact ⟨ret_int (by rw [H4.out]), rfl⟩
end Go.Proofs.YtmhabcabbefncaaDoor
