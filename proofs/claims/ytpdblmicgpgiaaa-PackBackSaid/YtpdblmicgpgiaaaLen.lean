/- varint.Len: the number of bytes. -/
import Derived.Test.YtpdblmicgpgiaaaRows
import Derived.Test.YtpdblmicgpgiaaaMath
import Derived.Test.YtpdblmicgpgiaaaKit
namespace Go.Proofs.Ytpdblmicgpgiaaa
open Go.RowKit

set_option maxRecDepth 4000 in
set_option maxHeartbeats 400000 in
theorem len_any (n : Nat) (w : World) (h1 : n ≤ 9223372036854775807) :
    Calls Try.prog 45 #[.int .i64 (n : Int)] w fun e w' => e = .returned (.int .i64 ((enc n).length : Int)) ∧ w = w' := by
  have h9 := enc_nine h1
  go_enter Try.func45, Try.ntmps45
  go_wp2
  go_loop [0, 3] (fun x s => ∃ m k : Nat, x = .int .i64 (m : Int) ∧ s = .int .i64 (k : Int) ∧ m ≤ n ∧ k + (enc m).length = (enc n).length + 1) (fun x _ => (intOf x).toNat)
  case atStart => exact ⟨n, 1, rfl, rfl, by omega, by omega⟩
  case round =>
    obtain ⟨m, k, rfl, rfl, hm, hk⟩ := hrel
    have hp := enc_pos m
    have hk9 : k ≤ 9 := by omega
    have HK := Lib.hid hk; clear hk hp h9
    by_cases hlt : m < 128
    · go_wp2
      go_ret
      have h := HK.out
      rw [enc_lt hlt] at h
      simp at h
      exact ⟨ret_int (by omega), rfl⟩
    · have hs := HK.out
      rw [enc_ge (by omega)] at hs
      simp at hs
      have HS := Lib.hid hs; clear hs
      go_wp2
      go_round
      case rel => exact ⟨m / 128, k + 1, by go_num, by go_num, by omega, by have := HS.out; omega⟩
      case measure => simp [intOf]; omega

set_option maxRecDepth 4000 in
set_option maxHeartbeats 400000 in
theorem len_neg (n : Int) (w : World) (h0 : n < 0) (h1 : -9223372036854775808 ≤ n) :
    Calls Try.prog 45 #[.int .i64 n] w fun e w' => e = .returned (.int .i64 ((enc 0).length : Int)) ∧ w = w' := by
  have e0 : (enc 0).length = 1 := by rw [enc_lt (by omega)]; rfl
  have E0 := Lib.hid e0; clear e0
  go_enter Try.func45, Try.ntmps45
  go_wp2
  refine wp_loop_rounds 1 ?_
  rw [rounds_succ]
  go_wp2
  go_ret
  exact ⟨ret_int (by rw [E0.out]; rfl), rfl⟩

/-- Len at every number. -/
theorem len_all (n : Int) (w : World) (h0 : -9223372036854775808 ≤ n) (h1 : n ≤ 9223372036854775807) :
    Calls Try.prog 45 #[.int .i64 n] w fun e w' => e = .returned (.int .i64 ((enc n.toNat).length : Int)) ∧ w = w' := by
  by_cases h : n < 0
  · rw [show n.toNat = 0 by omega]
    exact len_neg n w h h0
  · obtain ⟨k, rfl⟩ := Int.eq_ofNat_of_zero_le (show 0 ≤ n by omega)
    exact len_any k w (by omega)

/-- Len, where the argument and the result have names of their own. -/
theorem len_is (n : Int) (w : World) (N k : Nat) (hn : n = (N : Int)) (h1 : n ≤ 9223372036854775807) (hk : Hid (k = (enc N).length)) :
    Calls Try.prog 45 #[.int .i64 n] w fun e w' => e = .returned (.int .i64 (k : Int)) ∧ w = w' := by
  subst hn
  rw [hk.out]
  exact len_any N w (by omega)
end Go.Proofs.Ytpdblmicgpgiaaa
