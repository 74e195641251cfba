/- The document's own bytes of a number (changeoverref01.Bytes). -/
import Derived.Test.YtpdblmicgpgiaaaRows
import Derived.Test.YtpdblmicgpgiaaaMath
import Derived.Test.YtpdblmicgpgiaaaKit
namespace Go.Proofs.Ytpdblmicgpgiaaa
open Go.RowKit

theorem info_u8 : (Try.prog.info? 5).map (fun i => (i.zero, i.size, i.bytes)) = some (some (.int .u8 0), 1, 1) := by kernel_rfl

set_option maxRecDepth 4000 in
set_option maxHeartbeats 400000 in
theorem bytes_any (n : Int) (w : World) (h0 : -9223372036854775808 ≤ n) (h1 : n ≤ 9223372036854775807) :
    Calls Try.prog 27 #[.int .i64 n] w (Makes w 5 (enc n.toNat)) := by
  go_enter Try.func27, Try.ntmps27
  by_cases hn : n < 0
  all_goals
    go_wp2
    go_loopw [0, 3] (fun x v wr => ∃ (m : Nat) (pre : List UInt8), x = .int .i64 (m : Int) ∧ Owns wr w.heap.size 5 v pre ∧ m ≤ n.toNat ∧ pre ++ enc m = enc n.toNat ∧ Below w.heap.size w wr) (fun x _ _ => (intOf x).toNat)
    case atStart => exact ⟨n.toNat, [], by go_num, Owns.empty _ _ _, by omega, rfl, Below.refl _ _⟩
    case round =>
      obtain ⟨m, pre, rfl, hown, hm, he, hb⟩ := hrel
      have hl : pre.length ≤ 9 := by have := congrArg List.length he; have := enc_nine (n := n.toNat) (by omega); simp at *; omega
      have HE := Lib.hid he; clear he
      have hsz := hb.size
      by_cases hlt : m < 128
      · go_wp2_with (at_builtin; refine append_bytes rfl _ _ 26 5 rfl Try.underlying26 info_u8 w.heap.size pre [UInt8.ofNat m] _ _ rfl rfl (hown.alloc _) (Reads.one _ _ _ _ (by rw [low hlt])) (by simp; omega) w (hb.alloc (by omega) _) (Nat.le_refl _) ?_; intro v' w' ho hb' hg)
        go_ret
        exact ⟨v', rfl, by have := HE.out; rw [enc_lt hlt] at this; rw [← this]; exact ho, hb'⟩
      · go_wp2_with (at_builtin; refine append_bytes rfl _ _ 26 5 rfl Try.underlying26 info_u8 w.heap.size pre [UInt8.ofNat (128 + m % 128)] _ _ rfl rfl (hown.alloc _) (Reads.one _ _ _ _ (by rw [high]; omega)) (by simp; omega) w (hb.alloc (by omega) _) (Nat.le_refl _) ?_; intro v' w' ho hb' hg)
        all_goals
          go_roundw
          case rel => exact ⟨m / 128, _, by go_num, ho, by omega, by have := HE.out; rw [enc_ge (by omega)] at this; simpa using this, hb'⟩
          case measure => simp [intOf]; omega
end Go.Proofs.Ytpdblmicgpgiaaa
