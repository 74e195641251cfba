/- varint.Put: the bytes of a number behind those that came in, in new memory. -/
import Derived.Test.YtpdblmicgpgiaaaRows
import Derived.Test.YtpdblmicgpgiaaaMath
import Derived.Test.YtpdblmicgpgiaaaKit
import Derived.Test.YtpdblmicgpgiaaaLen
import Derived.Test.YtpdblmicgpgiaaaBytes
namespace Go.Proofs.Ytpdblmicgpgiaaa
open Go.RowKit

set_option maxRecDepth 4000 in
set_option maxHeartbeats 800000 in
theorem put_any (v : Value) (l : List UInt8) (n : Int) (w : World) (hr : Reads w v l) (hlen : l.length ≤ 140737488351232) (h0 : -9223372036854775808 ≤ n) (h1 : n ≤ 9223372036854775807) :
    Calls Try.prog 38 #[v, .int .i64 n] w (Makes w 5 (l ++ enc n.toNat)) := by
  obtain ⟨N, hN⟩ : ∃ N : Nat, N = n.toNat := ⟨_, rfl⟩
  have hN9 : N ≤ 9223372036854775807 := by omega
  obtain ⟨k, hk⟩ : ∃ k : Nat, k = (enc N).length := ⟨_, rfl⟩
  have hk9 : k ≤ 9 := by rw [hk]; exact enc_nine hN9
  have HK : Hid (k = (enc N).length) := hk
  clear hk
  obtain ⟨ao, cap, rfl⟩ := hr.shape
  rw [← hN]
  rcases (show n < 0 ∧ N ≤ 0 ∨ 0 ≤ n ∧ n = (N : Int) by omega) with ⟨hn, hn0⟩ | ⟨hn, rfl⟩
  all_goals
    clear hN
    go_enter Try.func38, Try.ntmps38
    go_wp2_with (first
      | (go_at_call 45; refine (len_is _ _ _ k (by first | rfl | omega) (by omega) HK).mono ?_; rintro e w' ⟨rfl, rfl⟩)
      | (at_make; refine make_bytes rfl _ _ 26 5 rfl Try.underlying26 info_u8 w.heap.size l.length (l.length + k) _ _ _ _ rfl rfl rfl (by omega) (by omega) (by omega) w (Below.refl _ _) (Nat.le_refl _) ?_; intro w1 ho1 hb1)
      | (with_reducible show wpList _ _ _ _ _ _; refine copy_bytes rfl (.tmp 16) (.tmp 17) 26 26 5 rfl Try.underlying26 info_u8 w.heap.size _ l w.heap.size l.length (l.length + k) (.slice ao l.length cap) rfl rfl ho1 (hr.below hb1) (by simp) w hb1 (Nat.le_refl _) ?_; intro w2 ho2 hb2 _))
    have ho3 : Owns w2 w.heap.size 5 (.slice (some ⟨w.heap.size, 0, none⟩) l.length (l.length + k)) l := by simpa using ho2
    clear ho1 ho2 hb1
    simp only [goInt, Act.put, List.setIfInBounds_toArray, List.set_cons_succ, List.set_cons_zero]
    go_loopw [1, 5] (fun x v wr => ∃ (m : Nat) (pre : List UInt8), x = .int .i64 (m : Int) ∧ Owns wr w.heap.size 5 v (l ++ pre) ∧ m ≤ 9223372036854775807 ∧ Hid (pre ++ enc m = enc N) ∧ Below w.heap.size w wr) (fun x _ _ => (intOf x).toNat)
    case atStart => exact ⟨N, [], by go_num, by simpa using ho3, hN9, rfl, hb2⟩
    case round =>
      clear ho3 hb2
      obtain ⟨m, pre, rfl, hown, hm, HE, hb⟩ := hrel
      have hl9 : pre.length ≤ 9 := by have := congrArg List.length HE.out; simp at this; have := HK.out; omega
      have hsz := hb.size
      by_cases hlt : m < 128
      · go_wp2_with (at_builtin; refine append_bytes rfl _ _ 26 5 rfl Try.underlying26 info_u8 w.heap.size (l ++ pre) [UInt8.ofNat m] _ _ rfl rfl (hown.alloc _) (Reads.one _ _ _ _ (by rw [low hlt])) (by simp; omega) w (hb.alloc (by omega) _) (Nat.le_refl _) ?_; intro v' w' ho hb' hg)
        go_ret
        exact ⟨v', rfl, by have := HE.out; rw [enc_lt hlt] at this; rw [← this, ← List.append_assoc]; exact ho, hb'⟩
      · go_wp2_with (at_builtin; refine append_bytes rfl _ _ 26 5 rfl Try.underlying26 info_u8 w.heap.size (l ++ pre) [UInt8.ofNat (128 + m % 128)] _ _ rfl rfl (hown.alloc _) (Reads.one _ _ _ _ (more_byte _ _ (by first | rfl | simp [IntKind.wrap_u8]))) (by simp; omega) w (hb.alloc (by omega) _) (Nat.le_refl _) ?_; intro v' w' ho hb' hg)
        go_roundw
        case rel => exact ⟨m / 128, pre ++ [_], by go_num, by rw [← List.append_assoc]; exact ho, by omega, by have := HE.out; rw [enc_ge (by omega)] at this; show _ = _; simpa using this, hb'⟩
        case measure => simp [intOf]; omega
end Go.Proofs.Ytpdblmicgpgiaaa
