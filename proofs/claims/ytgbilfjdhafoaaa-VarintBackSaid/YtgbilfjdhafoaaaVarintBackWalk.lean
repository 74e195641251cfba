/- The law VarintBack, walked: it returns true and changes nothing that was there. -/
import Derived.Test.YtgbilfjdhafoaaaAwake
namespace Go.Proofs.Ytgbilfjdhafoaaa
open Go.RowKit

theorem getp_back (l m : List UInt8) (n : Nat) (h : n ≤ 9223372036854775807) : getp (l ++ enc n ++ m) (l.length : Int) = ((n : Int), ((l.length + (enc n).length : Nat) : Int), 0) := by
  rw [getp_ok (n := n) (c := (enc n).length) (by simp)]
  · simp
  · rw [List.append_assoc, List.drop_left, getv_enc m n 0 0 (by omega) (by have := enc_nine h; omega)]
    simp

set_option maxRecDepth 4000 in
set_option maxHeartbeats 800000 in
theorem varintBack_awake (v u : Value) (l m : List UInt8) (n : Int) (w : World) (hv : Reads w v l) (hu : Reads w u m) (h : 500 < l.length ∨ 500 < m.length ∨ n < 0) :
    Calls Try.prog 4 #[v, .int .i64 n, u] w (Truly w) := by
  obtain ⟨ao, cap, rfl⟩ := hv.shape
  obtain ⟨bo, dap, rfl⟩ := hu.shape
  by_cases h1 : 500 < l.length
  · clear h
    go_enter Try.func4, Try.ntmps4
    go_wp2_with (go_at_call 6; refine (awake_any _).mono ?_; rintro e w' ⟨rfl, hb⟩)
    go_ret
    exact ⟨rfl, hb⟩
  · by_cases h2 : 500 < m.length
    · clear h
      go_enter Try.func4, Try.ntmps4
      go_wp2_with (go_at_call 6; refine (awake_any _).mono ?_; rintro e w' ⟨rfl, hb⟩)
      go_ret
      exact ⟨rfl, hb⟩
    · have h3 : n < 0 := by omega
      clear h
      go_enter Try.func4, Try.ntmps4
      go_wp2_with (go_at_call 6; refine (awake_any _).mono ?_; rintro e w' ⟨rfl, hb⟩)
      go_ret
      exact ⟨rfl, hb⟩

set_option maxRecDepth 4000 in
set_option maxHeartbeats 800000 in
theorem varintBack_back (v u : Value) (l m : List UInt8) (n : Nat) (w : World) (hv : Reads w v l) (hu : Reads w u m) (h1 : l.length ≤ 500) (h2 : m.length ≤ 500) (h3 : n ≤ 9223372036854775807) :
    Calls Try.prog 4 #[v, .int .i64 (n : Int), u] w (Truly w) := by
  obtain ⟨ao, cap, rfl⟩ := hv.shape
  obtain ⟨bo, dap, rfl⟩ := hu.shape
  have hg := getp_back l m n h3
  have h9 := enc_nine h3
  have hput := fun W h => put_any (.slice ao l.length cap) l (n : Int) W h (by omega) (by omega) (by omega)
  rw [Int.toNat_natCast] at hput
  obtain ⟨E, hE⟩ : ∃ E, E = enc n := ⟨_, rfl⟩
  rw [← hE] at hg h9 hput
  obtain ⟨D, hD⟩ : ∃ D, D = l.length + E.length := ⟨_, rfl⟩
  obtain ⟨T, hT⟩ : ∃ T, T = (l ++ E ++ m).length := ⟨_, rfl⟩
  have hT' : T = D + m.length := by rw [hT, hD]; simp; omega
  rw [← hD] at hg
  have hDb : D ≤ 509 := by omega
  have hTb : T ≤ 1009 := by omega
  have hTm : m.length ≤ T := by omega
  have htest : ((D : Int) == (T : Int) - (m.length : Int)) = true := by simp; omega
  have HG : Hid (getp (l ++ E ++ m) (l.length : Int) = ((n : Int), (D : Int), 0)) := hg
  have HP := Lib.hid hput
  have HT : Hid (T = (l ++ E ++ m).length) := hT
  clear hE hg hput hD hT hT'
  go_enter Try.func4, Try.ntmps4
  go_wp2_with fail
  refine (HP.out _ hv).mono ?_
  rintro e w1 ⟨v1, rfl, ho1, hb1⟩
  have hu1 := hu.below hb1
  go_wp2_with (at_builtin; refine append_bytes rfl (.tmp 26) (.tmp 27) 22 5 rfl Try.underlying22 info_u8 w.heap.size (l ++ E) m v1 (.slice bo m.length dap) rfl rfl ho1 hu1 (by simp; omega) w hb1 (Nat.le_refl _) ?_; intro v2 w2 ho2 hb2 _)
  refine (get_is v2 _ _ w2 _ _ _ ho2.reads HG).mono ?_
  rintro e w3 ⟨rfl, rfl⟩
  obtain ⟨ao2, cap2, rfl⟩ := ho2.reads.shape
  clear ho2
  rw [← HT.out]
  go_wp2_with fail
  refine (awake_any _).mono ?_
  rintro e w4 ⟨rfl, hb4⟩
  go_wp2_with fail
  go_ret
  exact ⟨rfl, on hb2 hb4⟩

/-- The law at every input. -/
theorem varintBack_any (v u : Value) (l m : List UInt8) (n : Int) (w : World) (hv : Reads w v l) (hu : Reads w u m) (h1 : n ≤ 9223372036854775807) :
    Calls Try.prog 4 #[v, .int .i64 n, u] w (Truly w) := by
  by_cases h : 500 < l.length ∨ 500 < m.length ∨ n < 0
  · exact varintBack_awake v u l m n w hv hu h
  · obtain ⟨k, rfl⟩ := Int.eq_ofNat_of_zero_le (show 0 ≤ n by omega)
    exact varintBack_back v u l m k w hv hu (by omega) (by omega) (by omega)
end Go.Proofs.Ytgbilfjdhafoaaa
