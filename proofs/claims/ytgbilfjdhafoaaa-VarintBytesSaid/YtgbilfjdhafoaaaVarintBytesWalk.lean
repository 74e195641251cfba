/- The law VarintBytes, walked: it returns true and changes nothing that was there. -/
import Derived.Test.YtgbilfjdhafoaaaAwake
namespace Go.Proofs.Ytgbilfjdhafoaaa
open Go.RowKit

set_option maxRecDepth 4000 in
set_option maxHeartbeats 800000 in
theorem varintBytes_any (v : Value) (l : List UInt8) (n : Int) (w : World) (hv : Reads w v l) (h0 : -9223372036854775808 ≤ n) (h1 : n ≤ 9223372036854775807) :
    Calls Try.prog 3 #[v, .int .i64 n] w (Truly w) := by
  obtain ⟨ao, cap, rfl⟩ := hv.shape
  by_cases hbig : 500 < l.length
  · go_enter Try.func3, Try.ntmps3
    go_wp2_with (go_at_call 6; refine (awake_any _).mono ?_; rintro e w' ⟨rfl, hb⟩)
    go_ret
    exact ⟨rfl, hb⟩
  · go_enter Try.func3, Try.ntmps3
    have hv0 := hv.below ((Below.refl w.heap.size w).alloc (Nat.le_refl _) (.cells #[] 5))
    go_wp2_with (at_builtin; refine append_bytes rfl (.tmp 10) (.tmp 11) 22 5 rfl Try.underlying22 info_u8 w.heap.size [] l (.slice (some ⟨w.heap.size, 0, none⟩) 0 0) (.slice ao l.length cap) rfl rfl (Owns.lit0 w _) hv0 (by simp; omega) w ((Below.refl w.heap.size w).alloc (Nat.le_refl _) _) (Nat.le_refl _) ?_; intro v1 w1 ho1 hb1 _)
    refine (bytes_any n w1 h0 h1).mono ?_
    rintro e w2 ⟨u, rfl, ho2, hb2⟩
    have h9 : (enc n.toNat).length ≤ 9 := enc_nine (by omega)
    have ho1' := ho1.keep hb2 (Nat.le_refl _)
    have hb12 := hb1.trans (hb2.mono hb1.size)
    rw [List.nil_append] at ho1'
    go_wp2_with (at_builtin; refine append_bytes rfl (.tmp 12) (.tmp 14) 22 5 rfl Try.underlying22 info_u8 w.heap.size l (enc n.toNat) v1 u rfl rfl ho1' ho2.reads (by omega) w hb12 (Nat.le_refl _) ?_; intro v2 w3 ho3 hb3 _)
    refine (put_any _ l n w3 (hv.below hb3) (by omega) h0 h1).mono ?_
    rintro e w4 ⟨v3, rfl, ho4, hb4⟩
    have hr3 := ho3.reads.below hb4
    go_wp2_with fail
    refine (same_any v3 v2 _ _ w4 ho4.reads hr3).mono ?_
    rintro e w5 ⟨rfl, q, rfl⟩
    simp only [beq_self_eq_true]
    go_wp2_with fail
    refine (len_all n _ h0 h1).mono ?_
    rintro e w6 ⟨rfl, rfl⟩
    go_wp2_with fail
    refine (bytes_any n _ h0 h1).mono ?_
    rintro e w7 ⟨u2, rfl, ho7, hb7⟩
    obtain ⟨ao2, cap2, rfl⟩ := ho7.reads.shape
    go_wp2_with fail
    refine (awake_any _).mono ?_
    rintro e w8 ⟨rfl, hb8⟩
    go_wp2_with fail
    go_ret
    exact ⟨rfl, on (on (on (on hb3 hb4) (drawn _ _)) hb7) hb8⟩
end Go.Proofs.Ytgbilfjdhafoaaa
