/- PackWrites' walk. -/
import Derived.Test.YtpdblmicgpgiaaaPkPut
namespace Go.Proofs.Ytpdblmicgpgiaaa
open Go.RowKit

set_option maxRecDepth 4000 in
set_option maxHeartbeats 1600000 in
theorem packWrites_any (v : Value) (l : List Fld) (w : World) (hv : ReadsF w v l) : Calls Try.prog 3 #[v] w (Truly w) := by
  obtain ⟨t, ht⟩ : ∃ t, Pk.large l = t := ⟨_, rfl⟩
  obtain ⟨ao, cap, rfl, _, _⟩ := hv.shape
  have HT := Lib.hid ht
  cases t with
  | true =>
    clear ht
    go_enter Try.func3, Try.ntmps3
    go_wp2_with fail
    refine (large_any _ l _ hv).mono ?_
    rintro e0 w0 ⟨rfl, rfl⟩
    rw [HT.out]
    go_wp2_with fail
    refine (awake_any _).mono ?_
    rintro e w1 ⟨rfl, hb⟩
    go_wp2
    go_ret
    exact ⟨rfl, hb⟩
  | false =>
    go_enter Try.func3, Try.ntmps3
    go_wp2_with fail
    refine (large_any _ l _ hv).mono ?_
    rintro e0 w0 ⟨rfl, rfl⟩
    rw [HT.out]
    go_wp2_with fail
    refine (lawput_any _ l _ hv ht).mono ?_
    rintro e1 w1 ⟨u1, rfl, ho1, hb1⟩
    go_wp2_with fail
    refine (refBytes_any _ l _ (hv.below hb1) ht).mono ?_
    rintro e2 w2 ⟨u2, rfl, ho2, hb2⟩
    go_wp2_with fail
    refine (same_any _ _ _ _ _ (ho1.reads.below hb2) ho2.reads).mono ?_
    rintro e3 w3 ⟨rfl, q, rfl⟩
    rw [beq_self_eq_true]
    go_wp2_with fail
    refine (awake_any _).mono ?_
    rintro e4 w4 ⟨rfl, hb4⟩
    go_wp2
    go_ret
    exact ⟨rfl, (on (on hb1 hb2) (drawn w2 q)).trans (hb4.mono (on (on hb1 hb2) (drawn w2 q)).size)⟩
end Go.Proofs.Ytpdblmicgpgiaaa
