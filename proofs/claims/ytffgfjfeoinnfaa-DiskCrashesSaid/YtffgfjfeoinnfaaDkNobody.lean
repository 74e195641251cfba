/- The law of a disk that is nil. -/
import Derived.Test.YtffgfjfeoinnfaaDkAwake
namespace Go.Proofs.Ytffgfjfeoinnfaa
open Go.RowKit

set_option maxRecDepth 4000 in
set_option maxHeartbeats 1600000 in
theorem diskNobody_any {p : Nat → TypeId → Prop} (v : Value) (l : List Dk.Step) (w : World) (hv : StepsP p w v l) : Calls Try.prog 5 #[v] w (Truly w) := by
  have HAW := Lib.hid (fun (W : World) => awakeD_any W)
  have hlg := large_any v l w hv
  obtain ⟨ao, cap, rfl, hc1, hc2⟩ := ListP.shape hv
  have HP := Lib.hid (fun h => ListP.places hv cellS_first h)
  obtain ⟨n, hn⟩ : ∃ n, n = l.length := ⟨_, rfl⟩
  rw [← hn] at hlg HP hc1 ⊢
  have HN := Lib.hid hn
  clear hv hn
  go_enter Try.func5, Try.ntmps5
  go_wp2_with fail
  refine hlg.mono ?_
  rintro e w1 ⟨b, rfl, rfl, hsm⟩
  cases b with
  | true =>
    have haw := HAW.out w1
    clear hlg hsm
    go_wp2_with fail
    refine haw.mono ?_
    rintro e w2 ⟨rfl, hB1⟩
    go_wp2
    go_ret
    exact truly_of hB1
  | false =>
    have HSM := Lib.hid (hsm rfl)
    have hn60 : n ≤ 60 := by have := HSM.out.1; have := HN.out; omega
    clear hlg hsm
    go_wp2
    go_loopw [4] (fun x wr => ∃ k : Nat, x = .int .i64 (k : Int) ∧ k ≤ n ∧ Hid (Below w1.heap.size w1 wr)) (fun x _ => n - (intOf x).toNat)
    case atStart => exact ⟨0, rfl, Nat.zero_le _, Below.refl _ _⟩
    case round =>
      obtain ⟨k, rfl, hk, HB⟩ := hrel
      by_cases hlt : k < n
      · have hint : ((k : Nat) : Int) < (n : Int) := by omega
        obtain ⟨s, hs⟩ : ∃ s, l[k]? = some s := ⟨_, List.getElem?_eq_getElem (by have := HN.out; omega)⟩
        obtain ⟨g, off, rfl, _, hc⟩ := HP.out (by have := HN.out; omega)
        obtain ⟨u, hu, hcell⟩ := hc k s hs
        have hcw := hcell wr HB.out
        have c0 : wr.cell? ⟨g, off + k * 4, none⟩ = some (.int .i64 s.kind) := hcw 0 _ rfl
        have c1 : wr.cell? ⟨g, off + k * 4 + 1, none⟩ = some (.int .i64 s.no) := hcw 1 _ rfl
        have c2 : wr.cell? ⟨g, off + k * 4 + 2, none⟩ = some (.int .i64 s.n) := hcw 2 _ rfl
        have c3 : wr.cell? ⟨g, off + k * 4 + 3, none⟩ = some u := hcw 3 _ rfl
        have hst := step_nil (w := wr) s u (hu.1.below HB.out)
        clear hc hcell hcw hs hu
        go_wp2_with fail
        refine hst.mono ?_
        rintro e w2 ⟨rfl, hB2⟩
        have HB2 := Lib.hid (HB.out.trans (hB2.mono HB.out.size))
        clear hst hB2
        go_wp2
        go_roundw
        case rel => exact ⟨k + 1, by go_num, by omega, HB2⟩
        case measure => simp [intOf]; omega
      · obtain rfl : k = n := by omega
        have hint : ¬ ((k : Nat) : Int) < (k : Int) := by omega
        have haw := HAW.out wr
        go_wp2_with (first | (go_at_call 12; refine (files_nil _).mono ?_; rintro e w' ⟨rfl, rfl⟩) | (go_at_call 15; refine (view_nil _).mono ?_; rintro e w' ⟨rfl, rfl⟩) | (go_at_call 14; refine (buffered_nil _).mono ?_; rintro e w' ⟨rfl, rfl⟩) | (go_at_call 7; refine haw.mono ?_; rintro e w2 ⟨rfl, hB2⟩))
        go_ret
        exact truly_of (HB.out.trans (hB2.mono HB.out.size))
end Go.Proofs.Ytffgfjfeoinnfaa
