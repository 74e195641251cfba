/- The laws of entries: EntryChecks. -/
import Derived.Test.YtdbiplicmdnblaaDoorEnRefC
import Derived.Test.YtdbiplicmdnblaaDoorEnAwake
namespace Go.Proofs.YtdbiplicmdnblaaDoor
open Go.RowKit

set_option maxRecDepth 4000 in
set_option maxHeartbeats 1600000 in
theorem entryChecks_any (v : Int) (u : Value) (l : List En.Ent) (w : World) (hw : WordsIn w) (hu : ReadsE w u l) (hs : ∀ e ∈ l, e.cmd.Short 9223372036854775807) :
    Calls Tryd.prog 3 #[.int .i64 v, u] w (Truly w) := by
  have hlarge := largeE_any u l w hu hs
  have HW := Lib.hid hw
  have HU := Lib.hid hu
  obtain ⟨ao, cap, rfl, _, _⟩ := ReadsE.shape hu
  obtain ⟨n, hn⟩ : ∃ n, n = l.length := ⟨_, rfl⟩
  rw [← hn] at hlarge HU ⊢
  obtain ⟨t, ht⟩ : ∃ t, t = En.large l := ⟨_, rfl⟩
  rw [← ht] at hlarge
  have HT := Lib.hid ht
  clear hw hu hn ht hs
  cases t with
  | true =>
    go_enter Tryd.func3, Tryd.ntmps3
    go_wp2_with (first
      | (go_at_call 5; refine hlarge.mono ?_; rintro e1 w1 ⟨rfl, hB1⟩)
      | (go_at_call 6; refine (awakeE_any _ (HW.out.below hB1)).mono ?_; rintro e2 w2 ⟨rfl, hB2⟩))
    go_ret
    exact truly_of (hB1.trans (hB2.mono hB1.size))
  | false =>
    obtain ⟨h40, hsm⟩ := En.small HT.out.symm
    have HSM : Hid (∀ e ∈ l, e.cmd.Short 140737488355328) := fun e he => ⟨Nat.le_trans (hsm e he).1 (by omega), Nat.le_trans (hsm e he).2.1 (by omega), Nat.le_trans (hsm e he).2.2 (by omega)⟩
    obtain ⟨y, hy⟩ : ∃ y, y = En.check 0 l := ⟨_, rfl⟩
    have HCK := Lib.hid (fun W h hW => checkE_any (.slice ao n cap) l W h hW HSM.out)
    have HRC := Lib.hid (fun W h => refCheckE_any (.slice ao n cap) l W h HSM.out)
    rw [← hy] at HCK HRC
    obtain ⟨z, hz⟩ : ∃ z, z = En.has v l := ⟨_, rfl⟩
    have HHS := Lib.hid (fun W h => hasE_any v (.slice ao n cap) l W h)
    have HRH := Lib.hid (fun W h => refHasE_any v (.slice ao n cap) l W h)
    rw [← hz] at HHS HRH
    have hyy : (y == y) = true := by simp
    have hzz : (z == z) = true := by simp
    clear hy hz h40 hsm
    go_enter Tryd.func3, Tryd.ntmps3
    go_wp2_with (first
      | (go_at_call 5; refine hlarge.mono ?_; rintro e1 w1 ⟨rfl, hB1⟩)
      | (go_at_call 7; refine (HCK.out _ (HU.out.below hB1) (HW.out.below hB1)).mono ?_; rintro e2 w2 ⟨rfl, hB2⟩; have HB2 := Lib.hid (hB1.trans (hB2.mono hB1.size)))
      | (go_at_call 8; refine (HRC.out _ (HU.out.below HB2.out)).mono ?_; rintro e3 w3 ⟨rfl, hB3⟩; have HB3 := Lib.hid (HB2.out.trans (hB3.mono HB2.out.size)))
      | (go_at_call 9; refine (HHS.out _ (HU.out.below HB3.out)).mono ?_; rintro e4 w4 ⟨rfl, hB4⟩; have HB4 := Lib.hid (HB3.out.trans (hB4.mono HB3.out.size)))
      | (go_at_call 10; refine (HRH.out _ (HU.out.below HB4.out)).mono ?_; rintro e5 w5 ⟨rfl, hB5⟩; have HB5 := Lib.hid (HB4.out.trans (hB5.mono HB4.out.size)))
      | (go_at_call 6; refine (awakeE_any _ (HW.out.below HB5.out)).mono ?_; rintro e6 w6 ⟨rfl, hB6⟩))
    go_ret
    exact truly_of (HB5.out.trans (hB6.mono HB5.out.size))

end Go.Proofs.YtdbiplicmdnblaaDoor
