/- Does the program answer at all: the number 300 in two bytes. -/
import Derived.Test.YtgbilfjdhafoaaaPut
import Derived.Test.YtgbilfjdhafoaaaSame
import Derived.Test.YtgbilfjdhafoaaaGet
namespace Go.Proofs.Ytgbilfjdhafoaaa
open Go.RowKit

/-- What a law leaves that answers true: nothing that was there has changed. -/
def Truly (w : World) (e : Ending) (w' : World) : Prop := e = .returned (.bool true) ∧ Below w.heap.size w w'

theorem enc_300 : enc 300 = [172, 2] := by
  rw [enc_ge (by omega), enc_lt (by omega)]; decide

set_option maxRecDepth 4000 in
set_option maxHeartbeats 800000 in
theorem awake_any (w : World) : Calls Try.prog 6 #[] w (Truly w) := by
  go_enter Try.func6, Try.ntmps6
  go_wp2_with fail
  refine (put_any _ [] 300 _ (Reads.empty _) (by simp) (by omega) (by omega)).mono ?_
  rintro e w1 ⟨v, rfl, ho, hb⟩
  have hr := ho.reads
  rw [show ([] : List UInt8) ++ enc (300 : Int).toNat = [172, 2] from enc_300] at hr
  clear ho
  obtain ⟨ao, cap, rfl⟩ := hr.shape
  obtain ⟨b, off, rfl, hc⟩ := hr.place (by simp)
  have hc0 := hc 0 172 rfl
  have hc1 := hc 1 2 rfl
  simp only [Nat.add_zero] at hc0
  clear hc hr
  go_wp2_with (go_at_call 10; refine (len_is _ _ 300 2 rfl (by omega) (show 2 = (enc 300).length by rw [enc_300]; rfl)).mono ?_; rintro e w' ⟨rfl, rfl⟩)
  go_ret
  exact ⟨rfl, hb⟩
end Go.Proofs.Ytgbilfjdhafoaaa
