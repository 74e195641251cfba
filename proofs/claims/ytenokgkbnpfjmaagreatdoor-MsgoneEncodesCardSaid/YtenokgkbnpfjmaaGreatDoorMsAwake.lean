/- The program awake: a message encoded. -/
import Derived.Test.YtenokgkbnpfjmaaGreatDoorGMp
namespace Go.Proofs.YtenokgkbnpfjmaaGreatDoor
open Go.RowKit

/-- What node 1 asks of node 2. -/
def Ms.ask : Ms.Msg := ⟨9, 1, 2, Bl.zero, 3, 0, 0, [], []⟩

set_option maxRecDepth 4000 in
set_option maxHeartbeats 1600000 in
theorem awakeM_any (w : World) (hF : FieldsIn w) (hW : WordsIn w) : Calls Tryz.prog 6 #[] w (Truly w) := by
  have hcall := encodeM_any Ms.ask (.slice none 0 0) (.slice none 0 0) w hF hW (ReadsR.empty w 10) (Reads.empty w) ⟨by decide +kernel, fun e he => by simp [Ms.ask] at he⟩ (fun e he => by simp [Ms.ask] at he) (by simp [Ms.ask]) (by simp [Ms.ask])
  unfold MEncd at hcall
  rw [show Ms.older Ms.ask = 0 by decide +kernel, if_pos rfl, show Ms.bytes Ms.ask = [9, 1, 2, 0, 0, 3, 0, 0, 0] by decide +kernel] at hcall
  have HCALL := Lib.hid hcall
  clear hcall hF hW
  go_enter Tryz.func6, Tryz.ntmps6
  go_wp2_with fail
  refine HCALL.out.mono ?_
  rintro e1 w1 ⟨hB1, u, rfl, hu⟩
  obtain ⟨ao, cap, rfl⟩ := hu.shape
  obtain ⟨b, off, rfl, hcell⟩ := hu.place (by simp)
  have c0 := hcell 0 9 rfl
  have c5 := hcell 5 3 rfl
  rw [Nat.add_zero] at c0
  have hlen := hu.len
  have HB1 := Lib.hid hB1
  clear hu hcell hB1
  go_wp2
  go_ret
  exact truly_of HB1.out

end Go.Proofs.YtenokgkbnpfjmaaGreatDoor
