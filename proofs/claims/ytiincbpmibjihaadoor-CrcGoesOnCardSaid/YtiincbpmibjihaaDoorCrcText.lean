/- crc.Text and the document's own digits. -/
import Derived.Test.YtiincbpmibjihaaDoorCrcAdd
import Derived.WalkLawsBesides
namespace Go.Proofs.YtiincbpmibjihaaDoor
open Go.RowKit

/-- A digit. -/
def Crc.hexd (j : Nat) : UInt8 := (#[48, 49, 50, 51, 52, 53, 54, 55, 56, 57, 97, 98, 99, 100, 101, 102] : Array UInt8).getD j 0
theorem Crc.hexd_at {j : Nat} (h : j < 16) : Crc.hexd j = (⟨#[48, 49, 50, 51, 52, 53, 54, 55, 56, 57, 97, 98, 99, 100, 101, 102]⟩ : ByteArray)[j]'h := by
  unfold Crc.hexd
  rw [Array.getD_eq_getD_getElem?, Array.getElem?_eq_getElem (show j < (#[48, 49, 50, 51, 52, 53, 54, 55, 56, 57, 97, 98, 99, 100, 101, 102] : Array UInt8).size from h)]
  rfl
/-- The eight digits. -/
def Crc.text (x : Nat) : List UInt8 := [x / 16 / 16 / 16 / 16 / 16 / 16 / 16, x / 16 / 16 / 16 / 16 / 16 / 16, x / 16 / 16 / 16 / 16 / 16, x / 16 / 16 / 16 / 16, x / 16 / 16 / 16, x / 16 / 16, x / 16, x].map fun y => Crc.hexd (y % 16)

/-- One digit's facts, as the walks spell them. -/
theorem Crc.one_digit (x : Nat) (hx : x < 4294967296) : ∃ j y : Nat, j < 16 ∧ y < 4294967296 ∧ bits .and .u32 (x : Int) 15 = (j : Int) ∧ (x : Int) % 16 = (j : Int) ∧ (x : Int) / 16 = (y : Int) ∧ Hid (j = x % 16) ∧ Hid (y = x / 16) :=
  ⟨x % 16, x / 16, by omega, by omega, Crc.low_four x hx, by omega, by omega, rfl, rfl⟩

set_option maxRecDepth 4000 in
set_option maxHeartbeats 1600000 in
theorem crcText_any (x : Nat) (w : World) (hx : x < 4294967296) :
    Calls Tryd.prog 9 #[.int .u32 (x : Int)] w fun e w' => e = .returned (.string ⟨(Crc.text x).toArray⟩) ∧ Below w.heap.size w w' := by
  obtain ⟨j7, x1, b7, hx1, e7, -, d7, J7, Y7⟩ := Crc.one_digit x hx
  obtain ⟨j6, x2, b6, hx2, e6, -, d6, J6, Y6⟩ := Crc.one_digit x1 hx1
  obtain ⟨j5, x3, b5, hx3, e5, -, d5, J5, Y5⟩ := Crc.one_digit x2 hx2
  obtain ⟨j4, x4, b4, hx4, e4, -, d4, J4, Y4⟩ := Crc.one_digit x3 hx3
  obtain ⟨j3, x5, b3, hx5, e3, -, d3, J3, Y3⟩ := Crc.one_digit x4 hx4
  obtain ⟨j2, x6, b2, hx6, e2, -, d2, J2, Y2⟩ := Crc.one_digit x5 hx5
  obtain ⟨j1, x7, b1, hx7, e1, -, d1, J1, Y1⟩ := Crc.one_digit x6 hx6
  obtain ⟨j0, x8, b0, hx8, e0, -, d0, J0, Y0⟩ := Crc.one_digit x7 hx7
  have HX : Hid (Crc.text x = [Crc.hexd j0, Crc.hexd j1, Crc.hexd j2, Crc.hexd j3, Crc.hexd j4, Crc.hexd j5, Crc.hexd j6, Crc.hexd j7]) := by
    show _ = _
    rw [J0.out, J1.out, J2.out, J3.out, J4.out, J5.out, J6.out, J7.out, Y1.out, Y2.out, Y3.out, Y4.out, Y5.out, Y6.out, Y7.out]
    rfl
  clear J0 J1 J2 J3 J4 J5 J6 J7 Y0 Y1 Y2 Y3 Y4 Y5 Y6 Y7
  go_enter Tryd.func9, Tryd.ntmps9
  go_wp2
  refine wp_loop_rounds 9 ?_
  rw [rounds_succ]
  go_wp2
  rw [rounds_succ]
  go_wp2
  rw [rounds_succ]
  go_wp2
  rw [rounds_succ]
  go_wp2
  rw [rounds_succ]
  go_wp2
  rw [rounds_succ]
  go_wp2
  rw [rounds_succ]
  go_wp2
  rw [rounds_succ]
  go_wp2
  rw [rounds_succ]
  go_wp2
  rw [run_string_of [Crc.hexd j0, Crc.hexd j1, Crc.hexd j2, Crc.hexd j3, Crc.hexd j4, Crc.hexd j5, Crc.hexd j6, Crc.hexd j7] Tryd.underlying22 Tryd.underlying5 Tryd.underlying9
    (Reads.fresh w _ _ 8 _ rfl (by simp only [cellsOf, List.map_cons, List.map_nil, Crc.hexd_at b0, Crc.hexd_at b1, Crc.hexd_at b2, Crc.hexd_at b3, Crc.hexd_at b4, Crc.hexd_at b5, Crc.hexd_at b6, Crc.hexd_at b7]) (by omega))]
  go_wp2
  go_ret
  exact ⟨by rw [HX.out]; rfl, (Below.refl _ _).alloc (Nat.le_refl _) _⟩

theorem digits_join (a b c d e f g h : UInt8) : (⟨#[a]⟩ ++ (⟨#[b]⟩ ++ (⟨#[c]⟩ ++ (⟨#[d]⟩ ++ (⟨#[e]⟩ ++ (⟨#[f]⟩ ++ (⟨#[g]⟩ ++ (⟨#[h]⟩ ++ ⟨#[]⟩)))))))  : ByteArray) = ⟨[a, b, c, d, e, f, g, h].toArray⟩ := by
  apply ByteArray.ext; simp

theorem run_digit (w : World) (j : Nat) (h : j < 16) :
    (Instr.slice 9 (.string ⟨#[48, 49, 50, 51, 52, 53, 54, 55, 56, 57, 97, 98, 99, 100, 101, 102]⟩) (some (.int .u32 (j : Int))) (some (.int .u32 ((j : Int) + 1))) none).run Tryd.prog w = .ok (.string ⟨#[Crc.hexd j]⟩) w := by
  rw [run_slice_string w 9 _ _ _ _ _ Tryd.underlying9 (by omega) (by omega) (by show (j : Int) + 1 ≤ ((16 : Nat) : Int); omega)]
  congr 2
  have : ∀ j : Fin 16, (⟨#[48, 49, 50, 51, 52, 53, 54, 55, 56, 57, 97, 98, 99, 100, 101, 102]⟩ : ByteArray).extract (j.1 : Int).toNat ((j.1 : Int) + 1).toNat = ⟨#[Crc.hexd j.1]⟩ := by decide
  exact this ⟨j, h⟩

set_option maxRecDepth 4000 in
set_option maxHeartbeats 1600000 in
theorem refText_any (x : Nat) (w : World) (hx : x < 4294967296) :
    Calls Tryd.prog 10 #[.int .u32 (x : Int)] w fun e w' => e = .returned (.string ⟨(Crc.text x).toArray⟩) ∧ w = w' := by
  obtain ⟨j7, x1, b7, hx1, -, e7, d7, J7, Y7⟩ := Crc.one_digit x hx
  obtain ⟨j6, x2, b6, hx2, -, e6, d6, J6, Y6⟩ := Crc.one_digit x1 hx1
  obtain ⟨j5, x3, b5, hx3, -, e5, d5, J5, Y5⟩ := Crc.one_digit x2 hx2
  obtain ⟨j4, x4, b4, hx4, -, e4, d4, J4, Y4⟩ := Crc.one_digit x3 hx3
  obtain ⟨j3, x5, b3, hx5, -, e3, d3, J3, Y3⟩ := Crc.one_digit x4 hx4
  obtain ⟨j2, x6, b2, hx6, -, e2, d2, J2, Y2⟩ := Crc.one_digit x5 hx5
  obtain ⟨j1, x7, b1, hx7, -, e1, d1, J1, Y1⟩ := Crc.one_digit x6 hx6
  obtain ⟨j0, x8, b0, hx8, -, e0, d0, J0, Y0⟩ := Crc.one_digit x7 hx7
  have HX : Hid (Crc.text x = [Crc.hexd j0, Crc.hexd j1, Crc.hexd j2, Crc.hexd j3, Crc.hexd j4, Crc.hexd j5, Crc.hexd j6, Crc.hexd j7]) := by
    show _ = _
    rw [J0.out, J1.out, J2.out, J3.out, J4.out, J5.out, J6.out, J7.out, Y1.out, Y2.out, Y3.out, Y4.out, Y5.out, Y6.out, Y7.out]
    rfl
  clear J0 J1 J2 J3 J4 J5 J6 J7 Y0 Y1 Y2 Y3 Y4 Y5 Y6 Y7
  have r0 := fun w => run_digit w j0 b0
  have r1 := fun w => run_digit w j1 b1
  have r2 := fun w => run_digit w j2 b2
  have r3 := fun w => run_digit w j3 b3
  have r4 := fun w => run_digit w j4 b4
  have r5 := fun w => run_digit w j5 b5
  have r6 := fun w => run_digit w j6 b6
  have r7 := fun w => run_digit w j7 b7
  go_enter Tryd.func10, Tryd.ntmps10
  go_wp2
  refine wp_loop_rounds 9 ?_
  rw [rounds_succ]
  go_wp2
  rw [rounds_succ]
  go_wp2
  rw [rounds_succ]
  go_wp2
  rw [rounds_succ]
  go_wp2
  rw [rounds_succ]
  go_wp2
  rw [rounds_succ]
  go_wp2
  rw [rounds_succ]
  go_wp2
  rw [rounds_succ]
  go_wp2
  rw [rounds_succ]
  go_wp2
  go_ret
  exact ⟨by rw [HX.out]; exact congrArg (fun b => Ending.returned (.string b)) (digits_join _ _ _ _ _ _ _ _), rfl⟩
end Go.Proofs.YtiincbpmibjihaaDoor
