/- Quoted strings: stray, value; AppendRune onto a row of the call's own. -/
import Derived.Test.YtgnjbbedeeiemaaQtSplit
import Derived.Test.YtgnjbbedeeiemaaApp
import Derived.Test.YtgnjbbedeeiemaaShelf
namespace Go.Proofs.Ytgnjbbedeeiemaa
open Go.RowKit

theorem info_byte : (Try.prog.info? 5).map (fun i => (i.zero, i.size, i.bytes)) = some (some (.int .u8 0), 1, 1) := by kernel_rfl

set_option maxRecDepth 4000 in
theorem stray_any (s : ByteArray) (i : Nat) (hi : i < s.size) (w : World) : Calls Try.prog 16 #[.string (s.extract i s.size), .int .i32 ((Utf8.decode s i).1 : Int)] w (Says w (.bool (Rn.isBad s i))) := by
  by_cases hr : (Utf8.decode s i).1 = 65533
  · have hl := Rn.lost_three s i hr hi
    rw [← Rn.pre_three s i (by omega)] at hl
    rw [hr]
    have HL := Lib.hid hl
    clear hl hr
    go_enter Try.func16, Try.ntmps16
    go_wp2_with fail
    refine (prefix_any _ _ _).mono ?_
    rintro e w1 ⟨rfl, rfl⟩
    go_wp2
    go_ret
    refine ⟨?_, rfl⟩
    rw [HL.out]
    rfl
  · have hb : Rn.isBad s i = false := by
      unfold Rn.isBad
      cases he : (Utf8.decode s i == (65533, 1)) with
      | false => rfl
      | true => simp at he; exact absurd (by rw [he]) hr
    have hne : (((Utf8.decode s i).1 : Int) == 65533) = false := by simp; omega
    rw [hb]
    obtain ⟨r, hr'⟩ : ∃ r, r = (Utf8.decode s i).1 := ⟨_, rfl⟩
    rw [← hr'] at hne ⊢
    clear hr hr' hb
    go_enter Try.func16, Try.ntmps16
    go_wp2
    go_ret
    exact ⟨rfl, rfl⟩

theorem value_any (c : UInt8) (w : World) : Calls Try.prog 28 #[.int .u8 (c.toNat : Int)] w (Says w (.int .u8 (Qt.hv c : Int))) := by
  have hh : Hid (((c.toNat : Int).toNat).toUInt8 = c) := by show _ = _; rw [Int.toNat_natCast]; exact UInt8.ofNat_toNat
  have hg := Lib.indexByte_ge Qt.digits c
  have hp : Hid (Lib.indexByte Qt.digits c % 256 = (Qt.hv c : Int)) := by show _ = _; unfold Qt.hv; omega
  clear hg
  obtain ⟨z, hz⟩ : ∃ z, Lib.indexByte (ByteArray.mk #[48, 49, 50, 51, 52, 53, 54, 55, 56, 57, 97, 98, 99, 100, 101, 102]).data.toList c = z := ⟨_, rfl⟩
  have hp2 : Hid (z % 256 = (Qt.hv c : Int)) := by show _ = _; rw [← hz]; exact hp.out
  have HZ := Lib.hid hz
  clear hp hz
  go_enter Try.func28, Try.ntmps28
  go_wp2_with fail
  refine (Try.strings_IndexByte _ _ _).mono ?_
  rintro e w1 ⟨rfl, rfl⟩
  rw [hh.out, HZ.out]
  go_wp2
  go_ret
  exact ⟨ret_int hp2.out, rfl⟩

/-- utf8.AppendRune onto a row of bytes of the call's own. -/
theorem rune_any (base : Nat) (v : Value) (l : List UInt8) (r : Nat) (hr : r ≤ 1114111) (w : World) (ho : Owns w base 5 v l) (hl : l.length ≤ 140737488355000) (hB : base ≤ w.heap.size) :
    Calls Try.prog 17 #[v, .int .i32 (r : Int)] w fun e w' => ∃ v' o, e = .returned v' ∧ Owns w' base 5 v' (l ++ Lib.encodeRune (r : Int)) ∧ (w.alloc o).grownBy w' v.ownBlock := by
  refine (Try.utf8_AppendRune_plain base v l.length (cellsOf l) (r : Int) (by omega) (by omega) w ho (by omega) hB).mono ?_
  rintro e w' ⟨v', he, h1, o, h2⟩
  refine ⟨v', o, he, ?_, h2⟩
  have e1 : Lib.runeCells (r : Int) = cellsOf (Lib.encodeRune (r : Int)) := (Lib.byteCells_encodeRune _).symm
  rw [e1] at h1
  unfold Owns
  rw [List.length_append, cellsOf_app]
  rwa [cellsOf_len] at h1
end Go.Proofs.Ytgnjbbedeeiemaa
