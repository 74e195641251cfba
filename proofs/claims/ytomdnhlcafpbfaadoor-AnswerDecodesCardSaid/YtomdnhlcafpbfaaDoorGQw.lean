/- Several texts of mine in one: QtLeaf QtRef QtQuote QtPlain QtUnq QtRefU QtWord QtStrs QtParts QtLine. -/
import Derived.Test.YtomdnhlcafpbfaaDoorGQm
import Derived.Test.YtomdnhlcafpbfaaDoorApp
import Derived.Test.YtomdnhlcafpbfaaDoorShelf
import Derived.WalkLawsBesides
import Derived.Laws.BitsAllLaws
import Derived.SliceStrings
import Derived.Maps.AppendAt
namespace Go.Proofs.YtomdnhlcafpbfaaDoor
open Go.RowKit

theorem info_byteQ : (Tryd.prog.info? 5).map (fun i => (i.zero, i.size, i.bytes)) = some (some (.int .u8 0), 1, 1) := by kernel_rfl

set_option maxRecDepth 4000 in
theorem stray_any (s : ByteArray) (i : Nat) (hi : i < s.size) (w : World) : Calls Tryd.prog 58 #[.string (s.extract i s.size), .int .i32 ((Utf8.decode s i).1 : Int)] w (Says w (.bool (Rn.isBad s i))) := by
  by_cases hr : (Utf8.decode s i).1 = 65533
  · have hl := Rn.lost_three s i hr hi
    rw [← Rn.pre_three s i (by omega)] at hl
    rw [hr]
    have HL := Lib.hid hl
    clear hl hr
    go_enter Tryd.func58, Tryd.ntmps58
    go_wp2_with fail
    refine (prefix_any _ _ _).mono ?_
    rintro e w1 ⟨rfl, rfl⟩
    go_wp2
    go_ret
    refine ⟨?_, rfl⟩
    rw [HL.out]
    rfl
  · have hb : Rn.isBad s i = false := by
      unfold Rn.isBad
      cases he : (Utf8.decode s i == (65533, 1)) with
      | false => rfl
      | true => simp at he; exact absurd (by rw [he]) hr
    have hne : (((Utf8.decode s i).1 : Int) == 65533) = false := by simp; omega
    rw [hb]
    obtain ⟨r, hr'⟩ : ∃ r, r = (Utf8.decode s i).1 := ⟨_, rfl⟩
    rw [← hr'] at hne ⊢
    clear hr hr' hb
    go_enter Tryd.func58, Tryd.ntmps58
    go_wp2
    go_ret
    exact ⟨rfl, rfl⟩

theorem value_any (c : UInt8) (w : World) : Calls Tryd.prog 90 #[.int .u8 (c.toNat : Int)] w (Says w (.int .u8 (Qt.hv c : Int))) := by
  have hh : Hid (((c.toNat : Int).toNat).toUInt8 = c) := by show _ = _; rw [Int.toNat_natCast]; exact UInt8.ofNat_toNat
  have hg := Lib.indexByte_ge Qt.digits c
  have hp : Hid (Lib.indexByte Qt.digits c % 256 = (Qt.hv c : Int)) := by show _ = _; unfold Qt.hv; omega
  clear hg
  obtain ⟨z, hz⟩ : ∃ z, Lib.indexByte (ByteArray.mk #[48, 49, 50, 51, 52, 53, 54, 55, 56, 57, 97, 98, 99, 100, 101, 102]).data.toList c = z := ⟨_, rfl⟩
  have hp2 : Hid (z % 256 = (Qt.hv c : Int)) := by show _ = _; rw [← hz]; exact hp.out
  have HZ := Lib.hid hz
  clear hp hz
  go_enter Tryd.func90, Tryd.ntmps90
  go_wp2_with fail
  refine (Tryd.strings_IndexByte _ _ _).mono ?_
  rintro e w1 ⟨rfl, rfl⟩
  rw [hh.out, HZ.out]
  go_wp2
  go_ret
  exact ⟨ret_int hp2.out, rfl⟩

/-- utf8.AppendRune onto a row of bytes of the call's own. -/
theorem rune_any (base : Nat) (v : Value) (l : List UInt8) (r : Nat) (hr : r ≤ 1114111) (w : World) (ho : Owns w base 5 v l) (hl : l.length ≤ 140737488355000) (hB : base ≤ w.heap.size) :
    Calls Tryd.prog 59 #[v, .int .i32 (r : Int)] w fun e w' => ∃ v' o, e = .returned v' ∧ Owns w' base 5 v' (l ++ Lib.encodeRune (r : Int)) ∧ (w.alloc o).grownBy w' v.ownBlock := by
  refine (Tryd.utf8_AppendRune_plain base v l.length (cellsOf l) (r : Int) (by omega) (by omega) w ho (by omega) hB).mono ?_
  rintro e w' ⟨v', he, h1, o, h2⟩
  refine ⟨v', o, he, ?_, h2⟩
  have e1 : Lib.runeCells (r : Int) = cellsOf (Lib.encodeRune (r : Int)) := (Lib.byteCells_encodeRune _).symm
  rw [e1] at h1
  unfold Owns
  rw [List.length_append, cellsOf_app]
  rwa [cellsOf_len] at h1
end Go.Proofs.YtomdnhlcafpbfaaDoor


namespace Go.Proofs.YtomdnhlcafpbfaaDoor
open Go.RowKit

theorem run_hex (w : World) (j : Nat) (h : j < 16) :
    (Instr.slice 9 (.string ⟨#[48, 49, 50, 51, 52, 53, 54, 55, 56, 57, 97, 98, 99, 100, 101, 102]⟩) (some (.int .u8 (j : Int))) (some (.int .u8 ((j : Int) + 1))) none).run Tryd.prog w = .ok (.string ⟨#[Qt.hex j]⟩) w := by
  rw [run_slice_string w 9 _ _ _ _ _ Tryd.underlying9 (by omega) (by omega) (by show (j : Int) + 1 ≤ ((16 : Nat) : Int); omega)]
  congr 2
  have : ∀ j : Fin 16, (⟨#[48, 49, 50, 51, 52, 53, 54, 55, 56, 57, 97, 98, 99, 100, 101, 102]⟩ : ByteArray).extract (j.1 : Int).toNat ((j.1 : Int) + 1).toNat = ⟨#[Qt.hex j.1]⟩ := by decide
  exact this ⟨j, h⟩
theorem run_cut (s : ByteArray) (q e : Nat) (z : Int) (hz : z = (e : Int)) (h1 : q ≤ e) (h2 : e ≤ s.size) (w : World) :
    (Instr.slice 9 (.string s) (some (.int .i64 (q : Int))) (some (.int .i64 z)) none).run Tryd.prog w = .ok (.string (s.extract q e)) w := by
  subst hz
  rw [run_slice_string w 9 _ _ _ _ _ Tryd.underlying9 (by omega) (by omega) (by omega)]
  rw [Int.toNat_natCast, Int.toNat_natCast]
theorem Qt.ext_list (s : ByteArray) (i j : Nat) : (s.extract i j).data.toList = (s.data.toList.drop i).take (j - i) := by
  simp only [ByteArray.data_extract, Array.toList_extract, List.extract_eq_take_drop]
theorem Qt.app_list (a b : ByteArray) : (a ++ b).data.toList = a.data.toList ++ b.data.toList := by simp

set_option maxRecDepth 4000 in
set_option maxHeartbeats 3200000 in
theorem refQuote_any (s : ByteArray) (w : World) (hs : s.size ≤ 1000000000000) :
    Calls Tryd.prog 33 #[.string s] w (Finds w (.string ⟨(Qt.quote s).toArray⟩)) := by
  go_enter Tryd.func33, Tryd.ntmps33
  go_wp2
  go_loopw [3, 4, 5, 6, 7, 26, 63] (fun v i _ _ _ _ _ wr => ∃ (q : Nat) (A : ByteArray), v = .string A ∧ i = .int .i64 (q : Int) ∧ q ≤ s.size ∧ Below w.heap.size w wr ∧ A.size ≤ 4 * q + 1 ∧ Hid (A.data.toList ++ Qt.bodyAt s q = 34 :: Qt.bodyAt s 0)) (fun _ i _ _ _ _ _ _ => s.size - (intOf i).toNat)
  case atStart => exact ⟨0, ⟨#[34]⟩, rfl, rfl, by omega, Below.refl _ _, by decide, rfl⟩
  case round =>
    obtain ⟨q, A, rfl, rfl, hq, hb0, hA, HQ⟩ := hrel
    have hbd : Below w.heap.size w wr.drew := hb0.trans ((drawn wr 1).mono hb0.size)
    by_cases hlt : q < s.size
    · have hw1 := Rn.width_pos s q
      have hw2 := Rn.width_le s q hlt
      have hd4 : (Utf8.decode s q).2 ≤ 4 := by
        rw [Rn.decode_eq]; repeat' split
        all_goals simp
      have hstep := Qt.bodyAt_eq s q hlt
      have hf := Rn.size_fst s q
      have hat : ∀ h, (s[q]'h).toNat = (s.get! q).toNat := fun h => Rn.byteAt_get s q h
      obtain ⟨c, hc⟩ : ∃ c, c = s.get! q := ⟨_, rfl⟩
      have HC : Hid (Rn.byteAt s q = c.toNat) := by show _ = _; rw [hc]; rfl
      rw [← hc] at hat
      have h256 : c.toNat < 256 := c.toNat_lt
      by_cases h34 : (Utf8.decode s q).1 = 34 ∨ (Utf8.decode s q).1 = 92
      · have hnb : Rn.isBad s q = false := by
          cases h : Rn.isBad s q with
          | false => rfl
          | true => unfold Rn.isBad at h; simp at h; rw [h] at h34; simp at h34
        have hd : (Utf8.decode s q).2 = 1 := by
          by_cases h128 : Rn.byteAt s q < 128
          · rw [Rn.low_one s q h128]
          · have := Rn.high_high s q (by omega); omega
        have hp : Qt.piece s q = [92, c] := by unfold Qt.piece; rw [if_pos h34, hc]
        have hsn := Rn.size_snd s q hnb
        rw [hnb] at hf
        rw [hp, hd] at hstep
        rw [hd] at hf
        have hex1 : (s.extract q (q + 1)).data.toList = [c] := by
          rw [Qt.ext_list, Qt.drop_eq s q hlt, hc, show q + 1 - q = 1 by omega]; rfl
        have HS : Hid ((A ++ ⟨#[92]⟩ ++ s.extract q (q + 1)).data.toList ++ Qt.bodyAt s (q + 1) = 34 :: Qt.bodyAt s 0) := by
          show _ = _
          rw [← HQ.out, hstep, Qt.app_list, Qt.app_list, hex1, List.append_assoc, List.append_assoc]; rfl
        have HZ : Hid ((A ++ ⟨#[92]⟩ ++ s.extract q (q + 1)).size ≤ 4 * (q + 1) + 1) := by
          show _ ≤ _
          rw [ByteArray.size_append, ByteArray.size_append, ByteArray.size_extract]
          have : (ByteArray.mk #[92]).size = 1 := rfl
          omega
        have HF := Lib.hid hf
        have HN := Lib.hid hsn
        obtain ⟨r, hr⟩ : ∃ r, r = (Utf8.decode s q).1 := ⟨_, rfl⟩
        rw [← hr] at h34 HN
        clear hf hsn hstep hp hc hnb hex1 hr hw1 hd hd4
        have hsl := fun w => run_cut s q (q + 1) ((q : Int) + 1) (by omega) (by omega) hlt w
        rcases h34 with rfl | rfl
        · go_wp2_with fail
          refine (refSize_any _ _ _ hlt (by omega)).mono ?_
          rintro e w1 ⟨rfl, rfl⟩
          rw [HF.out, HN.out]
          simp only [Bool.false_eq_true, if_false]
          go_wp2
          go_roundw
          case rel => exact ⟨q + 1, _, rfl, by go_num, by omega, hb0, HZ.out, HS.out⟩
          case measure => simp [intOf]; omega
        · go_wp2_with fail
          refine (refSize_any _ _ _ hlt (by omega)).mono ?_
          rintro e w1 ⟨rfl, rfl⟩
          rw [HF.out, HN.out]
          simp only [Bool.false_eq_true, if_false]
          go_wp2
          go_roundw
          case rel => exact ⟨q + 1, _, rfl, by go_num, by omega, hb0, HZ.out, HS.out⟩
          case measure => simp [intOf]; omega
      · by_cases hes : (Utf8.decode s q).1 < 32 ∨ (Utf8.decode s q).1 = 127 ∨ Rn.isBad s q = true
        · have hd : (Utf8.decode s q).2 = 1 := by
            by_cases h128 : Rn.byteAt s q < 128
            · rw [Rn.low_one s q h128]
            · have := Rn.high_high s q (by omega)
              have hb : Rn.isBad s q = true := by rcases hes with h | h | h; omega; omega; exact h
              unfold Rn.isBad at hb; simp at hb; rw [hb]
          have hp : Qt.piece s q = Qt.esc c := by unfold Qt.piece; rw [if_neg h34, if_pos hes, hc]
          rw [hp, hd] at hstep
          obtain ⟨x1, hx1⟩ : ∃ x1, x1 = c.toNat / 16 := ⟨_, rfl⟩
          obtain ⟨x2, hx2⟩ : ∃ x2, x2 = c.toNat % 16 := ⟨_, rfl⟩
          have g1 : x1 < 16 := by omega
          have g2 : x2 < 16 := by omega
          have i3 : (q : Int) < (s.size : Int) := by omega
          have b1 : (c.toNat : Int) / (16 : Int) = (x1 : Int) := by omega
          have b2 : (c.toNat : Int) % (16 : Int) = (x2 : Int) := by omega
          have r1 := fun w => run_hex w x1 g1
          have r2 := fun w => run_hex w x2 g2
          have he : Qt.esc c = [92, 120, Qt.hex x1, Qt.hex x2] := by rw [hx1, hx2]; rfl
          have HS : Hid ((A ++ ⟨#[92, 120]⟩ ++ ⟨#[Qt.hex x1]⟩ ++ ⟨#[Qt.hex x2]⟩).data.toList ++ Qt.bodyAt s (q + 1) = 34 :: Qt.bodyAt s 0) := by
            show _ = _
            rw [← HQ.out, hstep, he, Qt.app_list, Qt.app_list, Qt.app_list]; simp
          have HZ : Hid ((A ++ ⟨#[92, 120]⟩ ++ ⟨#[Qt.hex x1]⟩ ++ ⟨#[Qt.hex x2]⟩).size ≤ 4 * (q + 1) + 1) := by
            show _ ≤ _
            rw [ByteArray.size_append, ByteArray.size_append, ByteArray.size_append]
            have z1 : (ByteArray.mk #[92, 120]).size = 2 := rfl
            have z2 : ∀ c, (ByteArray.mk #[c]).size = 1 := fun _ => rfl
            rw [z1, z2, z2]
            omega
          cases hb : Rn.isBad s q with
          | true =>
            rw [hb] at hf
            have hsn : (Rn.size s q).2 = 0 := by
              unfold Rn.isBad at hb; unfold Rn.size; rw [if_pos (by simpa using hb)]
            have HF := Lib.hid hf
            have HN := Lib.hid hsn
            clear hf hsn hstep hp hc hb hes hx1 hx2 h34 hw1 hw2 hd hd4 he
            go_wp2_with fail
            refine (refSize_any _ _ _ hlt (by omega)).mono ?_
            rintro e w1 ⟨rfl, rfl⟩
            rw [HF.out, HN.out]
            simp only [if_true]
            go_wp2
            go_region
            go_wp2
            go_roundw
            case rel => exact ⟨q + 1, _, rfl, by go_num, by omega, hbd, HZ.out, HS.out⟩
            case measure => simp [intOf]; omega
          | false =>
            have hsn := Rn.size_snd s q hb
            rw [hb] at hf hes
            obtain ⟨r, hr⟩ : ∃ r, r = (Utf8.decode s q).1 := ⟨_, rfl⟩
            rw [hd] at hf
            rw [← hr] at hes hsn
            have HF := Lib.hid hf
            have HN := Lib.hid hsn
            clear hf hsn hstep hp hc hb hx1 hx2 h34 hw1 hw2 hd hd4 he hr
            by_cases h32 : r < 32
            · have h32' : (r : Int) < 32 := by omega
              go_wp2_with fail
              refine (refSize_any _ _ _ hlt (by omega)).mono ?_
              rintro e w1 ⟨rfl, rfl⟩
              rw [HF.out, HN.out]
              simp only [Bool.false_eq_true, if_false]
              go_wp2
              go_region
              go_wp2
              go_roundw
              case rel => exact ⟨q + 1, _, rfl, by go_num, by omega, hbd, HZ.out, HS.out⟩
              case measure => simp [intOf]; omega
            · have h127 : r = 127 := by
                rcases hes with h | h | h
                · exact absurd h h32
                · exact h
                · cases h
              subst h127
              go_wp2_with fail
              refine (refSize_any _ _ _ hlt (by omega)).mono ?_
              rintro e w1 ⟨rfl, rfl⟩
              rw [HF.out, HN.out]
              simp only [Bool.false_eq_true, if_false]
              go_wp2
              go_region
              go_wp2
              go_roundw
              case rel => exact ⟨q + 1, _, rfl, by go_num, by omega, hbd, HZ.out, HS.out⟩
              case measure => simp [intOf]; omega
        · have hb : Rn.isBad s q = false := by
            cases h : Rn.isBad s q with
            | false => rfl
            | true => exact absurd (.inr (.inr h)) hes
          have hsn := Rn.size_snd s q hb
          have hp : Qt.piece s q = (s.data.toList.drop q).take (Utf8.decode s q).2 := by
            unfold Qt.piece; rw [if_neg h34, if_neg hes]
          rw [hb] at hf
          simp only [Bool.false_eq_true, if_false] at hf
          obtain ⟨r, hr⟩ : ∃ r, r = (Utf8.decode s q).1 := ⟨_, rfl⟩
          obtain ⟨d, hdd⟩ : ∃ d, d = (Utf8.decode s q).2 := ⟨_, rfl⟩
          rw [hp, ← hdd] at hstep
          rw [← hdd] at hf hw1 hw2 hd4
          rw [← hr] at hsn h34 hes
          have hsl := fun w => run_cut s q (q + d) ((q : Int) + (d : Int)) (by omega) (by omega) hw2 w
          have HS : Hid ((A ++ s.extract q (q + d)).data.toList ++ Qt.bodyAt s (q + d) = 34 :: Qt.bodyAt s 0) := by
            show _ = _
            rw [← HQ.out, hstep, Qt.app_list, Qt.ext_list, Nat.add_sub_cancel_left, List.append_assoc]
          have HZ : Hid ((A ++ s.extract q (q + d)).size ≤ 4 * (q + d) + 1) := by
            show _ ≤ _
            rw [ByteArray.size_append, ByteArray.size_extract]
            omega
          have HF := Lib.hid hf
          have HN := Lib.hid hsn
          have n32 : ¬ (r : Int) < 32 := by omega
          have n127 : ((r : Int) == 127) = false := by simp; omega
          have n34 : ((r : Int) == 34) = false := by simp; omega
          have n92 : ((r : Int) == 92) = false := by simp; omega
          have n0 : ((d : Int) == 0) = false := by simp; omega
          clear hf hsn hstep hp hc hb hes hr hdd h34
          go_wp2_with fail
          refine (refSize_any _ _ _ hlt (by omega)).mono ?_
          rintro e w1 ⟨rfl, rfl⟩
          rw [HF.out, HN.out]
          go_wp2
          go_roundw
          case rel => exact ⟨q + d, _, rfl, by go_num, by omega, hb0, HZ.out, HS.out⟩
          case measure => simp [intOf]; omega
    · have HE : Hid ((A ++ ⟨#[34]⟩) = ⟨(Qt.quote s).toArray⟩) := by
        show _ = _
        have h1 := HQ.out
        rw [Qt.bodyAt_end s q hlt, List.append_nil] at h1
        refine Qt.same_list ?_
        rw [Qt.app_list, h1]; simp [Qt.quote]
      go_wp2
      go_ret
      exact ⟨by rw [HE.out]; rfl, hb0⟩
end Go.Proofs.YtomdnhlcafpbfaaDoor


namespace Go.Proofs.YtomdnhlcafpbfaaDoor
open Go.RowKit

theorem Qt.acc_len (s : ByteArray) (l : List UInt8) (q : Nat) (h : l ++ Qt.bodyAt s q = 34 :: Qt.bodyAt s 0) : l.length ≤ 4 * s.size + 1 := by
  have h1 := congrArg List.length h
  have h2 := Qt.bodyAt_len s 0
  simp at h1
  omega

theorem Qt.digit_at (k : Nat) (hk : k < 16) : ∀ h, ((ByteArray.mk #[48, 49, 50, 51, 52, 53, 54, 55, 56, 57, 97, 98, 99, 100, 101, 102])[k]'h).toNat = (Qt.hex k).toNat := by
  have h : ∀ k : Fin 16, ∀ h, ((ByteArray.mk #[48, 49, 50, 51, 52, 53, 54, 55, 56, 57, 97, 98, 99, 100, 101, 102])[k.val]'h).toNat = (Qt.hex k.val).toNat := by decide
  exact h ⟨k, hk⟩
theorem Qt.and15 (n : Nat) (h : n < 256) : bits .and .u8 (n : Int) 15 = ((n % 16 : Nat) : Int) := by
  have h0 : ∀ n : Fin 256, bits .and .u8 (n.val : Int) 15 = ((n.val % 16 : Nat) : Int) := by decide +kernel
  exact h0 ⟨n, h⟩

set_option maxRecDepth 4000 in
set_option maxHeartbeats 3200000 in
theorem quote_any (s : ByteArray) (w : World) (hs : s.size ≤ 1000000000000) :
    Calls Tryd.prog 38 #[.string s] w (Finds w (.string ⟨(Qt.quote s).toArray⟩)) := by
  obtain ⟨w1, hw1⟩ : ∃ w1, w1 = w.alloc (.cells #[.int .u8 34] 5) := ⟨_, rfl⟩
  have hb1 : Below w.heap.size w w1 := hw1 ▸ (Below.refl _ w).alloc (Nat.le_refl _) _
  have ho1 : Owns w1 w.heap.size 5 (.slice (some ⟨w.heap.size, 0, none⟩) 1 1) [34] := hw1 ▸ Owns.laid w _ [34] 1 _ rfl rfl (by decide)
  obtain ⟨B, hB⟩ : ∃ B, B = w1.heap.size := ⟨_, rfl⟩
  have h0 : It w.heap.size w (w1.iter s 0) B s 0 := hB ▸ It.new s hb1 hb1.size
  have hob : Owns (w1.iter s 0) w.heap.size 5 (.slice (some ⟨w.heap.size, 0, none⟩) 1 1) [34] := ho1.alloc _
  have HB : Hid (w.heap.size + 1 = B) := by show _ = _; rw [hB, hw1]; simp
  have HW := Lib.hid hw1
  have HO := Lib.hid hob
  clear ho1 hw1 hb1 hB hob
  go_enter Tryd.func38, Tryd.ntmps38
  go_wp2
  rw [HB.out, ← HW.out]
  go_loopw [3, 4, 5, 16, 27] (fun v _ _ _ _ wr => ∃ (q : Nat) (l : List UInt8), It w.heap.size w wr B s q ∧ q ≤ s.size ∧ Owns wr w.heap.size 5 v l ∧ Hid (l ++ Qt.bodyAt s q = 34 :: Qt.bodyAt s 0)) (fun _ _ _ _ _ wr => s.size - stands B wr)
  case atStart => exact ⟨0, [34], h0, by omega, HO.out, rfl⟩
  case round =>
    clear h0 HO HB HW
    obtain ⟨q, l, hit, hq, ho, HQ⟩ := hrel
    obtain ⟨ao, cap, rfl⟩ := ho.reads.shape
    have hlen := Qt.acc_len s l q HQ.out
    by_cases hlt : q < s.size
    · have hnx := fun ty => next_at (P := Tryd.prog) hit.iter hlt ty
      have hit2 := hit.set (q + (Utf8.decode s q).2)
      have ho2 : Owns (iterSet wr B s (q + (Utf8.decode s q).2)) w.heap.size 5 _ l := rowNext ho hit.iter
      have hw1 := Rn.width_pos s q
      have hw2 := Rn.width_le s q hlt
      have hstep := Qt.bodyAt_eq s q hlt
      have hat : ∀ h, (s[q]'h).toNat = (s.get! q).toNat := fun h => Rn.byteAt_get s q h
      obtain ⟨c, hc⟩ : ∃ c, c = s.get! q := ⟨_, rfl⟩
      have HC : Hid (Rn.byteAt s q = c.toNat) := by show _ = _; rw [hc]; rfl
      rw [← hc] at hat
      have h256 : c.toNat < 256 := c.toNat_lt
      by_cases h34 : (Utf8.decode s q).1 = 34 ∨ (Utf8.decode s q).1 = 92
      · have hd : (Utf8.decode s q).2 = 1 := by
          by_cases h128 : Rn.byteAt s q < 128
          · rw [Rn.low_one s q h128]
          · have := Rn.high_high s q (by omega); omega
        have hp : Qt.piece s q = [92, c] := by unfold Qt.piece; rw [if_pos h34, hc]
        rw [hp, hd] at hstep
        rw [hd] at hnx hit2 ho2 hw2
        have HS : Hid (l ++ [92, c] ++ Qt.bodyAt s (q + 1) = 34 :: Qt.bodyAt s 0) := by show _ = _; rw [← HQ.out, hstep, List.append_assoc]
        have hl1 : l.length + [92, c].length ≤ 140737488355328 := by simp; omega
        obtain ⟨r, hr⟩ : ∃ r, r = (Utf8.decode s q).1 := ⟨_, rfl⟩
        rw [← hr] at hnx h34
        have hbe := hit2.below
        have hsz := hbe.size
        clear hr hstep hp hd hw1 hc ho hat
        have hat : ∀ h, (s[q]'h).toNat = c.toNat := fun h => by rw [← HC.out]; exact Rn.byteAt_get s q h
        rcases h34 with rfl | rfl
        · go_wp2_with (at_builtin; refine append_bytes rfl _ _ 27 5 rfl Tryd.underlying27 info_byteQ w.heap.size l [92, c] _ _ rfl rfl (ho2.alloc _) (Reads.fresh _ _ _ 2 _ rfl rfl (by decide)) hl1 w (hbe.alloc (by omega) _) (Nat.le_refl _) ?_; intro v' w' ho' hb' hg)
          have hi' := (hit2.alloc _).grown (ho2.alloc _) (Nat.le_refl _) hg
          clear hg
          go_roundw
          case rel => exact ⟨q + 1, l ++ [92, c], hi', hw2, ho', HS.out⟩
          case measure => rw [hi'.stands, hit.stands]; omega
        · go_wp2_with (at_builtin; refine append_bytes rfl _ _ 27 5 rfl Tryd.underlying27 info_byteQ w.heap.size l [92, c] _ _ rfl rfl (ho2.alloc _) (Reads.fresh _ _ _ 2 _ rfl rfl (by decide)) hl1 w (hbe.alloc (by omega) _) (Nat.le_refl _) ?_; intro v' w' ho' hb' hg)
          have hi' := (hit2.alloc _).grown (ho2.alloc _) (Nat.le_refl _) hg
          clear hg
          go_roundw
          case rel => exact ⟨q + 1, l ++ [92, c], hi', hw2, ho', HS.out⟩
          case measure => rw [hi'.stands, hit.stands]; omega
      · have n34 : (Utf8.decode s q).1 ≠ 34 := fun e => h34 (.inl e)
        have n92 : (Utf8.decode s q).1 ≠ 92 := fun e => h34 (.inr e)
        by_cases hes : (Utf8.decode s q).1 < 32 ∨ (Utf8.decode s q).1 = 127 ∨ Rn.isBad s q = true
        · have hd : (Utf8.decode s q).2 = 1 := by
            by_cases h128 : Rn.byteAt s q < 128
            · rw [Rn.low_one s q h128]
            · have := Rn.high_high s q (by omega)
              have hb : Rn.isBad s q = true := by rcases hes with h | h | h; omega; omega; exact h
              unfold Rn.isBad at hb; simp at hb; rw [hb]
          have hp : Qt.piece s q = Qt.esc c := by unfold Qt.piece; rw [if_neg h34, if_pos hes, hc]
          have hsr := stray_any s q hlt
          rw [hp, hd] at hstep
          rw [hd] at hnx hit2 ho2 hw2
          have HS : Hid (l ++ Qt.esc c ++ Qt.bodyAt s (q + 1) = 34 :: Qt.bodyAt s 0) := by show _ = _; rw [← HQ.out, hstep, List.append_assoc]
          have hl1 : l.length + (Qt.esc c).length ≤ 140737488355328 := by simp [Qt.esc]; omega
          have hbe := hit2.below
          have hsz := hbe.size
          obtain ⟨x1, hx1⟩ : ∃ x1, x1 = c.toNat / 16 := ⟨_, rfl⟩
          obtain ⟨x2, hx2⟩ : ∃ x2, x2 = c.toNat % 16 := ⟨_, rfl⟩
          have g1 : x1 < 16 := by omega
          have g2 : x2 < 16 := by omega
          have i1 : (x1 : Int) < 16 := by omega
          have i2 : (x2 : Int) < 16 := by omega
          have i3 : (q : Int) < (s.size : Int) := by omega
          have a1 := Qt.digit_at x1 g1
          have a2 := Qt.digit_at x2 g2
          have b1 : (c.toNat : Int) / (16 : Int) = (x1 : Int) := by omega
          have b2 : bits .and .u8 (c.toNat : Int) 15 = (x2 : Int) := by rw [Qt.and15 c.toNat h256]; omega
          have HE : Hid (Qt.esc c = [92, 120, Qt.hex x1, Qt.hex x2]) := by show _ = _; rw [hx1, hx2]; rfl
          obtain ⟨r, hr⟩ : ∃ r, r = (Utf8.decode s q).1 := ⟨_, rfl⟩
          obtain ⟨bad, hbd⟩ : ∃ bad, bad = Rn.isBad s q := ⟨_, rfl⟩
          rw [← hr] at hnx hes n34 n92 hsr
          rw [← hbd] at hes hsr
          rw [HE.out] at HS
          have hl2 : l.length + [92, 120, Qt.hex x1, Qt.hex x2].length ≤ 140737488355328 := by simp; omega
          have hsz2 : w.heap.size ≤ ((iterSet wr B s (q + 1)).alloc (.cells #[.int .u8 92, .int .u8 120, .int .u8 ((Qt.hex x1).toNat : Int), .int .u8 ((Qt.hex x2).toNat : Int)] 5)).drew.heap.size := by simp [World.drew]; omega
          clear hl1 HE
          clear hr hbd hstep hp hd hw1 hc ho hx1 hx2 h34
          by_cases h32 : r < 32
          · go_wp2
            go_region_law (refine step_append_bytes (by rfl) _ _ 27 5 (by rfl) Tryd.underlying27 info_byteQ w.heap.size l [92, 120, Qt.hex x1, Qt.hex x2] _ _ (by rfl) (by rfl) (ho2.alloc _).drew (Reads.fresh _ _ _ 4 _ rfl rfl (by decide)).drew hl2 hsz2 ?_; intro v' w' ho' hg)
            all_goals
              have hi' := ((hit2.alloc _).drew 1).grown (ho2.alloc _).drew (Nat.le_refl _) hg
              clear hg
              go_wp2
              simp only [Act.put, List.getElem_toArray, List.getElem_cons_succ, List.getElem_cons_zero, List.setIfInBounds_toArray, List.set_cons_succ, List.set_cons_zero]
              go_roundw
              case rel => exact ⟨q + 1, l ++ [92, 120, Qt.hex x1, Qt.hex x2], hi', hw2, ho', HS.out⟩
              case measure => rw [hi'.stands, hit.stands]; omega
          · by_cases h127 : r = 127
            · subst h127
              go_wp2
              go_region_law (refine step_append_bytes (by rfl) _ _ 27 5 (by rfl) Tryd.underlying27 info_byteQ w.heap.size l [92, 120, Qt.hex x1, Qt.hex x2] _ _ (by rfl) (by rfl) (ho2.alloc _).drew (Reads.fresh _ _ _ 4 _ rfl rfl (by decide)).drew hl2 hsz2 ?_; intro v' w' ho' hg)
              all_goals
                have hi' := ((hit2.alloc _).drew 1).grown (ho2.alloc _).drew (Nat.le_refl _) hg
                clear hg
                go_wp2
                simp only [Act.put, List.getElem_toArray, List.getElem_cons_succ, List.getElem_cons_zero, List.setIfInBounds_toArray, List.set_cons_succ, List.set_cons_zero]
                go_roundw
                case rel => exact ⟨q + 1, l ++ [92, 120, Qt.hex x1, Qt.hex x2], hi', hw2, ho', HS.out⟩
                case measure => rw [hi'.stands, hit.stands]; omega
            · have hb : bad = true := by rcases hes with h | h | h; omega; omega; exact h
              subst hb
              go_wp2_with (go_at_call 58; refine (hsr _).mono ?_; rintro e w4 ⟨rfl, rfl⟩)
              go_region_law (refine step_append_bytes (by rfl) _ _ 27 5 (by rfl) Tryd.underlying27 info_byteQ w.heap.size l [92, 120, Qt.hex x1, Qt.hex x2] _ _ (by rfl) (by rfl) (ho2.alloc _).drew (Reads.fresh _ _ _ 4 _ rfl rfl (by decide)).drew hl2 hsz2 ?_; intro v' w' ho' hg)
              all_goals
                have hi' := ((hit2.alloc _).drew 1).grown (ho2.alloc _).drew (Nat.le_refl _) hg
                clear hg
                go_wp2
                simp only [Act.put, List.getElem_toArray, List.getElem_cons_succ, List.getElem_cons_zero, List.setIfInBounds_toArray, List.set_cons_succ, List.set_cons_zero]
                go_roundw
                case rel => exact ⟨q + 1, l ++ [92, 120, Qt.hex x1, Qt.hex x2], hi', hw2, ho', HS.out⟩
                case measure => rw [hi'.stands, hit.stands]; omega
        · have hb : Rn.isBad s q = false := by
            cases h : Rn.isBad s q with
            | false => rfl
            | true => exact absurd (.inr (.inr h)) hes
          have hp : Qt.piece s q = Lib.encodeRune ((Utf8.decode s q).1 : Int) := by
            unfold Qt.piece; rw [if_neg h34, if_neg hes]; exact Qt.enc_piece s q hlt hb
          have hsr := stray_any s q hlt
          have hrl := Rn.rune_le s q
          rw [hb] at hsr
          rw [hp] at hstep
          have HS : Hid (l ++ Lib.encodeRune ((Utf8.decode s q).1 : Int) ++ Qt.bodyAt s (q + (Utf8.decode s q).2) = 34 :: Qt.bodyAt s 0) := by show _ = _; rw [← HQ.out, hstep, List.append_assoc]
          have hbe := hit2.below
          have hsz := hbe.size
          obtain ⟨r, hr⟩ : ∃ r, r = (Utf8.decode s q).1 := ⟨_, rfl⟩
          obtain ⟨d, hdd⟩ : ∃ d, d = (Utf8.decode s q).2 := ⟨_, rfl⟩
          rw [← hr] at hnx hes n34 n92 hsr HS hrl
          rw [← hdd] at hnx hit2 ho2 hw2 HS hbe hsz hw1
          have n32 : ¬ (r : Int) < 32 := by omega
          have n127 : r ≠ 127 := by omega
          clear hr hdd hstep hp hb hc ho h34 hes
          go_wp2_with (first
            | (go_at_call 58; refine (hsr _).mono ?_; rintro e w4 ⟨rfl, rfl⟩)
            | (go_at_call 59; refine (rune_any w.heap.size _ l r hrl _ ho2 (by omega) hsz).mono ?_; rintro e w4 ⟨v', o, rfl, ho', hg⟩))
          have hi' := (hit2.alloc o).grown (ho2.alloc o) (Nat.le_refl _) hg
          clear hg
          go_roundw
          case rel => exact ⟨q + d, l ++ Lib.encodeRune (r : Int), hi', hw2, ho', HS.out⟩
          case measure => rw [hi'.stands, hit.stands]; omega
    · have hnx := fun ty => next_end (P := Tryd.prog) hit.iter hlt ty
      have HE : Hid (l ++ [34] = Qt.quote s) := by
        show _ = _
        have h1 := HQ.out
        rw [Qt.bodyAt_end s q hlt, List.append_nil] at h1
        rw [h1]; rfl
      have hl1 : l.length + [34].length ≤ 140737488355328 := by simp; omega
      have hll : (l ++ [34]).length = l.length + 1 := by simp
      have hbe := hit.below
      have hsz := hbe.size
      go_wp2_with (at_builtin; refine append_bytes rfl _ _ 27 5 rfl Tryd.underlying27 info_byteQ w.heap.size l [34] _ _ rfl rfl (ho.alloc _) (Reads.fresh _ _ _ 1 _ rfl rfl (by decide)) hl1 w (hbe.alloc (by omega) _) (Nat.le_refl _) ?_; intro v' w' ho' hb' hg; clear hg; obtain ⟨ao2, cap2, rfl⟩ := ho'.reads.shape; have hst := run_string_of (P := Tryd.prog) _ Tryd.underlying27 Tryd.underlying5 Tryd.underlying9 ho'.reads; rw [hll] at hst)
      go_ret
      exact ⟨by rw [HE.out]; rfl, hb'⟩
end Go.Proofs.YtomdnhlcafpbfaaDoor


namespace Go.Proofs.YtomdnhlcafpbfaaDoor
open Go.RowKit

theorem Qt.enc_len (r : Nat) : (Lib.encodeRune (r : Int)).length ≤ 4 := by
  unfold Lib.encodeRune
  rw [List.length_map]
  exact (Lib.encodeRuneZ_length _).2
theorem Qt.wrap8 (n : Int) : IntKind.u8.wrap n = n % 256 := by simp [IntKind.wrap, IntKind.signed, IntKind.bits]
theorem Qt.hv_lt (c : UInt8) : Qt.hv c < 256 := by unfold Qt.hv; omega

set_option maxRecDepth 4000 in
set_option maxHeartbeats 3200000 in
theorem plainOf_any (s : ByteArray) (w : World) (hs : s.size ≤ 1000000000000) :
    Calls Tryd.prog 71 #[.string s] w (Finds w (.string ⟨(Qt.pl s).toArray⟩)) := by
  obtain ⟨B, hB⟩ : ∃ B, B = w.heap.size := ⟨_, rfl⟩
  have h0 : It w.heap.size w (w.iter s 0) B s 0 := hB ▸ It.new s (Below.refl _ w) (Nat.le_refl _)
  go_enter Tryd.func71, Tryd.ntmps71
  go_wp2
  rw [← hB]
  clear hB
  go_loopw [3, 4, 5, 6, 16, 33] (fun v k _ _ _ _ wr => ∃ (q : Nat) (z : Int) (l : List UInt8), k = .int .i64 z ∧ 0 ≤ z ∧ z ≤ 3 ∧ z ≤ (q : Int) ∧ It w.heap.size w wr B s q ∧ q ≤ s.size ∧ Owns wr w.heap.size 5 v l ∧ l.length ≤ 4 * q ∧ Hid (Qt.plAt s q z.toNat l = Qt.pl s)) (fun _ _ _ _ _ _ wr => s.size - stands B wr)
  case atStart => exact ⟨0, 0, [], rfl, by omega, by omega, by omega, h0, by omega, Owns.empty _ _ _, by simp, rfl⟩
  case round =>
    clear h0
    obtain ⟨q, z, l, rfl, hz0, hz3, hzq, hit, hq, ho, hlen, HQ⟩ := hrel
    obtain ⟨ao, cap, rfl⟩ := ho.reads.shape
    by_cases hlt : q < s.size
    · have hnx := fun ty => next_at (P := Tryd.prog) hit.iter hlt ty
      have hit2 := hit.set (q + (Utf8.decode s q).2)
      have ho2 : Owns (iterSet wr B s (q + (Utf8.decode s q).2)) w.heap.size 5 _ l := rowNext ho hit.iter
      have hw1 := Rn.width_pos s q
      have hw2 := Rn.width_le s q hlt
      have hstep := Qt.plAt_eq s q z.toNat l hlt
      have hrl := Rn.rune_le s q
      have hbe := hit2.below
      have hsz := hbe.size
      have hat : ∀ h, (s[q]'h).toNat = (s.get! q).toNat := fun h => Rn.byteAt_get s q h
      obtain ⟨r, hr⟩ : ∃ r, r = (Utf8.decode s q).1 := ⟨_, rfl⟩
      obtain ⟨d, hdd⟩ : ∃ d, d = (Utf8.decode s q).2 := ⟨_, rfl⟩
      obtain ⟨c, hc⟩ : ∃ c, c = s.get! q := ⟨_, rfl⟩
      rw [← hr, ← hdd, ← hc] at hstep
      rw [← hr, ← hdd] at hnx
      rw [← hdd] at hit2 ho2 hw1 hw2 hbe hsz
      rw [← hr] at hrl
      rw [← hc] at hat
      clear hr hdd hc ho
      by_cases hesc : (z = 0 ∧ r = 92) ∨ (z = 1 ∧ r = 120) ∨ z = 2
      · rw [if_pos (by omega)] at hstep
        have HS : Hid (Qt.plAt s (q + d) (z + 1).toNat l = Qt.pl s) := by show _ = _; rw [← HQ.out, hstep]; congr 1; omega
        have hz4 : z + 1 ≤ 3 := by omega
        clear hstep
        rcases hesc with ⟨rfl, rfl⟩ | ⟨rfl, rfl⟩ | rfl
        all_goals
          go_wp2
          go_roundw
          case rel => exact ⟨q + d, _, l, rfl, by omega, hz4, by omega, hit2, hw2, ho2, by omega, HS.out⟩
          case measure => rw [hit2.stands, hit.stands]; omega
      · rw [if_neg (by omega)] at hstep
        by_cases h3 : z = 3
        · subst h3
          rw [if_pos (by rfl)] at hstep
          obtain ⟨p, hp⟩ : ∃ p, p = q - 1 := ⟨_, rfl⟩
          have hpq : (q : Int) - 1 = (p : Int) := by omega
          rw [← hp] at hstep
          have hatp : ∀ h, (s[p]'h).toNat = (s.get! p).toNat := fun h => Rn.byteAt_get s p h
          obtain ⟨cp, hcp⟩ : ∃ cp, cp = s.get! p := ⟨_, rfl⟩
          rw [← hcp] at hstep hatp
          have hwp : IntKind.i64.wrap (p : Int) = (p : Int) := by rw [IntKind.wrap_i64]; omega
          have hplt : (p : Int) < (s.size : Int) := by omega
          have hqlt : (q : Int) < (s.size : Int) := by omega
          have HS : Hid (Qt.plAt s (q + d) (0 : Int).toNat (l ++ [Qt.mix cp c]) = Qt.pl s) := by show _ = _; rw [← HQ.out, hstep]; rfl
          have hl1 : l.length + [Qt.mix cp c].length ≤ 140737488355328 := by simp; omega
          have g1 := Qt.hv_lt cp
          have g2 := Qt.hv_lt c
          obtain ⟨m, hm⟩ : ∃ m, m = (Qt.hv cp * 16) % 256 := ⟨_, rfl⟩
          have hw8 : IntKind.u8.wrap ((Qt.hv cp : Int) * 16) = (m : Int) := by rw [Qt.wrap8]; omega
          have hor : bits .or .u8 (m : Int) (Qt.hv c : Int) = ((Qt.mix cp c).toNat : Int) := by
            rw [u8_or_nat _ _ (by omega) g2]
            unfold Qt.mix
            rw [← hm, UInt8.toNat_ofNat', Nat.mod_eq_of_lt (Nat.or_lt_two_pow (n := 8) (by omega) g2)]
          obtain ⟨x, hx⟩ : ∃ x, x = Qt.mix cp c := ⟨_, rfl⟩
          rw [← hx] at hor HS hl1
          have hsz2 : w.heap.size ≤ ((iterSet wr B s (q + d)).alloc (.cells #[.int .u8 (x.toNat : Int)] 5)).drew.heap.size := by simp [World.drew]; omega
          clear hstep hp hcp hesc hm hx
          go_wp2_with fail
          go_region_law (first
            | (refine step_append_bytes (by rfl) _ _ 27 5 (by rfl) Tryd.underlying27 info_byteQ w.heap.size l [x] _ _ (by rfl) (by rfl) (ho2.alloc _).drew (Reads.fresh _ _ _ 1 _ rfl rfl (by decide)).drew hl1 hsz2 ?_; intro v' w' ho' hg)
            | (rw [if_pos (by rfl)]; go_simp; go_at_call 90; refine (value_any _ _).mono ?_; rintro e' w4 ⟨rfl, rfl⟩; dsimp only))
          all_goals
            have hi' := ((hit2.alloc _).drew 1).grown (ho2.alloc _).drew (Nat.le_refl _) hg
            clear hg
            go_wp2
            go_roundw
            case rel => exact ⟨q + d, _, l ++ [x], rfl, by omega, by omega, by omega, hi', hw2, ho', by rw [List.length_append]; simp; omega, HS.out⟩
            case measure => rw [hi'.stands, hit.stands]; omega
        · rw [if_neg (by omega)] at hstep
          have HS : Hid (Qt.plAt s (q + d) (0 : Int).toNat (l ++ Lib.encodeRune (r : Int)) = Qt.pl s) := by show _ = _; rw [← HQ.out, hstep]; rfl
          have hel := Qt.enc_len r
          have hle : (l ++ Lib.encodeRune (r : Int)).length ≤ 4 * (q + d) := by rw [List.length_append]; omega
          have hz01 : z = 0 ∧ r ≠ 92 ∨ z = 1 ∧ r ≠ 120 := by omega
          clear hstep hesc
          rcases hz01 with ⟨rfl, hr92⟩ | ⟨rfl, hr92⟩
          all_goals
            go_wp2_with (go_at_call 59; refine (rune_any w.heap.size _ l r hrl _ ho2 (by omega) hsz).mono ?_; rintro e w4 ⟨v', o, rfl, ho', hg⟩)
            have hi' := (hit2.alloc o).grown (ho2.alloc o) (Nat.le_refl _) hg
            clear hg
            go_roundw
            case rel => exact ⟨q + d, _, l ++ Lib.encodeRune (r : Int), rfl, by omega, by omega, by omega, hi', hw2, ho', hle, HS.out⟩
            case measure => rw [hi'.stands, hit.stands]; omega
    · have hnx := fun ty => next_end (P := Tryd.prog) hit.iter hlt ty
      have hst := run_string_of (P := Tryd.prog) _ Tryd.underlying27 Tryd.underlying5 Tryd.underlying9 ho.reads
      have HE : Hid (l = Qt.pl s) := by show _ = _; rw [← HQ.out, Qt.plAt_end s q _ l hlt]
      go_wp2
      go_ret
      exact ⟨by rw [HE.out]; rfl, hit.below⟩
end Go.Proofs.YtomdnhlcafpbfaaDoor


namespace Go.Proofs.YtomdnhlcafpbfaaDoor
open Go.RowKit

namespace Qt
theorem plFrom_len (s : ByteArray) : ∀ (b i k : Nat) (out : List UInt8), (plFrom s b i k out).length ≤ out.length + 4 * b := by
  intro b
  induction b with
  | zero => intro i k out; simp [plFrom]
  | succ b ih =>
    intro i k out
    simp only [plFrom]
    split
    · split
      · have := ih (i + (Utf8.decode s i).2) (k + 1) out; omega
      · split
        · have := ih (i + (Utf8.decode s i).2) 0 (out ++ [mix (s.get! (i - 1)) (s.get! i)])
          simp at this; omega
        · have := ih (i + (Utf8.decode s i).2) 0 (out ++ Lib.encodeRune ((Utf8.decode s i).1 : Int))
          have h2 := enc_len (Utf8.decode s i).1
          rw [List.length_append] at this; omega
    · omega
theorem trimmed_len (s : ByteArray) : (trimmed s).length ≤ s.size := by
  have h0 : s.data.toList.length = s.size := rfl
  have h1 : (Lib.trimSuffix s.data.toList [34]).length ≤ s.size := by
    unfold Lib.trimSuffix
    split
    · rw [List.length_take]; omega
    · omega
  unfold trimmed
  generalize Lib.trimSuffix s.data.toList [34] = t at h1 ⊢
  unfold Lib.trimPrefix
  split
  · rw [List.length_drop]; omega
  · exact h1
theorem got_len (s : ByteArray) : (got s).length ≤ 4 * s.size := by
  have h1 := plFrom_len ⟨(trimmed s).toArray⟩ ((ByteArray.mk (trimmed s).toArray).size - 0) 0 0 []
  have h2 := trimmed_len s
  have h3 : (ByteArray.mk (trimmed s).toArray).size = (trimmed s).length := by simp [ByteArray.size]
  rw [h3] at h1
  unfold got pl plAt
  rw [h3]
  simp at h1 ⊢
  omega
theorem ne_list {s t : ByteArray} (h : ¬ s = t) : (s.toList == t.toList) = false := by
  rw [beq_eq_false_iff_ne]
  intro e
  rw [ByteArray.toList_eq, ByteArray.toList_eq] at e
  exact h (same_list e)
/-- What Unquote tells. -/
def told (s : ByteArray) : Value := match unq s with
  | some o => .tuple #[.string ⟨o.toArray⟩, .int .i64 0]
  | none => .tuple #[.string ⟨#[]⟩, .int .i64 3]
end Qt

set_option maxRecDepth 4000 in
set_option maxHeartbeats 800000 in
theorem unquote_any (s : ByteArray) (w : World) (hs : s.size ≤ 200000000000) :
    Calls Tryd.prog 55 #[.string s] w (Finds w (Qt.told s)) := by
  have h1 := Qt.trimmed_len s
  have h2 := Qt.got_len s
  have z1 : (ByteArray.mk (Qt.trimmed s).toArray).size ≤ 1000000000000 := by simp [ByteArray.size]; omega
  have z2 : (ByteArray.mk (Qt.got s).toArray).size ≤ 1000000000000 := by simp [ByteArray.size]; omega
  have e1 : Hid (Lib.trimPrefix (ByteArray.mk (Lib.trimSuffix s.data.toList (ByteArray.mk #[34]).data.toList).toArray).data.toList (ByteArray.mk #[34]).data.toList = Qt.trimmed s) := by show _ = _; simp [Qt.trimmed]
  have e2 : Hid (Qt.pl ⟨(Qt.trimmed s).toArray⟩ = Qt.got s) := by show _ = _; rfl
  have e3 : Hid (Qt.told s = if ByteArray.mk (Qt.quote ⟨(Qt.got s).toArray⟩).toArray = s then .tuple #[.string ⟨(Qt.got s).toArray⟩, .int .i64 0] else .tuple #[.string ⟨#[]⟩, .int .i64 3]) := by
    show _ = _
    unfold Qt.told Qt.unq
    by_cases h : Qt.quote ⟨(Qt.got s).toArray⟩ = s.data.toList
    · rw [if_pos h, if_pos]
      exact Qt.same_list (by rw [Qt.back]; exact h)
    · rw [if_neg h, if_neg]
      intro h'
      exact h ((Qt.back _).symm.trans (congrArg (fun t : ByteArray => t.data.toList) h'))
  clear h1 h2
  go_enter Tryd.func55, Tryd.ntmps55
  go_wp2_with fail
  refine (Tryd.strings_TrimSuffix _ _ _ (by omega)).mono ?_
  rintro e w1 ⟨rfl, rfl⟩
  go_wp2_with fail
  refine (Tryd.strings_TrimPrefix _ _ _).mono ?_
  rintro e w1 ⟨rfl, rfl⟩
  rw [e1.out]
  go_wp2_with fail
  refine (plainOf_any _ _ z1).mono ?_
  rintro e w1 ⟨rfl, hb1⟩
  rw [e2.out]
  go_wp2_with fail
  refine (quote_any _ _ z2).mono ?_
  rintro e w2 ⟨rfl, hb2⟩
  have E3 := e3.out
  clear e1 e2 e3 z1 z2
  generalize ByteArray.mk (Qt.quote ⟨(Qt.got s).toArray⟩).toArray = Y at E3 ⊢
  by_cases hy : Y = s
  · subst hy
    rw [if_pos rfl] at E3
    have HE := Lib.hid E3; clear E3
    go_wp2
    go_ret2
    exact ⟨by rw [HE.out]; rfl, on hb1 hb2⟩
  · rw [if_neg hy] at E3
    have HE := Lib.hid E3; clear E3
    have hyy := Qt.ne_list hy
    clear hy
    go_wp2
    go_ret2
    exact ⟨by rw [HE.out]; rfl, on hb1 hb2⟩
end Go.Proofs.YtomdnhlcafpbfaaDoor


namespace Go.Proofs.YtomdnhlcafpbfaaDoor
open Go.RowKit

/-- What the document's Unquote tells. -/
def RefGot (w : World) (s : ByteArray) (e : Ending) (w' : World) : Prop :=
  ∃ (X : ByteArray) (b : Bool), e = .returned (.tuple #[.string X, .bool b]) ∧ Below w.heap.size w w' ∧ (if b = true then Qt.unq s = some X.data.toList else Qt.unq s = none)

theorem Qt.unq_none {s : ByteArray} (h : Qt.rd s = none) : Qt.unq s = none := by
  rw [← Qt.unq_same]; unfold Qt.refUnq; rw [h]
theorem Qt.unq_of {s : ByteArray} {o : List UInt8} (h : Qt.rd s = some o) : Qt.unq s = if (ByteArray.mk (Qt.quote ⟨o.toArray⟩).toArray) = s then some o else none := by
  rw [← Qt.unq_same]; unfold Qt.refUnq; rw [h]
  simp only
  by_cases h2 : Qt.quote ⟨o.toArray⟩ = s.data.toList
  · rw [if_pos h2, if_pos]
    exact Qt.same_list (by rw [Qt.back]; exact h2)
  · rw [if_neg h2, if_neg]
    intro h'
    exact h2 ((Qt.back _).symm.trans (congrArg (fun t : ByteArray => t.data.toList) h'))
theorem Qt.val_le (c : UInt8) : Qt.val c ≤ 15 := by
  unfold Qt.val
  split
  · omega
  · split <;> omega

end Go.Proofs.YtomdnhlcafpbfaaDoor


namespace Go.Proofs.YtomdnhlcafpbfaaDoor
open Go.RowKit

namespace Qt
/-- All runes above 32 from i on. -/
theorem bare_all (s : ByteArray) : ∀ (b i : Nat), s.size - i ≤ b → (Rn.allFrom (fun r => decide (32 < r)) s b i = true ↔ ∀ j, i ≤ j → j < s.size → 32 < Rn.byteAt s j) := by
  intro b
  induction b with
  | zero => intro i h; simp only [Rn.allFrom, true_iff]; intro j h1 h2; omega
  | succ b ih =>
    intro i h
    simp only [Rn.allFrom]
    by_cases hi : i < s.size
    · rw [if_pos hi, Bool.and_eq_true]
      have hw := Rn.width_pos s i
      have hw2 := Rn.width_le s i hi
      rw [ih (i + (Utf8.decode s i).2) (by omega)]
      by_cases h128 : Rn.byteAt s i < 128
      · rw [Rn.low_one s i h128]
        constructor
        · rintro ⟨h1, h2⟩ j hj1 hj2
          by_cases e : j = i
          · subst e
            simp at h1; omega
          · exact h2 j (by simp only; omega) hj2
        · intro h1
          have := h1 i (Nat.le_refl _) hi
          exact ⟨by simp; omega, fun j hj1 hj2 => h1 j (by simp only at hj1; omega) hj2⟩
      · have hh := Rn.high_high s i (by omega)
        constructor
        · rintro ⟨h1, h2⟩ j hj1 hj2
          by_cases e : j < i + (Utf8.decode s i).2
          · by_cases e2 : j = i
            · subst e2; omega
            · have := (Rn.inner_high s i j (by omega) e).2; omega
          · exact h2 j (by omega) hj2
        · intro h1
          exact ⟨by simp; omega, fun j hj1 hj2 => h1 j (by omega) hj2⟩
    · rw [if_neg hi]; simp only [true_iff]; intro j h1 h2; omega
theorem bare_bytes (s : ByteArray) : bare s.data.toList = true ↔ ∀ j, j < s.size → 32 < Rn.byteAt s j := by
  unfold bare
  rw [List.all_eq_true]
  constructor
  · intro h j hj
    have h1 := Rn.list_at s j hj
    have := h _ (List.mem_of_getElem? h1)
    exact of_decide_eq_true this
  · intro h c hc
    obtain ⟨j, hj, rfl⟩ := List.mem_iff_getElem.1 hc
    have hj' : j < s.size := hj
    have h1 := Rn.list_at s j hj'
    rw [List.getElem?_eq_getElem hj] at h1
    rw [Option.some.inj h1]
    exact decide_eq_true (h j hj')
def above (r : Int) : Bool := decide (32 < r)
theorem bare_eq (s : ByteArray) : bare s.data.toList = Rn.all above s := by
  rw [Bool.eq_iff_iff, bare_bytes]
  unfold Rn.all
  rw [show above = fun r => decide (32 < r) from rfl, bare_all s s.size 0 (by omega)]
  exact ⟨fun h j _ hj => h j hj, fun h j hj => h j (Nat.zero_le _) hj⟩
theorem empty_eq (s : ByteArray) : s.toList.isEmpty = decide (s.size = 0) := by
  rw [ByteArray.toList_eq, Bool.eq_iff_iff, List.isEmpty_iff_length_eq_zero, decide_eq_true_eq]
  exact Iff.rfl
theorem pre_quote (s : ByteArray) : Rn.pre s ⟨#[34]⟩ = (decide (0 < s.size) && (Rn.byteAt s 0 == 34)) := by
  unfold Rn.pre
  have hz : (ByteArray.mk #[34]).size = 1 := rfl
  rw [hz]
  by_cases h : 0 < s.size
  · have e : (s.extract 0 1).toList = [s.get! 0] := by
      rw [ByteArray.toList_eq, ext_list, drop_eq s 0 h]; rfl
    have e2 : (ByteArray.mk #[34]).toList = [34] := ByteArray.toList_mk [34]
    rw [e, e2, Bool.eq_iff_iff]
    have e3 : (s.get! 0).toNat = Rn.byteAt s 0 := rfl
    simp only [Bool.and_eq_true, decide_eq_true_eq, beq_iff_eq, List.cons.injEq, and_true, ← UInt8.toNat_inj, e3]
    constructor
    · rintro ⟨_, h2⟩; exact ⟨h, h2⟩
    · rintro ⟨_, h2⟩; exact ⟨by omega, h2⟩
  · simp [show ¬ 1 ≤ s.size by omega, h]
end Qt

set_option maxRecDepth 4000 in
set_option maxHeartbeats 1600000 in
theorem word_any (s : ByteArray) (w : World) (hs : s.size ≤ 200000000000) :
    Calls Tryd.prog 53 #[.string s] w (Finds w (.bool (Qt.word s))) := by
  have hp := Qt.pre_quote s
  by_cases hq : 0 < s.size ∧ Rn.byteAt s 0 = 34
  · have hp1 : Rn.pre s ⟨#[34]⟩ = true := by rw [hp]; simp [hq.1, hq.2]
    have HW : Hid (Qt.word s = (Qt.unq s).isSome) := by show _ = _; unfold Qt.word; rw [if_neg (by omega), if_pos hq.2]
    have HP := Lib.hid hp1
    clear hp hp1 hq
    go_enter Tryd.func53, Tryd.ntmps53
    go_wp2_with fail
    refine (prefix_any _ _ _).mono ?_
    rintro e w1 ⟨rfl, rfl⟩
    rw [HP.out]
    go_wp2_with fail
    refine (unquote_any _ _ hs).mono ?_
    rintro e w1 ⟨rfl, hb1⟩
    have HU : Hid (Qt.told s = Qt.told s) := rfl
    unfold Qt.told
    cases hu : Qt.unq s with
    | none =>
      rw [hu] at HW
      dsimp only
      go_wp2
      go_ret
      exact ⟨ret_bool (by rw [HW.out]; rfl), hb1⟩
    | some o =>
      rw [hu] at HW
      dsimp only
      go_wp2
      go_ret
      exact ⟨ret_bool (by rw [HW.out]; rfl), hb1⟩
  · have hp1 : Rn.pre s ⟨#[34]⟩ = false := by
      rw [hp]
      cases h : (decide (0 < s.size) && (Rn.byteAt s 0 == 34)) with
      | false => rfl
      | true => simp at h; exact absurd h hq
    have HW : Hid (Qt.word s = (decide (0 < s.size) && Rn.all Qt.above s)) := by
      show _ = _
      unfold Qt.word
      by_cases h0 : s.size = 0
      · rw [if_pos h0]; simp [h0]
      · rw [if_neg h0, if_neg (by omega), Qt.bare_eq]; simp [show 0 < s.size by omega]
    have HP := Lib.hid hp1
    clear hp hp1 hq
    obtain ⟨B, hB⟩ : ∃ B, B = w.heap.size := ⟨_, rfl⟩
    have h0 : It w.heap.size w (w.iter s 0) B s 0 := hB ▸ It.new s (Below.refl _ w) (Nat.le_refl _)
    go_enter Tryd.func53, Tryd.ntmps53
    go_wp2_with fail
    refine (prefix_any _ _ _).mono ?_
    rintro e w1 ⟨rfl, rfl⟩
    rw [HP.out]
    go_wp2
    rw [← hB]
    clear hB
    go_loopw [6] (fun r wr => ∃ q : Nat, It w.heap.size w wr B s q ∧ q ≤ s.size ∧ Hid (Rn.allAt Qt.above s q = Rn.all Qt.above s)) (fun _ wr => s.size - stands B wr)
    case atStart => exact ⟨0, h0, by omega, rfl⟩
    case round =>
      obtain ⟨q, hit, hq, HQ⟩ := hrel
      by_cases hlt : q < s.size
      · have hnx := fun ty => next_at (P := Tryd.prog) hit.iter hlt ty
        have hit2 := hit.set (q + (Utf8.decode s q).2)
        have hstep := Rn.allAt_eq Qt.above s q hlt
        have hw1 := Rn.width_pos s q
        have hw2 := Rn.width_le s q hlt
        obtain ⟨r, hr⟩ : ∃ r, r = (Utf8.decode s q).1 := ⟨_, rfl⟩
        obtain ⟨d, hd⟩ : ∃ d, d = (Utf8.decode s q).2 := ⟨_, rfl⟩
        rw [← hr, ← hd] at hnx
        rw [← hd] at hit2 hw1 hw2
        rw [← hr, ← hd] at hstep
        clear hr hd
        by_cases h32 : 32 < r
        · have hb : Qt.above (r : Int) = true := by unfold Qt.above; simp; omega
          have HS : Hid (Rn.all Qt.above s = Rn.allAt Qt.above s (q + d)) := by show _ = _; rw [← HQ.out, hstep, hb]; rfl
          have n32 : ¬ (r : Int) ≤ 32 := by omega
          clear hstep hb
          go_wp2
          go_roundw
          case rel => exact ⟨q + d, hit2, hw2, by show _ = _; rw [HS.out]⟩
          case measure => rw [hit2.stands, hit.stands]; omega
        · have hb : Qt.above (r : Int) = false := by unfold Qt.above; simp; omega
          have HS : Hid (Rn.all Qt.above s = false) := by show _ = _; rw [← HQ.out, hstep, hb]; rfl
          have n32 : (r : Int) ≤ 32 := by omega
          clear hstep hb
          go_wp2
          go_ret
          exact ⟨ret_bool (by rw [HW.out, HS.out]; simp), hit2.below⟩
      · have hnx := fun ty => next_end (P := Tryd.prog) hit.iter hlt ty
        have HA : Hid (Rn.all Qt.above s = true) := by show _ = _; rw [← HQ.out, Rn.allAt_end Qt.above s q hlt]
        obtain ⟨b, hb⟩ : ∃ b, s.toList.isEmpty = b := ⟨_, rfl⟩
        have hbv : Hid (decide (0 < s.size) = !b) := by
          show _ = _
          rw [← hb, Qt.empty_eq]
          by_cases h0 : s.size = 0
          · simp [h0]
          · simp [h0]; omega
        go_wp2
        go_ret
        exact ⟨ret_bool (by rw [HW.out, HA.out, hbv.out]; simp), hit.below⟩


end Go.Proofs.YtomdnhlcafpbfaaDoor


namespace Go.Proofs.YtomdnhlcafpbfaaDoor
open Go.RowKit

/-- The slice value v reads as the strings ls. -/
def ReadsS (w : World) (v : Value) (ls : List ByteArray) : Prop :=
  ∃ (ao : Option Addr) (cap : Nat), v = .slice ao ls.length cap ∧ ls.length ≤ cap ∧ cap ≤ maxLen ∧ (ao = none → cap = 0) ∧ ∀ x, ao = some x → ∀ j s, ls[j]? = some s → w.cell? (x.add j) = some (.string s)
/-- A row of strings of the call's own. -/
def OwnsS (w : World) (base : Nat) (E : TypeId) (v : Value) (ls : List ByteArray) : Prop := w.ownsRow base E 1 v ls.length (ls.map Value.string)

theorem OwnsS.empty (w : World) (base : Nat) (E : TypeId) : OwnsS w base E (.slice none 0 0) [] := World.ownsRow_nil _ _ _ _
theorem OwnsS.reads {w : World} {base : Nat} {E : TypeId} {v : Value} {ls : List ByteArray} (h : OwnsS w base E v ls) : ReadsS w v ls := by
  rcases h.2 with ⟨rfl, h0⟩ | ⟨g, cap, cur, rfl, hb, hg, hc, hm, _, _⟩
  · exact ⟨none, 0, by rw [h0], by omega, by simp [maxLen], fun _ => rfl, (fun x hx => by cases hx)⟩
  · refine ⟨_, cap, rfl, hc, hm, (fun h => by cases h), fun x hx j s hs => ?_⟩
    cases hx
    exact World.ownsRow.cells h (g := g) rfl j _ (by rw [List.getElem?_map, hs]; rfl)
theorem ReadsS.below {w w' : World} {v : Value} {ls : List ByteArray} (h : ReadsS w v ls) (hb : Below w.heap.size w w') : ReadsS w' v ls := by
  obtain ⟨ao, cap, rfl, h1, h2, h3, h4⟩ := h
  refine ⟨ao, cap, rfl, h1, h2, h3, fun x hx j u hu => ?_⟩
  have hc := h4 x hx j u hu
  rw [← hc]
  exact hb.cell (World.block_lt_of_cell? w _ hc)
theorem ReadsS.shape {w : World} {v : Value} {ls : List ByteArray} (h : ReadsS w v ls) : ∃ ao cap, v = .slice ao ls.length cap := by
  obtain ⟨ao, cap, rfl, _⟩ := h; exact ⟨ao, cap, rfl⟩
/-- Where there is a string: the address is a place in a block of cells. -/
theorem ReadsS.place {w : World} {ao : Option Addr} {n cap : Nat} {ls : List ByteArray} (h : ReadsS w (.slice ao n cap) ls) (hl : 0 < ls.length) :
    ∃ b off, ao = some ⟨b, off, none⟩ ∧ n = ls.length ∧ ls.length ≤ cap ∧ cap ≤ maxLen ∧ b < w.heap.size ∧ ∀ j s, ls[j]? = some s → w.cell? ⟨b, off + j, none⟩ = some (.string s) := by
  obtain ⟨ao', cap', hv, h1, h2, h3, h4⟩ := h
  simp only [Value.slice.injEq] at hv
  obtain ⟨rfl, rfl, rfl⟩ := hv
  cases ao with
  | none => exact absurd (h3 rfl) (by omega)
  | some x =>
    obtain ⟨b, off, spot⟩ := x
    have hc := h4 _ rfl 0 _ (List.getElem?_eq_getElem hl)
    have hspot : spot = none := by simpa [Addr.add] using World.cell?_spot hc
    subst hspot
    refine ⟨b, off, rfl, rfl, h1, h2, ?_, fun j c hj => ?_⟩
    · have := World.block_lt_of_cell? w _ hc
      rwa [Addr.add_lit] at this
    · have := h4 _ rfl j _ hj
      rwa [Addr.add_lit] at this

/-- append(l, u), u laid just now. -/
theorem append_string {P : Program} {w : World} {ops : Array Oper} {rest : List Oper} {o : Oper} {a : Act} {Q : Exit → Act → World → Prop} (hgd : o.guard = none) (s x : Operand) (t E : TypeId)
    (ho : o.op = .call { callee := .builtin .append, args := #[s, x], argTypes := #[t, t] }) (ht : P.underlying t = some (.slice E))
    (hi : (P.info? E).map (fun i => (i.zero, i.size, i.bytes)) = some (some (.string ⟨#[]⟩), 1, 16))
    (base : Nat) (ls : List ByteArray) (u : ByteArray) (v : Value) (hs : a.eval s = v) (hx : a.eval x = .slice (some ⟨w.heap.size, 0, none⟩) 1 1) (hown : OwnsS w base E v ls)
    (hlen : ls.length ≤ 1000000000000) (hbase : base ≤ w.heap.size)
    (h : ∀ v' w', OwnsS w' base E v' (ls ++ [u]) → (w.alloc (.cells #[.string u] E)).grownBy w' v.ownBlock → wpList P ops Q rest (a.put o.dst v') w') : wpList P ops Q (o :: rest) a (w.alloc (.cells #[.string u] E)) := by
  obtain ⟨i, h1, h2, h3, h4⟩ := info_parts hi
  refine wpList_append_own _ hgd s x t ho base E i (.string ⟨#[]⟩) 1 16 ht h1 h2 h3 h4 rfl (by decide) v ls.length (ls.map Value.string) hs (World.ownsRow.alloc hown _) ⟨w.heap.size, 0, none⟩ 1 1 [.string u] hx rfl (cell_one_new _ _ _) (by simp [Value.oneCell']) (by unfold maxLen; omega) (by omega) (by simp; omega) fun v' w' h5 h6 _ => ?_
  refine h v' w' ?_ h6
  unfold OwnsS
  rw [List.length_append, List.map_append]
  exact h5

theorem strs_small {H : Type} (P : Program) (e : TypeId) : ∀ (ss : List ByteArray), (DataW.weightsAll (H := H) P e (ChangeShapes.strs ss)).all (· ≤ reachBytes) = true → ∀ s ∈ ss, s.size ≤ reachBytes := by
  intro ss
  induction ss with
  | nil => intro _ s hs; cases hs
  | cons x ss ih =>
    intro h s hs
    have h' : ((x.data.toList.length :: []) ++ DataW.weightsAll (H := H) P e (ChangeShapes.strs ss)).all (· ≤ reachBytes) = true := h
    rw [List.all_append, Bool.and_eq_true] at h'
    rcases List.mem_cons.1 hs with rfl | hs
    · have := h'.1
      simp only [List.all_cons, List.all_nil, Bool.and_true, decide_eq_true_eq] at this
      exact this
    · exact ih h'.2 s hs
/-- A slice of strings that came in: none is longer than what the form reaches. -/
theorem came_strings {H : Type} {enc : TypeId × Value → H} {P : Program} {w : World} {b0 base : Nat} {held : Bool} {t e : TypeId} {v : Value} {d : DataW H} {p : List MemPlace} (ht : P.underlying t = some (.slice e)) (he : P.underlying e = some .string) (hc : P.cellsOf e = 1)
    (hv : Value.okWide P w .any b0 t v) (h : DataW.Trod enc P w base (fun _ => true) held t v d p) (hw : (d.weights P t).all (· ≤ reachBytes) = true) : ∃ ls, ReadsS w v ls ∧ ∀ s ∈ ls, s.size ≤ reachBytes := by
  obtain ⟨a, len, cap, rfl⟩ := WideShapes.okWide_slice ht hv
  obtain ⟨fuel, hf⟩ := h
  rcases ChangeShapes.open_strings ht he hc hf with ⟨hcs, _⟩ | ⟨x, l, c, ss, hcs, _, hl, hm, hz, hx, hcell, _⟩
  · simp [Value.cells] at hcs
    obtain ⟨rfl, rfl, rfl⟩ := hcs
    exact ⟨[], ⟨none, 0, rfl, by simp, by simp [maxLen], fun _ => rfl, (fun x hx => by cases hx)⟩, fun s hs => by cases hs⟩
  · simp [Value.cells] at hcs
    obtain ⟨rfl, rfl, rfl⟩ := hcs
    have e1 : (ss.take len).length = len := by
      rw [List.length_take]; split at hz <;> omega
    refine ⟨ss.take len, ⟨some x, cap, by rw [e1], by omega, hm, (fun h => by cases h), fun y hy j u hu => ?_⟩, ?_⟩
    · cases hy
      have hj : j < len := by have := (List.getElem?_eq_some_iff.1 hu).1; omega
      rw [List.getElem?_take, if_pos hj] at hu
      have hjs := (List.getElem?_eq_some_iff.1 hu).1
      rw [hcell j hjs, List.getD_eq_getElem?_getD, hu]; rfl
    · obtain ⟨rfl, _⟩ := Prod.mk.inj hx
      simp only [DataW.weights, ht, List.all_cons, List.all_append, Bool.and_eq_true] at hw
      exact strs_small P e _ hw.2.1

theorem info_str : (Tryd.prog.info? 9).map (fun i => (i.zero, i.size, i.bytes)) = some (some (.string ⟨#[]⟩), 1, 16) := by kernel_rfl

namespace Qt
open Rn
theorem cur_next (s : List UInt8) (p q d : Nat) (h : p ≤ q) : (s.drop p).take (q - p) ++ (s.drop q).take d = (s.drop p).take (q + d - p) := by
  rw [show q + d - p = (q - p) + d by omega, List.take_add, List.drop_drop, show p + (q - p) = q by omega]
theorem cur_nil (s : ByteArray) (p q : Nat) (h : p ≤ q) (hq : q < s.size) : (s.data.toList.drop p).take (q - p) = [] ↔ q = p := by
  have hl : s.data.toList.length = s.size := rfl
  constructor
  · intro h1
    have := congrArg List.length h1
    rw [List.length_take, List.length_drop, hl, List.length_nil] at this
    omega
  · rintro rfl; simp
/-- A rune's bytes behind the first, where nothing is escaped. -/
theorem sp_rune (s : ByteArray) (p q : Nat) (bq : Bool) (l : List (List UInt8)) (hpq : p ≤ q) (hq : q < s.size) :
    sp (s.data.toList.drop (q + 1)) ((s.data.toList.drop p).take (q - p) ++ [s.get! q]) bq false l = sp (s.data.toList.drop (q + (Utf8.decode s q).2)) ((s.data.toList.drop p).take (q + (Utf8.decode s q).2 - p)) bq false l := by
  have hw1 := Rn.width_pos s q
  have hw2 := Rn.width_le s q hq
  obtain ⟨d, hd⟩ : ∃ d, d = (Utf8.decode s q).2 := ⟨_, rfl⟩
  have hin := fun j h1 h2 => (Rn.inner_high s q j h1 h2).2
  rw [← hd] at hw1 hw2 hin ⊢
  have e1 : s.data.toList.drop (q + 1) = (s.data.toList.drop (q + 1)).take (d - 1) ++ s.data.toList.drop (q + d) := by
    have e0 : s.data.toList.drop (q + d) = (s.data.toList.drop (q + 1)).drop (d - 1) := by
      rw [List.drop_drop, show q + 1 + (d - 1) = q + d by omega]
    rw [e0]
    exact (List.take_append_drop _ _).symm
  rw [e1, sp_high]
  · congr 1
    rw [← cur_next _ p q d hpq, drop_eq s q hq, show d = (d - 1) + 1 by omega, List.take_succ_cons]
    simp
  · rw [take_get s (q + 1) (d - 1) (by omega)]
    intro c hc
    obtain ⟨k, hk, rfl⟩ := List.mem_map.1 hc
    rw [List.mem_range] at hk
    exact hin (q + 1 + k) (by omega) (by omega)
theorem cur_one (s : ByteArray) (p q : Nat) (hpq : p ≤ q) (hq : q < s.size) : (s.data.toList.drop p).take (q - p) ++ [s.get! q] = (s.data.toList.drop p).take (q + 1 - p) := by
  rw [← cur_next _ p q 1 hpq, drop_eq s q hq]; rfl
/-- The place q of a line: what is to come. -/
def spAt (s : ByteArray) (q p : Nat) (bq be : Bool) (l : List (List UInt8)) : List (List UInt8) := sp (s.data.toList.drop q) ((s.data.toList.drop p).take (q - p)) bq be l
theorem spAt_es (s : ByteArray) (q p : Nat) (bq : Bool) (l : List (List UInt8)) (hpq : p ≤ q) (hq : q < s.size) : spAt s q p bq true l = spAt s (q + (Utf8.decode s q).2) p bq false l := by
  unfold spAt
  rw [drop_eq s q hq]
  simp only [sp]
  rw [if_pos trivial]
  exact sp_rune s p q bq l hpq hq
theorem spAt_back (s : ByteArray) (q p : Nat) (bq : Bool) (l : List (List UInt8)) (hpq : p ≤ q) (hq : q < s.size) (hc : byteAt s q = 92) : spAt s q p bq false l = spAt s (q + 1) p bq bq l := by
  unfold spAt
  have e : (s.get! q).toNat = byteAt s q := rfl
  rw [drop_eq s q hq]
  simp only [sp]
  rw [if_neg (by simp), if_pos (by rw [e, hc]), cur_one s p q hpq hq]
theorem spAt_quote (s : ByteArray) (q p : Nat) (bq : Bool) (l : List (List UInt8)) (hpq : p ≤ q) (hq : q < s.size) (hc : byteAt s q = 34) (hb : bq = true ∨ q = p) : spAt s q p bq false l = spAt s (q + 1) p (!bq) false l := by
  unfold spAt
  have e : (s.get! q).toNat = byteAt s q := rfl
  have hcn := cur_nil s p q hpq hq
  rw [drop_eq s q hq]
  simp only [sp]
  rw [if_neg (by simp), if_neg (by rw [e, hc]; decide), if_pos ⟨by rw [e, hc], hb.imp id hcn.2⟩, cur_one s p q hpq hq]
theorem spAt_cut (s : ByteArray) (q p : Nat) (l : List (List UInt8)) (hq : q < s.size) (hc : byteAt s q = 32) : spAt s q p false false l = spAt s (q + 1) (q + 1) false false (l ++ [(s.data.toList.drop p).take (q - p)]) := by
  unfold spAt
  have e : (s.get! q).toNat = byteAt s q := rfl
  rw [drop_eq s q hq]
  simp only [sp]
  rw [if_neg (by simp), if_neg (by rw [e, hc]; decide), if_neg (by rw [e, hc]; simp), if_pos ⟨by rw [e, hc], trivial⟩, Nat.sub_self, List.take_zero]
theorem spAt_rest (s : ByteArray) (q p : Nat) (bq : Bool) (l : List (List UInt8)) (hpq : p ≤ q) (hq : q < s.size) (h1 : (Utf8.decode s q).1 ≠ 92) (h2 : ¬ ((Utf8.decode s q).1 = 34 ∧ (bq = true ∨ q = p))) (h3 : ¬ ((Utf8.decode s q).1 = 32 ∧ bq = false)) : spAt s q p bq false l = spAt s (q + (Utf8.decode s q).2) p bq false l := by
  have e : (s.get! q).toNat = byteAt s q := rfl
  have hcn := cur_nil s p q hpq hq
  have hr : byteAt s q < 128 → (Utf8.decode s q).1 = byteAt s q := fun h => by rw [Rn.low_one s q h]
  have main : spAt s q p bq false l = sp (s.data.toList.drop (q + 1)) ((s.data.toList.drop p).take (q - p) ++ [s.get! q]) bq false l := by
    unfold spAt
    rw [drop_eq s q hq]
    simp only [sp]
    by_cases h128 : byteAt s q < 128
    · rw [hr h128] at h1 h2 h3
      rw [if_neg (by simp), if_neg (by rw [e]; exact h1), if_neg (by rw [e]; exact fun ⟨a, b⟩ => h2 ⟨a, b.imp id hcn.1⟩), if_neg (by rw [e]; exact h3)]
    · rw [if_neg (by simp), if_neg (by rw [e]; omega), if_neg (by rw [e]; omega), if_neg (by rw [e]; omega)]
  rw [main]
  exact sp_rune s p q bq l hpq hq
theorem spAt_end (s : ByteArray) (q p : Nat) (bq be : Bool) (l : List (List UInt8)) (hq : q = s.size) : spAt s q p bq be l = l ++ [s.data.toList.drop p] := by
  have hl : s.data.toList.length = s.size := rfl
  unfold spAt
  rw [List.drop_eq_nil_of_le (by omega)]
  simp only [sp]
  rw [List.take_of_length_le (by rw [List.length_drop]; omega)]
theorem spAt_start (s : ByteArray) : spAt s 0 0 false false [] = split s.data.toList := rfl
end Qt
end Go.Proofs.YtomdnhlcafpbfaaDoor


namespace Go.Proofs.YtomdnhlcafpbfaaDoor
open Go.RowKit

/-- A row of strings that is made. -/
def MakesS (w : World) (E : TypeId) (ls : List (List UInt8)) (e : Ending) (w' : World) : Prop :=
  ∃ v us, e = .returned v ∧ OwnsS w' w.heap.size E v us ∧ us.map (·.data.toList) = ls ∧ Below w.heap.size w w'

theorem run_rest (s : ByteArray) (q : Nat) (h : q ≤ s.size) (w : World) :
    (Instr.slice 9 (.string s) (some (.int .i64 (q : Int))) none none).run Tryd.prog w = .ok (.string (s.extract q s.size)) w := by
  have := run_slice_string_l (P := Tryd.prog) w 9 s Tryd.underlying9 .i64 (q : Int) (by omega) (by omega)
  rw [Int.toNat_natCast] at this
  exact this

set_option maxRecDepth 4000 in
set_option maxHeartbeats 6400000 in
theorem split_any (s : ByteArray) (w : World) (hs : s.size ≤ 200000000000) :
    Calls Tryd.prog 52 #[.string s] w (MakesS w 9 (Qt.split s.data.toList)) := by
  obtain ⟨B, hB⟩ : ∃ B, B = w.heap.size := ⟨_, rfl⟩
  have h0 : It w.heap.size w (w.iter s 0) B s 0 := hB ▸ It.new s (Below.refl _ w) (Nat.le_refl _)
  go_enter Tryd.func52, Tryd.ntmps52
  go_wp2
  rw [← hB]
  clear hB
  go_loopw [3, 4, 5, 6, 7, 8, 15, 17, 21, 34] (fun v st qd es _ _ _ _ _ _ wr => ∃ (q p : Nat) (bq be : Bool) (ls : List ByteArray), st = .int .i64 (p : Int) ∧ qd = .bool bq ∧ es = .bool be ∧ p ≤ q ∧ q ≤ s.size ∧ It w.heap.size w wr B s q ∧ OwnsS wr w.heap.size 9 v ls ∧ ls.length ≤ q ∧ Hid (Qt.spAt s q p bq be (ls.map (·.data.toList)) = Qt.split s.data.toList)) (fun _ _ _ _ _ _ _ _ _ _ wr => s.size - stands B wr)
  case atStart => exact ⟨0, 0, false, false, [], rfl, rfl, rfl, by omega, by omega, h0, OwnsS.empty _ _ _, by simp, Qt.spAt_start s⟩
  case round =>
    clear h0
    obtain ⟨q, p, bq, be, ls, rfl, rfl, rfl, hpq, hq, hit, ho, hlen, HQ⟩ := hrel
    obtain ⟨ao, cap, rfl⟩ := ho.reads.shape
    by_cases hlt : q < s.size
    · have hnx := fun ty => next_at (P := Tryd.prog) hit.iter hlt ty
      have hit2 := hit.set (q + (Utf8.decode s q).2)
      have ho2 : OwnsS (iterSet wr B s (q + (Utf8.decode s q).2)) w.heap.size 9 _ ls := rowNext ho hit.iter
      have hw1 := Rn.width_pos s q
      have hw2 := Rn.width_le s q hlt
      have hbe := hit2.below
      have hsz := hbe.size
      obtain ⟨r, hr⟩ : ∃ r, r = (Utf8.decode s q).1 := ⟨_, rfl⟩
      obtain ⟨d, hd⟩ : ∃ d, d = (Utf8.decode s q).2 := ⟨_, rfl⟩
      have one : r < 128 → d = 1 ∧ Rn.byteAt s q = r := by
        intro h
        by_cases h128 : Rn.byteAt s q < 128
        · rw [Rn.low_one s q h128] at hr hd; exact ⟨hd, hr.symm⟩
        · have := Rn.high_high s q (by omega); omega
      have hes := fun l => Qt.spAt_es s q p bq l hpq hlt
      have hrest := fun l => Qt.spAt_rest s q p bq l hpq hlt
      rw [← hr, ← hd] at hnx
      rw [← hd] at hit2 ho2 hw1 hw2 hbe hsz
      rw [← hd] at hes
      rw [← hr, ← hd] at hrest
      clear hr hd ho
      cases be with
      | true =>
        have HS : Hid (Qt.spAt s (q + d) p bq false (ls.map (·.data.toList)) = Qt.split s.data.toList) := by show _ = _; rw [← HQ.out, hes]
        clear hes hrest one
        go_wp2
        go_roundw
        case rel => exact ⟨q + d, p, bq, false, ls, rfl, rfl, rfl, by omega, hw2, hit2, ho2, by omega, HS.out⟩
        case measure => rw [hit2.stands, hit.stands]; omega
      | false =>
        clear hes
        by_cases h92 : r = 92
        · obtain ⟨rfl, hc⟩ := one (by omega)
          have HS : Hid (Qt.spAt s (q + 1) p bq bq (ls.map (·.data.toList)) = Qt.split s.data.toList) := by show _ = _; rw [← HQ.out, Qt.spAt_back s q p bq _ hpq hlt (by omega)]
          subst h92
          clear hrest one hc
          go_wp2
          go_roundw
          case rel => exact ⟨q + 1, p, bq, bq, ls, rfl, rfl, rfl, by omega, hw2, hit2, ho2, by omega, HS.out⟩
          case measure => rw [hit2.stands, hit.stands]; omega
        · have e92 : ((r : Int) == 92) = false := by simp; omega
          by_cases h34 : r = 34 ∧ (bq = true ∨ q = p)
          · obtain ⟨rfl, hc⟩ := one (by omega)
            have HS : Hid (Qt.spAt s (q + 1) p (!bq) false (ls.map (·.data.toList)) = Qt.split s.data.toList) := by show _ = _; rw [← HQ.out, Qt.spAt_quote s q p bq _ hpq hlt (by omega) h34.2]
            obtain ⟨rfl, hor⟩ := h34
            clear hrest one hc h92 e92
            cases bq with
            | true =>
              clear hor
              go_wp2
              go_roundw
              case rel => exact ⟨q + 1, p, false, false, ls, rfl, rfl, rfl, by omega, hw2, hit2, ho2, by omega, HS.out⟩
              case measure => rw [hit2.stands, hit.stands]; omega
            | false =>
              have hqp := hor.resolve_left (by simp)
              have eqp : ((q : Int) == (p : Int)) = true := by simp; omega
              clear hor hqp
              go_wp2
              go_roundw
              case rel => exact ⟨q + 1, p, true, false, ls, rfl, rfl, rfl, by omega, hw2, hit2, ho2, by omega, HS.out⟩
              case measure => rw [hit2.stands, hit.stands]; omega
          · by_cases h32 : r = 32 ∧ bq = false
            · obtain ⟨rfl, hc⟩ := one (by omega)
              obtain ⟨rfl, rfl⟩ := h32
              have HS : Hid (Qt.spAt s (q + 1) (q + 1) false false ((ls ++ [s.extract p q]).map (·.data.toList)) = Qt.split s.data.toList) := by
                show _ = _
                rw [← HQ.out, Qt.spAt_cut s q p _ hlt hc, List.map_append, List.map_cons, List.map_nil, Qt.ext_list]
              have hsl := fun w => run_cut s p q (q : Int) rfl hpq hq w
              clear hrest one hc h92 e92 h34
              go_wp2_with (at_builtin; refine append_string rfl (.tmp 41) (.tmp 46) 62 9 rfl Tryd.underlying62 info_str w.heap.size ls (s.extract p q) _ rfl rfl ho2 (by omega) hsz ?_; intro v' w' ho' hg)
              have hi' := (hit2.alloc _).grown (World.ownsRow.alloc ho2 _) (Nat.le_refl _) hg
              clear hg
              go_roundw
              case rel => exact ⟨q + 1, q + 1, false, false, ls ++ [s.extract p q], by go_num, rfl, rfl, by omega, hw2, hi', ho', by rw [List.length_append]; simp; omega, HS.out⟩
              case measure => rw [hi'.stands, hit.stands]; omega
            · have HS : Hid (Qt.spAt s (q + d) p bq false (ls.map (·.data.toList)) = Qt.split s.data.toList) := by show _ = _; rw [← HQ.out, hrest _ h92 h34 h32]
              clear hrest one h92
              cases bq with
              | true =>
                have h34' : r ≠ 34 := fun h => h34 ⟨h, .inl rfl⟩
                have e34 : ((r : Int) == 34) = false := by simp; omega
                clear h34 h32
                go_wp2
                all_goals
                  go_roundw
                  case rel => exact ⟨q + d, p, true, false, ls, rfl, rfl, rfl, by omega, hw2, hit2, ho2, by omega, HS.out⟩
                  case measure => rw [hit2.stands, hit.stands]; omega
              | false =>
                have h32' : r ≠ 32 := fun h => h32 ⟨h, rfl⟩
                have e32 : ((r : Int) == 32) = false := by simp; omega
                by_cases hr34 : r = 34
                · have eqp : ((q : Int) == (p : Int)) = false := by
                    have : q ≠ p := fun h => h34 ⟨hr34, .inr h⟩
                    simp; omega
                  subst hr34
                  clear h34 h32 h32'
                  go_wp2
                  go_roundw
                  case rel => exact ⟨q + d, p, false, false, ls, rfl, rfl, rfl, by omega, hw2, hit2, ho2, by omega, HS.out⟩
                  case measure => rw [hit2.stands, hit.stands]; omega
                · have e34 : ((r : Int) == 34) = false := by simp; omega
                  clear h34 h32 h32'
                  go_wp2
                  go_roundw
                  case rel => exact ⟨q + d, p, false, false, ls, rfl, rfl, rfl, by omega, hw2, hit2, ho2, by omega, HS.out⟩
                  case measure => rw [hit2.stands, hit.stands]; omega
    · have hnx := fun ty => next_end (P := Tryd.prog) hit.iter hlt ty
      have hbe := hit.below
      have hsz := hbe.size
      have hsl := fun w => run_rest s p (by omega) w
      have HS : Hid ((ls ++ [s.extract p s.size]).map (·.data.toList) = Qt.split s.data.toList) := by
        show _ = _
        rw [← HQ.out, Qt.spAt_end s q p bq be _ (by omega), List.map_append, List.map_cons, List.map_nil, Qt.ext_list, List.take_of_length_le (by rw [List.length_drop]; exact Nat.le_refl _)]
      go_wp2_with (at_builtin; refine append_string rfl (.tmp 50) (.tmp 54) 62 9 rfl Tryd.underlying62 info_str w.heap.size ls (s.extract p s.size) _ rfl rfl ho (by omega) hsz ?_; intro v' w' ho' hg)
      have hb' := rowBelow (hbe.alloc hsz _) (World.ownsRow.alloc ho _) (by simp; omega) hg
      clear hg
      go_ret
      exact ⟨_, _, rfl, ho', HS.out, hb'⟩
end Go.Proofs.YtomdnhlcafpbfaaDoor


namespace Go.Proofs.YtomdnhlcafpbfaaDoor
open Go.RowKit

namespace Qt
theorem mem_join (sep : List UInt8) : ∀ (l : List (List UInt8)) (x : List UInt8), x ∈ l → x.length ≤ (Lib.join l sep).length := by
  intro l x hx
  cases l with
  | nil => cases hx
  | cons y r =>
    rw [Lib.join_cons, List.length_append]
    rcases List.mem_cons.1 hx with rfl | h
    · omega
    · have : ∀ (r : List (List UInt8)), x ∈ r → x.length ≤ (Lib.joinTail sep r).length := by
        intro r
        induction r with
        | nil => intro h; cases h
        | cons z r ih =>
          intro h
          rw [Lib.joinTail_length, Lib.lens, List.map_cons, List.sum_cons]
          rcases List.mem_cons.1 h with rfl | h
          · omega
          · have := ih h
            rw [Lib.joinTail_length, Lib.lens] at this
            simp only [List.length_cons]
            have h2 : sep.length * r.length ≤ sep.length * (r.length + 1) := Nat.mul_le_mul_left _ (by omega)
            omega
      have := this r h
      omega
theorem sp_some : ∀ (r cur : List UInt8) (qd es : Bool) (l : List (List UInt8)), 1 ≤ (sp r cur qd es l).length := by
  intro r
  induction r with
  | nil => intro cur qd es l; simp [sp]
  | cons c r ih =>
    intro cur qd es l
    simp only [sp]
    repeat' split
    all_goals exact ih _ _ _ _
/-- The words of a line, and whether it is one. -/
def words (s : ByteArray) : List (List UInt8) := if s.size = 0 then [] else split s.data.toList
def lineOk (s : ByteArray) : Bool := (words s).all fun l => word ⟨l.toArray⟩
end Qt

/-- What Words tells. -/
def WordsGot (w : World) (s : ByteArray) (e : Ending) (w' : World) : Prop :=
  Below w.heap.size w w' ∧ (if Qt.lineOk s = true then ∃ v us, e = .returned (.tuple #[v, .int .i64 0]) ∧ ReadsS w' v us ∧ us.map (·.data.toList) = Qt.words s else e = .returned (.tuple #[.slice none 0 0, .int .i64 3]))

theorem Qt.word_of (u : ByteArray) : Qt.word ⟨u.data.toList.toArray⟩ = Qt.word u := by
  congr 1

set_option maxRecDepth 4000 in
set_option maxHeartbeats 3200000 in
theorem words_any (s : ByteArray) (w : World) (hs : s.size ≤ 200000000000) :
    Calls Tryd.prog 34 #[.string s] w (WordsGot w s) := by
  by_cases h0 : s.size = 0
  · have hE : s.toList.isEmpty = true := by rw [Qt.empty_eq]; simp [h0]
    have hw : Qt.words s = [] := by unfold Qt.words; rw [if_pos h0]
    have hl : Hid (Qt.lineOk s = true ∧ Qt.words s = []) := by refine ⟨?_, hw⟩; unfold Qt.lineOk; rw [hw]; rfl
    clear hw
    go_enter Tryd.func34, Tryd.ntmps34
    go_wp2
    go_ret2
    refine ⟨Below.refl _ _, ?_⟩
    rw [if_pos hl.out.1]
    exact ⟨_, [], rfl, ⟨none, 0, rfl, by simp, by simp [maxLen], fun _ => rfl, (fun x hx => by cases hx)⟩, by rw [hl.out.2]; rfl⟩
  · have hE : s.toList.isEmpty = false := by rw [Qt.empty_eq]; simp [h0]
    have HW : Hid (Qt.words s = Qt.split s.data.toList) := by show _ = _; unfold Qt.words; rw [if_neg h0]
    clear h0
    go_enter Tryd.func34, Tryd.ntmps34
    go_wp2_with fail
    refine (split_any s _ hs).mono ?_
    rintro e w1 ⟨v, us, rfl, ho, hus, hb1⟩
    have hlen : 1 ≤ us.length := by
      have := Qt.sp_some s.data.toList [] false false []
      have h2 := congrArg List.length hus
      rw [List.length_map] at h2
      unfold Qt.split at h2
      omega
    have hsmall : Hid (∀ (k : Nat) (u : ByteArray), us[k]? = some u → u.size ≤ 200000000000) := by
      intro k u hu
      have hm : u.data.toList ∈ Qt.split s.data.toList := by rw [← hus]; exact List.mem_map_of_mem (List.mem_of_getElem? hu)
      have := Qt.mem_join [32] _ _ hm
      rw [Qt.split_join] at this
      have e1 : s.data.toList.length = s.size := rfl
      have e2 : u.data.toList.length = u.size := rfl
      omega
    have hr := ho.reads
    have HOK : Hid (Qt.lineOk s = us.all Qt.word) := by
      show _ = _
      unfold Qt.lineOk
      rw [HW.out, ← hus, List.all_map]
      congr 1
    obtain ⟨ao, cap, rfl⟩ := hr.shape
    obtain ⟨b, off, rfl, _, hcap, hcm, hbl, _⟩ := hr.place (by omega)
    have HR := Lib.hid hr
    have HU := Lib.hid hus
    clear ho hr hus
    unfold maxLen at hcm
    go_wp2
    go_loopw [6, 13] (fun _ i wr => ∃ k : Nat, i = .int .i64 (k : Int) ∧ k ≤ us.length ∧ Below w1.heap.size w1 wr ∧ Hid (∀ (j : Nat) (u : ByteArray), j < k → us[j]? = some u → Qt.word u = true)) (fun _ i _ => us.length - (intOf i).toNat)
    case atStart => exact ⟨0, rfl, by omega, Below.refl _ _, fun j u hj => by omega⟩
    case round =>
      obtain ⟨k, rfl, hk, hb, HQ⟩ := hrel
      have hsz := hb.size
      by_cases hlt : k < us.length
      · have hlt' : (k : Int) < (us.length : Int) := by omega
        obtain ⟨u, hu⟩ : ∃ u, us[k]? = some u := ⟨_, List.getElem?_eq_getElem hlt⟩
        obtain ⟨b', off', hbo, _, _, _, _, hcells⟩ := (HR.out.below hb).place (by omega)
        cases hbo
        have hcell := hcells k u hu
        have hsm := hsmall.out k u hu
        have HUk := Lib.hid hu
        clear hcells hu
        obtain ⟨t, ht⟩ : ∃ t, t = Qt.word u := ⟨_, rfl⟩
        have HT := Lib.hid ht
        clear ht
        go_wp2_with fail
        refine (word_any u _ hsm).mono ?_
        rintro e w2 ⟨rfl, hb2⟩
        rw [← HT.out]
        cases t with
        | true =>
          go_wp2
          go_roundw
          case rel =>
            refine ⟨k + 1, by go_num, by omega, on hb hb2, fun j x hj hx => ?_⟩
            by_cases e : j = k
            · subst e
              have := HUk.out
              rw [hx] at this
              cases this
              exact HT.out.symm
            · exact HQ.out j x (by omega) hx
          case measure => simp [intOf]; omega
        | false =>
          have HF : Hid (Qt.lineOk s = false) := by
            show _ = _
            rw [HOK.out]
            cases h : us.all Qt.word with
            | false => rfl
            | true =>
              have := List.all_eq_true.1 h u (List.mem_of_getElem? HUk.out)
              rw [← HT.out] at this; cases this
          go_wp2
          go_ret2
          refine ⟨on (on hb1 hb) hb2, ?_⟩
          rw [if_neg (by rw [HF.out]; simp)]
          rfl
      · have hlt' : ¬ (k : Int) < (us.length : Int) := by omega
        have HT : Hid (Qt.lineOk s = true) := by
          show _ = _
          rw [HOK.out, List.all_eq_true]
          intro u hu
          obtain ⟨j, hj, rfl⟩ := List.mem_iff_getElem.1 hu
          exact HQ.out j _ (by omega) (List.getElem?_eq_getElem hj)
        go_wp2
        go_ret2
        refine ⟨on hb1 hb, ?_⟩
        rw [if_pos HT.out]
        exact ⟨_, us, rfl, HR.out.below hb, by rw [HU.out, HW.out]⟩

set_option maxRecDepth 4000 in
theorem line_any (ls : List ByteArray) (v : Value) (w : World) (hr : ReadsS w v ls) (hn : ls.length ≤ 140737488355328) (hj : (Lib.join (ls.map (·.data.toList)) [32]).length ≤ 140737488355328) :
    Calls Tryd.prog 36 #[v] w (Finds w (.string ⟨(Lib.join (ls.map (·.data.toList)) [32]).toArray⟩)) := by
  by_cases h0 : ls.length = 0
  · obtain rfl : ls = [] := List.eq_nil_of_length_eq_zero h0
    obtain ⟨ao, cap, rfl⟩ := hr.shape
    go_enter Tryd.func36, Tryd.ntmps36
    go_wp2_with fail
    refine (Tryd.strings_Join_none _ _ _ _).mono ?_
    rintro e w1 ⟨rfl, rfl⟩
    go_wp2
    go_ret
    exact ⟨rfl, Below.refl _ _⟩
  · obtain ⟨ao, cap, rfl⟩ := hr.shape
    obtain ⟨b, off, rfl, _, hcap, hcm, hbl, hcells⟩ := hr.place (by omega)
    have HC : Hid (∀ (j : Nat) x, ls[j]? = some x → w.cell? ⟨b, off + j, none⟩ = some (.string x)) := hcells
    have HJ := Lib.hid hj
    clear hcells hj hr
    go_enter Tryd.func36, Tryd.ntmps36
    go_wp2_with fail
    refine (Tryd.strings_Join b off cap ls ⟨#[32]⟩ _ HC.out hbl hn hcap HJ.out).mono ?_
    rintro e w1 ⟨rfl, hb⟩
    go_wp2
    go_ret
    exact ⟨rfl, hb⟩

end Go.Proofs.YtomdnhlcafpbfaaDoor
