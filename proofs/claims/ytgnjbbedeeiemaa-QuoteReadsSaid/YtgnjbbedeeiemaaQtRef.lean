/- Quoted strings: the document's Quote. -/
import Derived.Test.YtgnjbbedeeiemaaQtLeaf
import Derived.WalkLawsBesides
namespace Go.Proofs.Ytgnjbbedeeiemaa
open Go.RowKit

theorem run_hex (w : World) (j : Nat) (h : j < 16) :
    (Instr.slice 9 (.string ⟨#[48, 49, 50, 51, 52, 53, 54, 55, 56, 57, 97, 98, 99, 100, 101, 102]⟩) (some (.int .u8 (j : Int))) (some (.int .u8 ((j : Int) + 1))) none).run Try.prog w = .ok (.string ⟨#[Qt.hex j]⟩) w := by
  rw [run_slice_string w 9 _ _ _ _ _ Try.underlying9 (by omega) (by omega) (by show (j : Int) + 1 ≤ ((16 : Nat) : Int); omega)]
  congr 2
  have : ∀ j : Fin 16, (⟨#[48, 49, 50, 51, 52, 53, 54, 55, 56, 57, 97, 98, 99, 100, 101, 102]⟩ : ByteArray).extract (j.1 : Int).toNat ((j.1 : Int) + 1).toNat = ⟨#[Qt.hex j.1]⟩ := by decide
  exact this ⟨j, h⟩
theorem run_cut (s : ByteArray) (q e : Nat) (z : Int) (hz : z = (e : Int)) (h1 : q ≤ e) (h2 : e ≤ s.size) (w : World) :
    (Instr.slice 9 (.string s) (some (.int .i64 (q : Int))) (some (.int .i64 z)) none).run Try.prog w = .ok (.string (s.extract q e)) w := by
  subst hz
  rw [run_slice_string w 9 _ _ _ _ _ Try.underlying9 (by omega) (by omega) (by omega)]
  rw [Int.toNat_natCast, Int.toNat_natCast]
theorem Qt.ext_list (s : ByteArray) (i j : Nat) : (s.extract i j).data.toList = (s.data.toList.drop i).take (j - i) := by
  simp only [ByteArray.data_extract, Array.toList_extract, List.extract_eq_take_drop]
theorem Qt.app_list (a b : ByteArray) : (a ++ b).data.toList = a.data.toList ++ b.data.toList := by simp

set_option maxRecDepth 4000 in
set_option maxHeartbeats 3200000 in
theorem refQuote_any (s : ByteArray) (w : World) (hs : s.size ≤ 1000000000000) :
    Calls Try.prog 10 #[.string s] w (Finds w (.string ⟨(Qt.quote s).toArray⟩)) := by
  go_enter Try.func10, Try.ntmps10
  go_wp2
  go_loopw [3, 4, 5, 6, 7, 26, 63] (fun v i _ _ _ _ _ wr => ∃ (q : Nat) (A : ByteArray), v = .string A ∧ i = .int .i64 (q : Int) ∧ q ≤ s.size ∧ Below w.heap.size w wr ∧ A.size ≤ 4 * q + 1 ∧ Hid (A.data.toList ++ Qt.bodyAt s q = 34 :: Qt.bodyAt s 0)) (fun _ i _ _ _ _ _ _ => s.size - (intOf i).toNat)
  case atStart => exact ⟨0, ⟨#[34]⟩, rfl, rfl, by omega, Below.refl _ _, by decide, rfl⟩
  case round =>
    obtain ⟨q, A, rfl, rfl, hq, hb0, hA, HQ⟩ := hrel
    have hbd : Below w.heap.size w wr.drew := hb0.trans ((drawn wr 1).mono hb0.size)
    by_cases hlt : q < s.size
    · have hw1 := Rn.width_pos s q
      have hw2 := Rn.width_le s q hlt
      have hd4 : (Utf8.decode s q).2 ≤ 4 := by
        rw [Rn.decode_eq]; repeat' split
        all_goals simp
      have hstep := Qt.bodyAt_eq s q hlt
      have hf := Rn.size_fst s q
      have hat : ∀ h, (s[q]'h).toNat = (s.get! q).toNat := fun h => Rn.byteAt_get s q h
      obtain ⟨c, hc⟩ : ∃ c, c = s.get! q := ⟨_, rfl⟩
      have HC : Hid (Rn.byteAt s q = c.toNat) := by show _ = _; rw [hc]; rfl
      rw [← hc] at hat
      have h256 : c.toNat < 256 := c.toNat_lt
      by_cases h34 : (Utf8.decode s q).1 = 34 ∨ (Utf8.decode s q).1 = 92
      · have hnb : Rn.isBad s q = false := by
          cases h : Rn.isBad s q with
          | false => rfl
          | true => unfold Rn.isBad at h; simp at h; rw [h] at h34; simp at h34
        have hd : (Utf8.decode s q).2 = 1 := by
          by_cases h128 : Rn.byteAt s q < 128
          · rw [Rn.low_one s q h128]
          · have := Rn.high_high s q (by omega); omega
        have hp : Qt.piece s q = [92, c] := by unfold Qt.piece; rw [if_pos h34, hc]
        have hsn := Rn.size_snd s q hnb
        rw [hnb] at hf
        rw [hp, hd] at hstep
        rw [hd] at hf
        have hex1 : (s.extract q (q + 1)).data.toList = [c] := by
          rw [Qt.ext_list, Qt.drop_eq s q hlt, hc, show q + 1 - q = 1 by omega]; rfl
        have HS : Hid ((A ++ ⟨#[92]⟩ ++ s.extract q (q + 1)).data.toList ++ Qt.bodyAt s (q + 1) = 34 :: Qt.bodyAt s 0) := by
          show _ = _
          rw [← HQ.out, hstep, Qt.app_list, Qt.app_list, hex1, List.append_assoc, List.append_assoc]; rfl
        have HZ : Hid ((A ++ ⟨#[92]⟩ ++ s.extract q (q + 1)).size ≤ 4 * (q + 1) + 1) := by
          show _ ≤ _
          rw [ByteArray.size_append, ByteArray.size_append, ByteArray.size_extract]
          have : (ByteArray.mk #[92]).size = 1 := rfl
          omega
        have HF := Lib.hid hf
        have HN := Lib.hid hsn
        obtain ⟨r, hr⟩ : ∃ r, r = (Utf8.decode s q).1 := ⟨_, rfl⟩
        rw [← hr] at h34 HN
        clear hf hsn hstep hp hc hnb hex1 hr hw1 hd hd4
        have hsl := fun w => run_cut s q (q + 1) ((q : Int) + 1) (by omega) (by omega) hlt w
        rcases h34 with rfl | rfl
        · go_wp2_with fail
          refine (refSize_any _ _ _ hlt (by omega)).mono ?_
          rintro e w1 ⟨rfl, rfl⟩
          rw [HF.out, HN.out]
          simp only [Bool.false_eq_true, if_false]
          go_wp2
          go_roundw
          case rel => exact ⟨q + 1, _, rfl, by go_num, by omega, hb0, HZ.out, HS.out⟩
          case measure => simp [intOf]; omega
        · go_wp2_with fail
          refine (refSize_any _ _ _ hlt (by omega)).mono ?_
          rintro e w1 ⟨rfl, rfl⟩
          rw [HF.out, HN.out]
          simp only [Bool.false_eq_true, if_false]
          go_wp2
          go_roundw
          case rel => exact ⟨q + 1, _, rfl, by go_num, by omega, hb0, HZ.out, HS.out⟩
          case measure => simp [intOf]; omega
      · by_cases hes : (Utf8.decode s q).1 < 32 ∨ (Utf8.decode s q).1 = 127 ∨ Rn.isBad s q = true
        · have hd : (Utf8.decode s q).2 = 1 := by
            by_cases h128 : Rn.byteAt s q < 128
            · rw [Rn.low_one s q h128]
            · have := Rn.high_high s q (by omega)
              have hb : Rn.isBad s q = true := by rcases hes with h | h | h; omega; omega; exact h
              unfold Rn.isBad at hb; simp at hb; rw [hb]
          have hp : Qt.piece s q = Qt.esc c := by unfold Qt.piece; rw [if_neg h34, if_pos hes, hc]
          rw [hp, hd] at hstep
          obtain ⟨x1, hx1⟩ : ∃ x1, x1 = c.toNat / 16 := ⟨_, rfl⟩
          obtain ⟨x2, hx2⟩ : ∃ x2, x2 = c.toNat % 16 := ⟨_, rfl⟩
          have g1 : x1 < 16 := by omega
          have g2 : x2 < 16 := by omega
          have i3 : (q : Int) < (s.size : Int) := by omega
          have b1 : (c.toNat : Int) / (16 : Int) = (x1 : Int) := by omega
          have b2 : (c.toNat : Int) % (16 : Int) = (x2 : Int) := by omega
          have r1 := fun w => run_hex w x1 g1
          have r2 := fun w => run_hex w x2 g2
          have he : Qt.esc c = [92, 120, Qt.hex x1, Qt.hex x2] := by rw [hx1, hx2]; rfl
          have HS : Hid ((A ++ ⟨#[92, 120]⟩ ++ ⟨#[Qt.hex x1]⟩ ++ ⟨#[Qt.hex x2]⟩).data.toList ++ Qt.bodyAt s (q + 1) = 34 :: Qt.bodyAt s 0) := by
            show _ = _
            rw [← HQ.out, hstep, he, Qt.app_list, Qt.app_list, Qt.app_list]; simp
          have HZ : Hid ((A ++ ⟨#[92, 120]⟩ ++ ⟨#[Qt.hex x1]⟩ ++ ⟨#[Qt.hex x2]⟩).size ≤ 4 * (q + 1) + 1) := by
            show _ ≤ _
            rw [ByteArray.size_append, ByteArray.size_append, ByteArray.size_append]
            have z1 : (ByteArray.mk #[92, 120]).size = 2 := rfl
            have z2 : ∀ c, (ByteArray.mk #[c]).size = 1 := fun _ => rfl
            rw [z1, z2, z2]
            omega
          cases hb : Rn.isBad s q with
          | true =>
            rw [hb] at hf
            have hsn : (Rn.size s q).2 = 0 := by
              unfold Rn.isBad at hb; unfold Rn.size; rw [if_pos (by simpa using hb)]
            have HF := Lib.hid hf
            have HN := Lib.hid hsn
            clear hf hsn hstep hp hc hb hes hx1 hx2 h34 hw1 hw2 hd hd4 he
            go_wp2_with fail
            refine (refSize_any _ _ _ hlt (by omega)).mono ?_
            rintro e w1 ⟨rfl, rfl⟩
            rw [HF.out, HN.out]
            simp only [if_true]
            go_wp2
            go_region
            go_wp2
            go_roundw
            case rel => exact ⟨q + 1, _, rfl, by go_num, by omega, hbd, HZ.out, HS.out⟩
            case measure => simp [intOf]; omega
          | false =>
            have hsn := Rn.size_snd s q hb
            rw [hb] at hf hes
            obtain ⟨r, hr⟩ : ∃ r, r = (Utf8.decode s q).1 := ⟨_, rfl⟩
            rw [hd] at hf
            rw [← hr] at hes hsn
            have HF := Lib.hid hf
            have HN := Lib.hid hsn
            clear hf hsn hstep hp hc hb hx1 hx2 h34 hw1 hw2 hd hd4 he hr
            by_cases h32 : r < 32
            · have h32' : (r : Int) < 32 := by omega
              go_wp2_with fail
              refine (refSize_any _ _ _ hlt (by omega)).mono ?_
              rintro e w1 ⟨rfl, rfl⟩
              rw [HF.out, HN.out]
              simp only [Bool.false_eq_true, if_false]
              go_wp2
              go_region
              go_wp2
              go_roundw
              case rel => exact ⟨q + 1, _, rfl, by go_num, by omega, hbd, HZ.out, HS.out⟩
              case measure => simp [intOf]; omega
            · have h127 : r = 127 := by
                rcases hes with h | h | h
                · exact absurd h h32
                · exact h
                · cases h
              subst h127
              go_wp2_with fail
              refine (refSize_any _ _ _ hlt (by omega)).mono ?_
              rintro e w1 ⟨rfl, rfl⟩
              rw [HF.out, HN.out]
              simp only [Bool.false_eq_true, if_false]
              go_wp2
              go_region
              go_wp2
              go_roundw
              case rel => exact ⟨q + 1, _, rfl, by go_num, by omega, hbd, HZ.out, HS.out⟩
              case measure => simp [intOf]; omega
        · have hb : Rn.isBad s q = false := by
            cases h : Rn.isBad s q with
            | false => rfl
            | true => exact absurd (.inr (.inr h)) hes
          have hsn := Rn.size_snd s q hb
          have hp : Qt.piece s q = (s.data.toList.drop q).take (Utf8.decode s q).2 := by
            unfold Qt.piece; rw [if_neg h34, if_neg hes]
          rw [hb] at hf
          simp only [Bool.false_eq_true, if_false] at hf
          obtain ⟨r, hr⟩ : ∃ r, r = (Utf8.decode s q).1 := ⟨_, rfl⟩
          obtain ⟨d, hdd⟩ : ∃ d, d = (Utf8.decode s q).2 := ⟨_, rfl⟩
          rw [hp, ← hdd] at hstep
          rw [← hdd] at hf hw1 hw2 hd4
          rw [← hr] at hsn h34 hes
          have hsl := fun w => run_cut s q (q + d) ((q : Int) + (d : Int)) (by omega) (by omega) hw2 w
          have HS : Hid ((A ++ s.extract q (q + d)).data.toList ++ Qt.bodyAt s (q + d) = 34 :: Qt.bodyAt s 0) := by
            show _ = _
            rw [← HQ.out, hstep, Qt.app_list, Qt.ext_list, Nat.add_sub_cancel_left, List.append_assoc]
          have HZ : Hid ((A ++ s.extract q (q + d)).size ≤ 4 * (q + d) + 1) := by
            show _ ≤ _
            rw [ByteArray.size_append, ByteArray.size_extract]
            omega
          have HF := Lib.hid hf
          have HN := Lib.hid hsn
          have n32 : ¬ (r : Int) < 32 := by omega
          have n127 : ((r : Int) == 127) = false := by simp; omega
          have n34 : ((r : Int) == 34) = false := by simp; omega
          have n92 : ((r : Int) == 92) = false := by simp; omega
          have n0 : ((d : Int) == 0) = false := by simp; omega
          clear hf hsn hstep hp hc hb hes hr hdd h34
          go_wp2_with fail
          refine (refSize_any _ _ _ hlt (by omega)).mono ?_
          rintro e w1 ⟨rfl, rfl⟩
          rw [HF.out, HN.out]
          go_wp2
          go_roundw
          case rel => exact ⟨q + d, _, rfl, by go_num, by omega, hb0, HZ.out, HS.out⟩
          case measure => simp [intOf]; omega
    · have HE : Hid ((A ++ ⟨#[34]⟩) = ⟨(Qt.quote s).toArray⟩) := by
        show _ = _
        have h1 := HQ.out
        rw [Qt.bodyAt_end s q hlt, List.append_nil] at h1
        refine Qt.same_list ?_
        rw [Qt.app_list, h1]; simp [Qt.quote]
      go_wp2
      go_ret
      exact ⟨by rw [HE.out]; rfl, hb0⟩
end Go.Proofs.Ytgnjbbedeeiemaa
