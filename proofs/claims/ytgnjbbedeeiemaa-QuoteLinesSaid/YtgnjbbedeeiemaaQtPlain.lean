/- Quoted strings: what stands within quotes, as the program reads it. -/
import Derived.Test.YtgnjbbedeeiemaaQtLeaf
import Derived.Laws.BitsAllLaws
namespace Go.Proofs.Ytgnjbbedeeiemaa
open Go.RowKit

theorem Qt.enc_len (r : Nat) : (Lib.encodeRune (r : Int)).length ≤ 4 := by
  unfold Lib.encodeRune
  rw [List.length_map]
  exact (Lib.encodeRuneZ_length _).2
theorem Qt.wrap8 (n : Int) : IntKind.u8.wrap n = n % 256 := by simp [IntKind.wrap, IntKind.signed, IntKind.bits]
theorem Qt.hv_lt (c : UInt8) : Qt.hv c < 256 := by unfold Qt.hv; omega

set_option maxRecDepth 4000 in
set_option maxHeartbeats 3200000 in
theorem plainOf_any (s : ByteArray) (w : World) (hs : s.size ≤ 1000000000000) :
    Calls Try.prog 18 #[.string s] w (Finds w (.string ⟨(Qt.pl s).toArray⟩)) := by
  obtain ⟨B, hB⟩ : ∃ B, B = w.heap.size := ⟨_, rfl⟩
  have h0 : It w.heap.size w (w.iter s 0) B s 0 := hB ▸ It.new s (Below.refl _ w) (Nat.le_refl _)
  go_enter Try.func18, Try.ntmps18
  go_wp2
  rw [← hB]
  clear hB
  go_loopw [3, 4, 5, 6, 16, 33] (fun v k _ _ _ _ wr => ∃ (q : Nat) (z : Int) (l : List UInt8), k = .int .i64 z ∧ 0 ≤ z ∧ z ≤ 3 ∧ z ≤ (q : Int) ∧ It w.heap.size w wr B s q ∧ q ≤ s.size ∧ Owns wr w.heap.size 5 v l ∧ l.length ≤ 4 * q ∧ Hid (Qt.plAt s q z.toNat l = Qt.pl s)) (fun _ _ _ _ _ _ wr => s.size - stands B wr)
  case atStart => exact ⟨0, 0, [], rfl, by omega, by omega, by omega, h0, by omega, Owns.empty _ _ _, by simp, rfl⟩
  case round =>
    clear h0
    obtain ⟨q, z, l, rfl, hz0, hz3, hzq, hit, hq, ho, hlen, HQ⟩ := hrel
    obtain ⟨ao, cap, rfl⟩ := ho.reads.shape
    by_cases hlt : q < s.size
    · have hnx := fun ty => next_at (P := Try.prog) hit.iter hlt ty
      have hit2 := hit.set (q + (Utf8.decode s q).2)
      have ho2 : Owns (iterSet wr B s (q + (Utf8.decode s q).2)) w.heap.size 5 _ l := rowNext ho hit.iter
      have hw1 := Rn.width_pos s q
      have hw2 := Rn.width_le s q hlt
      have hstep := Qt.plAt_eq s q z.toNat l hlt
      have hrl := Rn.rune_le s q
      have hbe := hit2.below
      have hsz := hbe.size
      have hat : ∀ h, (s[q]'h).toNat = (s.get! q).toNat := fun h => Rn.byteAt_get s q h
      obtain ⟨r, hr⟩ : ∃ r, r = (Utf8.decode s q).1 := ⟨_, rfl⟩
      obtain ⟨d, hdd⟩ : ∃ d, d = (Utf8.decode s q).2 := ⟨_, rfl⟩
      obtain ⟨c, hc⟩ : ∃ c, c = s.get! q := ⟨_, rfl⟩
      rw [← hr, ← hdd, ← hc] at hstep
      rw [← hr, ← hdd] at hnx
      rw [← hdd] at hit2 ho2 hw1 hw2 hbe hsz
      rw [← hr] at hrl
      rw [← hc] at hat
      clear hr hdd hc ho
      by_cases hesc : (z = 0 ∧ r = 92) ∨ (z = 1 ∧ r = 120) ∨ z = 2
      · rw [if_pos (by omega)] at hstep
        have HS : Hid (Qt.plAt s (q + d) (z + 1).toNat l = Qt.pl s) := by show _ = _; rw [← HQ.out, hstep]; congr 1; omega
        have hz4 : z + 1 ≤ 3 := by omega
        clear hstep
        rcases hesc with ⟨rfl, rfl⟩ | ⟨rfl, rfl⟩ | rfl
        all_goals
          go_wp2
          go_roundw
          case rel => exact ⟨q + d, _, l, rfl, by omega, hz4, by omega, hit2, hw2, ho2, by omega, HS.out⟩
          case measure => rw [hit2.stands, hit.stands]; omega
      · rw [if_neg (by omega)] at hstep
        by_cases h3 : z = 3
        · subst h3
          rw [if_pos (by rfl)] at hstep
          obtain ⟨p, hp⟩ : ∃ p, p = q - 1 := ⟨_, rfl⟩
          have hpq : (q : Int) - 1 = (p : Int) := by omega
          rw [← hp] at hstep
          have hatp : ∀ h, (s[p]'h).toNat = (s.get! p).toNat := fun h => Rn.byteAt_get s p h
          obtain ⟨cp, hcp⟩ : ∃ cp, cp = s.get! p := ⟨_, rfl⟩
          rw [← hcp] at hstep hatp
          have hwp : IntKind.i64.wrap (p : Int) = (p : Int) := by rw [IntKind.wrap_i64]; omega
          have hplt : (p : Int) < (s.size : Int) := by omega
          have hqlt : (q : Int) < (s.size : Int) := by omega
          have HS : Hid (Qt.plAt s (q + d) (0 : Int).toNat (l ++ [Qt.mix cp c]) = Qt.pl s) := by show _ = _; rw [← HQ.out, hstep]; rfl
          have hl1 : l.length + [Qt.mix cp c].length ≤ 140737488355328 := by simp; omega
          have g1 := Qt.hv_lt cp
          have g2 := Qt.hv_lt c
          obtain ⟨m, hm⟩ : ∃ m, m = (Qt.hv cp * 16) % 256 := ⟨_, rfl⟩
          have hw8 : IntKind.u8.wrap ((Qt.hv cp : Int) * 16) = (m : Int) := by rw [Qt.wrap8]; omega
          have hor : bits .or .u8 (m : Int) (Qt.hv c : Int) = ((Qt.mix cp c).toNat : Int) := by
            rw [u8_or_nat _ _ (by omega) g2]
            unfold Qt.mix
            rw [← hm, UInt8.toNat_ofNat', Nat.mod_eq_of_lt (Nat.or_lt_two_pow (n := 8) (by omega) g2)]
          obtain ⟨x, hx⟩ : ∃ x, x = Qt.mix cp c := ⟨_, rfl⟩
          rw [← hx] at hor HS hl1
          have hsz2 : w.heap.size ≤ ((iterSet wr B s (q + d)).alloc (.cells #[.int .u8 (x.toNat : Int)] 5)).drew.heap.size := by simp [World.drew]; omega
          clear hstep hp hcp hesc hm hx
          go_wp2_with fail
          go_region_law (first
            | (refine step_append_bytes (by rfl) _ _ 36 5 (by rfl) Try.underlying36 info_byte w.heap.size l [x] _ _ (by rfl) (by rfl) (ho2.alloc _).drew (Reads.fresh _ _ _ 1 _ rfl rfl (by decide)).drew hl1 hsz2 ?_; intro v' w' ho' hg)
            | (rw [if_pos (by rfl)]; go_simp; go_at_call 28; refine (value_any _ _).mono ?_; rintro e' w4 ⟨rfl, rfl⟩; dsimp only))
          all_goals
            have hi' := ((hit2.alloc _).drew 1).grown (ho2.alloc _).drew (Nat.le_refl _) hg
            clear hg
            go_wp2
            go_roundw
            case rel => exact ⟨q + d, _, l ++ [x], rfl, by omega, by omega, by omega, hi', hw2, ho', by rw [List.length_append]; simp; omega, HS.out⟩
            case measure => rw [hi'.stands, hit.stands]; omega
        · rw [if_neg (by omega)] at hstep
          have HS : Hid (Qt.plAt s (q + d) (0 : Int).toNat (l ++ Lib.encodeRune (r : Int)) = Qt.pl s) := by show _ = _; rw [← HQ.out, hstep]; rfl
          have hel := Qt.enc_len r
          have hle : (l ++ Lib.encodeRune (r : Int)).length ≤ 4 * (q + d) := by rw [List.length_append]; omega
          have hz01 : z = 0 ∧ r ≠ 92 ∨ z = 1 ∧ r ≠ 120 := by omega
          clear hstep hesc
          rcases hz01 with ⟨rfl, hr92⟩ | ⟨rfl, hr92⟩
          all_goals
            go_wp2_with (go_at_call 17; refine (rune_any w.heap.size _ l r hrl _ ho2 (by omega) hsz).mono ?_; rintro e w4 ⟨v', o, rfl, ho', hg⟩)
            have hi' := (hit2.alloc o).grown (ho2.alloc o) (Nat.le_refl _) hg
            clear hg
            go_roundw
            case rel => exact ⟨q + d, _, l ++ Lib.encodeRune (r : Int), rfl, by omega, by omega, by omega, hi', hw2, ho', hle, HS.out⟩
            case measure => rw [hi'.stands, hit.stands]; omega
    · have hnx := fun ty => next_end (P := Try.prog) hit.iter hlt ty
      have hst := run_string_of (P := Try.prog) _ Try.underlying36 Try.underlying5 Try.underlying9 ho.reads
      have HE : Hid (l = Qt.pl s) := by show _ = _; rw [← HQ.out, Qt.plAt_end s q _ l hlt]
      go_wp2
      go_ret
      exact ⟨by rw [HE.out]; rfl, hit.below⟩
end Go.Proofs.Ytgnjbbedeeiemaa
