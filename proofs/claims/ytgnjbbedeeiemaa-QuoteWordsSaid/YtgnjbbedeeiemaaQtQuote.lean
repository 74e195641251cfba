/- Quoted strings: Quote. -/
import Derived.Test.YtgnjbbedeeiemaaQtLeaf
namespace Go.Proofs.Ytgnjbbedeeiemaa
open Go.RowKit

theorem Qt.acc_len (s : ByteArray) (l : List UInt8) (q : Nat) (h : l ++ Qt.bodyAt s q = 34 :: Qt.bodyAt s 0) : l.length ≤ 4 * s.size + 1 := by
  have h1 := congrArg List.length h
  have h2 := Qt.bodyAt_len s 0
  simp at h1
  omega

theorem Qt.digit_at (k : Nat) (hk : k < 16) : ∀ h, ((ByteArray.mk #[48, 49, 50, 51, 52, 53, 54, 55, 56, 57, 97, 98, 99, 100, 101, 102])[k]'h).toNat = (Qt.hex k).toNat := by
  have h : ∀ k : Fin 16, ∀ h, ((ByteArray.mk #[48, 49, 50, 51, 52, 53, 54, 55, 56, 57, 97, 98, 99, 100, 101, 102])[k.val]'h).toNat = (Qt.hex k.val).toNat := by decide
  exact h ⟨k, hk⟩
theorem Qt.and15 (n : Nat) (h : n < 256) : bits .and .u8 (n : Int) 15 = ((n % 16 : Nat) : Int) := by
  have h0 : ∀ n : Fin 256, bits .and .u8 (n.val : Int) 15 = ((n.val % 16 : Nat) : Int) := by decide +kernel
  exact h0 ⟨n, h⟩

set_option maxRecDepth 4000 in
set_option maxHeartbeats 3200000 in
theorem quote_any (s : ByteArray) (w : World) (hs : s.size ≤ 1000000000000) :
    Calls Try.prog 8 #[.string s] w (Finds w (.string ⟨(Qt.quote s).toArray⟩)) := by
  obtain ⟨w1, hw1⟩ : ∃ w1, w1 = w.alloc (.cells #[.int .u8 34] 5) := ⟨_, rfl⟩
  have hb1 : Below w.heap.size w w1 := hw1 ▸ (Below.refl _ w).alloc (Nat.le_refl _) _
  have ho1 : Owns w1 w.heap.size 5 (.slice (some ⟨w.heap.size, 0, none⟩) 1 1) [34] := hw1 ▸ Owns.laid w _ [34] 1 _ rfl rfl (by decide)
  obtain ⟨B, hB⟩ : ∃ B, B = w1.heap.size := ⟨_, rfl⟩
  have h0 : It w.heap.size w (w1.iter s 0) B s 0 := hB ▸ It.new s hb1 hb1.size
  have hob : Owns (w1.iter s 0) w.heap.size 5 (.slice (some ⟨w.heap.size, 0, none⟩) 1 1) [34] := ho1.alloc _
  have HB : Hid (w.heap.size + 1 = B) := by show _ = _; rw [hB, hw1]; simp
  have HW := Lib.hid hw1
  have HO := Lib.hid hob
  clear ho1 hw1 hb1 hB hob
  go_enter Try.func8, Try.ntmps8
  go_wp2
  rw [HB.out, ← HW.out]
  go_loopw [3, 4, 5, 16, 27] (fun v _ _ _ _ wr => ∃ (q : Nat) (l : List UInt8), It w.heap.size w wr B s q ∧ q ≤ s.size ∧ Owns wr w.heap.size 5 v l ∧ Hid (l ++ Qt.bodyAt s q = 34 :: Qt.bodyAt s 0)) (fun _ _ _ _ _ wr => s.size - stands B wr)
  case atStart => exact ⟨0, [34], h0, by omega, HO.out, rfl⟩
  case round =>
    clear h0 HO HB HW
    obtain ⟨q, l, hit, hq, ho, HQ⟩ := hrel
    obtain ⟨ao, cap, rfl⟩ := ho.reads.shape
    have hlen := Qt.acc_len s l q HQ.out
    by_cases hlt : q < s.size
    · have hnx := fun ty => next_at (P := Try.prog) hit.iter hlt ty
      have hit2 := hit.set (q + (Utf8.decode s q).2)
      have ho2 : Owns (iterSet wr B s (q + (Utf8.decode s q).2)) w.heap.size 5 _ l := rowNext ho hit.iter
      have hw1 := Rn.width_pos s q
      have hw2 := Rn.width_le s q hlt
      have hstep := Qt.bodyAt_eq s q hlt
      have hat : ∀ h, (s[q]'h).toNat = (s.get! q).toNat := fun h => Rn.byteAt_get s q h
      obtain ⟨c, hc⟩ : ∃ c, c = s.get! q := ⟨_, rfl⟩
      have HC : Hid (Rn.byteAt s q = c.toNat) := by show _ = _; rw [hc]; rfl
      rw [← hc] at hat
      have h256 : c.toNat < 256 := c.toNat_lt
      by_cases h34 : (Utf8.decode s q).1 = 34 ∨ (Utf8.decode s q).1 = 92
      · have hd : (Utf8.decode s q).2 = 1 := by
          by_cases h128 : Rn.byteAt s q < 128
          · rw [Rn.low_one s q h128]
          · have := Rn.high_high s q (by omega); omega
        have hp : Qt.piece s q = [92, c] := by unfold Qt.piece; rw [if_pos h34, hc]
        rw [hp, hd] at hstep
        rw [hd] at hnx hit2 ho2 hw2
        have HS : Hid (l ++ [92, c] ++ Qt.bodyAt s (q + 1) = 34 :: Qt.bodyAt s 0) := by show _ = _; rw [← HQ.out, hstep, List.append_assoc]
        have hl1 : l.length + [92, c].length ≤ 140737488355328 := by simp; omega
        obtain ⟨r, hr⟩ : ∃ r, r = (Utf8.decode s q).1 := ⟨_, rfl⟩
        rw [← hr] at hnx h34
        have hbe := hit2.below
        have hsz := hbe.size
        clear hr hstep hp hd hw1 hc ho hat
        have hat : ∀ h, (s[q]'h).toNat = c.toNat := fun h => by rw [← HC.out]; exact Rn.byteAt_get s q h
        rcases h34 with rfl | rfl
        · go_wp2_with (at_builtin; refine append_bytes rfl _ _ 36 5 rfl Try.underlying36 info_byte w.heap.size l [92, c] _ _ rfl rfl (ho2.alloc _) (Reads.fresh _ _ _ 2 _ rfl rfl (by decide)) hl1 w (hbe.alloc (by omega) _) (Nat.le_refl _) ?_; intro v' w' ho' hb' hg)
          have hi' := (hit2.alloc _).grown (ho2.alloc _) (Nat.le_refl _) hg
          clear hg
          go_roundw
          case rel => exact ⟨q + 1, l ++ [92, c], hi', hw2, ho', HS.out⟩
          case measure => rw [hi'.stands, hit.stands]; omega
        · go_wp2_with (at_builtin; refine append_bytes rfl _ _ 36 5 rfl Try.underlying36 info_byte w.heap.size l [92, c] _ _ rfl rfl (ho2.alloc _) (Reads.fresh _ _ _ 2 _ rfl rfl (by decide)) hl1 w (hbe.alloc (by omega) _) (Nat.le_refl _) ?_; intro v' w' ho' hb' hg)
          have hi' := (hit2.alloc _).grown (ho2.alloc _) (Nat.le_refl _) hg
          clear hg
          go_roundw
          case rel => exact ⟨q + 1, l ++ [92, c], hi', hw2, ho', HS.out⟩
          case measure => rw [hi'.stands, hit.stands]; omega
      · have n34 : (Utf8.decode s q).1 ≠ 34 := fun e => h34 (.inl e)
        have n92 : (Utf8.decode s q).1 ≠ 92 := fun e => h34 (.inr e)
        by_cases hes : (Utf8.decode s q).1 < 32 ∨ (Utf8.decode s q).1 = 127 ∨ Rn.isBad s q = true
        · have hd : (Utf8.decode s q).2 = 1 := by
            by_cases h128 : Rn.byteAt s q < 128
            · rw [Rn.low_one s q h128]
            · have := Rn.high_high s q (by omega)
              have hb : Rn.isBad s q = true := by rcases hes with h | h | h; omega; omega; exact h
              unfold Rn.isBad at hb; simp at hb; rw [hb]
          have hp : Qt.piece s q = Qt.esc c := by unfold Qt.piece; rw [if_neg h34, if_pos hes, hc]
          have hsr := stray_any s q hlt
          rw [hp, hd] at hstep
          rw [hd] at hnx hit2 ho2 hw2
          have HS : Hid (l ++ Qt.esc c ++ Qt.bodyAt s (q + 1) = 34 :: Qt.bodyAt s 0) := by show _ = _; rw [← HQ.out, hstep, List.append_assoc]
          have hl1 : l.length + (Qt.esc c).length ≤ 140737488355328 := by simp [Qt.esc]; omega
          have hbe := hit2.below
          have hsz := hbe.size
          obtain ⟨x1, hx1⟩ : ∃ x1, x1 = c.toNat / 16 := ⟨_, rfl⟩
          obtain ⟨x2, hx2⟩ : ∃ x2, x2 = c.toNat % 16 := ⟨_, rfl⟩
          have g1 : x1 < 16 := by omega
          have g2 : x2 < 16 := by omega
          have i1 : (x1 : Int) < 16 := by omega
          have i2 : (x2 : Int) < 16 := by omega
          have i3 : (q : Int) < (s.size : Int) := by omega
          have a1 := Qt.digit_at x1 g1
          have a2 := Qt.digit_at x2 g2
          have b1 : (c.toNat : Int) / (16 : Int) = (x1 : Int) := by omega
          have b2 : bits .and .u8 (c.toNat : Int) 15 = (x2 : Int) := by rw [Qt.and15 c.toNat h256]; omega
          have HE : Hid (Qt.esc c = [92, 120, Qt.hex x1, Qt.hex x2]) := by show _ = _; rw [hx1, hx2]; rfl
          obtain ⟨r, hr⟩ : ∃ r, r = (Utf8.decode s q).1 := ⟨_, rfl⟩
          obtain ⟨bad, hbd⟩ : ∃ bad, bad = Rn.isBad s q := ⟨_, rfl⟩
          rw [← hr] at hnx hes n34 n92 hsr
          rw [← hbd] at hes hsr
          rw [HE.out] at HS
          have hl2 : l.length + [92, 120, Qt.hex x1, Qt.hex x2].length ≤ 140737488355328 := by simp; omega
          have hsz2 : w.heap.size ≤ ((iterSet wr B s (q + 1)).alloc (.cells #[.int .u8 92, .int .u8 120, .int .u8 ((Qt.hex x1).toNat : Int), .int .u8 ((Qt.hex x2).toNat : Int)] 5)).drew.heap.size := by simp [World.drew]; omega
          clear hl1 HE
          clear hr hbd hstep hp hd hw1 hc ho hx1 hx2 h34
          by_cases h32 : r < 32
          · go_wp2
            go_region_law (refine step_append_bytes (by rfl) _ _ 36 5 (by rfl) Try.underlying36 info_byte w.heap.size l [92, 120, Qt.hex x1, Qt.hex x2] _ _ (by rfl) (by rfl) (ho2.alloc _).drew (Reads.fresh _ _ _ 4 _ rfl rfl (by decide)).drew hl2 hsz2 ?_; intro v' w' ho' hg)
            all_goals
              have hi' := ((hit2.alloc _).drew 1).grown (ho2.alloc _).drew (Nat.le_refl _) hg
              clear hg
              go_wp2
              simp only [Act.put, List.getElem_toArray, List.getElem_cons_succ, List.getElem_cons_zero, List.setIfInBounds_toArray, List.set_cons_succ, List.set_cons_zero]
              go_roundw
              case rel => exact ⟨q + 1, l ++ [92, 120, Qt.hex x1, Qt.hex x2], hi', hw2, ho', HS.out⟩
              case measure => rw [hi'.stands, hit.stands]; omega
          · by_cases h127 : r = 127
            · subst h127
              go_wp2
              go_region_law (refine step_append_bytes (by rfl) _ _ 36 5 (by rfl) Try.underlying36 info_byte w.heap.size l [92, 120, Qt.hex x1, Qt.hex x2] _ _ (by rfl) (by rfl) (ho2.alloc _).drew (Reads.fresh _ _ _ 4 _ rfl rfl (by decide)).drew hl2 hsz2 ?_; intro v' w' ho' hg)
              all_goals
                have hi' := ((hit2.alloc _).drew 1).grown (ho2.alloc _).drew (Nat.le_refl _) hg
                clear hg
                go_wp2
                simp only [Act.put, List.getElem_toArray, List.getElem_cons_succ, List.getElem_cons_zero, List.setIfInBounds_toArray, List.set_cons_succ, List.set_cons_zero]
                go_roundw
                case rel => exact ⟨q + 1, l ++ [92, 120, Qt.hex x1, Qt.hex x2], hi', hw2, ho', HS.out⟩
                case measure => rw [hi'.stands, hit.stands]; omega
            · have hb : bad = true := by rcases hes with h | h | h; omega; omega; exact h
              subst hb
              go_wp2_with (go_at_call 16; refine (hsr _).mono ?_; rintro e w4 ⟨rfl, rfl⟩)
              go_region_law (refine step_append_bytes (by rfl) _ _ 36 5 (by rfl) Try.underlying36 info_byte w.heap.size l [92, 120, Qt.hex x1, Qt.hex x2] _ _ (by rfl) (by rfl) (ho2.alloc _).drew (Reads.fresh _ _ _ 4 _ rfl rfl (by decide)).drew hl2 hsz2 ?_; intro v' w' ho' hg)
              all_goals
                have hi' := ((hit2.alloc _).drew 1).grown (ho2.alloc _).drew (Nat.le_refl _) hg
                clear hg
                go_wp2
                simp only [Act.put, List.getElem_toArray, List.getElem_cons_succ, List.getElem_cons_zero, List.setIfInBounds_toArray, List.set_cons_succ, List.set_cons_zero]
                go_roundw
                case rel => exact ⟨q + 1, l ++ [92, 120, Qt.hex x1, Qt.hex x2], hi', hw2, ho', HS.out⟩
                case measure => rw [hi'.stands, hit.stands]; omega
        · have hb : Rn.isBad s q = false := by
            cases h : Rn.isBad s q with
            | false => rfl
            | true => exact absurd (.inr (.inr h)) hes
          have hp : Qt.piece s q = Lib.encodeRune ((Utf8.decode s q).1 : Int) := by
            unfold Qt.piece; rw [if_neg h34, if_neg hes]; exact Qt.enc_piece s q hlt hb
          have hsr := stray_any s q hlt
          have hrl := Rn.rune_le s q
          rw [hb] at hsr
          rw [hp] at hstep
          have HS : Hid (l ++ Lib.encodeRune ((Utf8.decode s q).1 : Int) ++ Qt.bodyAt s (q + (Utf8.decode s q).2) = 34 :: Qt.bodyAt s 0) := by show _ = _; rw [← HQ.out, hstep, List.append_assoc]
          have hbe := hit2.below
          have hsz := hbe.size
          obtain ⟨r, hr⟩ : ∃ r, r = (Utf8.decode s q).1 := ⟨_, rfl⟩
          obtain ⟨d, hdd⟩ : ∃ d, d = (Utf8.decode s q).2 := ⟨_, rfl⟩
          rw [← hr] at hnx hes n34 n92 hsr HS hrl
          rw [← hdd] at hnx hit2 ho2 hw2 HS hbe hsz hw1
          have n32 : ¬ (r : Int) < 32 := by omega
          have n127 : r ≠ 127 := by omega
          clear hr hdd hstep hp hb hc ho h34 hes
          go_wp2_with (first
            | (go_at_call 16; refine (hsr _).mono ?_; rintro e w4 ⟨rfl, rfl⟩)
            | (go_at_call 17; refine (rune_any w.heap.size _ l r hrl _ ho2 (by omega) hsz).mono ?_; rintro e w4 ⟨v', o, rfl, ho', hg⟩))
          have hi' := (hit2.alloc o).grown (ho2.alloc o) (Nat.le_refl _) hg
          clear hg
          go_roundw
          case rel => exact ⟨q + d, l ++ Lib.encodeRune (r : Int), hi', hw2, ho', HS.out⟩
          case measure => rw [hi'.stands, hit.stands]; omega
    · have hnx := fun ty => next_end (P := Try.prog) hit.iter hlt ty
      have HE : Hid (l ++ [34] = Qt.quote s) := by
        show _ = _
        have h1 := HQ.out
        rw [Qt.bodyAt_end s q hlt, List.append_nil] at h1
        rw [h1]; rfl
      have hl1 : l.length + [34].length ≤ 140737488355328 := by simp; omega
      have hll : (l ++ [34]).length = l.length + 1 := by simp
      have hbe := hit.below
      have hsz := hbe.size
      go_wp2_with (at_builtin; refine append_bytes rfl _ _ 36 5 rfl Try.underlying36 info_byte w.heap.size l [34] _ _ rfl rfl (ho.alloc _) (Reads.fresh _ _ _ 1 _ rfl rfl (by decide)) hl1 w (hbe.alloc (by omega) _) (Nat.le_refl _) ?_; intro v' w' ho' hb' hg; clear hg; obtain ⟨ao2, cap2, rfl⟩ := ho'.reads.shape; have hst := run_string_of (P := Try.prog) _ Try.underlying36 Try.underlying5 Try.underlying9 ho'.reads; rw [hll] at hst)
      go_ret
      exact ⟨by rw [HE.out]; rfl, hb'⟩
end Go.Proofs.Ytgnjbbedeeiemaa
