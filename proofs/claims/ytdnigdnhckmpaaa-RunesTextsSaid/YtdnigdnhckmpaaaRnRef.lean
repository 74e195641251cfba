/- Runes: the document's Bad, Key, Val, Cut, Lower. -/
import Derived.Test.YtdnigdnhckmpaaaRnLow
namespace Go.Proofs.Ytdnigdnhckmpaaa
open Go.RowKit

namespace Rn
theorem isBad_rune (s : ByteArray) (i : Nat) (h : isBad s i = true) : (Utf8.decode s i).1 = 65533 := by
  unfold isBad at h; simp at h; rw [h]
theorem bad_not_plain (s : ByteArray) (i : Nat) (h : isBad s i = true) : plain ((Utf8.decode s i).1 : Int) = false := by
  rw [isBad_rune s i h]; decide
/-- What a value's bytes may be. -/
theorem shown_bytes (s : ByteArray) : ∀ (b i : Nat), s.size - i ≤ b → (allFrom shown s b i = true ↔ ∀ j, i ≤ j → j < s.size → 32 ≤ byteAt s j ∧ byteAt s j ≠ 127) := by
  intro b
  induction b with
  | zero => intro i h; simp only [allFrom, true_iff]; intro j h1 h2; omega
  | succ b ih =>
    intro i h
    simp only [allFrom]
    by_cases hi : i < s.size
    · rw [if_pos hi, Bool.and_eq_true]
      have hw := width_pos s i
      have hw2 := width_le s i hi
      rw [ih (i + (Utf8.decode s i).2) (by omega)]
      by_cases h128 : byteAt s i < 128
      · rw [low_one s i h128]
        constructor
        · rintro ⟨h1, h2⟩ j hj1 hj2
          by_cases e : j = i
          · subst e
            simp [shown] at h1; omega
          · exact h2 j (by simp only; omega) hj2
        · intro h1
          have := h1 i (Nat.le_refl _) hi
          exact ⟨by simp [shown]; omega, fun j hj1 hj2 => h1 j (by simp only at hj1; omega) hj2⟩
      · have hh := high_high s i (by omega)
        constructor
        · rintro ⟨h1, h2⟩ j hj1 hj2
          by_cases e : j < i + (Utf8.decode s i).2
          · by_cases e2 : j = i
            · subst e2; omega
            · have := (inner_high s i j (by omega) e).2; omega
          · exact h2 j (by omega) hj2
        · intro h1
          exact ⟨by simp [shown]; omega, fun j hj1 hj2 => h1 j (by omega) hj2⟩
    · rw [if_neg hi]; simp only [true_iff]; intro j h1 h2; omega
theorem all_shown (s : ByteArray) : all shown s = true ↔ ∀ j, j < s.size → 32 ≤ byteAt s j ∧ byteAt s j ≠ 127 := by
  unfold all
  rw [shown_bytes s s.size 0 (by omega)]
  exact ⟨fun h j hj => h j (Nat.zero_le _) hj, fun h j _ hj => h j hj⟩
end Rn

set_option maxRecDepth 4000 in
set_option maxHeartbeats 800000 in
theorem refBad_any (s : ByteArray) (w : World) (hs : s.size ≤ 140737488355328) :
    Calls Try.prog 9 #[.string s] w (Says w (.int .i64 (Rn.bad s))) := by
  go_enter Try.func9, Try.ntmps9
  go_wp2
  go_loop [3, 4] (fun i _ => ∃ q : Nat, i = .int .i64 (q : Int) ∧ q ≤ s.size ∧ Hid (Rn.badAt s q = Rn.bad s)) (fun i _ => s.size - (intOf i).toNat)
  case atStart => exact ⟨0, rfl, by omega, rfl⟩
  case round =>
    obtain ⟨q, rfl, hq, HQ⟩ := hrel
    by_cases hlt : q < s.size
    · have hw1 := Rn.width_pos s q
      have hw2 := Rn.width_le s q hlt
      have hst := Rn.badAt_eq s q hlt
      have hf := Rn.size_fst s q
      cases hb : Rn.isBad s q with
      | true =>
        rw [hb] at hst hf
        have HS := Lib.hid hst
        have HF := Lib.hid hf
        clear hst hf hb
        go_wp2_with fail
        refine (refSize_any _ _ _ hlt hs).mono ?_
        rintro e w1 ⟨rfl, rfl⟩
        rw [HF.out]
        go_wp2
        go_ret
        exact ⟨ret_int (by rw [← HQ.out, HS.out]; rfl), rfl⟩
      | false =>
        rw [hb] at hst hf
        have HS := Lib.hid hst
        have HF := Lib.hid hf
        clear hst hf hb
        go_wp2_with fail
        refine (refSize_any _ _ _ hlt hs).mono ?_
        rintro e w1 ⟨rfl, rfl⟩
        rw [HF.out]
        simp only [Bool.false_eq_true, if_false]
        obtain ⟨d, hd⟩ : ∃ d, d = (Utf8.decode s q).2 := ⟨_, rfl⟩
        rw [← hd] at hw1 hw2 HS ⊢
        clear hd HF
        go_wp2
        go_round
        case rel => exact ⟨q + d, by go_num, hw2, by show _ = _; rw [← HQ.out, HS.out]; rfl⟩
        case measure => simp [intOf]; omega
    · go_wp2
      go_ret
      exact ⟨ret_int (by rw [← HQ.out, Rn.badAt_end s q hlt]), rfl⟩

set_option maxRecDepth 4000 in
set_option maxHeartbeats 800000 in
theorem refKey_any (s : ByteArray) (w : World) (hs : s.size ≤ 140737488355328) :
    Calls Try.prog 12 #[.string s] w (Says w (.bool (Rn.key s))) := by
  by_cases h0 : 0 < s.size
  · by_cases h1 : s.size ≤ 24
    · have E : Hid (Rn.key s = Rn.allAt Rn.plain s 0) := by show _ = _; simp [Rn.key, h0, h1]; rfl
      go_enter Try.func12, Try.ntmps12
      go_wp2
      go_loop [3, 4, 5] (fun i _ _ => ∃ q : Nat, i = .int .i64 (q : Int) ∧ q ≤ s.size ∧ Hid (Rn.allAt Rn.plain s q = Rn.key s)) (fun i _ _ => s.size - (intOf i).toNat)
      case atStart => exact ⟨0, rfl, by omega, E.out.symm⟩
      case round =>
        obtain ⟨q, rfl, hq, HQ⟩ := hrel
        by_cases hlt : q < s.size
        · have hw1 := Rn.width_pos s q
          have hw2 := Rn.width_le s q hlt
          have hst := Rn.allAt_eq Rn.plain s q hlt
          have hf := Rn.size_fst s q
          cases hb : Rn.isBad s q with
          | true =>
            have hnp := Rn.bad_not_plain s q hb
            rw [hnp] at hst
            rw [hb] at hf
            have HS := Lib.hid hst
            have HF := Lib.hid hf
            clear hst hf hb hnp
            go_wp2_with fail
            refine (refSize_any _ _ _ hlt hs).mono ?_
            rintro e w1 ⟨rfl, rfl⟩
            rw [HF.out]
            go_wp2
            go_ret
            exact ⟨ret_bool (by rw [← HQ.out, HS.out]; rfl), rfl⟩
          | false =>
            have hsn := Rn.size_snd s q hb
            rw [hb] at hf
            have HF := Lib.hid hf
            have HN := Lib.hid hsn
            obtain ⟨d, hd⟩ : ∃ d, d = (Utf8.decode s q).2 := ⟨_, rfl⟩
            obtain ⟨r, hr⟩ : ∃ r, r = (Utf8.decode s q).1 := ⟨_, rfl⟩
            rw [← hd] at hw1 hw2 hst HF
            rw [← hr] at hst HN
            clear hf hb hsn hd hr
            obtain ⟨b, hb⟩ : ∃ b, b = Rn.plain (r : Int) := ⟨_, rfl⟩
            rw [← hb] at hst
            have HS := Lib.hid hst
            have HB := Lib.hid hb
            clear hst hb
            cases b with
            | true =>
              go_wp2_with fail
              refine (refSize_any _ _ _ hlt hs).mono ?_
              rintro e w1 ⟨rfl, rfl⟩
              rw [HF.out, HN.out]
              simp only [Bool.false_eq_true, if_false]
              go_wp2_with fail
              refine (refPlain_any _ _).mono ?_
              rintro e w1 ⟨rfl, rfl⟩
              rw [← HB.out]
              go_wp2
              go_round
              case rel => exact ⟨q + d, by go_num, hw2, by show _ = _; rw [← HQ.out, HS.out]; rfl⟩
              case measure => simp [intOf]; omega
            | false =>
              go_wp2_with fail
              refine (refSize_any _ _ _ hlt hs).mono ?_
              rintro e w1 ⟨rfl, rfl⟩
              rw [HF.out, HN.out]
              simp only [Bool.false_eq_true, if_false]
              go_wp2_with fail
              refine (refPlain_any _ _).mono ?_
              rintro e w1 ⟨rfl, rfl⟩
              rw [← HB.out]
              go_wp2
              go_ret
              exact ⟨ret_bool (by rw [← HQ.out, HS.out]; rfl), rfl⟩
        · go_wp2
          go_ret
          exact ⟨ret_bool (by rw [← HQ.out, Rn.allAt_end _ s q hlt]), rfl⟩
    · have e : Hid (Rn.key s = false) := by show _ = _; simp [Rn.key, h1]
      go_enter Try.func12, Try.ntmps12
      go_wp2
      go_ret
      exact ⟨ret_bool (by rw [e.out]), rfl⟩
  · have e : Hid (Rn.key s = false) := by show _ = _; simp [Rn.key, h0]
    go_enter Try.func12, Try.ntmps12
    go_wp2
    go_ret
    exact ⟨ret_bool (by rw [e.out]), rfl⟩

set_option maxRecDepth 4000 in
set_option maxHeartbeats 800000 in
theorem refVal_any (s : ByteArray) (w : World) (hs : s.size ≤ 140737488355328) :
    Calls Try.prog 14 #[.string s] w (Says w (.bool (Rn.val s))) := by
  by_cases h1 : s.size ≤ 48
  · by_cases hbad : 0 ≤ Rn.bad s
    · have E : Hid (Rn.val s = false) := by show _ = _; unfold Rn.val; simp; intro _ h; omega
      go_enter Try.func14, Try.ntmps14
      go_wp2_with fail
      refine (refBad_any _ _ hs).mono ?_
      rintro e w1 ⟨rfl, rfl⟩
      go_wp2
      go_ret
      exact ⟨ret_bool (by rw [E.out]), rfl⟩
    · have E : Hid (Rn.val s = Rn.all Rn.shown s) := by show _ = _; unfold Rn.val; simp [h1]; intro h; omega
      go_enter Try.func14, Try.ntmps14
      go_wp2_with fail
      refine (refBad_any _ _ hs).mono ?_
      rintro e w1 ⟨rfl, rfl⟩
      go_wp2
      go_loop [3] (fun i => ∃ q : Nat, i = .int .i64 (q : Int) ∧ q ≤ s.size ∧ Hid (∀ j, j < q → 32 ≤ Rn.byteAt s j ∧ Rn.byteAt s j ≠ 127)) (fun i => s.size - (intOf i).toNat)
      case atStart => exact ⟨0, rfl, by omega, fun j hj => by omega⟩
      case round =>
        obtain ⟨q, rfl, hq, HQ⟩ := hrel
        by_cases hlt : q < s.size
        · have hat : ∀ h, (s[q]'h).toNat = Rn.byteAt s q := fun h => Rn.byteAt_get s q h
          have h255 := Rn.byteAt_lt s q
          obtain ⟨x, hx⟩ : ∃ x, x = Rn.byteAt s q := ⟨_, rfl⟩
          rw [← hx] at hat h255
          have HX := Lib.hid hx; clear hx
          by_cases x1 : x < 32
          · have EF : Hid (Rn.all Rn.shown s = false) := by
              show _ = _
              cases h : Rn.all Rn.shown s with
              | false => rfl
              | true => have := (Rn.all_shown s).1 h q hlt; rw [← HX.out] at this; omega
            go_wp2
            go_ret
            exact ⟨ret_bool (by rw [E.out, EF.out]), rfl⟩
          · by_cases x2 : x = 127
            · have EF : Hid (Rn.all Rn.shown s = false) := by
                show _ = _
                cases h : Rn.all Rn.shown s with
                | false => rfl
                | true => have := (Rn.all_shown s).1 h q hlt; rw [← HX.out] at this; omega
              subst x2
              go_wp2
              go_ret
              exact ⟨ret_bool (by rw [E.out, EF.out]), rfl⟩
            · have x3 : ((x : Int) == 127) = false := by simp; omega
              have x4 : ¬ (x : Int) = 127 := by omega
              have HN : Hid (∀ j, j < q + 1 → 32 ≤ Rn.byteAt s j ∧ Rn.byteAt s j ≠ 127) := by
                intro j hj
                by_cases e : j = q
                · subst e; rw [← HX.out]; omega
                · exact HQ.out j (by omega)
              clear x2
              go_wp2
              go_round
              case rel => exact ⟨q + 1, by go_num, by omega, HN.out⟩
              case measure => simp [intOf]; omega
        · have EF : Hid (Rn.all Rn.shown s = true) := by
            show _ = _
            rw [Rn.all_shown]; exact fun j hj => HQ.out j (by omega)
          go_wp2
          go_ret
          exact ⟨ret_bool (by rw [E.out, EF.out]), rfl⟩
  · have e : Hid (Rn.val s = false) := by show _ = _; simp [Rn.val, h1]
    go_enter Try.func14, Try.ntmps14
    go_wp2
    go_ret
    exact ⟨ret_bool (by rw [e.out]), rfl⟩

set_option maxRecDepth 4000 in
set_option maxHeartbeats 800000 in
theorem refCut_any (s : ByteArray) (n : Int) (w : World) (hs : s.size ≤ 140737488355328) (hn1 : -9223372036854775808 ≤ n) (hn2 : n ≤ 9223372036854775807) :
    Calls Try.prog 17 #[.string s, .int .i64 n] w (Says w (.tuple #[.string (Rn.cut s n), .int .i64 ((Rn.steps s n.toNat 0).2 : Int)])) := by
  obtain ⟨N, hN⟩ : ∃ N, N = n.toNat := ⟨_, rfl⟩
  have HC : Hid (Rn.cut s n = s.extract 0 (Rn.steps s N 0).1 ∧ (Rn.steps s n.toNat 0).2 = (Rn.steps s N 0).2) := by subst hN; exact ⟨rfl, rfl⟩
  have hN1 : n ≤ (N : Int) := by omega
  have hN2 : ∀ k : Nat, (k : Int) < n ↔ k < N := by intro k; omega
  clear hN
  go_enter Try.func17, Try.ntmps17
  go_wp2
  go_loop [6, 7, 8] (fun i k _ => ∃ q kk : Nat, i = .int .i64 (q : Int) ∧ k = .int .i64 (kk : Int) ∧ q ≤ s.size ∧ kk ≤ q ∧ Hid (kk ≤ N ∧ (Rn.steps s (N - kk) q).1 = (Rn.steps s N 0).1 ∧ (Rn.steps s (N - kk) q).2 + kk = (Rn.steps s N 0).2)) (fun i _ _ => s.size - (intOf i).toNat)
  case atStart => exact ⟨0, 0, rfl, rfl, by omega, by omega, by omega, rfl, rfl⟩
  case round =>
    obtain ⟨q, k, rfl, rfl, hq, hk, HQ⟩ := hrel
    have hlast : Hid ((q < s.size → ¬ k < N) → Rn.cut s n = s.extract 0 q ∧ (Rn.steps s n.toNat 0).2 = k) := by
      intro h
      obtain ⟨a1, a2, a3⟩ := HQ.out
      rw [HC.out.1, HC.out.2, ← a2, ← a3]
      by_cases hlt : q < s.size
      · rw [show N - k = 0 by have := h hlt; omega]; exact ⟨rfl, by show 0 + k = k; omega⟩
      · rw [Rn.steps_end s _ q hlt]; exact ⟨rfl, by show 0 + k = k; omega⟩
    by_cases hlt : q < s.size
    · by_cases hkn : k < N
      · have hkn' := (hN2 k).2 hkn
        have hw1 := Rn.width_pos s q
        have hw2 := Rn.width_le s q hlt
        have hf := Rn.size_fst s q
        have HS : Hid (k + 1 ≤ N ∧ (Rn.steps s (N - (k + 1)) (q + (Utf8.decode s q).2)).1 = (Rn.steps s N 0).1 ∧ (Rn.steps s (N - (k + 1)) (q + (Utf8.decode s q).2)).2 + (k + 1) = (Rn.steps s N 0).2) := by
          obtain ⟨a1, a2, a3⟩ := HQ.out
          obtain ⟨m, hm⟩ : ∃ m, N - k = m + 1 := ⟨N - k - 1, by omega⟩
          rw [hm, Rn.steps_succ s m q hlt] at a2 a3
          rw [show N - (k + 1) = m by omega]
          exact ⟨by omega, a2, by simp only at a3; omega⟩
        clear hN2
        cases hb : Rn.isBad s q with
        | true =>
          have hd1 : (Utf8.decode s q).2 = 1 := by unfold Rn.isBad at hb; simp at hb; rw [hb]
          rw [hd1] at HS
          rw [hb] at hf
          have HF := Lib.hid hf
          clear hf hb hd1 hw1 hw2
          go_wp2_with fail
          refine (refSize_any _ _ _ hlt hs).mono ?_
          rintro e w1 ⟨rfl, rfl⟩
          rw [HF.out]
          go_wp2
          go_round
          case rel => exact ⟨q + 1, k + 1, by go_num, by go_num, by omega, by omega, HS.out⟩
          case measure => simp [intOf]; omega
        | false =>
          rw [hb] at hf
          have HF := Lib.hid hf
          obtain ⟨d, hd⟩ : ∃ d, d = (Utf8.decode s q).2 := ⟨_, rfl⟩
          rw [← hd] at hw1 hw2 HS HF
          clear hf hb hd
          go_wp2_with fail
          refine (refSize_any _ _ _ hlt hs).mono ?_
          rintro e w1 ⟨rfl, rfl⟩
          rw [HF.out]
          simp only [Bool.false_eq_true, if_false]
          go_wp2
          go_round
          case rel => exact ⟨q + d, k + 1, by go_num, by go_num, by omega, by omega, HS.out⟩
          case measure => simp [intOf]; omega
      · have hkn' : ¬ (k : Int) < n := fun h => hkn ((hN2 k).1 h)
        have HL := Lib.hid (hlast.out (fun _ => hkn))
        clear hN2 hN1
        go_wp2
        go_ret2
        exact ⟨by rw [HL.out.1, HL.out.2]; rfl, rfl⟩
    · have HL := Lib.hid (hlast.out (fun h => absurd h hlt))
      clear hN2 hN1
      go_wp2
      go_ret2
      exact ⟨by rw [HL.out.1, HL.out.2]; rfl, rfl⟩

theorem info_byte : (Try.prog.info? 5).map (fun i => (i.zero, i.size, i.bytes)) = some (some (.int .u8 0), 1, 1) := by kernel_rfl

set_option maxRecDepth 4000 in
set_option maxHeartbeats 800000 in
theorem refLower_any (l : List UInt8) (w : World) (hs : l.length ≤ 140737488351232) :
    Calls Try.prog 21 #[.string ⟨l.toArray⟩] w (Finds w (.string ⟨(Rn.lower l).toArray⟩)) := by
  obtain ⟨s, hs0⟩ : ∃ s, s = ByteArray.mk l.toArray := ⟨_, rfl⟩
  have hsz : s.size = l.length := by rw [hs0]; simp [ByteArray.size]
  have HSL : Hid (s.data.toList = l) := by show _ = _; rw [hs0]
  rw [← hs0]
  clear hs0
  go_enter Try.func21, Try.ntmps21
  go_wp2
  go_loopw [3, 4, 5] (fun v i _ wr => ∃ q : Nat, i = .int .i64 (q : Int) ∧ q ≤ l.length ∧ Owns wr w.heap.size 5 v (Rn.lower (l.take q)) ∧ Below w.heap.size w wr) (fun _ i _ _ => l.length - (intOf i).toNat)
  case atStart => exact ⟨0, rfl, by omega, Owns.empty _ _ _, Below.refl _ _⟩
  case round =>
    obtain ⟨q, rfl, hq, ho, hb⟩ := hrel
    have hbs := hb.size
    by_cases hlt : q < l.length
    · have hlt' : q < s.size := by omega
      have hat : ∀ h, (s[q]'h).toNat = Rn.byteAt s q := fun h => Rn.byteAt_get s q h
      have hlq := Rn.list_at s q hlt'
      rw [HSL.out] at hlq
      obtain ⟨c, hc⟩ : ∃ c, c = s.get! q := ⟨_, rfl⟩
      have hcb : Rn.byteAt s q = c.toNat := by rw [hc]; rfl
      rw [← hc] at hlq
      rw [hcb] at hat
      have HT : Hid (Rn.lower (l.take (q + 1)) = Rn.lower (l.take q) ++ [Rn.lowB c]) := by
        show _ = _
        rw [List.take_add_one, hlq]; simp [Rn.lower]
      have hl1 : (Rn.lower (l.take q)).length + [Rn.lowB c].length ≤ 140737488355328 := by simp [Rn.lower]; omega
      have HN := Lib.hid (Rn.lowB_nat c)
      have h255 : c.toNat < 256 := c.toNat_lt
      clear hlq hcb hc
      by_cases h1 : 65 ≤ c.toNat
      · by_cases h2 : c.toNat ≤ 90
        · have HX : Hid ((c.toNat : Int) + 32 = ((Rn.lowB c).toNat : Int)) := by show _ = _; rw [HN.out, if_pos ⟨h1, h2⟩]; omega
          obtain ⟨x, hx⟩ : ∃ x, x = c.toNat := ⟨_, rfl⟩
          rw [← hx] at hat h1 h2 HX h255
          clear hx
          have hbits : ((x : Int) + 32) % 256 = (x : Int) + 32 := by omega
          go_wp2_with (at_builtin; refine append_bytes rfl _ _ 37 5 rfl Try.underlying37 info_byte w.heap.size _ [Rn.lowB c] _ _ rfl rfl (ho.alloc _) (Reads.one _ _ _ _ HX.out) hl1 w (hb.alloc (by omega) _) (Nat.le_refl _) ?_; intro v' w' ho' hb' hg; clear hg)
          go_roundw
          case rel => exact ⟨q + 1, by go_num, by omega, by rw [HT.out]; exact ho', hb'⟩
          case measure => simp [intOf]; omega
        · have HX : Hid ((c.toNat : Int) = ((Rn.lowB c).toNat : Int)) := by show _ = _; rw [HN.out, if_neg (by omega)]
          obtain ⟨x, hx⟩ : ∃ x, x = c.toNat := ⟨_, rfl⟩
          rw [← hx] at hat h1 h2 HX h255
          clear hx
          go_wp2_with (at_builtin; refine append_bytes rfl _ _ 37 5 rfl Try.underlying37 info_byte w.heap.size _ [Rn.lowB c] _ _ rfl rfl (ho.alloc _) (Reads.one _ _ _ _ HX.out) hl1 w (hb.alloc (by omega) _) (Nat.le_refl _) ?_; intro v' w' ho' hb' hg; clear hg)
          go_roundw
          case rel => exact ⟨q + 1, by go_num, by omega, by rw [HT.out]; exact ho', hb'⟩
          case measure => simp [intOf]; omega
      · have HX : Hid ((c.toNat : Int) = ((Rn.lowB c).toNat : Int)) := by show _ = _; rw [HN.out, if_neg (by omega)]
        obtain ⟨x, hx⟩ : ∃ x, x = c.toNat := ⟨_, rfl⟩
        rw [← hx] at hat h1 HX h255
        clear hx
        go_wp2_with (at_builtin; refine append_bytes rfl _ _ 37 5 rfl Try.underlying37 info_byte w.heap.size _ [Rn.lowB c] _ _ rfl rfl (ho.alloc _) (Reads.one _ _ _ _ HX.out) hl1 w (hb.alloc (by omega) _) (Nat.le_refl _) ?_; intro v' w' ho' hb' hg; clear hg)
        go_roundw
        case rel => exact ⟨q + 1, by go_num, by omega, by rw [HT.out]; exact ho', hb'⟩
        case measure => simp [intOf]; omega
    · rw [List.take_of_length_le (by omega)] at ho
      obtain ⟨ao, cap, rfl⟩ := ho.reads.shape
      have hst := run_string_of (P := Try.prog) _ Try.underlying37 Try.underlying5 Try.underlying9 ho.reads
      clear ho
      go_wp2
      go_ret
      exact ⟨rfl, hb⟩
end Go.Proofs.Ytdnigdnhckmpaaa
