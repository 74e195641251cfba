/- Runes: awake; the laws RunesPlain, RunesTexts, RunesCuts, RunesLower. -/
import Derived.Test.YtdnigdnhckmpaaaRnRef
namespace Go.Proofs.Ytdnigdnhckmpaaa
open Go.RowKit

theorem k1 : Rn.key ⟨#[97, 49]⟩ = true := by decide +kernel
theorem k2 : Rn.key ⟨#[97, 32, 98]⟩ = false := by decide +kernel
theorem k3 : Rn.val ⟨#[]⟩ = true := by decide +kernel
theorem k4 : Rn.count ⟨#[97, 98]⟩ = 2 := by decide +kernel
theorem k5 : Rn.bad ⟨#[97]⟩ = -1 := by decide +kernel
theorem s1 : (ByteArray.mk #[97, 49]).size ≤ 140737488355328 := by decide +kernel
theorem s2 : (ByteArray.mk #[97, 32, 98]).size ≤ 140737488355328 := by decide +kernel
theorem s3 : (ByteArray.mk #[]).size ≤ 140737488355328 := by decide +kernel
theorem s4 : (ByteArray.mk #[97, 98]).size ≤ 140737488355328 := by decide +kernel
theorem s5 : (ByteArray.mk #[97]).size ≤ 140737488355328 := by decide +kernel

set_option maxRecDepth 4000 in
set_option maxHeartbeats 800000 in
theorem awake_any (w : World) : Calls Try.prog 7 #[] w (Truly w) := by
  go_enter Try.func7, Try.ntmps7
  go_wp2_with fail
  refine (key_any _ _ s1).mono ?_
  rintro e w1 ⟨rfl, hb1⟩
  rw [k1]
  go_wp2_with fail
  refine (key_any _ _ s2).mono ?_
  rintro e w2 ⟨rfl, hb2⟩
  rw [k2]
  go_wp2_with fail
  refine (val_any _ _ s3).mono ?_
  rintro e w3 ⟨rfl, hb3⟩
  rw [k3]
  go_wp2_with fail
  refine (count_any _ _ s4).mono ?_
  rintro e w4 ⟨rfl, hb4⟩
  rw [k4]
  go_wp2_with fail
  refine (bad_any _ _ s5).mono ?_
  rintro e w5 ⟨rfl, hb5⟩
  rw [k5]
  go_wp2
  go_ret
  exact ⟨rfl, on (on (on (on hb1 hb2) hb3) hb4) hb5⟩

theorem runesPlain_any (r : Int) (w : World) (h1 : -2147483648 ≤ r) (h2 : r ≤ 2147483647) : Calls Try.prog 4 #[.int .i32 r] w (Truly w) := by
  go_enter Try.func4, Try.ntmps4
  go_wp2_with fail
  refine (plain_any _ _).mono ?_
  rintro e w1 ⟨rfl, rfl⟩
  go_wp2_with fail
  refine (refPlain_any _ _).mono ?_
  rintro e w1 ⟨rfl, rfl⟩
  go_wp2_with fail
  refine (awake_any _).mono ?_
  rintro e w1 ⟨rfl, hb⟩
  go_wp2
  go_ret
  exact ⟨rfl, hb⟩

set_option maxRecDepth 4000 in
set_option maxHeartbeats 800000 in
theorem runesTexts_any (s : ByteArray) (w : World) : Calls Try.prog 3 #[.string s] w (Truly w) := by
  by_cases hl : 500 < s.size
  · have hl' : (500 : Int) < (s.size : Int) := by omega
    go_enter Try.func3, Try.ntmps3
    go_wp2_with fail
    refine (awake_any _).mono ?_
    rintro e w1 ⟨rfl, hb⟩
    go_wp2
    go_ret
    exact ⟨rfl, hb⟩
  · have hl' : ¬ (500 : Int) < (s.size : Int) := by omega
    have hs : s.size ≤ 140737488355328 := by omega
    have hr := Rn.bad_range s s.size 0 (Nat.zero_le _)
    have hr1 : -1 ≤ Rn.bad s := hr.1
    have hr2 : Rn.bad s ≤ (s.size : Int) := hr.2
    clear hr
    go_enter Try.func3, Try.ntmps3
    go_wp2_with fail
    refine (bad_any _ _ hs).mono ?_
    rintro e w1 ⟨rfl, hb1⟩
    go_wp2_with fail
    refine (refBad_any _ _ hs).mono ?_
    rintro e w2 ⟨rfl, rfl⟩
    go_wp2_with fail
    refine (whole_any _ _ hs).mono ?_
    rintro e w2 ⟨rfl, hb2⟩
    go_wp2_with fail
    refine (refBad_any _ _ hs).mono ?_
    rintro e w3 ⟨rfl, rfl⟩
    go_wp2_with fail
    refine (key_any _ _ hs).mono ?_
    rintro e w3 ⟨rfl, hb3⟩
    go_wp2_with fail
    refine (refKey_any _ _ hs).mono ?_
    rintro e w4 ⟨rfl, rfl⟩
    go_wp2_with fail
    refine (val_any _ _ hs).mono ?_
    rintro e w4 ⟨rfl, hb4⟩
    go_wp2_with fail
    refine (refVal_any _ _ hs).mono ?_
    rintro e w5 ⟨rfl, rfl⟩
    go_wp2_with fail
    refine (awake_any _).mono ?_
    rintro e w5 ⟨rfl, hb5⟩
    go_wp2
    go_ret
    exact ⟨rfl, on (on (on (on hb1 hb2) hb3) hb4) hb5⟩

set_option maxRecDepth 4000 in
set_option maxHeartbeats 800000 in
theorem runesCuts_any (s : ByteArray) (n : Int) (w : World) (hn1 : -9223372036854775808 ≤ n) (hn2 : n ≤ 9223372036854775807) : Calls Try.prog 5 #[.string s, .int .i64 n] w (Truly w) := by
  by_cases hl : 500 < s.size
  · have hl' : (500 : Int) < (s.size : Int) := by omega
    go_enter Try.func5, Try.ntmps5
    go_wp2_with fail
    refine (awake_any _).mono ?_
    rintro e w1 ⟨rfl, hb⟩
    go_wp2
    go_ret
    exact ⟨rfl, hb⟩
  · have hl' : ¬ (500 : Int) < (s.size : Int) := by omega
    have hs : s.size ≤ 140737488355328 := by omega
    have hcut : Hid (Rn.cut s (s.size : Int) = s) := by
      show s.extract 0 (Rn.steps s ((s.size : Int)).toNat 0).1 = s
      rw [Rn.steps_whole s _ 0 (by omega) (Nat.zero_le _), Rn.extract_all]
    have hcnt : Hid ((Rn.steps s ((s.size : Int)).toNat 0).2 = Rn.count s) := by
      show (Rn.steps s ((s.size : Int)).toNat 0).2 = (Rn.steps s s.size 0).2
      rw [Int.toNat_natCast]
    go_enter Try.func5, Try.ntmps5
    go_wp2_with fail
    refine (refCut_any _ _ _ hs hn1 hn2).mono ?_
    rintro e w1 ⟨rfl, rfl⟩
    go_wp2_with fail
    refine (refCut_any _ _ _ hs (by omega) (by omega)).mono ?_
    rintro e w1 ⟨rfl, rfl⟩
    rw [hcut.out, hcnt.out]
    go_wp2_with fail
    refine (cut_any _ _ _ hs hn1 hn2).mono ?_
    rintro e w1 ⟨rfl, hb1⟩
    go_wp2_with fail
    refine (count_any _ _ hs).mono ?_
    rintro e w2 ⟨rfl, hb2⟩
    go_wp2_with fail
    refine (awake_any _).mono ?_
    rintro e w3 ⟨rfl, hb3⟩
    go_wp2
    go_ret
    exact ⟨rfl, on (on hb1 hb2) hb3⟩

theorem Rn.lower_dec (l : List UInt8) (i : Nat) : Utf8.decode ⟨(Rn.lower l).toArray⟩ i = if Rn.byteAt ⟨l.toArray⟩ i < 128 then (Rn.byteAt ⟨(Rn.lower l).toArray⟩ i, 1) else Utf8.decode ⟨l.toArray⟩ i := by
  have hsz : (ByteArray.mk (Rn.lower l).toArray).size = (ByteArray.mk l.toArray).size := by simp [ByteArray.size, Rn.lower]
  have hb : ∀ j, Rn.byteAt ⟨(Rn.lower l).toArray⟩ j = if 65 ≤ Rn.byteAt ⟨l.toArray⟩ j ∧ Rn.byteAt ⟨l.toArray⟩ j ≤ 90 then Rn.byteAt ⟨l.toArray⟩ j + 32 else Rn.byteAt ⟨l.toArray⟩ j := by
    intro j
    by_cases hj : j < l.length
    · have e1 : Rn.byteAt ⟨l.toArray⟩ j = (l[j]).toNat := by
        rw [← Rn.byteAt_get ⟨l.toArray⟩ j (by simpa [ByteArray.size] using hj)]; rfl
      have e2 : Rn.byteAt ⟨(Rn.lower l).toArray⟩ j = (Rn.lowB l[j]).toNat := by
        rw [← Rn.byteAt_get ⟨(Rn.lower l).toArray⟩ j (by simpa [ByteArray.size, Rn.lower] using hj)]
        show ((Rn.lower l).toArray[j]'_).toNat = _
        simp [Rn.lower]
      rw [e1, e2, Rn.lowB_nat]
    · have e : ∀ (m : List UInt8), ¬ j < m.length → Rn.byteAt ⟨m.toArray⟩ j = 0 := by
        intro m hm
        show (m.toArray[j]!).toNat = 0
        rw [getElem!_neg _ _ (by simpa using hm)]
        rfl
      rw [e l hj, e (Rn.lower l) (by simpa [Rn.lower] using hj)]
      simp
  by_cases h : Rn.byteAt ⟨l.toArray⟩ i < 128
  · rw [if_pos h]
    exact Rn.low_one _ i (by rw [hb]; split <;> omega)
  · rw [if_neg h]
    have hc : ∀ j, Rn.contAt ⟨(Rn.lower l).toArray⟩ j = Rn.contAt ⟨l.toArray⟩ j := by
      intro j
      unfold Rn.contAt
      rw [hsz, hb]
      split
      · rw [Bool.eq_iff_iff]; simp; omega
      · rfl
    have hi : Rn.byteAt ⟨(Rn.lower l).toArray⟩ i = Rn.byteAt ⟨l.toArray⟩ i := by rw [hb, if_neg (by omega)]
    have hk : ∀ j, Rn.contAt ⟨l.toArray⟩ j = true → Rn.byteAt ⟨(Rn.lower l).toArray⟩ j = Rn.byteAt ⟨l.toArray⟩ j := by
      intro j hj
      have := Rn.cont_range hj
      rw [hb, if_neg (by omega)]
    rw [Rn.decode_eq, Rn.decode_eq ⟨l.toArray⟩]
    simp only [hi, hc]
    rw [if_neg h, if_neg h]
    by_cases q1 : Rn.byteAt ⟨l.toArray⟩ i / 32 = 6 ∧ Rn.contAt ⟨l.toArray⟩ (i + 1) = true
    · rw [if_pos q1, if_pos q1, hk _ q1.2]
    · rw [if_neg q1, if_neg q1]
      by_cases q2 : Rn.byteAt ⟨l.toArray⟩ i / 16 = 14 ∧ Rn.contAt ⟨l.toArray⟩ (i + 1) = true ∧ Rn.contAt ⟨l.toArray⟩ (i + 2) = true
      · rw [if_pos q2, if_pos q2, hk _ q2.2.1, hk _ q2.2.2]
      · rw [if_neg q2, if_neg q2]
        by_cases q3 : Rn.byteAt ⟨l.toArray⟩ i / 8 = 30 ∧ Rn.contAt ⟨l.toArray⟩ (i + 1) = true ∧ Rn.contAt ⟨l.toArray⟩ (i + 2) = true ∧ Rn.contAt ⟨l.toArray⟩ (i + 3) = true
        · rw [if_pos q3, if_pos q3, hk _ q3.2.1, hk _ q3.2.2.1, hk _ q3.2.2.2]
        · rw [if_neg q3, if_neg q3]
theorem Rn.lower_bad (l : List UInt8) : Rn.bad ⟨(Rn.lower l).toArray⟩ = Rn.bad ⟨l.toArray⟩ := by
  have hsz : (ByteArray.mk (Rn.lower l).toArray).size = (ByteArray.mk l.toArray).size := by simp [ByteArray.size, Rn.lower]
  have hw : ∀ i, (Utf8.decode ⟨(Rn.lower l).toArray⟩ i).2 = (Utf8.decode ⟨l.toArray⟩ i).2 := by
    intro i
    rw [Rn.lower_dec]
    split
    · rename_i h; rw [Rn.low_one _ i h]
    · rfl
  have hbd : ∀ i, Rn.isBad ⟨(Rn.lower l).toArray⟩ i = Rn.isBad ⟨l.toArray⟩ i := by
    intro i
    unfold Rn.isBad
    rw [Rn.lower_dec]
    split
    · rename_i h
      rw [Rn.low_one _ i h]
      have := Rn.byteAt_lt ⟨(Rn.lower l).toArray⟩ i
      rw [Bool.eq_iff_iff]; simp; omega
    · rfl
  have hall : ∀ b i, Rn.badFrom ⟨(Rn.lower l).toArray⟩ b i = Rn.badFrom ⟨l.toArray⟩ b i := by
    intro b
    induction b with
    | zero => intro i; rfl
    | succ b ih => intro i; simp only [Rn.badFrom]; rw [hsz, hbd, hw, ih]
  unfold Rn.bad
  rw [hall, hsz]

set_option maxRecDepth 4000 in
set_option maxHeartbeats 800000 in
theorem runesLower_any (l : List UInt8) (w : World) : Calls Try.prog 6 #[.string ⟨l.toArray⟩] w (Truly w) := by
  have hsz : (ByteArray.mk l.toArray).size = l.length := by simp [ByteArray.size]
  by_cases hl : 500 < l.length
  · have hl' : (500 : Int) < (l.length : Int) := by omega
    go_enter Try.func6, Try.ntmps6
    go_wp2_with fail
    refine (awake_any _).mono ?_
    rintro e w1 ⟨rfl, hb⟩
    go_wp2
    go_ret
    exact ⟨rfl, hb⟩
  · have hl' : ¬ (500 : Int) < (l.length : Int) := by omega
    have hs1 : (ByteArray.mk l.toArray).size ≤ 140737488355328 := by rw [hsz]; omega
    have hs2 : (ByteArray.mk (Rn.lower l).toArray).size ≤ 140737488355328 := by simp [ByteArray.size, Rn.lower]; omega
    have hr := Rn.bad_range ⟨l.toArray⟩ (ByteArray.mk l.toArray).size 0 (Nat.zero_le _)
    have HB := Lib.hid (Rn.lower_bad l)
    clear hr
    go_enter Try.func6, Try.ntmps6
    go_wp2_with fail
    refine (lower_any _ _ (by omega)).mono ?_
    rintro e w1 ⟨rfl, hb1⟩
    go_wp2_with fail
    refine (refLower_any _ _ (by omega)).mono ?_
    rintro e w2 ⟨rfl, hb2⟩
    go_wp2_with fail
    refine (lower_any (Rn.lower l) _ (by simp [Rn.lower]; omega)).mono ?_
    rintro e w3 ⟨rfl, hb3⟩
    rw [Rn.lower_twice]
    go_wp2_with fail
    refine (bad_any _ _ hs2).mono ?_
    rintro e w4 ⟨rfl, hb4⟩
    rw [HB.out]
    go_wp2_with fail
    refine (bad_any _ _ hs1).mono ?_
    rintro e w5 ⟨rfl, hb5⟩
    go_wp2_with fail
    refine (awake_any _).mono ?_
    rintro e w6 ⟨rfl, hb6⟩
    go_wp2
    go_ret
    exact ⟨rfl, on (on (on (on (on hb1 hb2) hb3) hb4) hb5) hb6⟩
end Go.Proofs.Ytdnigdnhckmpaaa
