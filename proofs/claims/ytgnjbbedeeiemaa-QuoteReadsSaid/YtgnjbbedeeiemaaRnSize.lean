/- Runes: HasPrefix; the document's Size. -/
import Derived.Test.YtgnjbbedeeiemaaRows
import Derived.Test.YtgnjbbedeeiemaaRnMath
import Derived.Test.YtgnjbbedeeiemaaRnSays
namespace Go.Proofs.Ytgnjbbedeeiemaa
open Go.RowKit

namespace Rn
def pre (s p : ByteArray) : Bool := decide (p.size ≤ s.size) && ((s.extract 0 p.size).toList == p.toList)
end Rn

set_option maxRecDepth 4000 in
theorem hasPre_any (s p : ByteArray) (w : World) : Calls Try.prog 34 #[.string s, .string p] w (Says w (.bool (Rn.pre s p))) := by
  by_cases h : p.size ≤ s.size
  · have e : Rn.pre s p = ((s.extract 0 p.size).toList == p.toList) := by simp [Rn.pre, h]
    rw [e]
    have h' : (p.size : Int) ≤ (s.size : Int) := by omega
    go_enter Try.func34, Try.ntmps34
    go_wp2
    go_ret
    exact ⟨rfl, rfl⟩
  · have e : Rn.pre s p = false := by simp [Rn.pre, h]
    rw [e]
    have h' : ¬ (p.size : Int) ≤ (s.size : Int) := by omega
    go_enter Try.func34, Try.ntmps34
    go_wp2
    go_ret
    exact ⟨rfl, rfl⟩

theorem prefix_any (s p : ByteArray) (w : World) : Calls Try.prog 26 #[.string s, .string p] w (Says w (.bool (Rn.pre s p))) := by
  go_enter Try.func26, Try.ntmps26
  go_wp2_with fail
  refine (hasPre_any _ _ _).mono ?_
  rintro e w1 ⟨rfl, rfl⟩
  go_wp2
  go_ret
  exact ⟨rfl, rfl⟩

set_option maxRecDepth 4000 in
set_option maxHeartbeats 1600000 in
theorem refSize_low (s : ByteArray) (i : Nat) (w : World) (hi : i < s.size) (h0 : Rn.byteAt s i < 128) :
    Calls Try.prog 21 #[.string s, .int .i64 (i : Int)] w (Says w (.tuple #[.int .i64 ((Rn.size s i).1 : Int), .int .i64 ((Rn.size s i).2 : Int)])) := by
  have hat : ∀ h, (s[i]'h).toNat = Rn.byteAt s i := fun h => Rn.byteAt_get s i h
  have h255 := Rn.byteAt_lt s i
  obtain ⟨x, hx⟩ : ∃ x, x = Rn.byteAt s i := ⟨_, rfl⟩
  rw [← hx] at hat h255 h0
  have HX := Lib.hid hx; clear hx
  have e := Rn.size_low s i (by rw [← HX.out]; exact h0)
  rw [e, ← HX.out]
  go_enter Try.func21, Try.ntmps21
  go_wp2
  go_ret2
  exact ⟨rfl, rfl⟩

set_option maxRecDepth 4000 in
set_option maxHeartbeats 1600000 in
theorem refSize_2 (s : ByteArray) (i : Nat) (w : World) (hi : i < s.size) (hs : s.size ≤ 140737488355328) (h0 : 194 ≤ Rn.byteAt s i ∧ Rn.byteAt s i ≤ 223) :
    Calls Try.prog 21 #[.string s, .int .i64 (i : Int)] w (Says w (.tuple #[.int .i64 ((Rn.size s i).1 : Int), .int .i64 ((Rn.size s i).2 : Int)])) := by
  have hat : ∀ h, (s[i]'h).toNat = Rn.byteAt s i := fun h => Rn.byteAt_get s i h
  have h255 := Rn.byteAt_lt s i
  obtain ⟨x, hx⟩ : ∃ x, x = Rn.byteAt s i := ⟨_, rfl⟩
  rw [← hx] at hat h255 h0
  have HX := Lib.hid hx; clear hx
  obtain ⟨ha, hb⟩ := h0
  obtain ⟨c, hc⟩ : ∃ c, c = x - 192 := ⟨_, rfl⟩
  have HL : Hid (Rn.lead (Rn.byteAt s i) 2 128 c) := by show Rn.lead _ _ _ _; rw [← HX.out]; exact .inl ⟨ha, hb, rfl, rfl, hc⟩
  have hc31 : c ≤ 31 := by omega
  have hcx : (x : Int) - 192 = (c : Int) := by omega
  clear hc
  by_cases hsh : s.size < i + 2
  · rw [Rn.size_short s i 2 128 c HL.out hsh]
    have hsh' : (s.size : Int) < (i : Int) + 2 := by omega
    go_enter Try.func21, Try.ntmps21
    go_wp2
    go_ret2
    exact ⟨rfl, rfl⟩
  · have hsh' : ¬ (s.size : Int) < (i : Int) + 2 := by omega
    go_enter Try.func21, Try.ntmps21
    go_wp2
    go_loop [9, 10] (fun v k => ∃ kk vv : Nat, k = .int .i64 (kk : Int) ∧ v = .int .i64 (vv : Int) ∧ 1 ≤ kk ∧ kk ≤ 2 ∧ vv ≤ 8388607 ∧ Hid (vv = Rn.fv s i c (kk - 1)) ∧ Hid (∀ m, m + 1 < kk → Rn.contAt s (i + (m + 1)) = true)) (fun _ k => 2 - (intOf k).toNat)
    case atStart => exact ⟨1, c, rfl, rfl, by omega, by omega, by omega, rfl, fun m hm => by omega⟩
    case round =>
      obtain ⟨k, v, rfl, rfl, hk1, hk, hv, HV, HC⟩ := hrel
      by_cases hlt : k < 2
      · obtain ⟨j, hj⟩ : ∃ j, j = i + k := ⟨_, rfl⟩
        have hji : (i : Int) + (k : Int) = (j : Int) := by omega
        have hjs : j < s.size := by omega
        have haj : ∀ h, (s[j]'h).toNat = Rn.byteAt s j := fun h => Rn.byteAt_get s j h
        have hy255 := Rn.byteAt_lt s j
        have HJ : Hid (i + (k - 1 + 1) = j) := by show _ = _; omega
        obtain ⟨y, hy⟩ : ∃ y, y = Rn.byteAt s j := ⟨_, rfl⟩
        rw [← hy] at haj hy255
        have HY := Lib.hid hy; clear hy
        have HK1 : Hid (k - 1 + 1 < 2) := by show _ < _; omega
        have HK2 : Hid (k - 1 + 1 = k) := by show _ = _; omega
        clear hj
        by_cases hy1 : y < 128
        · rw [Rn.size_broken s i 2 128 c (k - 1) HL.out HK1.out (by rw [HJ.out]; unfold Rn.contAt; rw [← HY.out]; simp; omega)]
          go_wp2
          go_ret2
          exact ⟨rfl, rfl⟩
        · by_cases hy2 : 191 < y
          · rw [Rn.size_broken s i 2 128 c (k - 1) HL.out HK1.out (by rw [HJ.out]; unfold Rn.contAt; rw [← HY.out]; simp; omega)]
            go_wp2
            go_ret2
            exact ⟨rfl, rfl⟩
          · have HF : Hid (64 * v + y - 128 = Rn.fv s i c (k - 1 + 1)) := by
              show _ = 64 * Rn.fv s i c (k - 1) + Rn.byteAt s (i + (k - 1 + 1)) % 64
              rw [HJ.out, ← HY.out, ← HV.out]; omega
            have hF : 64 * v + y - 128 ≤ 8388607 := by rw [HF.out]; exact Rn.fv_le s i c hc31 _ (by omega)
            have HC2 : Hid (∀ m, m + 1 < k + 1 → Rn.contAt s (i + (m + 1)) = true) := by
              intro m hm
              by_cases hm2 : m + 1 < k
              · exact HC.out m hm2
              · obtain rfl : m = k - 1 := by omega
                rw [HJ.out]; exact Rn.cont_of hjs (by rw [← HY.out]; omega) (by rw [← HY.out]; omega)
            go_wp2
            go_round
            case rel => exact ⟨k + 1, 64 * v + y - 128, by go_num, by go_num, by omega, by omega, hF, by show _ = Rn.fv s i c (k + 1 - 1); rw [HF.out]; exact congrArg _ (by omega), HC2.out⟩
            case measure => simp [intOf]; omega
      · obtain rfl : k = 2 := by omega
        have hwh := Rn.size_whole s i 2 128 c HL.out HC.out
        rw [← HV.out] at hwh
        by_cases q : 128 ≤ v ∧ v ≤ 1114111 ∧ ¬ (55296 ≤ v ∧ v ≤ 57343)
        · rw [if_pos q] at hwh
          have HS := Lib.hid hwh
          clear hwh hlt hk hk1
          obtain ⟨q1, q2, q3⟩ := q
          by_cases q4 : 55296 ≤ v
          · have q5 : 57343 < v := by omega
            clear q3
            go_wp2
            go_ret2
            refine ⟨?_, rfl⟩
            rw [HS.out]; rfl
          · clear q3
            go_wp2
            go_ret2
            refine ⟨?_, rfl⟩
            rw [HS.out]; rfl
        · rw [if_neg q] at hwh
          have HS := Lib.hid hwh
          clear hwh hlt hk hk1
          by_cases q1 : 128 ≤ v
          · by_cases q2 : v ≤ 1114111
            · have q3 : 55296 ≤ v := by omega
              have q4 : v ≤ 57343 := by omega
              clear q
              go_wp2
              go_ret2
              refine ⟨?_, rfl⟩
              rw [HS.out]; rfl
            · clear q
              go_wp2
              go_ret2
              refine ⟨?_, rfl⟩
              rw [HS.out]; rfl
          · clear q
            go_wp2
            go_ret2
            refine ⟨?_, rfl⟩
            rw [HS.out]; rfl

set_option maxRecDepth 4000 in
set_option maxHeartbeats 1600000 in
theorem refSize_3 (s : ByteArray) (i : Nat) (w : World) (hi : i < s.size) (hs : s.size ≤ 140737488355328) (h0 : 224 ≤ Rn.byteAt s i ∧ Rn.byteAt s i ≤ 239) :
    Calls Try.prog 21 #[.string s, .int .i64 (i : Int)] w (Says w (.tuple #[.int .i64 ((Rn.size s i).1 : Int), .int .i64 ((Rn.size s i).2 : Int)])) := by
  have hat : ∀ h, (s[i]'h).toNat = Rn.byteAt s i := fun h => Rn.byteAt_get s i h
  have h255 := Rn.byteAt_lt s i
  obtain ⟨x, hx⟩ : ∃ x, x = Rn.byteAt s i := ⟨_, rfl⟩
  rw [← hx] at hat h255 h0
  have HX := Lib.hid hx; clear hx
  obtain ⟨ha, hb⟩ := h0
  obtain ⟨c, hc⟩ : ∃ c, c = x - 224 := ⟨_, rfl⟩
  have HL : Hid (Rn.lead (Rn.byteAt s i) 3 2048 c) := by show Rn.lead _ _ _ _; rw [← HX.out]; exact .inr <| .inl ⟨ha, hb, rfl, rfl, hc⟩
  have hc31 : c ≤ 31 := by omega
  have hcx : (x : Int) - 224 = (c : Int) := by omega
  clear hc
  by_cases hsh : s.size < i + 3
  · rw [Rn.size_short s i 3 2048 c HL.out hsh]
    have hsh' : (s.size : Int) < (i : Int) + 3 := by omega
    go_enter Try.func21, Try.ntmps21
    go_wp2
    go_ret2
    exact ⟨rfl, rfl⟩
  · have hsh' : ¬ (s.size : Int) < (i : Int) + 3 := by omega
    go_enter Try.func21, Try.ntmps21
    go_wp2
    go_loop [9, 10] (fun v k => ∃ kk vv : Nat, k = .int .i64 (kk : Int) ∧ v = .int .i64 (vv : Int) ∧ 1 ≤ kk ∧ kk ≤ 3 ∧ vv ≤ 8388607 ∧ Hid (vv = Rn.fv s i c (kk - 1)) ∧ Hid (∀ m, m + 1 < kk → Rn.contAt s (i + (m + 1)) = true)) (fun _ k => 3 - (intOf k).toNat)
    case atStart => exact ⟨1, c, rfl, rfl, by omega, by omega, by omega, rfl, fun m hm => by omega⟩
    case round =>
      obtain ⟨k, v, rfl, rfl, hk1, hk, hv, HV, HC⟩ := hrel
      by_cases hlt : k < 3
      · obtain ⟨j, hj⟩ : ∃ j, j = i + k := ⟨_, rfl⟩
        have hji : (i : Int) + (k : Int) = (j : Int) := by omega
        have hjs : j < s.size := by omega
        have haj : ∀ h, (s[j]'h).toNat = Rn.byteAt s j := fun h => Rn.byteAt_get s j h
        have hy255 := Rn.byteAt_lt s j
        have HJ : Hid (i + (k - 1 + 1) = j) := by show _ = _; omega
        obtain ⟨y, hy⟩ : ∃ y, y = Rn.byteAt s j := ⟨_, rfl⟩
        rw [← hy] at haj hy255
        have HY := Lib.hid hy; clear hy
        have HK1 : Hid (k - 1 + 1 < 3) := by show _ < _; omega
        have HK2 : Hid (k - 1 + 1 = k) := by show _ = _; omega
        clear hj
        by_cases hy1 : y < 128
        · rw [Rn.size_broken s i 3 2048 c (k - 1) HL.out HK1.out (by rw [HJ.out]; unfold Rn.contAt; rw [← HY.out]; simp; omega)]
          go_wp2
          go_ret2
          exact ⟨rfl, rfl⟩
        · by_cases hy2 : 191 < y
          · rw [Rn.size_broken s i 3 2048 c (k - 1) HL.out HK1.out (by rw [HJ.out]; unfold Rn.contAt; rw [← HY.out]; simp; omega)]
            go_wp2
            go_ret2
            exact ⟨rfl, rfl⟩
          · have HF : Hid (64 * v + y - 128 = Rn.fv s i c (k - 1 + 1)) := by
              show _ = 64 * Rn.fv s i c (k - 1) + Rn.byteAt s (i + (k - 1 + 1)) % 64
              rw [HJ.out, ← HY.out, ← HV.out]; omega
            have hF : 64 * v + y - 128 ≤ 8388607 := by rw [HF.out]; exact Rn.fv_le s i c hc31 _ (by omega)
            have HC2 : Hid (∀ m, m + 1 < k + 1 → Rn.contAt s (i + (m + 1)) = true) := by
              intro m hm
              by_cases hm2 : m + 1 < k
              · exact HC.out m hm2
              · obtain rfl : m = k - 1 := by omega
                rw [HJ.out]; exact Rn.cont_of hjs (by rw [← HY.out]; omega) (by rw [← HY.out]; omega)
            go_wp2
            go_round
            case rel => exact ⟨k + 1, 64 * v + y - 128, by go_num, by go_num, by omega, by omega, hF, by show _ = Rn.fv s i c (k + 1 - 1); rw [HF.out]; exact congrArg _ (by omega), HC2.out⟩
            case measure => simp [intOf]; omega
      · obtain rfl : k = 3 := by omega
        have hwh := Rn.size_whole s i 3 2048 c HL.out HC.out
        rw [← HV.out] at hwh
        by_cases q : 2048 ≤ v ∧ v ≤ 1114111 ∧ ¬ (55296 ≤ v ∧ v ≤ 57343)
        · rw [if_pos q] at hwh
          have HS := Lib.hid hwh
          clear hwh hlt hk hk1
          obtain ⟨q1, q2, q3⟩ := q
          by_cases q4 : 55296 ≤ v
          · have q5 : 57343 < v := by omega
            clear q3
            go_wp2
            go_ret2
            refine ⟨?_, rfl⟩
            rw [HS.out]; rfl
          · clear q3
            go_wp2
            go_ret2
            refine ⟨?_, rfl⟩
            rw [HS.out]; rfl
        · rw [if_neg q] at hwh
          have HS := Lib.hid hwh
          clear hwh hlt hk hk1
          by_cases q1 : 2048 ≤ v
          · by_cases q2 : v ≤ 1114111
            · have q3 : 55296 ≤ v := by omega
              have q4 : v ≤ 57343 := by omega
              clear q
              go_wp2
              go_ret2
              refine ⟨?_, rfl⟩
              rw [HS.out]; rfl
            · clear q
              go_wp2
              go_ret2
              refine ⟨?_, rfl⟩
              rw [HS.out]; rfl
          · clear q
            go_wp2
            go_ret2
            refine ⟨?_, rfl⟩
            rw [HS.out]; rfl

set_option maxRecDepth 100000 in
set_option maxHeartbeats 1600000 in
theorem refSize_4 (s : ByteArray) (i : Nat) (w : World) (hi : i < s.size) (hs : s.size ≤ 140737488355328) (h0 : 240 ≤ Rn.byteAt s i ∧ Rn.byteAt s i ≤ 244) :
    Calls Try.prog 21 #[.string s, .int .i64 (i : Int)] w (Says w (.tuple #[.int .i64 ((Rn.size s i).1 : Int), .int .i64 ((Rn.size s i).2 : Int)])) := by
  have hat : ∀ h, (s[i]'h).toNat = Rn.byteAt s i := fun h => Rn.byteAt_get s i h
  have h255 := Rn.byteAt_lt s i
  obtain ⟨x, hx⟩ : ∃ x, x = Rn.byteAt s i := ⟨_, rfl⟩
  rw [← hx] at hat h255 h0
  have HX := Lib.hid hx; clear hx
  obtain ⟨ha, hb⟩ := h0
  obtain ⟨c, hc⟩ : ∃ c, c = x - 240 := ⟨_, rfl⟩
  obtain ⟨low, hlow⟩ : ∃ low, low = 65536 := ⟨_, rfl⟩
  have HL : Hid (Rn.lead (Rn.byteAt s i) 4 low c) := by show Rn.lead _ _ _ _; rw [← HX.out]; exact .inr <| .inr ⟨ha, hb, rfl, hlow, hc⟩
  have l1 : (low : Int) ≤ 65536 := by omega
  have l2 : (65536 : Int) ≤ (low : Int) := by omega
  clear hlow
  have hc31 : c ≤ 31 := by omega
  have hcx : (x : Int) - 240 = (c : Int) := by omega
  clear hc
  by_cases hsh : s.size < i + 4
  · rw [Rn.size_short s i 4 low c HL.out hsh]
    have hsh' : (s.size : Int) < (i : Int) + 4 := by omega
    go_enter Try.func21, Try.ntmps21
    go_wp2
    go_ret2
    exact ⟨rfl, rfl⟩
  · have hsh' : ¬ (s.size : Int) < (i : Int) + 4 := by omega
    go_enter Try.func21, Try.ntmps21
    go_wp2
    go_loop [9, 10] (fun v k => ∃ kk vv : Nat, k = .int .i64 (kk : Int) ∧ v = .int .i64 (vv : Int) ∧ 1 ≤ kk ∧ kk ≤ 4 ∧ vv ≤ 8388607 ∧ Hid (vv = Rn.fv s i c (kk - 1)) ∧ Hid (∀ m, m + 1 < kk → Rn.contAt s (i + (m + 1)) = true)) (fun _ k => 4 - (intOf k).toNat)
    case atStart => exact ⟨1, c, rfl, rfl, by omega, by omega, by omega, rfl, fun m hm => by omega⟩
    case round =>
      obtain ⟨k, v, rfl, rfl, hk1, hk, hv, HV, HC⟩ := hrel
      by_cases hlt : k < 4
      · obtain ⟨j, hj⟩ : ∃ j, j = i + k := ⟨_, rfl⟩
        have hji : (i : Int) + (k : Int) = (j : Int) := by omega
        have hjs : j < s.size := by omega
        have haj : ∀ h, (s[j]'h).toNat = Rn.byteAt s j := fun h => Rn.byteAt_get s j h
        have hy255 := Rn.byteAt_lt s j
        have HJ : Hid (i + (k - 1 + 1) = j) := by show _ = _; omega
        obtain ⟨y, hy⟩ : ∃ y, y = Rn.byteAt s j := ⟨_, rfl⟩
        rw [← hy] at haj hy255
        have HY := Lib.hid hy; clear hy
        have HK1 : Hid (k - 1 + 1 < 4) := by show _ < _; omega
        have HK2 : Hid (k - 1 + 1 = k) := by show _ = _; omega
        clear hj
        by_cases hy1 : y < 128
        · rw [Rn.size_broken s i 4 low c (k - 1) HL.out HK1.out (by rw [HJ.out]; unfold Rn.contAt; rw [← HY.out]; simp; omega)]
          go_wp2
          go_ret2
          exact ⟨rfl, rfl⟩
        · by_cases hy2 : 191 < y
          · rw [Rn.size_broken s i 4 low c (k - 1) HL.out HK1.out (by rw [HJ.out]; unfold Rn.contAt; rw [← HY.out]; simp; omega)]
            go_wp2
            go_ret2
            exact ⟨rfl, rfl⟩
          · have HF : Hid (64 * v + y - 128 = Rn.fv s i c (k - 1 + 1)) := by
              show _ = 64 * Rn.fv s i c (k - 1) + Rn.byteAt s (i + (k - 1 + 1)) % 64
              rw [HJ.out, ← HY.out, ← HV.out]; omega
            have hF : 64 * v + y - 128 ≤ 8388607 := by rw [HF.out]; exact Rn.fv_le s i c hc31 _ (by omega)
            have HC2 : Hid (∀ m, m + 1 < k + 1 → Rn.contAt s (i + (m + 1)) = true) := by
              intro m hm
              by_cases hm2 : m + 1 < k
              · exact HC.out m hm2
              · obtain rfl : m = k - 1 := by omega
                rw [HJ.out]; exact Rn.cont_of hjs (by rw [← HY.out]; omega) (by rw [← HY.out]; omega)
            go_wp2
            go_round
            case rel => exact ⟨k + 1, 64 * v + y - 128, by go_num, by go_num, by omega, by omega, hF, by show _ = Rn.fv s i c (k + 1 - 1); rw [HF.out]; exact congrArg _ (by omega), HC2.out⟩
            case measure => simp [intOf]; omega
      · obtain rfl : k = 4 := by omega
        have hwh := Rn.size_whole s i 4 low c HL.out HC.out
        rw [← HV.out] at hwh
        by_cases q : low ≤ v ∧ v ≤ 1114111 ∧ ¬ (55296 ≤ v ∧ v ≤ 57343)
        · rw [if_pos q] at hwh
          have HS := Lib.hid hwh
          clear hwh hlt hk hk1
          obtain ⟨q1', q2, q3⟩ := q
          have q1 : (65536 : Int) ≤ (v : Int) := by omega
          have q4 : 55296 ≤ v := by omega
          have q5 : 57343 < v := by omega
          clear q3
          go_wp2
          go_ret2
          refine ⟨?_, rfl⟩
          rw [HS.out]; rfl
        · rw [if_neg q] at hwh
          have HS := Lib.hid hwh
          clear hwh hlt hk hk1
          by_cases q1' : low ≤ v
          · have q2 : 1114111 < v := by omega
            clear q
            go_wp2
            go_ret2
            refine ⟨?_, rfl⟩
            rw [HS.out]; rfl
          · clear q
            go_wp2
            go_ret2
            refine ⟨?_, rfl⟩
            rw [HS.out]; rfl

set_option maxRecDepth 4000 in
set_option maxHeartbeats 1600000 in
theorem refSize_none (s : ByteArray) (i : Nat) (w : World) (hi : i < s.size) (h0 : 128 ≤ Rn.byteAt s i) (h1 : Rn.byteAt s i < 194 ∨ 244 < Rn.byteAt s i) :
    Calls Try.prog 21 #[.string s, .int .i64 (i : Int)] w (Says w (.tuple #[.int .i64 ((Rn.size s i).1 : Int), .int .i64 ((Rn.size s i).2 : Int)])) := by
  have hat : ∀ h, (s[i]'h).toNat = Rn.byteAt s i := fun h => Rn.byteAt_get s i h
  have h255 := Rn.byteAt_lt s i
  obtain ⟨x, hx⟩ : ∃ x, x = Rn.byteAt s i := ⟨_, rfl⟩
  rw [← hx] at hat h255 h0 h1
  have HX := Lib.hid hx; clear hx
  rw [Rn.size_none s i (by rw [← HX.out]; omega) (by rw [← HX.out]; omega)]
  by_cases g1 : x < 194
  · go_enter Try.func21, Try.ntmps21
    go_wp2
    go_ret2
    exact ⟨rfl, rfl⟩
  · have g2 : 244 < x := by omega
    go_enter Try.func21, Try.ntmps21
    go_wp2
    go_ret2
    exact ⟨rfl, rfl⟩

theorem refSize_any (s : ByteArray) (i : Nat) (w : World) (hi : i < s.size) (hs : s.size ≤ 140737488355328) :
    Calls Try.prog 21 #[.string s, .int .i64 (i : Int)] w (Says w (.tuple #[.int .i64 ((Rn.size s i).1 : Int), .int .i64 ((Rn.size s i).2 : Int)])) := by
  by_cases h0 : Rn.byteAt s i < 128
  · exact refSize_low s i w hi h0
  · by_cases h2 : 194 ≤ Rn.byteAt s i ∧ Rn.byteAt s i ≤ 223
    · exact refSize_2 s i w hi hs h2
    · by_cases h3 : 224 ≤ Rn.byteAt s i ∧ Rn.byteAt s i ≤ 239
      · exact refSize_3 s i w hi hs h3
      · by_cases h4 : 240 ≤ Rn.byteAt s i ∧ Rn.byteAt s i ≤ 244
        · exact refSize_4 s i w hi hs h4
        · exact refSize_none s i w hi (by omega) (by omega)
end Go.Proofs.Ytgnjbbedeeiemaa
