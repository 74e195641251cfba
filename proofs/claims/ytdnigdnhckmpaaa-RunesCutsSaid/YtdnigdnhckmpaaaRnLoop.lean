/- Runes: all, Count, Cut, Bad, Whole, Key, Val. -/
import Derived.Test.YtdnigdnhckmpaaaIter
import Derived.Test.YtdnigdnhckmpaaaRnSize
namespace Go.Proofs.Ytdnigdnhckmpaaa
open Go.RowKit

/-- A call that tells v, and leaves all that there was as it was. -/
def Finds (w : World) (v : Value) (e : Ending) (w' : World) : Prop := e = .returned v ∧ Below w.heap.size w w'

set_option maxRecDepth 4000 in
set_option maxHeartbeats 800000 in
theorem allPlain_any (s : ByteArray) (w : World) (hs : s.size ≤ 140737488355328) :
    Calls Try.prog 24 #[.string s, .func (.func 15) #[] #[]] w (Finds w (.bool (Rn.all Rn.plain s))) := by
  obtain ⟨B, hB⟩ : ∃ B, B = w.heap.size := ⟨_, rfl⟩
  have h0 : It w.heap.size w (w.iter s 0) B s 0 := hB ▸ It.new s (Below.refl _ w) (Nat.le_refl _)
  go_enter Try.func24, Try.ntmps24
  go_wp2
  rw [← hB]
  clear hB
  go_loopw [6] (fun r wr => ∃ q : Nat, It w.heap.size w wr B s q ∧ q ≤ s.size ∧ Hid (Rn.allAt Rn.plain s q = Rn.all Rn.plain s)) (fun _ wr => s.size - stands B wr)
  case atStart => exact ⟨0, h0, by omega, rfl⟩
  case round =>
    obtain ⟨q, hit, hq, HQ⟩ := hrel
    by_cases hlt : q < s.size
    · have hnx := fun ty => next_at (P := Try.prog) hit.iter hlt ty
      have hit2 := hit.set (q + (Utf8.decode s q).2)
      have hstep := Rn.allAt_eq Rn.plain s q hlt
      have hw1 := Rn.width_pos s q
      have hw2 := Rn.width_le s q hlt
      obtain ⟨r, hr⟩ : ∃ r, r = (Utf8.decode s q).1 := ⟨_, rfl⟩
      obtain ⟨d, hd⟩ : ∃ d, d = (Utf8.decode s q).2 := ⟨_, rfl⟩
      rw [← hr, ← hd] at hnx
      rw [← hd] at hit2 hw1 hw2
      rw [← hr, ← hd] at hstep
      clear hr hd
      obtain ⟨b, hb⟩ : ∃ b, b = Rn.plain (r : Int) := ⟨_, rfl⟩
      have HS : Hid (Rn.all Rn.plain s = (b && Rn.allAt Rn.plain s (q + d))) := by show _ = _; rw [← HQ.out, hstep, hb]
      have HB := Lib.hid hb
      clear hstep hb
      cases b with
      | false =>
        go_wp2_with fail
        refine (plain_any _ _).mono ?_
        rintro e w1 ⟨rfl, rfl⟩
        rw [← HB.out]
        go_wp2
        go_ret
        exact ⟨ret_bool (by rw [HS.out]; rfl), hit2.below⟩
      | true =>
        go_wp2_with fail
        refine (plain_any _ _).mono ?_
        rintro e w1 ⟨rfl, rfl⟩
        rw [← HB.out]
        go_wp2
        go_roundw
        case rel => exact ⟨q + d, hit2, hw2, by show _ = _; rw [HS.out]; rfl⟩
        case measure => rw [hit2.stands, hit.stands]; omega
    · have hnx := fun ty => next_end (P := Try.prog) hit.iter hlt ty
      go_wp2
      go_ret
      exact ⟨ret_bool (by rw [← HQ.out, Rn.allAt_end Rn.plain s q hlt]), hit.below⟩
set_option maxRecDepth 4000 in
set_option maxHeartbeats 800000 in
theorem allShown_any (s : ByteArray) (w : World) (hs : s.size ≤ 140737488355328) :
    Calls Try.prog 24 #[.string s, .func (.func 25) #[] #[]] w (Finds w (.bool (Rn.all Rn.shown s))) := by
  obtain ⟨B, hB⟩ : ∃ B, B = w.heap.size := ⟨_, rfl⟩
  have h0 : It w.heap.size w (w.iter s 0) B s 0 := hB ▸ It.new s (Below.refl _ w) (Nat.le_refl _)
  go_enter Try.func24, Try.ntmps24
  go_wp2
  rw [← hB]
  clear hB
  go_loopw [6] (fun r wr => ∃ q : Nat, It w.heap.size w wr B s q ∧ q ≤ s.size ∧ Hid (Rn.allAt Rn.shown s q = Rn.all Rn.shown s)) (fun _ wr => s.size - stands B wr)
  case atStart => exact ⟨0, h0, by omega, rfl⟩
  case round =>
    obtain ⟨q, hit, hq, HQ⟩ := hrel
    by_cases hlt : q < s.size
    · have hnx := fun ty => next_at (P := Try.prog) hit.iter hlt ty
      have hit2 := hit.set (q + (Utf8.decode s q).2)
      have hstep := Rn.allAt_eq Rn.shown s q hlt
      have hw1 := Rn.width_pos s q
      have hw2 := Rn.width_le s q hlt
      obtain ⟨r, hr⟩ : ∃ r, r = (Utf8.decode s q).1 := ⟨_, rfl⟩
      obtain ⟨d, hd⟩ : ∃ d, d = (Utf8.decode s q).2 := ⟨_, rfl⟩
      rw [← hr, ← hd] at hnx
      rw [← hd] at hit2 hw1 hw2
      rw [← hr, ← hd] at hstep
      clear hr hd
      obtain ⟨b, hb⟩ : ∃ b, b = Rn.shown (r : Int) := ⟨_, rfl⟩
      have HS : Hid (Rn.all Rn.shown s = (b && Rn.allAt Rn.shown s (q + d))) := by show _ = _; rw [← HQ.out, hstep, hb]
      have HB := Lib.hid hb
      clear hstep hb
      cases b with
      | false =>
        go_wp2_with fail
        refine (shown_any _ _).mono ?_
        rintro e w1 ⟨rfl, rfl⟩
        rw [← HB.out]
        go_wp2
        go_ret
        exact ⟨ret_bool (by rw [HS.out]; rfl), hit2.below⟩
      | true =>
        go_wp2_with fail
        refine (shown_any _ _).mono ?_
        rintro e w1 ⟨rfl, rfl⟩
        rw [← HB.out]
        go_wp2
        go_roundw
        case rel => exact ⟨q + d, hit2, hw2, by show _ = _; rw [HS.out]; rfl⟩
        case measure => rw [hit2.stands, hit.stands]; omega
    · have hnx := fun ty => next_end (P := Try.prog) hit.iter hlt ty
      go_wp2
      go_ret
      exact ⟨ret_bool (by rw [← HQ.out, Rn.allAt_end Rn.shown s q hlt]), hit.below⟩

theorem Rn.count_step (s : ByteArray) (q : Nat) (h : q < s.size) : (Rn.steps s (s.size - q) q).2 = (Rn.steps s (s.size - (q + (Utf8.decode s q).2)) (q + (Utf8.decode s q).2)).2 + 1 := by
  obtain ⟨m, hm⟩ : ∃ m, s.size - q = m + 1 := ⟨s.size - q - 1, by omega⟩
  have := Rn.width_pos s q
  rw [hm, Rn.steps_succ s m q h, Rn.steps_any s m (s.size - (q + (Utf8.decode s q).2)) _ (by omega) (by omega)]

set_option maxRecDepth 4000 in
set_option maxHeartbeats 800000 in
theorem count_any (s : ByteArray) (w : World) (hs : s.size ≤ 140737488355328) :
    Calls Try.prog 19 #[.string s] w (Finds w (.int .i64 (Rn.count s : Int))) := by
  obtain ⟨B, hB⟩ : ∃ B, B = w.heap.size := ⟨_, rfl⟩
  have h0 : It w.heap.size w (w.iter s 0) B s 0 := hB ▸ It.new s (Below.refl _ w) (Nat.le_refl _)
  go_enter Try.func19, Try.ntmps19
  go_wp2
  rw [← hB]
  clear hB
  go_loopw [3] (fun n wr => ∃ q k : Nat, n = .int .i64 (k : Int) ∧ It w.heap.size w wr B s q ∧ q ≤ s.size ∧ k ≤ q ∧ Hid ((Rn.steps s (s.size - q) q).2 + k = Rn.count s)) (fun _ wr => s.size - stands B wr)
  case atStart => exact ⟨0, 0, rfl, h0, by omega, by omega, rfl⟩
  case round =>
    obtain ⟨q, k, rfl, hit, hq, hk, HQ⟩ := hrel
    by_cases hlt : q < s.size
    · have hnx := fun ty => next_at (P := Try.prog) hit.iter hlt ty
      have hit2 := hit.set (q + (Utf8.decode s q).2)
      have hw1 := Rn.width_pos s q
      have hw2 := Rn.width_le s q hlt
      have HS := Lib.hid (Rn.count_step s q hlt)
      obtain ⟨d, hd⟩ : ∃ d, d = (Utf8.decode s q).2 := ⟨_, rfl⟩
      rw [← hd] at hnx hit2 hw1 hw2 HS
      clear hd
      go_wp2
      go_roundw
      case rel => exact ⟨q + d, k + 1, by go_num, hit2, hw2, by omega, by have := HS.out; have := HQ.out; show _ = _; omega⟩
      case measure => rw [hit2.stands, hit.stands]; omega
    · have hnx := fun ty => next_end (P := Try.prog) hit.iter hlt ty
      go_wp2
      go_ret
      refine ⟨ret_int ?_, hit.below⟩
      have h1 := HQ.out
      rw [Rn.steps_end s _ q hlt] at h1
      rw [← h1]; simp

theorem Rn.extract_all (s : ByteArray) : s.extract 0 s.size = s := by
  apply ByteArray.ext
  simp

set_option maxRecDepth 4000 in
set_option maxHeartbeats 800000 in
theorem cut_any (s : ByteArray) (n : Int) (w : World) (hs : s.size ≤ 140737488355328) (hn1 : -9223372036854775808 ≤ n) (hn2 : n ≤ 9223372036854775807) :
    Calls Try.prog 18 #[.string s, .int .i64 n] w (Finds w (.string (Rn.cut s n))) := by
  obtain ⟨B, hB⟩ : ∃ B, B = w.heap.size := ⟨_, rfl⟩
  have h0 : It w.heap.size w (w.iter s 0) B s 0 := hB ▸ It.new s (Below.refl _ w) (Nat.le_refl _)
  go_enter Try.func18, Try.ntmps18
  go_wp2
  rw [← hB]
  clear hB
  go_loopw [1, 5] (fun x _ wr => ∃ (q : Nat) (m : Int), x = .int .i64 m ∧ It w.heap.size w wr B s q ∧ q ≤ s.size ∧ -9223372036854775808 ≤ m ∧ m ≤ 9223372036854775807 ∧ Hid ((Rn.steps s m.toNat q).1 = (Rn.steps s n.toNat 0).1)) (fun _ _ wr => s.size - stands B wr)
  case atStart => exact ⟨0, n, rfl, h0, by omega, hn1, hn2, rfl⟩
  case round =>
    obtain ⟨q, m, rfl, hit, hq, hm1, hm2, HQ⟩ := hrel
    by_cases hlt : q < s.size
    · have hnx := fun ty => next_at (P := Try.prog) hit.iter hlt ty
      have hit2 := hit.set (q + (Utf8.decode s q).2)
      have hw1 := Rn.width_pos s q
      have hw2 := Rn.width_le s q hlt
      by_cases h1 : m < 1
      · have HC : Hid (Rn.cut s n = s.extract 0 q) := by
          show s.extract 0 _ = _
          rw [← HQ.out, show m.toNat = 0 by omega]; rfl
        obtain ⟨d, hd⟩ : ∃ d, d = (Utf8.decode s q).2 := ⟨_, rfl⟩
        rw [← hd] at hnx hit2 hw1 hw2
        clear hd
        go_wp2
        go_ret
        exact ⟨by rw [HC.out]; rfl, hit2.below⟩
      · have HS : Hid ((Rn.steps s m.toNat q).1 = (Rn.steps s (m - 1).toNat (q + (Utf8.decode s q).2)).1) := by
          show _ = _
          rw [show m.toNat = (m - 1).toNat + 1 by omega, Rn.steps_succ s _ q hlt]
        obtain ⟨d, hd⟩ : ∃ d, d = (Utf8.decode s q).2 := ⟨_, rfl⟩
        rw [← hd] at hnx hit2 hw1 hw2 HS
        clear hd
        go_wp2
        go_roundw
        case rel => exact ⟨q + d, m - 1, by go_num, hit2, hw2, by omega, by omega, by show _ = _; rw [← HS.out, HQ.out]⟩
        case measure => rw [hit2.stands, hit.stands]; omega
    · have hnx := fun ty => next_end (P := Try.prog) hit.iter hlt ty
      have HC : Hid (Rn.cut s n = s) := by
        show s.extract 0 _ = _
        rw [← HQ.out, Rn.steps_end s _ q hlt]
        rw [show q = s.size by omega]; exact Rn.extract_all s
      go_wp2
      go_ret
      exact ⟨by rw [HC.out]; rfl, hit.below⟩

namespace Rn
def three : ByteArray := ⟨#[239, 191, 189]⟩
theorem list_at (s : ByteArray) (i : Nat) (h : i < s.size) : s.data.toList[i]? = some (s.get! i) := by
  have := get_at s i h
  simp only [Nat.add_zero] at this
  rw [this, List.getElem?_eq_getElem (by simpa using h)]
  rfl
theorem pre_three (s : ByteArray) (i : Nat) (h : i ≤ s.size) : pre (s.extract i s.size) three = (decide (3 ≤ s.size - i) && (byteAt s i == 239 && byteAt s (i + 1) == 191 && byteAt s (i + 2) == 189)) := by
  have e : (s.extract i s.size).size = s.size - i := by simp [ByteArray.size_extract]
  unfold pre
  rw [e]
  show (decide (3 ≤ s.size - i) && _) = _
  by_cases h3 : 3 ≤ s.size - i
  · have l0 := list_at s i (by omega)
    have l1 := list_at s (i + 1) (by omega)
    have l2 := list_at s (i + 2) (by omega)
    have e2 : ((s.extract i s.size).extract 0 three.size).toList = [s.get! i, s.get! (i + 1), s.get! (i + 2)] := by
      rw [ByteArray.toList_eq]
      apply List.ext_getElem?
      intro j
      have hth : three.size = 3 := rfl
      simp only [ByteArray.data_extract, Array.toList_extract, List.extract_eq_take_drop, hth, List.getElem?_take, List.getElem?_drop]
      have hsz : s.data.size = s.size := rfl
      match j with
      | 0 => rw [if_pos (by omega), if_pos (by omega)]; simpa using l0
      | 1 => rw [if_pos (by omega), if_pos (by omega)]; simpa using l1
      | 2 => rw [if_pos (by omega), if_pos (by omega)]; simpa using l2
      | j + 3 => rw [if_neg (by omega)]; simp
    rw [e2]
    have e3 : three.toList = [239, 191, 189] := ByteArray.toList_mk [239, 191, 189]
    rw [e3]
    simp only [h3, decide_true, Bool.true_and]
    have q0 : ∀ (a : Nat) (c : UInt8), (s.get! a == c) = (byteAt s a == c.toNat) := by
      intro a c
      unfold byteAt
      rw [Bool.eq_iff_iff]
      simp only [beq_iff_eq]
      exact UInt8.toNat_inj.symm
    simp [q0, Bool.and_assoc]
  · simp [h3]
end Rn

set_option maxRecDepth 4000 in
set_option maxHeartbeats 800000 in
theorem bad_any (s : ByteArray) (w : World) (hs : s.size ≤ 140737488355328) :
    Calls Try.prog 8 #[.string s] w (Finds w (.int .i64 (Rn.bad s))) := by
  obtain ⟨B, hB⟩ : ∃ B, B = w.heap.size := ⟨_, rfl⟩
  have h0 : It w.heap.size w (w.iter s 0) B s 0 := hB ▸ It.new s (Below.refl _ w) (Nat.le_refl _)
  go_enter Try.func8, Try.ntmps8
  go_wp2
  rw [← hB]
  clear hB
  go_loopw [3, 4] (fun _ _ wr => ∃ q : Nat, It w.heap.size w wr B s q ∧ q ≤ s.size ∧ Hid (Rn.badAt s q = Rn.bad s)) (fun _ _ wr => s.size - stands B wr)
  case atStart => exact ⟨0, h0, by omega, rfl⟩
  case round =>
    obtain ⟨q, hit, hq, HQ⟩ := hrel
    by_cases hlt : q < s.size
    · have hnx := fun ty => next_at (P := Try.prog) hit.iter hlt ty
      have hit2 := hit.set (q + (Utf8.decode s q).2)
      have hw1 := Rn.width_pos s q
      have hw2 := Rn.width_le s q hlt
      have hst := Rn.badAt_eq s q hlt
      by_cases hr : (Utf8.decode s q).1 = 65533
      · have hl := Rn.lost_three s q hr hlt
        rw [← Rn.pre_three s q hq] at hl
        rw [hr] at hnx
        obtain ⟨d, hd⟩ : ∃ d, d = (Utf8.decode s q).2 := ⟨_, rfl⟩
        rw [← hd] at hnx hit2 hw1 hw2 hst
        clear hd hr
        obtain ⟨b, hb⟩ : ∃ b, b = Rn.pre (s.extract q s.size) Rn.three := ⟨_, rfl⟩
        rw [← hb] at hl
        rw [hl] at hst
        clear hl
        have HB := Lib.hid hb
        have HS := Lib.hid hst
        clear hb hst
        cases b with
        | true =>
          go_wp2_with fail
          refine (prefix_any _ _ _).mono ?_
          rintro e w1 ⟨rfl, rfl⟩
          rw [show Rn.pre (s.extract q s.size) ⟨#[239, 191, 189]⟩ = true from HB.out.symm]
          go_wp2
          go_roundw
          case rel => exact ⟨q + d, hit2, hw2, by show _ = _; rw [← HQ.out, HS.out]; rfl⟩
          case measure => rw [hit2.stands, hit.stands]; omega
        | false =>
          go_wp2_with fail
          refine (prefix_any _ _ _).mono ?_
          rintro e w1 ⟨rfl, rfl⟩
          rw [show Rn.pre (s.extract q s.size) ⟨#[239, 191, 189]⟩ = false from HB.out.symm]
          go_wp2
          go_ret
          exact ⟨ret_int (by rw [← HQ.out, HS.out]; rfl), hit2.below⟩
      · have hb : Rn.isBad s q = false := by
          unfold Rn.isBad
          cases he : (Utf8.decode s q == (65533, 1)) with
          | false => rfl
          | true => simp at he; exact absurd (by rw [he]) hr
        have hne : (((Utf8.decode s q).1 : Int) == 65533) = false := by simp; omega
        obtain ⟨r, hr'⟩ : ∃ r, r = (Utf8.decode s q).1 := ⟨_, rfl⟩
        obtain ⟨d, hd⟩ : ∃ d, d = (Utf8.decode s q).2 := ⟨_, rfl⟩
        rw [← hd] at hnx hit2 hw1 hw2 hst
        rw [← hr'] at hnx hne
        rw [hb] at hst
        clear hd hr hr' hb
        have HS := Lib.hid hst
        clear hst
        go_wp2
        go_roundw
        case rel => exact ⟨q + d, hit2, hw2, by show _ = _; rw [← HQ.out, HS.out]; rfl⟩
        case measure => rw [hit2.stands, hit.stands]; omega
    · have hnx := fun ty => next_end (P := Try.prog) hit.iter hlt ty
      go_wp2
      go_ret
      exact ⟨ret_int (by rw [← HQ.out, Rn.badAt_end s q hlt]), hit.below⟩

theorem Rn.badAt_zero (s : ByteArray) : Rn.badAt s 0 = Rn.bad s := rfl

theorem whole_any (s : ByteArray) (w : World) (hs : s.size ≤ 140737488355328) :
    Calls Try.prog 10 #[.string s] w (Finds w (.bool (decide (Rn.bad s < 0)))) := by
  have hb := Rn.bad_range s s.size 0 (Nat.zero_le _)
  have hb1 : -1 ≤ Rn.bad s := hb.1
  have hb2 : Rn.bad s ≤ (s.size : Int) := hb.2
  clear hb
  go_enter Try.func10, Try.ntmps10
  go_wp2_with fail
  refine (bad_any _ _ hs).mono ?_
  rintro e w1 ⟨rfl, hb⟩
  go_wp2
  go_ret
  exact ⟨rfl, hb⟩

namespace Rn
def key (s : ByteArray) : Bool := decide (0 < s.size) && decide (s.size ≤ 24) && all plain s
def val (s : ByteArray) : Bool := decide (s.size ≤ 48) && decide (bad s < 0) && all shown s
end Rn

set_option maxRecDepth 4000 in
set_option maxHeartbeats 800000 in
theorem key_any (s : ByteArray) (w : World) (hs : s.size ≤ 140737488355328) :
    Calls Try.prog 11 #[.string s] w (Finds w (.bool (Rn.key s))) := by
  by_cases h0 : 0 < s.size
  · by_cases h1 : s.size ≤ 24
    · have e : Hid (Rn.key s = Rn.all Rn.plain s) := by show _ = _; simp [Rn.key, h0, h1]
      go_enter Try.func11, Try.ntmps11
      go_wp2_with fail
      refine (allPlain_any _ _ hs).mono ?_
      rintro e w1 ⟨rfl, hb⟩
      go_wp2
      go_ret
      refine ⟨ret_bool ?_, hb⟩
      rw [e.out]
    · have e : Hid (Rn.key s = false) := by show _ = _; simp [Rn.key, h1]
      go_enter Try.func11, Try.ntmps11
      go_wp2
      go_ret
      exact ⟨ret_bool (by rw [e.out]), Below.refl _ _⟩
  · have e : Hid (Rn.key s = false) := by show _ = _; simp [Rn.key, h0]
    go_enter Try.func11, Try.ntmps11
    go_wp2
    go_ret
    exact ⟨ret_bool (by rw [e.out]), Below.refl _ _⟩

set_option maxRecDepth 4000 in
set_option maxHeartbeats 800000 in
theorem val_any (s : ByteArray) (w : World) (hs : s.size ≤ 140737488355328) :
    Calls Try.prog 13 #[.string s] w (Finds w (.bool (Rn.val s))) := by
  by_cases h1 : s.size ≤ 48
  · obtain ⟨b, hb⟩ : ∃ b, b = decide (Rn.bad s < 0) := ⟨_, rfl⟩
    have e : Hid (Rn.val s = (b && Rn.all Rn.shown s)) := by show _ = _; simp [Rn.val, h1, hb]
    have HB := Lib.hid hb; clear hb
    cases b with
    | true =>
      go_enter Try.func13, Try.ntmps13
      go_wp2_with fail
      refine (whole_any _ _ hs).mono ?_
      rintro e w1 ⟨rfl, hb⟩
      rw [← HB.out]
      go_wp2_with fail
      refine (allShown_any _ _ hs).mono ?_
      rintro e w2 ⟨rfl, hb2⟩
      go_wp2
      go_ret
      refine ⟨ret_bool ?_, on hb hb2⟩
      rw [e.out]; rfl
    | false =>
      go_enter Try.func13, Try.ntmps13
      go_wp2_with fail
      refine (whole_any _ _ hs).mono ?_
      rintro e w1 ⟨rfl, hb⟩
      rw [← HB.out]
      go_wp2
      go_ret
      refine ⟨ret_bool ?_, hb⟩
      rw [e.out]; rfl
  · have e : Hid (Rn.val s = false) := by show _ = _; simp [Rn.val, h1]
    go_enter Try.func13, Try.ntmps13
    go_wp2
    go_ret
    exact ⟨ret_bool (by rw [e.out]), Below.refl _ _⟩
end Go.Proofs.Ytdnigdnhckmpaaa
