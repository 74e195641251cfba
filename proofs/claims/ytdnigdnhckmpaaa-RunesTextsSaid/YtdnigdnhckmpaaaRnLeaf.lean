/- Runes: within, upper, shown, Plain; HasPrefix; the document's Plain and Size. -/
import Derived.Test.YtdnigdnhckmpaaaRows
import Derived.Test.YtdnigdnhckmpaaaRnMath
namespace Go.Proofs.Ytdnigdnhckmpaaa
open Go.RowKit

/-- A call that only reads and makes nothing: the world is the same. -/
def Says (w : World) (v : Value) (e : Ending) (w' : World) : Prop := e = .returned v ∧ w = w'

namespace Rn
def within (r a b : Int) : Bool := decide (a ≤ r) && decide (r ≤ b)
def upper (r : Int) : Bool := within r 65 90
def shown (r : Int) : Bool := decide (32 ≤ r) && (r != 127)
def plain (r : Int) : Bool := within r 97 122 || upper r || within r 48 57 || (r == 45) || (r == 95) || (r == 46) || (r == 58) || (decide (161 ≤ r) && (r != 65533))
end Rn

set_option maxRecDepth 4000 in
theorem within_any (r a b : Int) (w : World) : Calls Try.prog 26 #[.int .i32 r, .int .i32 a, .int .i32 b] w (Says w (.bool (Rn.within r a b))) := by
  by_cases h1 : a ≤ r
  · by_cases h2 : r ≤ b
    · have e : Rn.within r a b = true := by simp [Rn.within, h1, h2]
      rw [e]
      go_enter Try.func26, Try.ntmps26
      go_wp2
      go_ret
      exact ⟨rfl, rfl⟩
    · have e : Rn.within r a b = false := by simp [Rn.within]; omega
      rw [e]
      go_enter Try.func26, Try.ntmps26
      go_wp2
      go_ret
      exact ⟨rfl, rfl⟩
  · have e : Rn.within r a b = false := by simp [Rn.within]; omega
    rw [e]
    go_enter Try.func26, Try.ntmps26
    go_wp2
    go_ret
    exact ⟨rfl, rfl⟩

theorem upper_any (r : Int) (w : World) : Calls Try.prog 27 #[.int .i32 r] w (Says w (.bool (Rn.upper r))) := by
  go_enter Try.func27, Try.ntmps27
  go_wp2_with fail
  refine (within_any _ _ _ _).mono ?_
  rintro e w1 ⟨rfl, rfl⟩
  go_wp2
  go_ret
  exact ⟨rfl, rfl⟩

theorem shown_any (r : Int) (w : World) : Calls Try.prog 25 #[.int .i32 r] w (Says w (.bool (Rn.shown r))) := by
  by_cases h1 : 32 ≤ r
  · have e : Rn.shown r = (r != 127) := by simp [Rn.shown, h1]
    rw [e]
    go_enter Try.func25, Try.ntmps25
    go_wp2
    go_ret
    refine ⟨ret_bool ?_, rfl⟩
    simp [bne]
  · have e : Rn.shown r = false := by simp [Rn.shown]; omega
    rw [e]
    go_enter Try.func25, Try.ntmps25
    go_wp2
    go_ret
    exact ⟨rfl, rfl⟩

set_option maxRecDepth 4000 in
set_option maxHeartbeats 800000 in
theorem plain_any (r : Int) (w : World) : Calls Try.prog 15 #[.int .i32 r] w (Says w (.bool (Rn.plain r))) := by
  obtain ⟨p1, hp1⟩ : ∃ p1, Rn.within r 97 122 = p1 := ⟨_, rfl⟩
  obtain ⟨p2, hp2⟩ : ∃ p2, Rn.upper r = p2 := ⟨_, rfl⟩
  obtain ⟨p3, hp3⟩ : ∃ p3, Rn.within r 48 57 = p3 := ⟨_, rfl⟩
  have hpl : Rn.plain r = (p1 || p2 || p3 || (r == 45) || (r == 95) || (r == 46) || (r == 58) || (decide (161 ≤ r) && (r != 65533))) := by simp only [Rn.plain, hp1, hp2, hp3]
  have HP := Lib.hid hpl; clear hpl
  go_enter Try.func15, Try.ntmps15
  go_wp2_with (first
    | (go_at_call 26; refine (within_any _ _ _ _).mono ?_; rintro e w1 ⟨rfl, rfl⟩)
    | (go_at_call 27; refine (upper_any _ _).mono ?_; rintro e w1 ⟨rfl, rfl⟩))
  all_goals first
    | (exfalso; simp_all; done)
    | (go_ret; refine ⟨ret_bool ?_, rfl⟩; rw [HP.out]; simp_all [bne]; try omega)

namespace Rn
def letters : List UInt8 := [97, 98, 99, 100, 101, 102, 103, 104, 105, 106, 107, 108, 109, 110, 111, 112, 113, 114, 115, 116, 117, 118, 119, 120, 121, 122, 65, 66, 67, 68, 69, 70, 71, 72, 73, 74, 75, 76, 77, 78, 79, 80, 81, 82, 83, 84, 85, 86, 87, 88, 89, 90, 48, 49, 50, 51, 52, 53, 54, 55, 56, 57, 45, 95, 46, 58]
theorem letters_len : letters.length = 66 := by rfl
theorem letters_size : (ByteArray.mk letters.toArray).size = 66 := by rfl
theorem letters_at (k : Nat) (h : k < (ByteArray.mk letters.toArray).size) : ((ByteArray.mk letters.toArray)[k]'h).toNat = (letters.getD k 0).toNat := by
  have hk : k < letters.length := h
  rw [List.getD_eq_getElem?_getD, List.getElem?_eq_getElem hk]
  rfl
theorem letters_plain : ∀ k, k < 66 → plain ((letters.getD k 0).toNat : Int) = true := by
  have h : ∀ k : Fin 66, plain ((letters.getD k.val 0).toNat : Int) = true := by decide
  exact fun k hk => h ⟨k, hk⟩
theorem plain_letters : ∀ n : Nat, n < 161 → plain (n : Int) = true → ∃ k, k < 66 ∧ (letters.getD k 0).toNat = n := by
  have h : ∀ n : Fin 161, plain (n.val : Int) = true → letters.any (fun c => c.toNat == n.val) = true := by decide +kernel
  intro n hn hp
  have := h ⟨n, hn⟩ hp
  obtain ⟨c, hc, he⟩ := List.any_eq_true.1 this
  obtain ⟨k, hk, rfl⟩ := List.mem_iff_getElem.1 hc
  refine ⟨k, hk, ?_⟩
  rw [List.getD_eq_getElem?_getD, List.getElem?_eq_getElem hk]
  simpa using he
theorem plain_high (r : Int) (h : 161 ≤ r) : plain r = (r != 65533) := by
  have e : within r 97 122 = false := by unfold within; simp; omega
  have e2 : upper r = false := by unfold upper within; simp; omega
  have e3 : within r 48 57 = false := by unfold within; simp; omega
  have f1 : ¬ r = 45 := by omega
  have f2 : ¬ r = 95 := by omega
  have f3 : ¬ r = 46 := by omega
  have f4 : ¬ r = 58 := by omega
  simp [plain, e, e2, e3, h, f1, f2, f3, f4]
theorem plain_neg (r : Int) (h : r < 0) : plain r = false := by
  have e : within r 97 122 = false := by unfold within; simp; omega
  have e2 : upper r = false := by unfold upper within; simp; omega
  have e3 : within r 48 57 = false := by unfold within; simp; omega
  have f1 : ¬ r = 45 := by omega
  have f2 : ¬ r = 95 := by omega
  have f3 : ¬ r = 46 := by omega
  have f4 : ¬ r = 58 := by omega
  have f5 : ¬ 161 ≤ r := by omega
  simp [plain, e, e2, e3, f1, f2, f3, f4, f5]
theorem plain_rest (r : Int) (h : ∀ j, j < 66 → ((letters.getD j 0).toNat : Int) ≠ r) : plain r = (decide (161 ≤ r) && (r != 65533)) := by
  by_cases h1 : 161 ≤ r
  · rw [plain_high r h1]; simp [h1]
  · by_cases h2 : r < 0
    · rw [plain_neg r h2]; simp [h1]
    · obtain ⟨n, rfl⟩ : ∃ n : Nat, r = (n : Int) := ⟨r.toNat, by omega⟩
      cases hp : plain (n : Int) with
      | false => simp [h1]
      | true =>
        obtain ⟨k, hk, he⟩ := plain_letters n (by omega) hp
        exact absurd (by rw [he]) (h k hk)
theorem plain_lost : plain 65533 = false := by decide
end Rn

set_option maxRecDepth 4000 in
set_option maxHeartbeats 800000 in
theorem refPlain_any (r : Int) (w : World) : Calls Try.prog 16 #[.int .i64 r] w (Says w (.bool (Rn.plain r))) := by
  go_enter Try.func16, Try.ntmps16
  go_wp2
  generalize hS : ByteArray.mk _ = S
  have hS2 : S = ⟨Rn.letters.toArray⟩ := hS.symm.trans rfl
  have hsz : S.size = 66 := by rw [hS2]; exact Rn.letters_size
  have HAT : Hid (∀ k (h : k < S.size), (S[k]'h).toNat = (Rn.letters.getD k 0).toNat) := by rw [hS2]; exact fun k h => Rn.letters_at k h
  clear hS hS2
  go_loop [4] (fun i => ∃ k : Nat, i = .int .i64 (k : Int) ∧ k ≤ 66 ∧ Hid (∀ j, j < k → ((Rn.letters.getD j 0).toNat : Int) ≠ r)) (fun i => 66 - (intOf i).toNat)
  case atStart => exact ⟨0, rfl, by omega, fun j hj => by omega⟩
  case round =>
    obtain ⟨k, rfl, hk, HR⟩ := hrel
    have hat := HAT.out k
    have hpl := Rn.letters_plain k
    have HX : Hid (∀ j, j < k + 1 → j < k ∨ j = k) := by intro j hj; omega
    obtain ⟨x, hx⟩ : ∃ x, x = (Rn.letters.getD k 0).toNat := ⟨_, rfl⟩
    have h255 : x ≤ 255 := by rw [hx]; have := (Rn.letters.getD k 0).toNat_lt; omega
    rw [← hx] at hat hpl
    have HE := Lib.hid hx; clear hx
    by_cases hlt : k < 66
    · have HP := Lib.hid (hpl hlt)
      clear hpl
      by_cases he : (x : Int) = r
      · subst he
        go_wp2
        go_ret
        exact ⟨ret_bool HP.out.symm, rfl⟩
      · go_wp2
        go_round
        case rel => exact ⟨k + 1, by go_num, by omega, fun j hj => (HX.out j hj).elim (HR.out j) (fun e => by subst e; rw [← HE.out]; exact he)⟩
        case measure => simp [intOf]; omega
    · clear hpl
      have hfin := Rn.plain_rest r (fun j hj => HR.out j (by omega))
      have HF := Lib.hid hfin; clear hfin
      by_cases h1 : 161 ≤ r
      · go_wp2
        go_ret
        refine ⟨ret_bool ?_, rfl⟩
        rw [HF.out]; simp [h1, bne]
      · go_wp2
        go_ret
        refine ⟨ret_bool ?_, rfl⟩
        rw [HF.out]; simp; omega
end Go.Proofs.Ytdnigdnhckmpaaa
