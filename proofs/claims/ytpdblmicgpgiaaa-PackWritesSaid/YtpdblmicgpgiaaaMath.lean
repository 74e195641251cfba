/- Numbers as bytes, least significant group first: plain functions on lists of bytes, and what is true of them. No program is spoken of. -/
import Derived.WalkKit
namespace Go.Proofs.Ytpdblmicgpgiaaa

/-- The bytes of a number. -/
def enc (n : Nat) : List UInt8 := if n < 128 then [UInt8.ofNat n] else UInt8.ofNat (128 + n % 128) :: enc (n / 128)
termination_by n
decreasing_by omega

theorem enc_lt {n : Nat} (h : n < 128) : enc n = [UInt8.ofNat n] := by rw [enc, if_pos h]
theorem enc_ge {n : Nat} (h : 128 ≤ n) : enc n = UInt8.ofNat (128 + n % 128) :: enc (n / 128) := by rw [enc, if_neg (by omega)]

theorem enc_pos (n : Nat) : 0 < (enc n).length := by
  by_cases h : n < 128
  · rw [enc_lt h]; simp
  · rw [enc_ge (by omega)]; simp

theorem enc_len (k : Nat) : ∀ n, n < 128 ^ (k + 1) → (enc n).length ≤ k + 1 := by
  induction k with
  | zero => intro n h; rw [enc_lt (by simpa using h)]; simp
  | succ k ih =>
    intro n h
    by_cases h1 : n < 128
    · rw [enc_lt h1]; simp
    · rw [enc_ge (by omega)]
      have := ih (n / 128) (by rw [Nat.pow_succ] at h; exact Nat.div_lt_of_lt_mul (by omega))
      simp; omega

theorem enc_nine {n : Nat} (h : n ≤ 9223372036854775807) : (enc n).length ≤ 9 := enc_len 8 n (by omega)

theorem low {n : Nat} (h : n < 128) : (UInt8.ofNat n).toNat = n := by rw [UInt8.toNat_ofNat']; omega
theorem high (n : Nat) : (UInt8.ofNat (128 + n % 128)).toNat = 128 + n % 128 := by rw [UInt8.toNat_ofNat']; omega

/-- What is read from the front of a list: the number, how many bytes it has, and the error (0, 1: too short, 3: no such form). -/
def getv (k acc : Nat) : List UInt8 → Nat × Nat × Nat
  | [] => (0, 0, 1)
  | c :: r => if k = 9 ∨ (0 < k ∧ c.toNat = 0) then (0, 0, 3) else if c.toNat < 128 then (acc + c.toNat * 128 ^ k, k + 1, 0) else getv (k + 1) (acc + (c.toNat - 128) * 128 ^ k) r

theorem getv_enc (post : List UInt8) : ∀ (n k acc : Nat), (0 < k → 0 < n) → k + (enc n).length ≤ 9 → getv k acc (enc n ++ post) = (acc + n * 128 ^ k, k + (enc n).length, 0) := by
  intro n
  induction n using Nat.strongRecOn with
  | ind n ih =>
    intro k acc h0 h9
    by_cases h : n < 128
    · rw [enc_lt h] at h9 ⊢
      have e := low h
      simp at h9
      simp only [List.cons_append, List.nil_append, getv, e]
      rw [if_neg (by omega), if_pos h]; simp
    · rw [enc_ge (by omega)] at h9 ⊢
      have e := high n
      simp at h9
      have := enc_pos (n / 128)
      simp only [List.cons_append, getv, e]
      rw [if_neg (by omega), if_neg (by omega), ih (n / 128) (by omega) (k + 1) _ (by omega) (by omega)]
      simp only [List.length_cons, Prod.mk.injEq]
      refine ⟨?_, by omega, trivial⟩
      have hd : n = n % 128 + 128 * (n / 128) := by omega
      rw [show 128 + n % 128 - 128 = n % 128 by omega, Nat.pow_succ]
      have : n * 128 ^ k = (n % 128) * 128 ^ k + n / 128 * (128 ^ k * 128) := by
        conv => lhs; rw [hd]
        rw [Nat.add_mul, Nat.mul_comm (128 ^ k) 128, ← Nat.mul_assoc, Nat.mul_comm 128 (n / 128)]
      omega

/-- No number's bytes begin another one's. -/
theorem enc_apart {a b : Nat} (ha : a ≤ 9223372036854775807) (hb : b ≤ 9223372036854775807) (t : List UInt8) (h : enc b = enc a ++ t) : a = b := by
  have h1 := getv_enc t a 0 0 (by omega) (by have := enc_nine ha; omega)
  have h2 := getv_enc [] b 0 0 (by omega) (by have := enc_nine hb; omega)
  rw [List.append_nil, h, h1] at h2
  simpa using congrArg Prod.fst h2

theorem getv_bound : ∀ (l : List UInt8) (k acc : Nat), acc < 128 ^ k → k ≤ 9 → (getv k acc l).1 < 128 ^ 9 := by
  intro l
  induction l with
  | nil => intro k acc _ _; simp [getv]
  | cons c r ih =>
    intro k acc ha hk
    have hc : c.toNat < 256 := c.toNat_lt
    unfold getv
    split
    · simp
    · rename_i h1
      have hk9 : k < 9 := by omega
      split
      · rename_i h2
        show acc + c.toNat * 128 ^ k < 128 ^ 9
        have h3 : acc + c.toNat * 128 ^ k < 128 ^ (k + 1) := by
          rw [Nat.pow_succ]
          have : c.toNat * 128 ^ k ≤ 127 * 128 ^ k := Nat.mul_le_mul_right _ (by omega)
          omega
        exact Nat.lt_of_lt_of_le h3 (Nat.pow_le_pow_right (by omega) (by omega))
      · rename_i h2
        refine ih _ _ ?_ (by omega)
        rw [Nat.pow_succ]
        have : (c.toNat - 128) * 128 ^ k ≤ 127 * 128 ^ k := Nat.mul_le_mul_right _ (by omega)
        omega

theorem getv_count : ∀ (l : List UInt8) (k acc : Nat), (getv k acc l).2.1 ≤ k + l.length := by
  intro l
  induction l with
  | nil => intro k acc; simp [getv]
  | cons c r ih =>
    intro k acc
    unfold getv
    split
    · simp
    · split
      · simp
      · have := ih (k + 1) (acc + (c.toNat - 128) * 128 ^ k)
        simp; omega

theorem or128 : ∀ x : Fin 256, x.val ||| 128 = 128 + x.val % 128 := by decide +kernel

/-- byte(m)|128. -/
theorem more_byte (m : Nat) (x : Int) (h : x = IntKind.u8.wrap (m : Int)) : bits .or .u8 x 128 = ((UInt8.ofNat (128 + m % 128)).toNat : Int) := by
  subst h
  rw [IntKind.wrap_u8, u8_or _ _ (by omega) (by omega) (by omega) (by omega), high]
  have h := or128 ⟨m % 256, by omega⟩
  rw [show ((m : Int) % 256).toNat = m % 256 by omega]
  show ((m % 256 ||| 128 : Nat) : Int) = _
  simp only at h
  rw [h]
  omega


theorem wraps_i64 (n : Int) (h₀ : 0 ≤ n) (h₁ : n < 2 ^ 63) : IntKind.i64.wrap n = n := by rw [IntKind.wrap_i64]; omega

theorem pow7 (k : Nat) : 2 ^ (7 * k) = 128 ^ k := by rw [Nat.pow_mul]

/-- acc | d << 7*k, where acc has k groups. -/
theorem or_group (acc k d : Nat) (x : Int) (hx : x = (d : Int)) (ha : acc < 128 ^ k) (hk : k ≤ 8) (hd : d < 128) :
    bits .or .i64 (acc : Int) (RowKit.wrap64 (x * 2 ^ (7 * k))) = ((acc + d * 128 ^ k : Nat) : Int) := by
  subst hx
  have h9 : 128 ^ (k + 1) ≤ 128 ^ 9 := Nat.pow_le_pow_right (by omega) (by omega)
  rw [Nat.pow_succ] at h9
  have h1 : d * 128 ^ k ≤ 127 * 128 ^ k := Nat.mul_le_mul_right _ (by omega)
  have e : ((d : Int) * 2 ^ (7 * k)) = ((d * 128 ^ k : Nat) : Int) := by
    rw [← pow7]; simp
  rw [e, IntWalk.wrap64_in _ ⟨by omega, by omega⟩]
  rw [(bits_nat .i64 63 (by decide) wraps_i64 acc (d * 128 ^ k) (by omega) (by omega)).2]
  rw [← pow7] at ha ⊢
  rw [Nat.or_comm, Nat.mul_comm d, ← Nat.two_pow_add_eq_or_of_lt ha d, Nat.add_comm]

/-- The ways through one round of reading. -/
theorem getv_nine {acc : Nat} {c : UInt8} {r : List UInt8} : getv 9 acc (c :: r) = (0, 0, 3) := by simp [getv]
theorem getv_zero {k acc : Nat} {c : UInt8} {r : List UInt8} (h : 0 < k) (hc : c.toNat = 0) : getv k acc (c :: r) = (0, 0, 3) := by rw [getv, if_pos (Or.inr ⟨h, hc⟩)]
theorem getv_last {k acc : Nat} {c : UInt8} {r : List UInt8} (h9 : k ≠ 9) (h : k = 0 ∨ 0 < c.toNat) (hc : c.toNat < 128) : getv k acc (c :: r) = (acc + c.toNat * 128 ^ k, k + 1, 0) := by
  rw [getv, if_neg (by omega), if_pos hc]
theorem getv_more {k acc : Nat} {c : UInt8} {r : List UInt8} (h9 : k ≠ 9) (hc : ¬ c.toNat < 128) : getv k acc (c :: r) = getv (k + 1) (acc + (c.toNat - 128) * 128 ^ k) r := by
  rw [getv, if_neg (by omega), if_neg hc]
theorem acc_more {k acc d : Nat} (h : acc < 128 ^ k) (hd : d < 128) : acc + d * 128 ^ k < 128 ^ (k + 1) := by
  rw [Nat.pow_succ]
  have : d * 128 ^ k ≤ 127 * 128 ^ k := Nat.mul_le_mul_right _ (by omega)
  omega
theorem drop_at {α : Type} {l : List α} {j : Nat} {c : α} (h : l[j]? = some c) : l.drop j = c :: l.drop (j + 1) := by
  obtain ⟨hj, rfl⟩ := List.getElem?_eq_some_iff.1 h
  exact List.drop_eq_getElem_cons hj

end Go.Proofs.Ytpdblmicgpgiaaa
