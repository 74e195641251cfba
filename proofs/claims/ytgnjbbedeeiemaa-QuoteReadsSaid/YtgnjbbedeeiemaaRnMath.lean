/- Runes: what a range over a string tells, plain. No program is spoken of. -/
import Derived.Test.YtgnjbbedeeiemaaKit
import Derived.Laws.RangeAny
namespace Go.Proofs.Ytgnjbbedeeiemaa.Rn
open Go

def byteAt (s : ByteArray) (j : Nat) : Nat := (s.get! j).toNat
def contAt (s : ByteArray) (j : Nat) : Bool := j < s.size && byteAt s j / 64 == 2
theorem byteAt_lt (s : ByteArray) (j : Nat) : byteAt s j < 256 := (s.get! j).toNat_lt
theorem byteAt_get (s : ByteArray) (j : Nat) (h : j < s.size) : (s[j]'h).toNat = byteAt s j := by
  have := get_at s j h
  unfold byteAt
  rw [← this]; rfl

theorem ite_iff {α : Type} {p q : Prop} [Decidable p] [Decidable q] {a b c d : α} (h : p ↔ q) (h1 : a = b) (h2 : c = d) : (if p then a else c) = if q then b else d := by
  subst h1; subst h2
  by_cases hp : p
  · rw [if_pos hp, if_pos (h.1 hp)]
  · rw [if_neg hp, if_neg (fun hq => hp (h.2 hq))]

theorem decode_eq (s : ByteArray) (i : Nat) : Utf8.decode s i =
    if byteAt s i < 128 then (byteAt s i, 1)
    else if byteAt s i / 32 = 6 ∧ contAt s (i + 1) = true then
      (if 128 ≤ byteAt s i % 32 * 64 + byteAt s (i + 1) % 64 then (byteAt s i % 32 * 64 + byteAt s (i + 1) % 64, 2) else (65533, 1))
    else if byteAt s i / 16 = 14 ∧ contAt s (i + 1) = true ∧ contAt s (i + 2) = true then
      (if 2048 ≤ byteAt s i % 16 * 4096 + byteAt s (i + 1) % 64 * 64 + byteAt s (i + 2) % 64 ∧ ¬ (55296 ≤ byteAt s i % 16 * 4096 + byteAt s (i + 1) % 64 * 64 + byteAt s (i + 2) % 64 ∧ byteAt s i % 16 * 4096 + byteAt s (i + 1) % 64 * 64 + byteAt s (i + 2) % 64 ≤ 57343)
       then (byteAt s i % 16 * 4096 + byteAt s (i + 1) % 64 * 64 + byteAt s (i + 2) % 64, 3) else (65533, 1))
    else if byteAt s i / 8 = 30 ∧ contAt s (i + 1) = true ∧ contAt s (i + 2) = true ∧ contAt s (i + 3) = true then
      (if 65536 ≤ byteAt s i % 8 * 262144 + byteAt s (i + 1) % 64 * 4096 + byteAt s (i + 2) % 64 * 64 + byteAt s (i + 3) % 64 ∧ byteAt s i % 8 * 262144 + byteAt s (i + 1) % 64 * 4096 + byteAt s (i + 2) % 64 * 64 + byteAt s (i + 3) % 64 ≤ 1114111
       then (byteAt s i % 8 * 262144 + byteAt s (i + 1) % 64 * 4096 + byteAt s (i + 2) % 64 * 64 + byteAt s (i + 3) % 64, 4) else (65533, 1))
    else (65533, 1) := by
  have e0 : (s.get! i).toNat = byteAt s i := rfl
  have e1 : ∀ k, (s.get! (i + k)).toNat = byteAt s (i + k) := fun _ => rfl
  have e2 : ∀ k, (decide (i + k < s.size) && byteAt s (i + k) / 64 == 2) = contAt s (i + k) := fun _ => rfl
  have b1 := byteAt_lt s i
  have b2 := byteAt_lt s (i + 1)
  have b3 := byteAt_lt s (i + 2)
  have b4 := byteAt_lt s (i + 3)
  simp only [Utf8.decode, e1, e2, Nat.add_zero, e0, Utf8.runeError]
  simp only [Bool.and_eq_true, beq_iff_eq, Utf8.valid, and_assoc, Bool.or_eq_true, decide_eq_true_eq, ge_iff_le]
  by_cases h0 : byteAt s i < 128
  · simp only [h0, if_true]
  · simp only [h0, if_false]
    refine ite_iff Iff.rfl rfl (ite_iff Iff.rfl (ite_iff ?_ rfl rfl) (ite_iff Iff.rfl (ite_iff ?_ rfl rfl) rfl))
    · omega
    · omega

theorem width_pos (s : ByteArray) (i : Nat) : 1 ≤ (Utf8.decode s i).2 := by
  rw [decode_eq]; repeat' split
  all_goals simp
theorem width_le (s : ByteArray) (i : Nat) (h : i < s.size) : i + (Utf8.decode s i).2 ≤ s.size := by
  have c1 : ∀ k, contAt s k = true → k < s.size := by intro k hk; unfold contAt at hk; simp at hk; exact hk.1
  rw [decode_eq]
  split
  · show i + 1 ≤ _; omega
  · split
    · rename_i q
      have := c1 _ q.2
      split
      · show i + 2 ≤ _; omega
      · show i + 1 ≤ _; omega
    · split
      · rename_i q
        have := c1 _ q.2.2
        split
        · show i + 3 ≤ _; omega
        · show i + 1 ≤ _; omega
      · split
        · rename_i q
          have := c1 _ q.2.2.2
          split
          · show i + 4 ≤ _; omega
          · show i + 1 ≤ _; omega
        · show i + 1 ≤ _; omega
theorem rune_le (s : ByteArray) (i : Nat) : (Utf8.decode s i).1 ≤ 1114111 := by
  have b1 := byteAt_lt s i
  have b2 := byteAt_lt s (i + 1)
  have b3 := byteAt_lt s (i + 2)
  rw [decode_eq]; repeat' split
  all_goals simp_all
  all_goals omega
theorem cont_range {s : ByteArray} {j : Nat} (h : contAt s j = true) : j < s.size ∧ 128 ≤ byteAt s j ∧ byteAt s j ≤ 191 := by
  unfold contAt at h; simp at h; omega
theorem cont_of {s : ByteArray} {j : Nat} (h : j < s.size) (h1 : 128 ≤ byteAt s j) (h2 : byteAt s j ≤ 191) : contAt s j = true := by
  unfold contAt; simp; omega
/-- The bytes of a rune behind its first one. -/
theorem inner_high (s : ByteArray) (i j : Nat) (h1 : i < j) (h2 : j < i + (Utf8.decode s i).2) : 128 ≤ byteAt s i ∧ 128 ≤ byteAt s j := by
  rw [decode_eq] at h2
  have c1 : ∀ k, contAt s k = true → 128 ≤ byteAt s k := fun k hk => (cont_range hk).2.1
  repeat' split at h2
  all_goals simp_all
  all_goals first
    | omega
    | (obtain rfl | rfl | rfl : j = i + 1 ∨ j = i + 2 ∨ j = i + 3 := by omega
       all_goals first | omega | (simp_all; try omega))
theorem low_one (s : ByteArray) (i : Nat) (h : byteAt s i < 128) : Utf8.decode s i = (byteAt s i, 1) := by
  rw [decode_eq, if_pos h]
theorem high_high (s : ByteArray) (i : Nat) (h : 128 ≤ byteAt s i) : 128 ≤ (Utf8.decode s i).1 := by
  have b1 := byteAt_lt s i
  rw [decode_eq]; repeat' split
  all_goals simp_all
  all_goals omega

/-- The value of a rune's first k bytes, its lead given. -/
def fv (s : ByteArray) (i c : Nat) : Nat → Nat
  | 0 => c
  | k + 1 => 64 * fv s i c k + byteAt s (i + (k + 1)) % 64
theorem fv_le (s : ByteArray) (i c : Nat) (hc : c ≤ 31) (k : Nat) (hk : k ≤ 3) : fv s i c k ≤ 8388607 := by
  match k, hk with
  | 0, _ => simp [fv]; omega
  | 1, _ => simp [fv]; omega
  | 2, _ => simp [fv]; omega
  | 3, _ => simp [fv]; omega

/-- A lead byte: how many bytes, the least rune, the lead's own part. -/
def lead (b n low c : Nat) : Prop :=
  (194 ≤ b ∧ b ≤ 223 ∧ n = 2 ∧ low = 128 ∧ c = b - 192) ∨ (224 ≤ b ∧ b ≤ 239 ∧ n = 3 ∧ low = 2048 ∧ c = b - 224) ∨ (240 ≤ b ∧ b ≤ 244 ∧ n = 4 ∧ low = 65536 ∧ c = b - 240)

set_option maxRecDepth 4000 in
theorem dec_whole (s : ByteArray) (i n low c : Nat) (hl : lead (byteAt s i) n low c) (hc : ∀ k, k + 1 < n → contAt s (i + (k + 1)) = true) :
    Utf8.decode s i = if low ≤ fv s i c (n - 1) ∧ fv s i c (n - 1) ≤ 1114111 ∧ ¬ (55296 ≤ fv s i c (n - 1) ∧ fv s i c (n - 1) ≤ 57343) then (fv s i c (n - 1), n) else (65533, 1) := by
  have b2 := byteAt_lt s (i + 1)
  have b3 := byteAt_lt s (i + 2)
  rw [decode_eq]
  rcases hl with ⟨h1, h2, rfl, rfl, rfl⟩ | ⟨h1, h2, rfl, rfl, rfl⟩ | ⟨h1, h2, rfl, rfl, rfl⟩
  · have k1 := hc 0 (by omega)
    rw [if_neg (by omega), if_pos ⟨by omega, k1⟩]
    simp only [fv]
    have e : 64 * (byteAt s i - 192) + byteAt s (i + (0 + 1)) % 64 = byteAt s i % 32 * 64 + byteAt s (i + 1) % 64 := by
      show 64 * (byteAt s i - 192) + byteAt s (i + 1) % 64 = _
      omega
    rw [e]
    exact ite_iff (by omega) rfl rfl
  · have k1 := hc 0 (by omega)
    have k2 := hc 1 (by omega)
    rw [if_neg (by omega), if_neg (by omega), if_pos ⟨by omega, k1, k2⟩]
    simp only [fv]
    have e : 64 * (64 * (byteAt s i - 224) + byteAt s (i + (0 + 1)) % 64) + byteAt s (i + (1 + 1)) % 64 = byteAt s i % 16 * 4096 + byteAt s (i + 1) % 64 * 64 + byteAt s (i + 2) % 64 := by
      show 64 * (64 * (byteAt s i - 224) + byteAt s (i + 1) % 64) + byteAt s (i + 2) % 64 = _
      omega
    rw [e]
    exact ite_iff (by omega) rfl rfl
  · have k1 := hc 0 (by omega)
    have k2 := hc 1 (by omega)
    have k3 := hc 2 (by omega)
    rw [if_neg (by omega), if_neg (by omega), if_neg (by omega), if_pos ⟨by omega, k1, k2, k3⟩]
    simp only [fv]
    have e : 64 * (64 * (64 * (byteAt s i - 240) + byteAt s (i + (0 + 1)) % 64) + byteAt s (i + (1 + 1)) % 64) + byteAt s (i + (2 + 1)) % 64 = byteAt s i % 8 * 262144 + byteAt s (i + 1) % 64 * 4096 + byteAt s (i + 2) % 64 * 64 + byteAt s (i + 3) % 64 := by
      show 64 * (64 * (64 * (byteAt s i - 240) + byteAt s (i + 1) % 64) + byteAt s (i + 2) % 64) + byteAt s (i + 3) % 64 = _
      omega
    rw [e]
    exact ite_iff (by omega) rfl rfl

set_option maxRecDepth 4000 in
theorem dec_broken (s : ByteArray) (i n low c k : Nat) (hl : lead (byteAt s i) n low c) (hk : k + 1 < n) (hc : contAt s (i + (k + 1)) = false) : Utf8.decode s i = (65533, 1) := by
  rw [decode_eq]
  rcases hl with ⟨h1, h2, rfl, rfl, rfl⟩ | ⟨h1, h2, rfl, rfl, rfl⟩ | ⟨h1, h2, rfl, rfl, rfl⟩
  · obtain rfl : k = 0 := by omega
    rw [if_neg (by omega), if_neg (by simp_all), if_neg (by omega), if_neg (by omega)]
  · rw [if_neg (by omega), if_neg (by omega), if_neg ?_, if_neg (by omega)]
    obtain rfl | rfl : k = 0 ∨ k = 1 := by omega
    all_goals simp_all
  · rw [if_neg (by omega), if_neg (by omega), if_neg (by omega), if_neg ?_]
    obtain rfl | rfl | rfl : k = 0 ∨ k = 1 ∨ k = 2 := by omega
    all_goals simp_all

theorem dec_none (s : ByteArray) (i : Nat) (h0 : 128 ≤ byteAt s i) (h1 : byteAt s i < 194 ∨ 244 < byteAt s i) : Utf8.decode s i = (65533, 1) := by
  have b1 := byteAt_lt s i
  have b2 := byteAt_lt s (i + 1)
  rw [decode_eq, if_neg (by omega)]
  repeat' split
  all_goals first | rfl | omega

/-- The document's answer: how many bytes the rune has (0: there is none), and the rune. -/
def size (s : ByteArray) (i : Nat) : Nat × Nat := if Utf8.decode s i = (65533, 1) then (0, 0) else ((Utf8.decode s i).2, (Utf8.decode s i).1)
def isBad (s : ByteArray) (i : Nat) : Bool := Utf8.decode s i == (65533, 1)

theorem size_low (s : ByteArray) (i : Nat) (h : byteAt s i < 128) : size s i = (1, byteAt s i) := by
  unfold size; rw [low_one s i h, if_neg (by simp; omega)]
theorem size_none (s : ByteArray) (i : Nat) (h0 : 128 ≤ byteAt s i) (h1 : byteAt s i < 194 ∨ 244 < byteAt s i) : size s i = (0, 0) := by
  unfold size; rw [dec_none s i h0 h1, if_pos rfl]
theorem size_broken (s : ByteArray) (i n low c k : Nat) (hl : lead (byteAt s i) n low c) (hk : k + 1 < n) (hc : contAt s (i + (k + 1)) = false) : size s i = (0, 0) := by
  unfold size; rw [dec_broken s i n low c k hl hk hc, if_pos rfl]
theorem size_whole (s : ByteArray) (i n low c : Nat) (hl : lead (byteAt s i) n low c) (hc : ∀ k, k + 1 < n → contAt s (i + (k + 1)) = true) :
    size s i = if low ≤ fv s i c (n - 1) ∧ fv s i c (n - 1) ≤ 1114111 ∧ ¬ (55296 ≤ fv s i c (n - 1) ∧ fv s i c (n - 1) ≤ 57343) then (n, fv s i c (n - 1)) else (0, 0) := by
  unfold size; rw [dec_whole s i n low c hl hc]
  have hn : 2 ≤ n := by rcases hl with ⟨_, _, rfl, _⟩ | ⟨_, _, rfl, _⟩ | ⟨_, _, rfl, _⟩ <;> omega
  split
  · rw [if_neg (by simp; omega)]
  · rw [if_pos rfl]
theorem size_short (s : ByteArray) (i n low c : Nat) (hl : lead (byteAt s i) n low c) (h : s.size < i + n) : size s i = (0, 0) := by
  have hn : 2 ≤ n := by rcases hl with ⟨_, _, rfl, _⟩ | ⟨_, _, rfl, _⟩ | ⟨_, _, rfl, _⟩ <;> omega
  refine size_broken s i n low c (n - 2) hl (by omega) ?_
  unfold contAt
  simp; omega
theorem size_fst (s : ByteArray) (i : Nat) : (size s i).1 = if isBad s i then 0 else (Utf8.decode s i).2 := by
  unfold size isBad
  split <;> simp_all
theorem size_snd (s : ByteArray) (i : Nat) (h : isBad s i = false) : (size s i).2 = (Utf8.decode s i).1 := by
  unfold size isBad at *
  split <;> simp_all

/-- The rune fffd: three bytes, or none. -/
theorem lost_three (s : ByteArray) (i : Nat) (h : (Utf8.decode s i).1 = 65533) (hi : i < s.size) : isBad s i = !(decide (3 ≤ s.size - i) && (byteAt s i == 239 && byteAt s (i + 1) == 191 && byteAt s (i + 2) == 189)) := by
  have b0 := byteAt_lt s i
  have b1 := byteAt_lt s (i + 1)
  have b2 := byteAt_lt s (i + 2)
  have b3 := byteAt_lt s (i + 3)
  unfold isBad
  by_cases hy : 3 ≤ s.size - i ∧ byteAt s i = 239 ∧ byteAt s (i + 1) = 191 ∧ byteAt s (i + 2) = 189
  · have k1 : contAt s (i + 1) = true := cont_of (by omega) (by omega) (by omega)
    have k2 : contAt s (i + 2) = true := cont_of (by omega) (by omega) (by omega)
    rw [decode_eq]
    simp [hy, k1, k2]
  · have hz : (decide (3 ≤ s.size - i) && (byteAt s i == 239 && byteAt s (i + 1) == 191 && byteAt s (i + 2) == 189)) = false := by
      cases hb : (decide (3 ≤ s.size - i) && (byteAt s i == 239 && byteAt s (i + 1) == 191 && byteAt s (i + 2) == 189)) with
      | false => rfl
      | true => simp at hb; omega
    rw [hz]
    have hd : Utf8.decode s i = (65533, 1) := by
      rw [decode_eq] at h ⊢
      have c1 : ∀ k, contAt s k = true → k < s.size ∧ 128 ≤ byteAt s k ∧ byteAt s k ≤ 191 := fun k hk => cont_range hk
      by_cases q0 : byteAt s i < 128
      · rw [if_pos q0] at h; simp only at h; omega
      · rw [if_neg q0] at h ⊢
        by_cases q1 : byteAt s i / 32 = 6 ∧ contAt s (i + 1) = true
        · rw [if_pos q1] at h ⊢
          split at h
          · simp only at h; omega
          · rename_i q; rw [if_neg q]
        · rw [if_neg q1] at h ⊢
          by_cases q2 : byteAt s i / 16 = 14 ∧ contAt s (i + 1) = true ∧ contAt s (i + 2) = true
          · rw [if_pos q2] at h ⊢
            have w1 := c1 _ q2.2.1
            have w2 := c1 _ q2.2.2
            split at h
            · simp only at h; omega
            · rename_i q; rw [if_neg q]
          · rw [if_neg q2] at h ⊢
            by_cases q3 : byteAt s i / 8 = 30 ∧ contAt s (i + 1) = true ∧ contAt s (i + 2) = true ∧ contAt s (i + 3) = true
            · rw [if_pos q3] at h ⊢
              split at h
              · simp only at h; omega
              · rename_i q; rw [if_neg q]
            · rw [if_neg q3]
    simp [hd]

end Go.Proofs.Ytgnjbbedeeiemaa.Rn
