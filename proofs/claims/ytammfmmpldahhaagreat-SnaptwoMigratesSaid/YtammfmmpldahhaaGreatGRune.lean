/- Several texts of mine in one: RnMath RnSays RnLeaf RnSize RnPre Iter RnLoop RnLow RnRef. -/
import Derived.Test.YtammfmmpldahhaaGreatKit
import Derived.Laws.RangeAny
import Derived.Test.YtammfmmpldahhaaGreatLie
import Derived.Test.YtammfmmpldahhaaGreatRows
namespace Go.Proofs.YtammfmmpldahhaaGreat.Rn
open Go

def byteAt (s : ByteArray) (j : Nat) : Nat := (s.get! j).toNat
def contAt (s : ByteArray) (j : Nat) : Bool := j < s.size && byteAt s j / 64 == 2
theorem byteAt_lt (s : ByteArray) (j : Nat) : byteAt s j < 256 := (s.get! j).toNat_lt
theorem byteAt_get (s : ByteArray) (j : Nat) (h : j < s.size) : (s[j]'h).toNat = byteAt s j := by
  have := get_at s j h
  unfold byteAt
  rw [← this]; rfl

theorem ite_iff {α : Type} {p q : Prop} [Decidable p] [Decidable q] {a b c d : α} (h : p ↔ q) (h1 : a = b) (h2 : c = d) : (if p then a else c) = if q then b else d := by
  subst h1; subst h2
  by_cases hp : p
  · rw [if_pos hp, if_pos (h.1 hp)]
  · rw [if_neg hp, if_neg (fun hq => hp (h.2 hq))]

theorem decode_eq (s : ByteArray) (i : Nat) : Utf8.decode s i =
    if byteAt s i < 128 then (byteAt s i, 1)
    else if byteAt s i / 32 = 6 ∧ contAt s (i + 1) = true then
      (if 128 ≤ byteAt s i % 32 * 64 + byteAt s (i + 1) % 64 then (byteAt s i % 32 * 64 + byteAt s (i + 1) % 64, 2) else (65533, 1))
    else if byteAt s i / 16 = 14 ∧ contAt s (i + 1) = true ∧ contAt s (i + 2) = true then
      (if 2048 ≤ byteAt s i % 16 * 4096 + byteAt s (i + 1) % 64 * 64 + byteAt s (i + 2) % 64 ∧ ¬ (55296 ≤ byteAt s i % 16 * 4096 + byteAt s (i + 1) % 64 * 64 + byteAt s (i + 2) % 64 ∧ byteAt s i % 16 * 4096 + byteAt s (i + 1) % 64 * 64 + byteAt s (i + 2) % 64 ≤ 57343)
       then (byteAt s i % 16 * 4096 + byteAt s (i + 1) % 64 * 64 + byteAt s (i + 2) % 64, 3) else (65533, 1))
    else if byteAt s i / 8 = 30 ∧ contAt s (i + 1) = true ∧ contAt s (i + 2) = true ∧ contAt s (i + 3) = true then
      (if 65536 ≤ byteAt s i % 8 * 262144 + byteAt s (i + 1) % 64 * 4096 + byteAt s (i + 2) % 64 * 64 + byteAt s (i + 3) % 64 ∧ byteAt s i % 8 * 262144 + byteAt s (i + 1) % 64 * 4096 + byteAt s (i + 2) % 64 * 64 + byteAt s (i + 3) % 64 ≤ 1114111
       then (byteAt s i % 8 * 262144 + byteAt s (i + 1) % 64 * 4096 + byteAt s (i + 2) % 64 * 64 + byteAt s (i + 3) % 64, 4) else (65533, 1))
    else (65533, 1) := by
  have e0 : (s.get! i).toNat = byteAt s i := rfl
  have e1 : ∀ k, (s.get! (i + k)).toNat = byteAt s (i + k) := fun _ => rfl
  have e2 : ∀ k, (decide (i + k < s.size) && byteAt s (i + k) / 64 == 2) = contAt s (i + k) := fun _ => rfl
  have b1 := byteAt_lt s i
  have b2 := byteAt_lt s (i + 1)
  have b3 := byteAt_lt s (i + 2)
  have b4 := byteAt_lt s (i + 3)
  simp only [Utf8.decode, e1, e2, Nat.add_zero, e0, Utf8.runeError]
  simp only [Bool.and_eq_true, beq_iff_eq, Utf8.valid, and_assoc, Bool.or_eq_true, decide_eq_true_eq, ge_iff_le]
  by_cases h0 : byteAt s i < 128
  · simp only [h0, if_true]
  · simp only [h0, if_false]
    refine ite_iff Iff.rfl rfl (ite_iff Iff.rfl (ite_iff ?_ rfl rfl) (ite_iff Iff.rfl (ite_iff ?_ rfl rfl) rfl))
    · omega
    · omega

theorem width_pos (s : ByteArray) (i : Nat) : 1 ≤ (Utf8.decode s i).2 := by
  rw [decode_eq]; repeat' split
  all_goals simp
theorem width_le (s : ByteArray) (i : Nat) (h : i < s.size) : i + (Utf8.decode s i).2 ≤ s.size := by
  have c1 : ∀ k, contAt s k = true → k < s.size := by intro k hk; unfold contAt at hk; simp at hk; exact hk.1
  rw [decode_eq]
  split
  · show i + 1 ≤ _; omega
  · split
    · rename_i q
      have := c1 _ q.2
      split
      · show i + 2 ≤ _; omega
      · show i + 1 ≤ _; omega
    · split
      · rename_i q
        have := c1 _ q.2.2
        split
        · show i + 3 ≤ _; omega
        · show i + 1 ≤ _; omega
      · split
        · rename_i q
          have := c1 _ q.2.2.2
          split
          · show i + 4 ≤ _; omega
          · show i + 1 ≤ _; omega
        · show i + 1 ≤ _; omega
theorem rune_le (s : ByteArray) (i : Nat) : (Utf8.decode s i).1 ≤ 1114111 := by
  have b1 := byteAt_lt s i
  have b2 := byteAt_lt s (i + 1)
  have b3 := byteAt_lt s (i + 2)
  rw [decode_eq]; repeat' split
  all_goals simp_all
  all_goals omega
theorem cont_range {s : ByteArray} {j : Nat} (h : contAt s j = true) : j < s.size ∧ 128 ≤ byteAt s j ∧ byteAt s j ≤ 191 := by
  unfold contAt at h; simp at h; omega
theorem cont_of {s : ByteArray} {j : Nat} (h : j < s.size) (h1 : 128 ≤ byteAt s j) (h2 : byteAt s j ≤ 191) : contAt s j = true := by
  unfold contAt; simp; omega
/-- The bytes of a rune behind its first one. -/
theorem inner_high (s : ByteArray) (i j : Nat) (h1 : i < j) (h2 : j < i + (Utf8.decode s i).2) : 128 ≤ byteAt s i ∧ 128 ≤ byteAt s j := by
  rw [decode_eq] at h2
  have c1 : ∀ k, contAt s k = true → 128 ≤ byteAt s k := fun k hk => (cont_range hk).2.1
  repeat' split at h2
  all_goals simp_all
  all_goals first
    | omega
    | (obtain rfl | rfl | rfl : j = i + 1 ∨ j = i + 2 ∨ j = i + 3 := by omega
       all_goals first | omega | (simp_all; try omega))
theorem low_one (s : ByteArray) (i : Nat) (h : byteAt s i < 128) : Utf8.decode s i = (byteAt s i, 1) := by
  rw [decode_eq, if_pos h]
theorem high_high (s : ByteArray) (i : Nat) (h : 128 ≤ byteAt s i) : 128 ≤ (Utf8.decode s i).1 := by
  have b1 := byteAt_lt s i
  rw [decode_eq]; repeat' split
  all_goals simp_all
  all_goals omega

/-- The value of a rune's first k bytes, its lead given. -/
def fv (s : ByteArray) (i c : Nat) : Nat → Nat
  | 0 => c
  | k + 1 => 64 * fv s i c k + byteAt s (i + (k + 1)) % 64
theorem fv_le (s : ByteArray) (i c : Nat) (hc : c ≤ 31) (k : Nat) (hk : k ≤ 3) : fv s i c k ≤ 8388607 := by
  match k, hk with
  | 0, _ => simp [fv]; omega
  | 1, _ => simp [fv]; omega
  | 2, _ => simp [fv]; omega
  | 3, _ => simp [fv]; omega

/-- A lead byte: how many bytes, the least rune, the lead's own part. -/
def lead (b n low c : Nat) : Prop :=
  (194 ≤ b ∧ b ≤ 223 ∧ n = 2 ∧ low = 128 ∧ c = b - 192) ∨ (224 ≤ b ∧ b ≤ 239 ∧ n = 3 ∧ low = 2048 ∧ c = b - 224) ∨ (240 ≤ b ∧ b ≤ 244 ∧ n = 4 ∧ low = 65536 ∧ c = b - 240)

set_option maxRecDepth 4000 in
theorem dec_whole (s : ByteArray) (i n low c : Nat) (hl : lead (byteAt s i) n low c) (hc : ∀ k, k + 1 < n → contAt s (i + (k + 1)) = true) :
    Utf8.decode s i = if low ≤ fv s i c (n - 1) ∧ fv s i c (n - 1) ≤ 1114111 ∧ ¬ (55296 ≤ fv s i c (n - 1) ∧ fv s i c (n - 1) ≤ 57343) then (fv s i c (n - 1), n) else (65533, 1) := by
  have b2 := byteAt_lt s (i + 1)
  have b3 := byteAt_lt s (i + 2)
  rw [decode_eq]
  rcases hl with ⟨h1, h2, rfl, rfl, rfl⟩ | ⟨h1, h2, rfl, rfl, rfl⟩ | ⟨h1, h2, rfl, rfl, rfl⟩
  · have k1 := hc 0 (by omega)
    rw [if_neg (by omega), if_pos ⟨by omega, k1⟩]
    simp only [fv]
    have e : 64 * (byteAt s i - 192) + byteAt s (i + (0 + 1)) % 64 = byteAt s i % 32 * 64 + byteAt s (i + 1) % 64 := by
      show 64 * (byteAt s i - 192) + byteAt s (i + 1) % 64 = _
      omega
    rw [e]
    exact ite_iff (by omega) rfl rfl
  · have k1 := hc 0 (by omega)
    have k2 := hc 1 (by omega)
    rw [if_neg (by omega), if_neg (by omega), if_pos ⟨by omega, k1, k2⟩]
    simp only [fv]
    have e : 64 * (64 * (byteAt s i - 224) + byteAt s (i + (0 + 1)) % 64) + byteAt s (i + (1 + 1)) % 64 = byteAt s i % 16 * 4096 + byteAt s (i + 1) % 64 * 64 + byteAt s (i + 2) % 64 := by
      show 64 * (64 * (byteAt s i - 224) + byteAt s (i + 1) % 64) + byteAt s (i + 2) % 64 = _
      omega
    rw [e]
    exact ite_iff (by omega) rfl rfl
  · have k1 := hc 0 (by omega)
    have k2 := hc 1 (by omega)
    have k3 := hc 2 (by omega)
    rw [if_neg (by omega), if_neg (by omega), if_neg (by omega), if_pos ⟨by omega, k1, k2, k3⟩]
    simp only [fv]
    have e : 64 * (64 * (64 * (byteAt s i - 240) + byteAt s (i + (0 + 1)) % 64) + byteAt s (i + (1 + 1)) % 64) + byteAt s (i + (2 + 1)) % 64 = byteAt s i % 8 * 262144 + byteAt s (i + 1) % 64 * 4096 + byteAt s (i + 2) % 64 * 64 + byteAt s (i + 3) % 64 := by
      show 64 * (64 * (64 * (byteAt s i - 240) + byteAt s (i + 1) % 64) + byteAt s (i + 2) % 64) + byteAt s (i + 3) % 64 = _
      omega
    rw [e]
    exact ite_iff (by omega) rfl rfl

set_option maxRecDepth 4000 in
theorem dec_broken (s : ByteArray) (i n low c k : Nat) (hl : lead (byteAt s i) n low c) (hk : k + 1 < n) (hc : contAt s (i + (k + 1)) = false) : Utf8.decode s i = (65533, 1) := by
  rw [decode_eq]
  rcases hl with ⟨h1, h2, rfl, rfl, rfl⟩ | ⟨h1, h2, rfl, rfl, rfl⟩ | ⟨h1, h2, rfl, rfl, rfl⟩
  · obtain rfl : k = 0 := by omega
    rw [if_neg (by omega), if_neg (by simp_all), if_neg (by omega), if_neg (by omega)]
  · rw [if_neg (by omega), if_neg (by omega), if_neg ?_, if_neg (by omega)]
    obtain rfl | rfl : k = 0 ∨ k = 1 := by omega
    all_goals simp_all
  · rw [if_neg (by omega), if_neg (by omega), if_neg (by omega), if_neg ?_]
    obtain rfl | rfl | rfl : k = 0 ∨ k = 1 ∨ k = 2 := by omega
    all_goals simp_all

theorem dec_none (s : ByteArray) (i : Nat) (h0 : 128 ≤ byteAt s i) (h1 : byteAt s i < 194 ∨ 244 < byteAt s i) : Utf8.decode s i = (65533, 1) := by
  have b1 := byteAt_lt s i
  have b2 := byteAt_lt s (i + 1)
  rw [decode_eq, if_neg (by omega)]
  repeat' split
  all_goals first | rfl | omega

/-- The document's answer: how many bytes the rune has (0: there is none), and the rune. -/
def size (s : ByteArray) (i : Nat) : Nat × Nat := if Utf8.decode s i = (65533, 1) then (0, 0) else ((Utf8.decode s i).2, (Utf8.decode s i).1)
def isBad (s : ByteArray) (i : Nat) : Bool := Utf8.decode s i == (65533, 1)

theorem size_low (s : ByteArray) (i : Nat) (h : byteAt s i < 128) : size s i = (1, byteAt s i) := by
  unfold size; rw [low_one s i h, if_neg (by simp; omega)]
theorem size_none (s : ByteArray) (i : Nat) (h0 : 128 ≤ byteAt s i) (h1 : byteAt s i < 194 ∨ 244 < byteAt s i) : size s i = (0, 0) := by
  unfold size; rw [dec_none s i h0 h1, if_pos rfl]
theorem size_broken (s : ByteArray) (i n low c k : Nat) (hl : lead (byteAt s i) n low c) (hk : k + 1 < n) (hc : contAt s (i + (k + 1)) = false) : size s i = (0, 0) := by
  unfold size; rw [dec_broken s i n low c k hl hk hc, if_pos rfl]
theorem size_whole (s : ByteArray) (i n low c : Nat) (hl : lead (byteAt s i) n low c) (hc : ∀ k, k + 1 < n → contAt s (i + (k + 1)) = true) :
    size s i = if low ≤ fv s i c (n - 1) ∧ fv s i c (n - 1) ≤ 1114111 ∧ ¬ (55296 ≤ fv s i c (n - 1) ∧ fv s i c (n - 1) ≤ 57343) then (n, fv s i c (n - 1)) else (0, 0) := by
  unfold size; rw [dec_whole s i n low c hl hc]
  have hn : 2 ≤ n := by rcases hl with ⟨_, _, rfl, _⟩ | ⟨_, _, rfl, _⟩ | ⟨_, _, rfl, _⟩ <;> omega
  split
  · rw [if_neg (by simp; omega)]
  · rw [if_pos rfl]
theorem size_short (s : ByteArray) (i n low c : Nat) (hl : lead (byteAt s i) n low c) (h : s.size < i + n) : size s i = (0, 0) := by
  have hn : 2 ≤ n := by rcases hl with ⟨_, _, rfl, _⟩ | ⟨_, _, rfl, _⟩ | ⟨_, _, rfl, _⟩ <;> omega
  refine size_broken s i n low c (n - 2) hl (by omega) ?_
  unfold contAt
  simp; omega
theorem size_fst (s : ByteArray) (i : Nat) : (size s i).1 = if isBad s i then 0 else (Utf8.decode s i).2 := by
  unfold size isBad
  split <;> simp_all
theorem size_snd (s : ByteArray) (i : Nat) (h : isBad s i = false) : (size s i).2 = (Utf8.decode s i).1 := by
  unfold size isBad at *
  split <;> simp_all

/-- The rune fffd: three bytes, or none. -/
theorem lost_three (s : ByteArray) (i : Nat) (h : (Utf8.decode s i).1 = 65533) (hi : i < s.size) : isBad s i = !(decide (3 ≤ s.size - i) && (byteAt s i == 239 && byteAt s (i + 1) == 191 && byteAt s (i + 2) == 189)) := by
  have b0 := byteAt_lt s i
  have b1 := byteAt_lt s (i + 1)
  have b2 := byteAt_lt s (i + 2)
  have b3 := byteAt_lt s (i + 3)
  unfold isBad
  by_cases hy : 3 ≤ s.size - i ∧ byteAt s i = 239 ∧ byteAt s (i + 1) = 191 ∧ byteAt s (i + 2) = 189
  · have k1 : contAt s (i + 1) = true := cont_of (by omega) (by omega) (by omega)
    have k2 : contAt s (i + 2) = true := cont_of (by omega) (by omega) (by omega)
    rw [decode_eq]
    simp [hy, k1, k2]
  · have hz : (decide (3 ≤ s.size - i) && (byteAt s i == 239 && byteAt s (i + 1) == 191 && byteAt s (i + 2) == 189)) = false := by
      cases hb : (decide (3 ≤ s.size - i) && (byteAt s i == 239 && byteAt s (i + 1) == 191 && byteAt s (i + 2) == 189)) with
      | false => rfl
      | true => simp at hb; omega
    rw [hz]
    have hd : Utf8.decode s i = (65533, 1) := by
      rw [decode_eq] at h ⊢
      have c1 : ∀ k, contAt s k = true → k < s.size ∧ 128 ≤ byteAt s k ∧ byteAt s k ≤ 191 := fun k hk => cont_range hk
      by_cases q0 : byteAt s i < 128
      · rw [if_pos q0] at h; simp only at h; omega
      · rw [if_neg q0] at h ⊢
        by_cases q1 : byteAt s i / 32 = 6 ∧ contAt s (i + 1) = true
        · rw [if_pos q1] at h ⊢
          split at h
          · simp only at h; omega
          · rename_i q; rw [if_neg q]
        · rw [if_neg q1] at h ⊢
          by_cases q2 : byteAt s i / 16 = 14 ∧ contAt s (i + 1) = true ∧ contAt s (i + 2) = true
          · rw [if_pos q2] at h ⊢
            have w1 := c1 _ q2.2.1
            have w2 := c1 _ q2.2.2
            split at h
            · simp only at h; omega
            · rename_i q; rw [if_neg q]
          · rw [if_neg q2] at h ⊢
            by_cases q3 : byteAt s i / 8 = 30 ∧ contAt s (i + 1) = true ∧ contAt s (i + 2) = true ∧ contAt s (i + 3) = true
            · rw [if_pos q3] at h ⊢
              split at h
              · simp only at h; omega
              · rename_i q; rw [if_neg q]
            · rw [if_neg q3]
    simp [hd]

end Go.Proofs.YtammfmmpldahhaaGreat.Rn


namespace Go.Proofs.YtammfmmpldahhaaGreat
open Go.RowKit

end Go.Proofs.YtammfmmpldahhaaGreat


namespace Go.Proofs.YtammfmmpldahhaaGreat
open Go.RowKit

namespace Rn
def within (r a b : Int) : Bool := decide (a ≤ r) && decide (r ≤ b)
def upper (r : Int) : Bool := within r 65 90
def shown (r : Int) : Bool := decide (32 ≤ r) && (r != 127)
def plain (r : Int) : Bool := within r 97 122 || upper r || within r 48 57 || (r == 45) || (r == 95) || (r == 46) || (r == 58) || (decide (161 ≤ r) && (r != 65533))
end Rn

set_option maxRecDepth 4000 in
theorem within_any (r a b : Int) (w : World) : Calls Tryz.prog 111 #[.int .i32 r, .int .i32 a, .int .i32 b] w (Says w (.bool (Rn.within r a b))) := by
  by_cases h1 : a ≤ r
  · by_cases h2 : r ≤ b
    · have e : Rn.within r a b = true := by simp [Rn.within, h1, h2]
      rw [e]
      go_enter Tryz.func111, Tryz.ntmps111
      go_wp2
      go_ret
      exact ⟨rfl, rfl⟩
    · have e : Rn.within r a b = false := by simp [Rn.within]; omega
      rw [e]
      go_enter Tryz.func111, Tryz.ntmps111
      go_wp2
      go_ret
      exact ⟨rfl, rfl⟩
  · have e : Rn.within r a b = false := by simp [Rn.within]; omega
    rw [e]
    go_enter Tryz.func111, Tryz.ntmps111
    go_wp2
    go_ret
    exact ⟨rfl, rfl⟩

theorem upper_any (r : Int) (w : World) : Calls Tryz.prog 112 #[.int .i32 r] w (Says w (.bool (Rn.upper r))) := by
  go_enter Tryz.func112, Tryz.ntmps112
  go_wp2_with fail
  refine (within_any _ _ _ _).mono ?_
  rintro e w1 ⟨rfl, rfl⟩
  go_wp2
  go_ret
  exact ⟨rfl, rfl⟩

theorem shown_any (r : Int) (w : World) : Calls Tryz.prog 109 #[.int .i32 r] w (Says w (.bool (Rn.shown r))) := by
  by_cases h1 : 32 ≤ r
  · have e : Rn.shown r = (r != 127) := by simp [Rn.shown, h1]
    rw [e]
    go_enter Tryz.func109, Tryz.ntmps109
    go_wp2
    go_ret
    refine ⟨ret_bool ?_, rfl⟩
    simp [bne]
  · have e : Rn.shown r = false := by simp [Rn.shown]; omega
    rw [e]
    go_enter Tryz.func109, Tryz.ntmps109
    go_wp2
    go_ret
    exact ⟨rfl, rfl⟩

set_option maxRecDepth 4000 in
set_option maxHeartbeats 800000 in
theorem plain_any (r : Int) (w : World) : Calls Tryz.prog 107 #[.int .i32 r] w (Says w (.bool (Rn.plain r))) := by
  obtain ⟨p1, hp1⟩ : ∃ p1, Rn.within r 97 122 = p1 := ⟨_, rfl⟩
  obtain ⟨p2, hp2⟩ : ∃ p2, Rn.upper r = p2 := ⟨_, rfl⟩
  obtain ⟨p3, hp3⟩ : ∃ p3, Rn.within r 48 57 = p3 := ⟨_, rfl⟩
  have hpl : Rn.plain r = (p1 || p2 || p3 || (r == 45) || (r == 95) || (r == 46) || (r == 58) || (decide (161 ≤ r) && (r != 65533))) := by simp only [Rn.plain, hp1, hp2, hp3]
  have HP := Lib.hid hpl; clear hpl
  go_enter Tryz.func107, Tryz.ntmps107
  go_wp2_with (first
    | (go_at_call 111; refine (within_any _ _ _ _).mono ?_; rintro e w1 ⟨rfl, rfl⟩)
    | (go_at_call 112; refine (upper_any _ _).mono ?_; rintro e w1 ⟨rfl, rfl⟩))
  all_goals first
    | (exfalso; simp_all; done)
    | (go_ret; refine ⟨ret_bool ?_, rfl⟩; rw [HP.out]; simp_all [bne]; try omega)

namespace Rn
def letters : List UInt8 := [97, 98, 99, 100, 101, 102, 103, 104, 105, 106, 107, 108, 109, 110, 111, 112, 113, 114, 115, 116, 117, 118, 119, 120, 121, 122, 65, 66, 67, 68, 69, 70, 71, 72, 73, 74, 75, 76, 77, 78, 79, 80, 81, 82, 83, 84, 85, 86, 87, 88, 89, 90, 48, 49, 50, 51, 52, 53, 54, 55, 56, 57, 45, 95, 46, 58]
theorem letters_len : letters.length = 66 := by rfl
theorem letters_size : (ByteArray.mk letters.toArray).size = 66 := by rfl
theorem letters_at (k : Nat) (h : k < (ByteArray.mk letters.toArray).size) : ((ByteArray.mk letters.toArray)[k]'h).toNat = (letters.getD k 0).toNat := by
  have hk : k < letters.length := h
  rw [List.getD_eq_getElem?_getD, List.getElem?_eq_getElem hk]
  rfl
theorem letters_plain : ∀ k, k < 66 → plain ((letters.getD k 0).toNat : Int) = true := by
  have h : ∀ k : Fin 66, plain ((letters.getD k.val 0).toNat : Int) = true := by decide
  exact fun k hk => h ⟨k, hk⟩
theorem plain_letters : ∀ n : Nat, n < 161 → plain (n : Int) = true → ∃ k, k < 66 ∧ (letters.getD k 0).toNat = n := by
  have h : ∀ n : Fin 161, plain (n.val : Int) = true → letters.any (fun c => c.toNat == n.val) = true := by decide +kernel
  intro n hn hp
  have := h ⟨n, hn⟩ hp
  obtain ⟨c, hc, he⟩ := List.any_eq_true.1 this
  obtain ⟨k, hk, rfl⟩ := List.mem_iff_getElem.1 hc
  refine ⟨k, hk, ?_⟩
  rw [List.getD_eq_getElem?_getD, List.getElem?_eq_getElem hk]
  simpa using he
theorem plain_high (r : Int) (h : 161 ≤ r) : plain r = (r != 65533) := by
  have e : within r 97 122 = false := by unfold within; simp; omega
  have e2 : upper r = false := by unfold upper within; simp; omega
  have e3 : within r 48 57 = false := by unfold within; simp; omega
  have f1 : ¬ r = 45 := by omega
  have f2 : ¬ r = 95 := by omega
  have f3 : ¬ r = 46 := by omega
  have f4 : ¬ r = 58 := by omega
  simp [plain, e, e2, e3, h, f1, f2, f3, f4]
theorem plain_neg (r : Int) (h : r < 0) : plain r = false := by
  have e : within r 97 122 = false := by unfold within; simp; omega
  have e2 : upper r = false := by unfold upper within; simp; omega
  have e3 : within r 48 57 = false := by unfold within; simp; omega
  have f1 : ¬ r = 45 := by omega
  have f2 : ¬ r = 95 := by omega
  have f3 : ¬ r = 46 := by omega
  have f4 : ¬ r = 58 := by omega
  have f5 : ¬ 161 ≤ r := by omega
  simp [plain, e, e2, e3, f1, f2, f3, f4, f5]
theorem plain_rest (r : Int) (h : ∀ j, j < 66 → ((letters.getD j 0).toNat : Int) ≠ r) : plain r = (decide (161 ≤ r) && (r != 65533)) := by
  by_cases h1 : 161 ≤ r
  · rw [plain_high r h1]; simp [h1]
  · by_cases h2 : r < 0
    · rw [plain_neg r h2]; simp [h1]
    · obtain ⟨n, rfl⟩ : ∃ n : Nat, r = (n : Int) := ⟨r.toNat, by omega⟩
      cases hp : plain (n : Int) with
      | false => simp [h1]
      | true =>
        obtain ⟨k, hk, he⟩ := plain_letters n (by omega) hp
        exact absurd (by rw [he]) (h k hk)
theorem plain_lost : plain 65533 = false := by decide
end Rn

set_option maxRecDepth 4000 in
set_option maxHeartbeats 800000 in
theorem refPlain_any (r : Int) (w : World) : Calls Tryz.prog 80 #[.int .i64 r] w (Says w (.bool (Rn.plain r))) := by
  go_enter Tryz.func80, Tryz.ntmps80
  go_wp2
  generalize hS : ByteArray.mk _ = S
  have hS2 : S = ⟨Rn.letters.toArray⟩ := hS.symm.trans rfl
  have hsz : S.size = 66 := by rw [hS2]; exact Rn.letters_size
  have HAT : Hid (∀ k (h : k < S.size), (S[k]'h).toNat = (Rn.letters.getD k 0).toNat) := by rw [hS2]; exact fun k h => Rn.letters_at k h
  clear hS hS2
  go_loop [4] (fun i => ∃ k : Nat, i = .int .i64 (k : Int) ∧ k ≤ 66 ∧ Hid (∀ j, j < k → ((Rn.letters.getD j 0).toNat : Int) ≠ r)) (fun i => 66 - (intOf i).toNat)
  case atStart => exact ⟨0, rfl, by omega, fun j hj => by omega⟩
  case round =>
    obtain ⟨k, rfl, hk, HR⟩ := hrel
    have hat := HAT.out k
    have hpl := Rn.letters_plain k
    have HX : Hid (∀ j, j < k + 1 → j < k ∨ j = k) := by intro j hj; omega
    obtain ⟨x, hx⟩ : ∃ x, x = (Rn.letters.getD k 0).toNat := ⟨_, rfl⟩
    have h255 : x ≤ 255 := by rw [hx]; have := (Rn.letters.getD k 0).toNat_lt; omega
    rw [← hx] at hat hpl
    have HE := Lib.hid hx; clear hx
    by_cases hlt : k < 66
    · have HP := Lib.hid (hpl hlt)
      clear hpl
      by_cases he : (x : Int) = r
      · subst he
        go_wp2
        go_ret
        exact ⟨ret_bool HP.out.symm, rfl⟩
      · go_wp2
        go_round
        case rel => exact ⟨k + 1, by go_num, by omega, fun j hj => (HX.out j hj).elim (HR.out j) (fun e => by subst e; rw [← HE.out]; exact he)⟩
        case measure => simp [intOf]; omega
    · clear hpl
      have hfin := Rn.plain_rest r (fun j hj => HR.out j (by omega))
      have HF := Lib.hid hfin; clear hfin
      by_cases h1 : 161 ≤ r
      · go_wp2
        go_ret
        refine ⟨ret_bool ?_, rfl⟩
        rw [HF.out]; simp [h1, bne]
      · go_wp2
        go_ret
        refine ⟨ret_bool ?_, rfl⟩
        rw [HF.out]; simp; omega
end Go.Proofs.YtammfmmpldahhaaGreat


namespace Go.Proofs.YtammfmmpldahhaaGreat
open Go.RowKit

namespace Rn
def pre (s p : ByteArray) : Bool := decide (p.size ≤ s.size) && ((s.extract 0 p.size).toList == p.toList)
end Rn

set_option maxRecDepth 4000 in
theorem hasPre_any (s p : ByteArray) (w : World) : Calls Tryz.prog 115 #[.string s, .string p] w (Says w (.bool (Rn.pre s p))) := by
  by_cases h : p.size ≤ s.size
  · have e : Rn.pre s p = ((s.extract 0 p.size).toList == p.toList) := by simp [Rn.pre, h]
    rw [e]
    have h' : (p.size : Int) ≤ (s.size : Int) := by omega
    go_enter Tryz.func115, Tryz.ntmps115
    go_wp2
    go_ret
    exact ⟨rfl, rfl⟩
  · have e : Rn.pre s p = false := by simp [Rn.pre, h]
    rw [e]
    have h' : ¬ (p.size : Int) ≤ (s.size : Int) := by omega
    go_enter Tryz.func115, Tryz.ntmps115
    go_wp2
    go_ret
    exact ⟨rfl, rfl⟩

theorem prefix_any (s p : ByteArray) (w : World) : Calls Tryz.prog 114 #[.string s, .string p] w (Says w (.bool (Rn.pre s p))) := by
  go_enter Tryz.func114, Tryz.ntmps114
  go_wp2_with fail
  refine (hasPre_any _ _ _).mono ?_
  rintro e w1 ⟨rfl, rfl⟩
  go_wp2
  go_ret
  exact ⟨rfl, rfl⟩

set_option maxRecDepth 4000 in
set_option maxHeartbeats 1600000 in
theorem refSize_low (s : ByteArray) (i : Nat) (w : World) (hi : i < s.size) (h0 : Rn.byteAt s i < 128) :
    Calls Tryz.prog 79 #[.string s, .int .i64 (i : Int)] w (Says w (.tuple #[.int .i64 ((Rn.size s i).1 : Int), .int .i64 ((Rn.size s i).2 : Int)])) := by
  have hat : ∀ h, (s[i]'h).toNat = Rn.byteAt s i := fun h => Rn.byteAt_get s i h
  have h255 := Rn.byteAt_lt s i
  obtain ⟨x, hx⟩ : ∃ x, x = Rn.byteAt s i := ⟨_, rfl⟩
  rw [← hx] at hat h255 h0
  have HX := Lib.hid hx; clear hx
  have e := Rn.size_low s i (by rw [← HX.out]; exact h0)
  rw [e, ← HX.out]
  go_enter Tryz.func79, Tryz.ntmps79
  go_wp2
  go_ret2
  exact ⟨rfl, rfl⟩

set_option maxRecDepth 4000 in
set_option maxHeartbeats 1600000 in
theorem refSize_2 (s : ByteArray) (i : Nat) (w : World) (hi : i < s.size) (hs : s.size ≤ 140737488355328) (h0 : 194 ≤ Rn.byteAt s i ∧ Rn.byteAt s i ≤ 223) :
    Calls Tryz.prog 79 #[.string s, .int .i64 (i : Int)] w (Says w (.tuple #[.int .i64 ((Rn.size s i).1 : Int), .int .i64 ((Rn.size s i).2 : Int)])) := by
  have hat : ∀ h, (s[i]'h).toNat = Rn.byteAt s i := fun h => Rn.byteAt_get s i h
  have h255 := Rn.byteAt_lt s i
  obtain ⟨x, hx⟩ : ∃ x, x = Rn.byteAt s i := ⟨_, rfl⟩
  rw [← hx] at hat h255 h0
  have HX := Lib.hid hx; clear hx
  obtain ⟨ha, hb⟩ := h0
  obtain ⟨c, hc⟩ : ∃ c, c = x - 192 := ⟨_, rfl⟩
  have HL : Hid (Rn.lead (Rn.byteAt s i) 2 128 c) := by show Rn.lead _ _ _ _; rw [← HX.out]; exact .inl ⟨ha, hb, rfl, rfl, hc⟩
  have hc31 : c ≤ 31 := by omega
  have hcx : (x : Int) - 192 = (c : Int) := by omega
  clear hc
  by_cases hsh : s.size < i + 2
  · rw [Rn.size_short s i 2 128 c HL.out hsh]
    have hsh' : (s.size : Int) < (i : Int) + 2 := by omega
    go_enter Tryz.func79, Tryz.ntmps79
    go_wp2
    go_ret2
    exact ⟨rfl, rfl⟩
  · have hsh' : ¬ (s.size : Int) < (i : Int) + 2 := by omega
    go_enter Tryz.func79, Tryz.ntmps79
    go_wp2
    go_loop [9, 10] (fun v k => ∃ kk vv : Nat, k = .int .i64 (kk : Int) ∧ v = .int .i64 (vv : Int) ∧ 1 ≤ kk ∧ kk ≤ 2 ∧ vv ≤ 8388607 ∧ Hid (vv = Rn.fv s i c (kk - 1)) ∧ Hid (∀ m, m + 1 < kk → Rn.contAt s (i + (m + 1)) = true)) (fun _ k => 2 - (intOf k).toNat)
    case atStart => exact ⟨1, c, rfl, rfl, by omega, by omega, by omega, rfl, fun m hm => by omega⟩
    case round =>
      obtain ⟨k, v, rfl, rfl, hk1, hk, hv, HV, HC⟩ := hrel
      by_cases hlt : k < 2
      · obtain ⟨j, hj⟩ : ∃ j, j = i + k := ⟨_, rfl⟩
        have hji : (i : Int) + (k : Int) = (j : Int) := by omega
        have hjs : j < s.size := by omega
        have haj : ∀ h, (s[j]'h).toNat = Rn.byteAt s j := fun h => Rn.byteAt_get s j h
        have hy255 := Rn.byteAt_lt s j
        have HJ : Hid (i + (k - 1 + 1) = j) := by show _ = _; omega
        obtain ⟨y, hy⟩ : ∃ y, y = Rn.byteAt s j := ⟨_, rfl⟩
        rw [← hy] at haj hy255
        have HY := Lib.hid hy; clear hy
        have HK1 : Hid (k - 1 + 1 < 2) := by show _ < _; omega
        have HK2 : Hid (k - 1 + 1 = k) := by show _ = _; omega
        clear hj
        by_cases hy1 : y < 128
        · rw [Rn.size_broken s i 2 128 c (k - 1) HL.out HK1.out (by rw [HJ.out]; unfold Rn.contAt; rw [← HY.out]; simp; omega)]
          go_wp2
          go_ret2
          exact ⟨rfl, rfl⟩
        · by_cases hy2 : 191 < y
          · rw [Rn.size_broken s i 2 128 c (k - 1) HL.out HK1.out (by rw [HJ.out]; unfold Rn.contAt; rw [← HY.out]; simp; omega)]
            go_wp2
            go_ret2
            exact ⟨rfl, rfl⟩
          · have HF : Hid (64 * v + y - 128 = Rn.fv s i c (k - 1 + 1)) := by
              show _ = 64 * Rn.fv s i c (k - 1) + Rn.byteAt s (i + (k - 1 + 1)) % 64
              rw [HJ.out, ← HY.out, ← HV.out]; omega
            have hF : 64 * v + y - 128 ≤ 8388607 := by rw [HF.out]; exact Rn.fv_le s i c hc31 _ (by omega)
            have HC2 : Hid (∀ m, m + 1 < k + 1 → Rn.contAt s (i + (m + 1)) = true) := by
              intro m hm
              by_cases hm2 : m + 1 < k
              · exact HC.out m hm2
              · obtain rfl : m = k - 1 := by omega
                rw [HJ.out]; exact Rn.cont_of hjs (by rw [← HY.out]; omega) (by rw [← HY.out]; omega)
            go_wp2
            go_round
            case rel => exact ⟨k + 1, 64 * v + y - 128, by go_num, by go_num, by omega, by omega, hF, by show _ = Rn.fv s i c (k + 1 - 1); rw [HF.out]; exact congrArg _ (by omega), HC2.out⟩
            case measure => simp [intOf]; omega
      · obtain rfl : k = 2 := by omega
        have hwh := Rn.size_whole s i 2 128 c HL.out HC.out
        rw [← HV.out] at hwh
        by_cases q : 128 ≤ v ∧ v ≤ 1114111 ∧ ¬ (55296 ≤ v ∧ v ≤ 57343)
        · rw [if_pos q] at hwh
          have HS := Lib.hid hwh
          clear hwh hlt hk hk1
          obtain ⟨q1, q2, q3⟩ := q
          by_cases q4 : 55296 ≤ v
          · have q5 : 57343 < v := by omega
            clear q3
            go_wp2
            go_ret2
            refine ⟨?_, rfl⟩
            rw [HS.out]; rfl
          · clear q3
            go_wp2
            go_ret2
            refine ⟨?_, rfl⟩
            rw [HS.out]; rfl
        · rw [if_neg q] at hwh
          have HS := Lib.hid hwh
          clear hwh hlt hk hk1
          by_cases q1 : 128 ≤ v
          · by_cases q2 : v ≤ 1114111
            · have q3 : 55296 ≤ v := by omega
              have q4 : v ≤ 57343 := by omega
              clear q
              go_wp2
              go_ret2
              refine ⟨?_, rfl⟩
              rw [HS.out]; rfl
            · clear q
              go_wp2
              go_ret2
              refine ⟨?_, rfl⟩
              rw [HS.out]; rfl
          · clear q
            go_wp2
            go_ret2
            refine ⟨?_, rfl⟩
            rw [HS.out]; rfl

set_option maxRecDepth 4000 in
set_option maxHeartbeats 1600000 in
theorem refSize_3 (s : ByteArray) (i : Nat) (w : World) (hi : i < s.size) (hs : s.size ≤ 140737488355328) (h0 : 224 ≤ Rn.byteAt s i ∧ Rn.byteAt s i ≤ 239) :
    Calls Tryz.prog 79 #[.string s, .int .i64 (i : Int)] w (Says w (.tuple #[.int .i64 ((Rn.size s i).1 : Int), .int .i64 ((Rn.size s i).2 : Int)])) := by
  have hat : ∀ h, (s[i]'h).toNat = Rn.byteAt s i := fun h => Rn.byteAt_get s i h
  have h255 := Rn.byteAt_lt s i
  obtain ⟨x, hx⟩ : ∃ x, x = Rn.byteAt s i := ⟨_, rfl⟩
  rw [← hx] at hat h255 h0
  have HX := Lib.hid hx; clear hx
  obtain ⟨ha, hb⟩ := h0
  obtain ⟨c, hc⟩ : ∃ c, c = x - 224 := ⟨_, rfl⟩
  have HL : Hid (Rn.lead (Rn.byteAt s i) 3 2048 c) := by show Rn.lead _ _ _ _; rw [← HX.out]; exact .inr <| .inl ⟨ha, hb, rfl, rfl, hc⟩
  have hc31 : c ≤ 31 := by omega
  have hcx : (x : Int) - 224 = (c : Int) := by omega
  clear hc
  by_cases hsh : s.size < i + 3
  · rw [Rn.size_short s i 3 2048 c HL.out hsh]
    have hsh' : (s.size : Int) < (i : Int) + 3 := by omega
    go_enter Tryz.func79, Tryz.ntmps79
    go_wp2
    go_ret2
    exact ⟨rfl, rfl⟩
  · have hsh' : ¬ (s.size : Int) < (i : Int) + 3 := by omega
    go_enter Tryz.func79, Tryz.ntmps79
    go_wp2
    go_loop [9, 10] (fun v k => ∃ kk vv : Nat, k = .int .i64 (kk : Int) ∧ v = .int .i64 (vv : Int) ∧ 1 ≤ kk ∧ kk ≤ 3 ∧ vv ≤ 8388607 ∧ Hid (vv = Rn.fv s i c (kk - 1)) ∧ Hid (∀ m, m + 1 < kk → Rn.contAt s (i + (m + 1)) = true)) (fun _ k => 3 - (intOf k).toNat)
    case atStart => exact ⟨1, c, rfl, rfl, by omega, by omega, by omega, rfl, fun m hm => by omega⟩
    case round =>
      obtain ⟨k, v, rfl, rfl, hk1, hk, hv, HV, HC⟩ := hrel
      by_cases hlt : k < 3
      · obtain ⟨j, hj⟩ : ∃ j, j = i + k := ⟨_, rfl⟩
        have hji : (i : Int) + (k : Int) = (j : Int) := by omega
        have hjs : j < s.size := by omega
        have haj : ∀ h, (s[j]'h).toNat = Rn.byteAt s j := fun h => Rn.byteAt_get s j h
        have hy255 := Rn.byteAt_lt s j
        have HJ : Hid (i + (k - 1 + 1) = j) := by show _ = _; omega
        obtain ⟨y, hy⟩ : ∃ y, y = Rn.byteAt s j := ⟨_, rfl⟩
        rw [← hy] at haj hy255
        have HY := Lib.hid hy; clear hy
        have HK1 : Hid (k - 1 + 1 < 3) := by show _ < _; omega
        have HK2 : Hid (k - 1 + 1 = k) := by show _ = _; omega
        clear hj
        by_cases hy1 : y < 128
        · rw [Rn.size_broken s i 3 2048 c (k - 1) HL.out HK1.out (by rw [HJ.out]; unfold Rn.contAt; rw [← HY.out]; simp; omega)]
          go_wp2
          go_ret2
          exact ⟨rfl, rfl⟩
        · by_cases hy2 : 191 < y
          · rw [Rn.size_broken s i 3 2048 c (k - 1) HL.out HK1.out (by rw [HJ.out]; unfold Rn.contAt; rw [← HY.out]; simp; omega)]
            go_wp2
            go_ret2
            exact ⟨rfl, rfl⟩
          · have HF : Hid (64 * v + y - 128 = Rn.fv s i c (k - 1 + 1)) := by
              show _ = 64 * Rn.fv s i c (k - 1) + Rn.byteAt s (i + (k - 1 + 1)) % 64
              rw [HJ.out, ← HY.out, ← HV.out]; omega
            have hF : 64 * v + y - 128 ≤ 8388607 := by rw [HF.out]; exact Rn.fv_le s i c hc31 _ (by omega)
            have HC2 : Hid (∀ m, m + 1 < k + 1 → Rn.contAt s (i + (m + 1)) = true) := by
              intro m hm
              by_cases hm2 : m + 1 < k
              · exact HC.out m hm2
              · obtain rfl : m = k - 1 := by omega
                rw [HJ.out]; exact Rn.cont_of hjs (by rw [← HY.out]; omega) (by rw [← HY.out]; omega)
            go_wp2
            go_round
            case rel => exact ⟨k + 1, 64 * v + y - 128, by go_num, by go_num, by omega, by omega, hF, by show _ = Rn.fv s i c (k + 1 - 1); rw [HF.out]; exact congrArg _ (by omega), HC2.out⟩
            case measure => simp [intOf]; omega
      · obtain rfl : k = 3 := by omega
        have hwh := Rn.size_whole s i 3 2048 c HL.out HC.out
        rw [← HV.out] at hwh
        by_cases q : 2048 ≤ v ∧ v ≤ 1114111 ∧ ¬ (55296 ≤ v ∧ v ≤ 57343)
        · rw [if_pos q] at hwh
          have HS := Lib.hid hwh
          clear hwh hlt hk hk1
          obtain ⟨q1, q2, q3⟩ := q
          by_cases q4 : 55296 ≤ v
          · have q5 : 57343 < v := by omega
            clear q3
            go_wp2
            go_ret2
            refine ⟨?_, rfl⟩
            rw [HS.out]; rfl
          · clear q3
            go_wp2
            go_ret2
            refine ⟨?_, rfl⟩
            rw [HS.out]; rfl
        · rw [if_neg q] at hwh
          have HS := Lib.hid hwh
          clear hwh hlt hk hk1
          by_cases q1 : 2048 ≤ v
          · by_cases q2 : v ≤ 1114111
            · have q3 : 55296 ≤ v := by omega
              have q4 : v ≤ 57343 := by omega
              clear q
              go_wp2
              go_ret2
              refine ⟨?_, rfl⟩
              rw [HS.out]; rfl
            · clear q
              go_wp2
              go_ret2
              refine ⟨?_, rfl⟩
              rw [HS.out]; rfl
          · clear q
            go_wp2
            go_ret2
            refine ⟨?_, rfl⟩
            rw [HS.out]; rfl

set_option maxRecDepth 100000 in
set_option maxHeartbeats 1600000 in
theorem refSize_4 (s : ByteArray) (i : Nat) (w : World) (hi : i < s.size) (hs : s.size ≤ 140737488355328) (h0 : 240 ≤ Rn.byteAt s i ∧ Rn.byteAt s i ≤ 244) :
    Calls Tryz.prog 79 #[.string s, .int .i64 (i : Int)] w (Says w (.tuple #[.int .i64 ((Rn.size s i).1 : Int), .int .i64 ((Rn.size s i).2 : Int)])) := by
  have hat : ∀ h, (s[i]'h).toNat = Rn.byteAt s i := fun h => Rn.byteAt_get s i h
  have h255 := Rn.byteAt_lt s i
  obtain ⟨x, hx⟩ : ∃ x, x = Rn.byteAt s i := ⟨_, rfl⟩
  rw [← hx] at hat h255 h0
  have HX := Lib.hid hx; clear hx
  obtain ⟨ha, hb⟩ := h0
  obtain ⟨c, hc⟩ : ∃ c, c = x - 240 := ⟨_, rfl⟩
  obtain ⟨low, hlow⟩ : ∃ low, low = 65536 := ⟨_, rfl⟩
  have HL : Hid (Rn.lead (Rn.byteAt s i) 4 low c) := by show Rn.lead _ _ _ _; rw [← HX.out]; exact .inr <| .inr ⟨ha, hb, rfl, hlow, hc⟩
  have l1 : (low : Int) ≤ 65536 := by omega
  have l2 : (65536 : Int) ≤ (low : Int) := by omega
  clear hlow
  have hc31 : c ≤ 31 := by omega
  have hcx : (x : Int) - 240 = (c : Int) := by omega
  clear hc
  by_cases hsh : s.size < i + 4
  · rw [Rn.size_short s i 4 low c HL.out hsh]
    have hsh' : (s.size : Int) < (i : Int) + 4 := by omega
    go_enter Tryz.func79, Tryz.ntmps79
    go_wp2
    go_ret2
    exact ⟨rfl, rfl⟩
  · have hsh' : ¬ (s.size : Int) < (i : Int) + 4 := by omega
    go_enter Tryz.func79, Tryz.ntmps79
    go_wp2
    go_loop [9, 10] (fun v k => ∃ kk vv : Nat, k = .int .i64 (kk : Int) ∧ v = .int .i64 (vv : Int) ∧ 1 ≤ kk ∧ kk ≤ 4 ∧ vv ≤ 8388607 ∧ Hid (vv = Rn.fv s i c (kk - 1)) ∧ Hid (∀ m, m + 1 < kk → Rn.contAt s (i + (m + 1)) = true)) (fun _ k => 4 - (intOf k).toNat)
    case atStart => exact ⟨1, c, rfl, rfl, by omega, by omega, by omega, rfl, fun m hm => by omega⟩
    case round =>
      obtain ⟨k, v, rfl, rfl, hk1, hk, hv, HV, HC⟩ := hrel
      by_cases hlt : k < 4
      · obtain ⟨j, hj⟩ : ∃ j, j = i + k := ⟨_, rfl⟩
        have hji : (i : Int) + (k : Int) = (j : Int) := by omega
        have hjs : j < s.size := by omega
        have haj : ∀ h, (s[j]'h).toNat = Rn.byteAt s j := fun h => Rn.byteAt_get s j h
        have hy255 := Rn.byteAt_lt s j
        have HJ : Hid (i + (k - 1 + 1) = j) := by show _ = _; omega
        obtain ⟨y, hy⟩ : ∃ y, y = Rn.byteAt s j := ⟨_, rfl⟩
        rw [← hy] at haj hy255
        have HY := Lib.hid hy; clear hy
        have HK1 : Hid (k - 1 + 1 < 4) := by show _ < _; omega
        have HK2 : Hid (k - 1 + 1 = k) := by show _ = _; omega
        clear hj
        by_cases hy1 : y < 128
        · rw [Rn.size_broken s i 4 low c (k - 1) HL.out HK1.out (by rw [HJ.out]; unfold Rn.contAt; rw [← HY.out]; simp; omega)]
          go_wp2
          go_ret2
          exact ⟨rfl, rfl⟩
        · by_cases hy2 : 191 < y
          · rw [Rn.size_broken s i 4 low c (k - 1) HL.out HK1.out (by rw [HJ.out]; unfold Rn.contAt; rw [← HY.out]; simp; omega)]
            go_wp2
            go_ret2
            exact ⟨rfl, rfl⟩
          · have HF : Hid (64 * v + y - 128 = Rn.fv s i c (k - 1 + 1)) := by
              show _ = 64 * Rn.fv s i c (k - 1) + Rn.byteAt s (i + (k - 1 + 1)) % 64
              rw [HJ.out, ← HY.out, ← HV.out]; omega
            have hF : 64 * v + y - 128 ≤ 8388607 := by rw [HF.out]; exact Rn.fv_le s i c hc31 _ (by omega)
            have HC2 : Hid (∀ m, m + 1 < k + 1 → Rn.contAt s (i + (m + 1)) = true) := by
              intro m hm
              by_cases hm2 : m + 1 < k
              · exact HC.out m hm2
              · obtain rfl : m = k - 1 := by omega
                rw [HJ.out]; exact Rn.cont_of hjs (by rw [← HY.out]; omega) (by rw [← HY.out]; omega)
            go_wp2
            go_round
            case rel => exact ⟨k + 1, 64 * v + y - 128, by go_num, by go_num, by omega, by omega, hF, by show _ = Rn.fv s i c (k + 1 - 1); rw [HF.out]; exact congrArg _ (by omega), HC2.out⟩
            case measure => simp [intOf]; omega
      · obtain rfl : k = 4 := by omega
        have hwh := Rn.size_whole s i 4 low c HL.out HC.out
        rw [← HV.out] at hwh
        by_cases q : low ≤ v ∧ v ≤ 1114111 ∧ ¬ (55296 ≤ v ∧ v ≤ 57343)
        · rw [if_pos q] at hwh
          have HS := Lib.hid hwh
          clear hwh hlt hk hk1
          obtain ⟨q1', q2, q3⟩ := q
          have q1 : (65536 : Int) ≤ (v : Int) := by omega
          have q4 : 55296 ≤ v := by omega
          have q5 : 57343 < v := by omega
          clear q3
          go_wp2
          go_ret2
          refine ⟨?_, rfl⟩
          rw [HS.out]; rfl
        · rw [if_neg q] at hwh
          have HS := Lib.hid hwh
          clear hwh hlt hk hk1
          by_cases q1' : low ≤ v
          · have q2 : 1114111 < v := by omega
            clear q
            go_wp2
            go_ret2
            refine ⟨?_, rfl⟩
            rw [HS.out]; rfl
          · clear q
            go_wp2
            go_ret2
            refine ⟨?_, rfl⟩
            rw [HS.out]; rfl

set_option maxRecDepth 4000 in
set_option maxHeartbeats 1600000 in
theorem refSize_none (s : ByteArray) (i : Nat) (w : World) (hi : i < s.size) (h0 : 128 ≤ Rn.byteAt s i) (h1 : Rn.byteAt s i < 194 ∨ 244 < Rn.byteAt s i) :
    Calls Tryz.prog 79 #[.string s, .int .i64 (i : Int)] w (Says w (.tuple #[.int .i64 ((Rn.size s i).1 : Int), .int .i64 ((Rn.size s i).2 : Int)])) := by
  have hat : ∀ h, (s[i]'h).toNat = Rn.byteAt s i := fun h => Rn.byteAt_get s i h
  have h255 := Rn.byteAt_lt s i
  obtain ⟨x, hx⟩ : ∃ x, x = Rn.byteAt s i := ⟨_, rfl⟩
  rw [← hx] at hat h255 h0 h1
  have HX := Lib.hid hx; clear hx
  rw [Rn.size_none s i (by rw [← HX.out]; omega) (by rw [← HX.out]; omega)]
  by_cases g1 : x < 194
  · go_enter Tryz.func79, Tryz.ntmps79
    go_wp2
    go_ret2
    exact ⟨rfl, rfl⟩
  · have g2 : 244 < x := by omega
    go_enter Tryz.func79, Tryz.ntmps79
    go_wp2
    go_ret2
    exact ⟨rfl, rfl⟩

theorem refSize_any (s : ByteArray) (i : Nat) (w : World) (hi : i < s.size) (hs : s.size ≤ 140737488355328) :
    Calls Tryz.prog 79 #[.string s, .int .i64 (i : Int)] w (Says w (.tuple #[.int .i64 ((Rn.size s i).1 : Int), .int .i64 ((Rn.size s i).2 : Int)])) := by
  by_cases h0 : Rn.byteAt s i < 128
  · exact refSize_low s i w hi h0
  · by_cases h2 : 194 ≤ Rn.byteAt s i ∧ Rn.byteAt s i ≤ 223
    · exact refSize_2 s i w hi hs h2
    · by_cases h3 : 224 ≤ Rn.byteAt s i ∧ Rn.byteAt s i ≤ 239
      · exact refSize_3 s i w hi hs h3
      · by_cases h4 : 240 ≤ Rn.byteAt s i ∧ Rn.byteAt s i ≤ 244
        · exact refSize_4 s i w hi hs h4
        · exact refSize_none s i w hi (by omega) (by omega)
end Go.Proofs.YtammfmmpldahhaaGreat


namespace Go.Proofs.YtammfmmpldahhaaGreat
open Go.RowKit

namespace Rn
def three : ByteArray := ⟨#[239, 191, 189]⟩
theorem list_at (s : ByteArray) (i : Nat) (h : i < s.size) : s.data.toList[i]? = some (s.get! i) := by
  have := get_at s i h
  simp only [Nat.add_zero] at this
  rw [this, List.getElem?_eq_getElem (by simpa using h)]
  rfl
theorem pre_three (s : ByteArray) (i : Nat) (h : i ≤ s.size) : pre (s.extract i s.size) three = (decide (3 ≤ s.size - i) && (byteAt s i == 239 && byteAt s (i + 1) == 191 && byteAt s (i + 2) == 189)) := by
  have e : (s.extract i s.size).size = s.size - i := by simp [ByteArray.size_extract]
  unfold pre
  rw [e]
  show (decide (3 ≤ s.size - i) && _) = _
  by_cases h3 : 3 ≤ s.size - i
  · have l0 := list_at s i (by omega)
    have l1 := list_at s (i + 1) (by omega)
    have l2 := list_at s (i + 2) (by omega)
    have e2 : ((s.extract i s.size).extract 0 three.size).toList = [s.get! i, s.get! (i + 1), s.get! (i + 2)] := by
      rw [ByteArray.toList_eq]
      apply List.ext_getElem?
      intro j
      have hth : three.size = 3 := rfl
      simp only [ByteArray.data_extract, Array.toList_extract, List.extract_eq_take_drop, hth, List.getElem?_take, List.getElem?_drop]
      have hsz : s.data.size = s.size := rfl
      match j with
      | 0 => rw [if_pos (by omega), if_pos (by omega)]; simpa using l0
      | 1 => rw [if_pos (by omega), if_pos (by omega)]; simpa using l1
      | 2 => rw [if_pos (by omega), if_pos (by omega)]; simpa using l2
      | j + 3 => rw [if_neg (by omega)]; simp
    rw [e2]
    have e3 : three.toList = [239, 191, 189] := ByteArray.toList_mk [239, 191, 189]
    rw [e3]
    simp only [h3, decide_true, Bool.true_and]
    have q0 : ∀ (a : Nat) (c : UInt8), (s.get! a == c) = (byteAt s a == c.toNat) := by
      intro a c
      unfold byteAt
      rw [Bool.eq_iff_iff]
      simp only [beq_iff_eq]
      exact UInt8.toNat_inj.symm
    simp [q0, Bool.and_assoc]
  · simp [h3]
end Rn
end Go.Proofs.YtammfmmpldahhaaGreat


namespace Go.Proofs.YtammfmmpldahhaaGreat
open Go.RowKit

/-- The iterator has gone on. -/
def iterSet (w : World) (k : Nat) (s : ByteArray) (p : Nat) : World := { w with heap := w.heap.setIfInBounds k (.stringIter s p) }

/-- The iterator over s lies in block k, and stands at p; all below B is as it was in w. -/
structure It (B : Nat) (w w' : World) (k : Nat) (s : ByteArray) (p : Nat) : Prop where
  iter : w'.heap[k]? = some (.stringIter s p)
  below : Below B w w'
  base : B ≤ k

theorem It.lt {B : Nat} {w w' : World} {k : Nat} {s : ByteArray} {p : Nat} (h : It B w w' k s p) : k < w'.heap.size := (Array.getElem?_eq_some_iff.1 h.iter).1
theorem It.new {B : Nat} {w w' : World} (s : ByteArray) (hb : Below B w w') (hB : B ≤ w'.heap.size) : It B w (w'.iter s 0) w'.heap.size s 0 :=
  ⟨World.iter_heap w' s 0, hb.alloc hB _, hB⟩
theorem It.set {B : Nat} {w w' : World} {k : Nat} {s : ByteArray} {p : Nat} (h : It B w w' k s p) (q : Nat) : It B w (iterSet w' k s q) k s q := by
  refine ⟨?_, ⟨h.below.os, h.below.tape, h.below.output, ?_, fun j hj => ?_⟩, h.base⟩
  · show (w'.heap.setIfInBounds k _)[k]? = _
    rw [Array.getElem?_setIfInBounds_self_of_lt h.lt]
  · show w.heap.size ≤ (w'.heap.setIfInBounds k _).size
    rw [Array.size_setIfInBounds]; exact h.below.size
  · show (w'.heap.setIfInBounds k _)[j]? = _
    rw [Array.getElem?_setIfInBounds_ne (by have := h.base; omega)]
    exact h.below.block j hj
theorem It.on {B : Nat} {w w' w'' : World} {k : Nat} {s : ByteArray} {p : Nat} (h : It B w w' k s p) (hb : Below w'.heap.size w' w'') : It B w w'' k s p :=
  ⟨(hb.block k h.lt).trans h.iter, h.below.trans (hb.mono (by have := h.base; have := h.lt; omega)), h.base⟩
theorem It.drew {B : Nat} {w w' : World} {k : Nat} {s : ByteArray} {p : Nat} (h : It B w w' k s p) (n : Nat) : It B w (w'.drewN n) k s p := h.on (drawn w' n)
/-- Other blocks are as they were. -/
theorem iterSet_other (w : World) (k j : Nat) (s : ByteArray) (p : Nat) (h : j ≠ k) : (iterSet w k s p).heap[j]? = w.heap[j]? := by
  show (w.heap.setIfInBounds k _)[j]? = _
  rw [Array.getElem?_setIfInBounds_ne (by omega)]

section
variable {P : Program}
theorem next_at {w : World} {k : Nat} {s : ByteArray} {p : Nat} (hk : w.heap[k]? = some (.stringIter s p)) (h : p < s.size) (ty : TypeId) :
    (Instr.next (.pointer (some ⟨k, 0, none⟩)) true ty).run P w =
      .ok (.tuple #[.bool true, .int .i64 (p : Int), .int .i32 ((Utf8.decode s p).1 : Int)]) (iterSet w k s (p + (Utf8.decode s p).2)) := by
  simp only [Instr.next, getObj, setObj, Sem.run_bind, Sem.run, hk, Result.andThen, h, if_true]
  simp [goInt, iterSet]
theorem next_end {w : World} {k : Nat} {s : ByteArray} {p : Nat} (hk : w.heap[k]? = some (.stringIter s p)) (h : ¬ p < s.size) (ty : TypeId) :
    (Instr.next (.pointer (some ⟨k, 0, none⟩)) true ty).run P w = .ok (.tuple #[.bool false]) w := by
  simp [Instr.next, getObj, Sem.run, hk, h]
end

/-- Where the iterator stands. -/
def stands (k : Nat) (w : World) : Nat := match w.heap[k]? with | some (.stringIter _ p) => p | _ => 0
theorem It.stands {B : Nat} {w w' : World} {k : Nat} {s : ByteArray} {p : Nat} (h : It B w w' k s p) : stands k w' = p := by
  unfold Proofs.YtammfmmpldahhaaGreat.stands; rw [h.iter]

/-- []byte(s): a block of the call's own, that reads as l, and may be stored into. -/
def Made (w : World) (g : Nat) (E : TypeId) (l : List UInt8) : Prop :=
  ∃ (cs : Array Value) (f : Nat), w.heap[g]? = some (.cells cs E (f, f + 1)) ∧ l.length ≤ f ∧ ∀ (j : Nat) (c : UInt8), l[j]? = some c → cs[j]? = some (Value.int .u8 (c.toNat : Int))
theorem Made.cell {w : World} {g : Nat} {E : TypeId} {l : List UInt8} (h : Made w g E l) (j : Nat) (c : UInt8) (hj : l[j]? = some c) : w.cell? ⟨g, j, none⟩ = some (.int .u8 (c.toNat : Int)) := by
  obtain ⟨cs, f, h1, _, h3⟩ := h
  simp [World.cell?, h1, h3 j c hj]
theorem Made.free {w : World} {g : Nat} {E : TypeId} {l : List UInt8} (h : Made w g E l) (j : Nat) (hj : j < l.length) : w.frozen? ⟨g, j, none⟩ = false := by
  obtain ⟨cs, f, h1, h2, _⟩ := h
  simp [World.frozen?, h1]
  omega
theorem Made.lt {w : World} {g : Nat} {E : TypeId} {l : List UInt8} (h : Made w g E l) : g < w.heap.size := by
  obtain ⟨cs, f, h1, _⟩ := h
  exact (Array.getElem?_eq_some_iff.1 h1).1
theorem Made.store {w : World} {g : Nat} {E : TypeId} {l : List UInt8} (h : Made w g E l) (j : Nat) (c : UInt8) (x : Int) (hx : x = (c.toNat : Int)) : Made (w.setCell ⟨g, j, none⟩ (.int .u8 x)) g E (l.set j c) := by
  subst hx
  obtain ⟨cs, f, h1, h2, h3⟩ := h
  refine ⟨cs.setIfInBounds j (.int .u8 (c.toNat : Int)), f, ?_, by simpa using h2, fun i d hd => ?_⟩
  · obtain ⟨hlt, hk⟩ := Array.getElem?_eq_some_iff.1 h1
    show (w.heap.modify g _)[g]? = _
    rw [Array.getElem?_eq_getElem (by rw [Array.size_modify]; exact hlt), Array.getElem_modify_self, hk]
    rfl
  · rw [List.getElem?_set] at hd
    by_cases e : j = i
    · subst e
      rw [if_pos rfl] at hd
      split at hd
      · rename_i hj
        have := h3 j _ (List.getElem?_eq_getElem hj)
        have hjc := (Array.getElem?_eq_some_iff.1 this).1
        simp only [Option.some.injEq] at hd
        subst hd
        rw [Array.getElem?_setIfInBounds_self_of_lt hjc]
      · cases hd
    · rw [if_neg e] at hd
      rw [Array.getElem?_setIfInBounds_ne e]
      exact h3 i d hd
theorem Made.same {w w' : World} {g : Nat} {E : TypeId} {l : List UInt8} (h : Made w g E l) (he : w'.heap[g]? = w.heap[g]?) : Made w' g E l := by
  obtain ⟨cs, f, h1, h2, h3⟩ := h
  exact ⟨cs, f, he.trans h1, h2, h3⟩
theorem Made.reads {w : World} {g : Nat} {E : TypeId} {l : List UInt8} (h : Made w g E l) (cap : Nat) (h1 : l.length ≤ cap) (h2 : cap ≤ maxLen) : Reads w (.slice (some ⟨g, 0, none⟩) l.length cap) l := by
  refine ⟨_, cap, rfl, h1, h2, (fun h => by cases h), fun x hx j u hu => ?_⟩
  cases hx
  simp only [cellsOf, List.getElem?_map] at hu
  cases hc : l[j]? with
  | none => rw [hc] at hu; cases hu
  | some c =>
    rw [hc] at hu
    cases hu
    rw [Addr.add_lit, Nat.zero_add]
    exact h.cell j c hc
theorem It.store {B : Nat} {w w' : World} {k : Nat} {s : ByteArray} {p : Nat} (h : It B w w' k s p) (g j : Nat) (v : Value) (hg : B ≤ g) (hk : g ≠ k) : It B w (w'.setCell ⟨g, j, none⟩ v) k s p :=
  ⟨(Below.heap_setCell _ _ _ k (by simpa using fun e => hk e.symm)).trans h.iter,
    ⟨h.below.os, h.below.tape, h.below.output, by show w.heap.size ≤ (w'.heap.modify g _).size; rw [Array.size_modify]; exact h.below.size, fun i hi => (Below.heap_setCell _ _ _ i (by simp; omega)).trans (h.below.block i hi)⟩, h.base⟩

namespace Rn

def badFrom (s : ByteArray) : Nat → Nat → Int
  | 0, _ => -1
  | b + 1, i => if i < s.size then (if isBad s i then (i : Int) else badFrom s b (i + (Utf8.decode s i).2)) else -1
def badAt (s : ByteArray) (i : Nat) : Int := badFrom s (s.size - i) i
def bad (s : ByteArray) : Int := badFrom s s.size 0

theorem badFrom_any (s : ByteArray) : ∀ (b b' i : Nat), s.size - i ≤ b → s.size - i ≤ b' → badFrom s b i = badFrom s b' i := by
  intro b
  induction b with
  | zero =>
    intro b' i h h'
    cases b' with
    | zero => rfl
    | succ b' => simp only [badFrom]; rw [if_neg (by omega)]
  | succ b ih =>
    intro b' i h h'
    cases b' with
    | zero => simp only [badFrom]; rw [if_neg (by omega)]
    | succ b' =>
      simp only [badFrom]
      have := width_pos s i
      rw [ih b' (i + (Utf8.decode s i).2) (by omega) (by omega)]
theorem badAt_eq (s : ByteArray) (i : Nat) (h : i < s.size) : badAt s i = if isBad s i then (i : Int) else badAt s (i + (Utf8.decode s i).2) := by
  unfold badAt
  obtain ⟨b, hb⟩ : ∃ b, s.size - i = b + 1 := ⟨s.size - i - 1, by omega⟩
  have := width_pos s i
  rw [hb]
  simp only [badFrom]
  rw [if_pos h, badFrom_any s b (s.size - (i + (Utf8.decode s i).2)) _ (by omega) (by omega)]
theorem badAt_end (s : ByteArray) (i : Nat) (h : ¬ i < s.size) : badAt s i = -1 := by
  unfold badAt; rw [show s.size - i = 0 by omega]; rfl
theorem bad_range (s : ByteArray) : ∀ (b i : Nat), i ≤ s.size → -1 ≤ badFrom s b i ∧ badFrom s b i ≤ (s.size : Int) := by
  intro b
  induction b with
  | zero => intro i _; simp [badFrom]
  | succ b ih =>
    intro i hi
    simp only [badFrom]
    split
    · rename_i h
      split
      · omega
      · exact ih _ (width_le s i h)
    · omega

def allFrom (p : Int → Bool) (s : ByteArray) : Nat → Nat → Bool
  | 0, _ => true
  | b + 1, i => if i < s.size then p ((Utf8.decode s i).1 : Int) && allFrom p s b (i + (Utf8.decode s i).2) else true
def allAt (p : Int → Bool) (s : ByteArray) (i : Nat) : Bool := allFrom p s (s.size - i) i
def all (p : Int → Bool) (s : ByteArray) : Bool := allFrom p s s.size 0
theorem allFrom_any (p : Int → Bool) (s : ByteArray) : ∀ (b b' i : Nat), s.size - i ≤ b → s.size - i ≤ b' → allFrom p s b i = allFrom p s b' i := by
  intro b
  induction b with
  | zero =>
    intro b' i h h'
    cases b' with
    | zero => rfl
    | succ b' => simp only [allFrom]; rw [if_neg (by omega)]
  | succ b ih =>
    intro b' i h h'
    cases b' with
    | zero => simp only [allFrom]; rw [if_neg (by omega)]
    | succ b' =>
      simp only [allFrom]
      have := width_pos s i
      rw [ih b' (i + (Utf8.decode s i).2) (by omega) (by omega)]
theorem allAt_eq (p : Int → Bool) (s : ByteArray) (i : Nat) (h : i < s.size) : allAt p s i = (p ((Utf8.decode s i).1 : Int) && allAt p s (i + (Utf8.decode s i).2)) := by
  unfold allAt
  obtain ⟨b, hb⟩ : ∃ b, s.size - i = b + 1 := ⟨s.size - i - 1, by omega⟩
  have := width_pos s i
  rw [hb]
  simp only [allFrom]
  rw [if_pos h, allFrom_any p s b (s.size - (i + (Utf8.decode s i).2)) _ (by omega) (by omega)]
theorem allAt_end (p : Int → Bool) (s : ByteArray) (i : Nat) (h : ¬ i < s.size) : allAt p s i = true := by
  unfold allAt; rw [show s.size - i = 0 by omega]; rfl

/-- At most n runes on from i: where that leads, and how many there were. -/
def steps (s : ByteArray) : Nat → Nat → Nat × Nat
  | 0, i => (i, 0)
  | n + 1, i => if i < s.size then ((steps s n (i + (Utf8.decode s i).2)).1, (steps s n (i + (Utf8.decode s i).2)).2 + 1) else (i, 0)
theorem steps_succ (s : ByteArray) (n i : Nat) (h : i < s.size) : steps s (n + 1) i = ((steps s n (i + (Utf8.decode s i).2)).1, (steps s n (i + (Utf8.decode s i).2)).2 + 1) := by
  simp only [steps]; rw [if_pos h]
theorem steps_end (s : ByteArray) (n i : Nat) (h : ¬ i < s.size) : steps s n i = (i, 0) := by
  cases n with
  | zero => rfl
  | succ n => simp only [steps]; rw [if_neg h]
theorem steps_le (s : ByteArray) : ∀ (n i : Nat), i ≤ s.size → (steps s n i).1 ≤ s.size ∧ i + (steps s n i).2 ≤ (steps s n i).1 ∧ (steps s n i).2 ≤ n := by
  intro n
  induction n with
  | zero => intro i h; exact ⟨h, Nat.le_refl _, Nat.le_refl _⟩
  | succ n ih =>
    intro i h
    by_cases hi : i < s.size
    · rw [steps_succ s n i hi]
      have h1 := width_le s i hi
      have h2 := width_pos s i
      have := ih _ h1
      exact ⟨this.1, by simp only; omega, by simp only; omega⟩
    · rw [steps_end s (n + 1) i hi]; exact ⟨h, Nat.le_refl _, Nat.zero_le _⟩
theorem steps_any (s : ByteArray) : ∀ (n m i : Nat), s.size - i ≤ n → s.size - i ≤ m → steps s n i = steps s m i := by
  intro n
  induction n with
  | zero => intro m i h _; rw [steps_end s _ i (by omega), steps_end s _ i (by omega)]
  | succ n ih =>
    intro m i h h'
    by_cases hi : i < s.size
    · cases m with
      | zero => omega
      | succ m =>
        have := width_pos s i
        rw [steps_succ s n i hi, steps_succ s m i hi, ih m _ (by omega) (by omega)]
    · rw [steps_end s _ i hi, steps_end s _ i hi]
theorem steps_whole (s : ByteArray) : ∀ (n i : Nat), s.size - i ≤ n → i ≤ s.size → (steps s n i).1 = s.size := by
  intro n
  induction n with
  | zero => intro i h hi; rw [steps_end s _ i (by omega)]; show i = _; omega
  | succ n ih =>
    intro i h hi
    by_cases hlt : i < s.size
    · have := width_pos s i
      rw [steps_succ s n i hlt]
      exact ih _ (by omega) (width_le s i hlt)
    · rw [steps_end s _ i hlt]; show i = _; omega
def count (s : ByteArray) : Nat := (steps s s.size 0).2
def cut (s : ByteArray) (n : Int) : ByteArray := s.extract 0 (steps s n.toNat 0).1

/-- A byte with small letters. -/
def lowB (c : UInt8) : UInt8 := if 65 ≤ c.toNat ∧ c.toNat ≤ 90 then UInt8.ofNat (c.toNat + 32) else c
def lowTo (l : List UInt8) (p : Nat) : List UInt8 := (l.take p).map lowB ++ l.drop p
theorem lowTo_len (l : List UInt8) (p : Nat) : (lowTo l p).length = l.length := by simp [lowTo]; omega
theorem lowTo_at (l : List UInt8) (p j : Nat) : (lowTo l p)[j]? = (l[j]?).map (fun c => if j < p then lowB c else c) := by
  unfold lowTo
  by_cases h : j < p
  · by_cases hl : j < l.length
    · rw [List.getElem?_append_left (by simp; omega)]
      simp [h]
    · rw [List.getElem?_eq_none (by simp; omega), List.getElem?_eq_none (by omega)]; rfl
  · by_cases hl : j < l.length
    · rw [List.getElem?_append_right (by simp; omega)]
      simp only [List.length_map, List.length_take, List.getElem?_drop]
      rw [show p + (j - min p l.length) = j by omega]
      simp [h]
    · rw [List.getElem?_eq_none (by simp; omega), List.getElem?_eq_none (by omega)]; rfl
theorem lowTo_skip (l : List UInt8) (p q : Nat) (hpq : p ≤ q) (h : ∀ j, p ≤ j → j < q → ∀ c, l[j]? = some c → lowB c = c) : lowTo l q = lowTo l p := by
  apply List.ext_getElem?
  intro j
  rw [lowTo_at, lowTo_at]
  cases hc : l[j]? with
  | none => rfl
  | some c =>
    simp only [Option.map_some, Option.some.injEq]
    by_cases h1 : j < p
    · rw [if_pos h1, if_pos (by omega)]
    · by_cases h2 : j < q
      · rw [if_pos h2, if_neg h1]; exact h j (by omega) h2 c hc
      · rw [if_neg h1, if_neg h2]
theorem lowTo_set (l : List UInt8) (p : Nat) (c : UInt8) (h : l[p]? = some c) : (lowTo l p).set p (lowB c) = lowTo l (p + 1) := by
  apply List.ext_getElem?
  intro j
  rw [lowTo_at, List.getElem?_set, lowTo_at]
  have hp : p < l.length := (List.getElem?_eq_some_iff.1 h).1
  by_cases e : p = j
  · subst e
    rw [if_pos rfl, if_pos (by rw [lowTo_len]; exact hp), h]
    simp
  · rw [if_neg e]
    cases hc : l[j]? with
    | none => rfl
    | some d =>
      simp only [Option.map_some, Option.some.injEq]
      by_cases h1 : j < p
      · rw [if_pos h1, if_pos (by omega)]
      · rw [if_neg h1, if_neg (by omega)]
theorem lowTo_zero (l : List UInt8) : lowTo l 0 = l := by simp [lowTo]
theorem lowTo_all (l : List UInt8) (p : Nat) (h : l.length ≤ p) : lowTo l p = l.map lowB := by
  unfold lowTo; rw [List.take_of_length_le h, List.drop_eq_nil_of_le h, List.append_nil]
def lower (s : List UInt8) : List UInt8 := s.map lowB
theorem lowB_nat (c : UInt8) : (lowB c).toNat = if 65 ≤ c.toNat ∧ c.toNat ≤ 90 then c.toNat + 32 else c.toNat := by
  unfold lowB
  split
  · rw [UInt8.toNat_ofNat']; omega
  · rfl
theorem lowB_twice (c : UInt8) : lowB (lowB c) = lowB c := by
  have h := lowB_nat c
  apply UInt8.toNat_inj.1
  rw [lowB_nat (lowB c), if_neg]
  intro hc
  split at h <;> omega
theorem lower_twice (s : List UInt8) : lower (lower s) = lower s := by
  unfold lower; rw [List.map_map]; exact List.map_congr_left fun c _ => lowB_twice c
theorem lowB_high (c : UInt8) (h : ¬ (65 ≤ c.toNat ∧ c.toNat ≤ 90)) : lowB c = c := by unfold lowB; rw [if_neg h]

end Rn
end Go.Proofs.YtammfmmpldahhaaGreat


namespace Go.Proofs.YtammfmmpldahhaaGreat
open Go.RowKit

set_option maxRecDepth 4000 in
set_option maxHeartbeats 800000 in
theorem allPlain_any (s : ByteArray) (w : World) (hs : s.size ≤ 140737488355328) :
    Calls Tryz.prog 106 #[.string s, .func (.func 107) #[] #[]] w (Finds w (.bool (Rn.all Rn.plain s))) := by
  obtain ⟨B, hB⟩ : ∃ B, B = w.heap.size := ⟨_, rfl⟩
  have h0 : It w.heap.size w (w.iter s 0) B s 0 := hB ▸ It.new s (Below.refl _ w) (Nat.le_refl _)
  go_enter Tryz.func106, Tryz.ntmps106
  go_wp2
  rw [← hB]
  clear hB
  go_loopw [6] (fun r wr => ∃ q : Nat, It w.heap.size w wr B s q ∧ q ≤ s.size ∧ Hid (Rn.allAt Rn.plain s q = Rn.all Rn.plain s)) (fun _ wr => s.size - stands B wr)
  case atStart => exact ⟨0, h0, by omega, rfl⟩
  case round =>
    obtain ⟨q, hit, hq, HQ⟩ := hrel
    by_cases hlt : q < s.size
    · have hnx := fun ty => next_at (P := Tryz.prog) hit.iter hlt ty
      have hit2 := hit.set (q + (Utf8.decode s q).2)
      have hstep := Rn.allAt_eq Rn.plain s q hlt
      have hw1 := Rn.width_pos s q
      have hw2 := Rn.width_le s q hlt
      obtain ⟨r, hr⟩ : ∃ r, r = (Utf8.decode s q).1 := ⟨_, rfl⟩
      obtain ⟨d, hd⟩ : ∃ d, d = (Utf8.decode s q).2 := ⟨_, rfl⟩
      rw [← hr, ← hd] at hnx
      rw [← hd] at hit2 hw1 hw2
      rw [← hr, ← hd] at hstep
      clear hr hd
      obtain ⟨b, hb⟩ : ∃ b, b = Rn.plain (r : Int) := ⟨_, rfl⟩
      have HS : Hid (Rn.all Rn.plain s = (b && Rn.allAt Rn.plain s (q + d))) := by show _ = _; rw [← HQ.out, hstep, hb]
      have HB := Lib.hid hb
      clear hstep hb
      cases b with
      | false =>
        go_wp2_with fail
        refine (plain_any _ _).mono ?_
        rintro e w1 ⟨rfl, rfl⟩
        rw [← HB.out]
        go_wp2
        go_ret
        exact ⟨ret_bool (by rw [HS.out]; rfl), hit2.below⟩
      | true =>
        go_wp2_with fail
        refine (plain_any _ _).mono ?_
        rintro e w1 ⟨rfl, rfl⟩
        rw [← HB.out]
        go_wp2
        go_roundw
        case rel => exact ⟨q + d, hit2, hw2, by show _ = _; rw [HS.out]; rfl⟩
        case measure => rw [hit2.stands, hit.stands]; omega
    · have hnx := fun ty => next_end (P := Tryz.prog) hit.iter hlt ty
      go_wp2
      go_ret
      exact ⟨ret_bool (by rw [← HQ.out, Rn.allAt_end Rn.plain s q hlt]), hit.below⟩
set_option maxRecDepth 4000 in
set_option maxHeartbeats 800000 in
theorem allShown_any (s : ByteArray) (w : World) (hs : s.size ≤ 140737488355328) :
    Calls Tryz.prog 106 #[.string s, .func (.func 109) #[] #[]] w (Finds w (.bool (Rn.all Rn.shown s))) := by
  obtain ⟨B, hB⟩ : ∃ B, B = w.heap.size := ⟨_, rfl⟩
  have h0 : It w.heap.size w (w.iter s 0) B s 0 := hB ▸ It.new s (Below.refl _ w) (Nat.le_refl _)
  go_enter Tryz.func106, Tryz.ntmps106
  go_wp2
  rw [← hB]
  clear hB
  go_loopw [6] (fun r wr => ∃ q : Nat, It w.heap.size w wr B s q ∧ q ≤ s.size ∧ Hid (Rn.allAt Rn.shown s q = Rn.all Rn.shown s)) (fun _ wr => s.size - stands B wr)
  case atStart => exact ⟨0, h0, by omega, rfl⟩
  case round =>
    obtain ⟨q, hit, hq, HQ⟩ := hrel
    by_cases hlt : q < s.size
    · have hnx := fun ty => next_at (P := Tryz.prog) hit.iter hlt ty
      have hit2 := hit.set (q + (Utf8.decode s q).2)
      have hstep := Rn.allAt_eq Rn.shown s q hlt
      have hw1 := Rn.width_pos s q
      have hw2 := Rn.width_le s q hlt
      obtain ⟨r, hr⟩ : ∃ r, r = (Utf8.decode s q).1 := ⟨_, rfl⟩
      obtain ⟨d, hd⟩ : ∃ d, d = (Utf8.decode s q).2 := ⟨_, rfl⟩
      rw [← hr, ← hd] at hnx
      rw [← hd] at hit2 hw1 hw2
      rw [← hr, ← hd] at hstep
      clear hr hd
      obtain ⟨b, hb⟩ : ∃ b, b = Rn.shown (r : Int) := ⟨_, rfl⟩
      have HS : Hid (Rn.all Rn.shown s = (b && Rn.allAt Rn.shown s (q + d))) := by show _ = _; rw [← HQ.out, hstep, hb]
      have HB := Lib.hid hb
      clear hstep hb
      cases b with
      | false =>
        go_wp2_with fail
        refine (shown_any _ _).mono ?_
        rintro e w1 ⟨rfl, rfl⟩
        rw [← HB.out]
        go_wp2
        go_ret
        exact ⟨ret_bool (by rw [HS.out]; rfl), hit2.below⟩
      | true =>
        go_wp2_with fail
        refine (shown_any _ _).mono ?_
        rintro e w1 ⟨rfl, rfl⟩
        rw [← HB.out]
        go_wp2
        go_roundw
        case rel => exact ⟨q + d, hit2, hw2, by show _ = _; rw [HS.out]; rfl⟩
        case measure => rw [hit2.stands, hit.stands]; omega
    · have hnx := fun ty => next_end (P := Tryz.prog) hit.iter hlt ty
      go_wp2
      go_ret
      exact ⟨ret_bool (by rw [← HQ.out, Rn.allAt_end Rn.shown s q hlt]), hit.below⟩

theorem Rn.count_step (s : ByteArray) (q : Nat) (h : q < s.size) : (Rn.steps s (s.size - q) q).2 = (Rn.steps s (s.size - (q + (Utf8.decode s q).2)) (q + (Utf8.decode s q).2)).2 + 1 := by
  obtain ⟨m, hm⟩ : ∃ m, s.size - q = m + 1 := ⟨s.size - q - 1, by omega⟩
  have := Rn.width_pos s q
  rw [hm, Rn.steps_succ s m q h, Rn.steps_any s m (s.size - (q + (Utf8.decode s q).2)) _ (by omega) (by omega)]

theorem Rn.extract_all (s : ByteArray) : s.extract 0 s.size = s := by
  apply ByteArray.ext
  simp

set_option maxRecDepth 4000 in
set_option maxHeartbeats 800000 in
theorem bad_any (s : ByteArray) (w : World) (hs : s.size ≤ 140737488355328) :
    Calls Tryz.prog 113 #[.string s] w (Finds w (.int .i64 (Rn.bad s))) := by
  obtain ⟨B, hB⟩ : ∃ B, B = w.heap.size := ⟨_, rfl⟩
  have h0 : It w.heap.size w (w.iter s 0) B s 0 := hB ▸ It.new s (Below.refl _ w) (Nat.le_refl _)
  go_enter Tryz.func113, Tryz.ntmps113
  go_wp2
  rw [← hB]
  clear hB
  go_loopw [3, 4] (fun _ _ wr => ∃ q : Nat, It w.heap.size w wr B s q ∧ q ≤ s.size ∧ Hid (Rn.badAt s q = Rn.bad s)) (fun _ _ wr => s.size - stands B wr)
  case atStart => exact ⟨0, h0, by omega, rfl⟩
  case round =>
    obtain ⟨q, hit, hq, HQ⟩ := hrel
    by_cases hlt : q < s.size
    · have hnx := fun ty => next_at (P := Tryz.prog) hit.iter hlt ty
      have hit2 := hit.set (q + (Utf8.decode s q).2)
      have hw1 := Rn.width_pos s q
      have hw2 := Rn.width_le s q hlt
      have hst := Rn.badAt_eq s q hlt
      by_cases hr : (Utf8.decode s q).1 = 65533
      · have hl := Rn.lost_three s q hr hlt
        rw [← Rn.pre_three s q hq] at hl
        rw [hr] at hnx
        obtain ⟨d, hd⟩ : ∃ d, d = (Utf8.decode s q).2 := ⟨_, rfl⟩
        rw [← hd] at hnx hit2 hw1 hw2 hst
        clear hd hr
        obtain ⟨b, hb⟩ : ∃ b, b = Rn.pre (s.extract q s.size) Rn.three := ⟨_, rfl⟩
        rw [← hb] at hl
        rw [hl] at hst
        clear hl
        have HB := Lib.hid hb
        have HS := Lib.hid hst
        clear hb hst
        cases b with
        | true =>
          go_wp2_with fail
          refine (prefix_any _ _ _).mono ?_
          rintro e w1 ⟨rfl, rfl⟩
          rw [show Rn.pre (s.extract q s.size) ⟨#[239, 191, 189]⟩ = true from HB.out.symm]
          go_wp2
          go_roundw
          case rel => exact ⟨q + d, hit2, hw2, by show _ = _; rw [← HQ.out, HS.out]; rfl⟩
          case measure => rw [hit2.stands, hit.stands]; omega
        | false =>
          go_wp2_with fail
          refine (prefix_any _ _ _).mono ?_
          rintro e w1 ⟨rfl, rfl⟩
          rw [show Rn.pre (s.extract q s.size) ⟨#[239, 191, 189]⟩ = false from HB.out.symm]
          go_wp2
          go_ret
          exact ⟨ret_int (by rw [← HQ.out, HS.out]; rfl), hit2.below⟩
      · have hb : Rn.isBad s q = false := by
          unfold Rn.isBad
          cases he : (Utf8.decode s q == (65533, 1)) with
          | false => rfl
          | true => simp at he; exact absurd (by rw [he]) hr
        have hne : (((Utf8.decode s q).1 : Int) == 65533) = false := by simp; omega
        obtain ⟨r, hr'⟩ : ∃ r, r = (Utf8.decode s q).1 := ⟨_, rfl⟩
        obtain ⟨d, hd⟩ : ∃ d, d = (Utf8.decode s q).2 := ⟨_, rfl⟩
        rw [← hd] at hnx hit2 hw1 hw2 hst
        rw [← hr'] at hnx hne
        rw [hb] at hst
        clear hd hr hr' hb
        have HS := Lib.hid hst
        clear hst
        go_wp2
        go_roundw
        case rel => exact ⟨q + d, hit2, hw2, by show _ = _; rw [← HQ.out, HS.out]; rfl⟩
        case measure => rw [hit2.stands, hit.stands]; omega
    · have hnx := fun ty => next_end (P := Tryz.prog) hit.iter hlt ty
      go_wp2
      go_ret
      exact ⟨ret_int (by rw [← HQ.out, Rn.badAt_end s q hlt]), hit.below⟩

theorem Rn.badAt_zero (s : ByteArray) : Rn.badAt s 0 = Rn.bad s := rfl

theorem whole_any (s : ByteArray) (w : World) (hs : s.size ≤ 140737488355328) :
    Calls Tryz.prog 108 #[.string s] w (Finds w (.bool (decide (Rn.bad s < 0)))) := by
  have hb := Rn.bad_range s s.size 0 (Nat.zero_le _)
  have hb1 : -1 ≤ Rn.bad s := hb.1
  have hb2 : Rn.bad s ≤ (s.size : Int) := hb.2
  clear hb
  go_enter Tryz.func108, Tryz.ntmps108
  go_wp2_with fail
  refine (bad_any _ _ hs).mono ?_
  rintro e w1 ⟨rfl, hb⟩
  go_wp2
  go_ret
  exact ⟨rfl, hb⟩

namespace Rn
def key (s : ByteArray) : Bool := decide (0 < s.size) && decide (s.size ≤ 24) && all plain s
def val (s : ByteArray) : Bool := decide (s.size ≤ 48) && decide (bad s < 0) && all shown s
end Rn

set_option maxRecDepth 4000 in
set_option maxHeartbeats 800000 in
theorem key_any (s : ByteArray) (w : World) (hs : s.size ≤ 140737488355328) :
    Calls Tryz.prog 99 #[.string s] w (Finds w (.bool (Rn.key s))) := by
  by_cases h0 : 0 < s.size
  · by_cases h1 : s.size ≤ 24
    · have e : Hid (Rn.key s = Rn.all Rn.plain s) := by show _ = _; simp [Rn.key, h0, h1]
      go_enter Tryz.func99, Tryz.ntmps99
      go_wp2_with fail
      refine (allPlain_any _ _ hs).mono ?_
      rintro e w1 ⟨rfl, hb⟩
      go_wp2
      go_ret
      refine ⟨ret_bool ?_, hb⟩
      rw [e.out]
    · have e : Hid (Rn.key s = false) := by show _ = _; simp [Rn.key, h1]
      go_enter Tryz.func99, Tryz.ntmps99
      go_wp2
      go_ret
      exact ⟨ret_bool (by rw [e.out]), Below.refl _ _⟩
  · have e : Hid (Rn.key s = false) := by show _ = _; simp [Rn.key, h0]
    go_enter Tryz.func99, Tryz.ntmps99
    go_wp2
    go_ret
    exact ⟨ret_bool (by rw [e.out]), Below.refl _ _⟩

set_option maxRecDepth 4000 in
set_option maxHeartbeats 800000 in
theorem val_any (s : ByteArray) (w : World) (hs : s.size ≤ 140737488355328) :
    Calls Tryz.prog 100 #[.string s] w (Finds w (.bool (Rn.val s))) := by
  by_cases h1 : s.size ≤ 48
  · obtain ⟨b, hb⟩ : ∃ b, b = decide (Rn.bad s < 0) := ⟨_, rfl⟩
    have e : Hid (Rn.val s = (b && Rn.all Rn.shown s)) := by show _ = _; simp [Rn.val, h1, hb]
    have HB := Lib.hid hb; clear hb
    cases b with
    | true =>
      go_enter Tryz.func100, Tryz.ntmps100
      go_wp2_with fail
      refine (whole_any _ _ hs).mono ?_
      rintro e w1 ⟨rfl, hb⟩
      rw [← HB.out]
      go_wp2_with fail
      refine (allShown_any _ _ hs).mono ?_
      rintro e w2 ⟨rfl, hb2⟩
      go_wp2
      go_ret
      refine ⟨ret_bool ?_, on hb hb2⟩
      rw [e.out]; rfl
    | false =>
      go_enter Tryz.func100, Tryz.ntmps100
      go_wp2_with fail
      refine (whole_any _ _ hs).mono ?_
      rintro e w1 ⟨rfl, hb⟩
      rw [← HB.out]
      go_wp2
      go_ret
      refine ⟨ret_bool ?_, hb⟩
      rw [e.out]; rfl
  · have e : Hid (Rn.val s = false) := by show _ = _; simp [Rn.val, h1]
    go_enter Tryz.func100, Tryz.ntmps100
    go_wp2
    go_ret
    exact ⟨ret_bool (by rw [e.out]), Below.refl _ _⟩
end Go.Proofs.YtammfmmpldahhaaGreat


namespace Go.Proofs.YtammfmmpldahhaaGreat
open Go.RowKit

/-- []byte(s), to be stored into. -/
theorem made_of (l : List UInt8) (w : World) (hs : l.length ≤ 140737488355328) : ∃ (C : Nat) (cs : Array Value) (fr : Nat × Nat),
    (convert 9 28 (.string ⟨l.toArray⟩)).run Tryz.prog w = .ok (.slice (some ⟨w.heap.size, 0, none⟩) l.length C) (w.drew.alloc (.cells cs 5 fr)) ∧
    Made (w.drew.alloc (.cells cs 5 fr)) w.heap.size 5 l ∧ l.length ≤ C ∧ C ≤ 9223372036854775807 := by
  have h := run_bytes_of_string (P := Tryz.prog) w _ _ _ ⟨l.toArray⟩ Tryz.underlying9 Tryz.underlying28 Tryz.underlying5
  have hsz : (ByteArray.mk l.toArray).size = l.length := by simp [ByteArray.size]
  rw [hsz] at h
  have h1 : l.length ≤ grownCap w l.length 0 5 := grownCap_ge w _ _ _
  have h2 : grownCap w l.length 0 5 ≤ maxLen := grownCap_le_maxLen w _ _ _ (by unfold maxLen; omega)
  refine ⟨_, _, _, h, ⟨_, _, heap_alloc_new w.drew _, ?_, fun j c hj => ?_⟩, h1, by unfold maxLen at h2; exact h2⟩
  · simp [bytesRow]
  · have hlt : j < l.length := (List.getElem?_eq_some_iff.1 hj).1
    have hb := bytesRow_at ⟨l.toArray⟩ (grownCap w l.length 0 5) j (by simpa using hlt)
    rw [hb]
    have := (List.getElem?_eq_some_iff.1 hj).2
    simp [this]

theorem Rn.lower_skip (l : List UInt8) (s : ByteArray) (q : Nat) (c : UInt8) (hl : s.data.toList = l) (hlt : q < s.size) (hc : c = s.get! q) (hup : ¬ (65 ≤ c.toNat ∧ c.toNat ≤ 90)) :
    Rn.upper ((Utf8.decode s q).1 : Int) = false ∧ Rn.lowTo l (q + (Utf8.decode s q).2) = Rn.lowTo l q := by
  have hcb : Rn.byteAt s q = c.toNat := by rw [hc]; rfl
  have hsz : s.size = l.length := by rw [← hl]; rfl
  have hat : ∀ j d, l[j]? = some d → d = s.get! j := by
    intro j d hd
    have hj : j < l.length := (List.getElem?_eq_some_iff.1 hd).1
    have := Rn.list_at s j (by omega)
    rw [hl, hd] at this
    exact Option.some.inj this
  by_cases h128 : c.toNat < 128
  · have hdec := Rn.low_one s q (by omega)
    rw [hdec]
    refine ⟨by unfold Rn.upper Rn.within; simp; omega, Rn.lowTo_skip l q _ (by omega) fun j h1 h2 d hd => ?_⟩
    obtain rfl : j = q := by simp only at h2; omega
    rw [hat j d hd, ← hc]
    exact Rn.lowB_high c hup
  · have hh := Rn.high_high s q (by omega)
    refine ⟨by unfold Rn.upper Rn.within; simp; omega, Rn.lowTo_skip l q _ (by omega) fun j h1 h2 d hd => ?_⟩
    have hd2 : d.toNat = Rn.byteAt s j := by rw [hat j d hd]; rfl
    by_cases e : j = q
    · subst e
      exact Rn.lowB_high d (by omega)
    · have := (Rn.inner_high s q j (by omega) h2).2
      exact Rn.lowB_high d (by omega)

end Go.Proofs.YtammfmmpldahhaaGreat


namespace Go.Proofs.YtammfmmpldahhaaGreat
open Go.RowKit

namespace Rn
theorem isBad_rune (s : ByteArray) (i : Nat) (h : isBad s i = true) : (Utf8.decode s i).1 = 65533 := by
  unfold isBad at h; simp at h; rw [h]
theorem bad_not_plain (s : ByteArray) (i : Nat) (h : isBad s i = true) : plain ((Utf8.decode s i).1 : Int) = false := by
  rw [isBad_rune s i h]; decide
/-- What a value's bytes may be. -/
theorem shown_bytes (s : ByteArray) : ∀ (b i : Nat), s.size - i ≤ b → (allFrom shown s b i = true ↔ ∀ j, i ≤ j → j < s.size → 32 ≤ byteAt s j ∧ byteAt s j ≠ 127) := by
  intro b
  induction b with
  | zero => intro i h; simp only [allFrom, true_iff]; intro j h1 h2; omega
  | succ b ih =>
    intro i h
    simp only [allFrom]
    by_cases hi : i < s.size
    · rw [if_pos hi, Bool.and_eq_true]
      have hw := width_pos s i
      have hw2 := width_le s i hi
      rw [ih (i + (Utf8.decode s i).2) (by omega)]
      by_cases h128 : byteAt s i < 128
      · rw [low_one s i h128]
        constructor
        · rintro ⟨h1, h2⟩ j hj1 hj2
          by_cases e : j = i
          · subst e
            simp [shown] at h1; omega
          · exact h2 j (by simp only; omega) hj2
        · intro h1
          have := h1 i (Nat.le_refl _) hi
          exact ⟨by simp [shown]; omega, fun j hj1 hj2 => h1 j (by simp only at hj1; omega) hj2⟩
      · have hh := high_high s i (by omega)
        constructor
        · rintro ⟨h1, h2⟩ j hj1 hj2
          by_cases e : j < i + (Utf8.decode s i).2
          · by_cases e2 : j = i
            · subst e2; omega
            · have := (inner_high s i j (by omega) e).2; omega
          · exact h2 j (by omega) hj2
        · intro h1
          exact ⟨by simp [shown]; omega, fun j hj1 hj2 => h1 j (by omega) hj2⟩
    · rw [if_neg hi]; simp only [true_iff]; intro j h1 h2; omega
theorem all_shown (s : ByteArray) : all shown s = true ↔ ∀ j, j < s.size → 32 ≤ byteAt s j ∧ byteAt s j ≠ 127 := by
  unfold all
  rw [shown_bytes s s.size 0 (by omega)]
  exact ⟨fun h j hj => h j (Nat.zero_le _) hj, fun h j _ hj => h j hj⟩
end Rn

set_option maxRecDepth 4000 in
set_option maxHeartbeats 800000 in
theorem refBad_any (s : ByteArray) (w : World) (hs : s.size ≤ 140737488355328) :
    Calls Tryz.prog 81 #[.string s] w (Says w (.int .i64 (Rn.bad s))) := by
  go_enter Tryz.func81, Tryz.ntmps81
  go_wp2
  go_loop [3, 4] (fun i _ => ∃ q : Nat, i = .int .i64 (q : Int) ∧ q ≤ s.size ∧ Hid (Rn.badAt s q = Rn.bad s)) (fun i _ => s.size - (intOf i).toNat)
  case atStart => exact ⟨0, rfl, by omega, rfl⟩
  case round =>
    obtain ⟨q, rfl, hq, HQ⟩ := hrel
    by_cases hlt : q < s.size
    · have hw1 := Rn.width_pos s q
      have hw2 := Rn.width_le s q hlt
      have hst := Rn.badAt_eq s q hlt
      have hf := Rn.size_fst s q
      cases hb : Rn.isBad s q with
      | true =>
        rw [hb] at hst hf
        have HS := Lib.hid hst
        have HF := Lib.hid hf
        clear hst hf hb
        go_wp2_with fail
        refine (refSize_any _ _ _ hlt hs).mono ?_
        rintro e w1 ⟨rfl, rfl⟩
        rw [HF.out]
        go_wp2
        go_ret
        exact ⟨ret_int (by rw [← HQ.out, HS.out]; rfl), rfl⟩
      | false =>
        rw [hb] at hst hf
        have HS := Lib.hid hst
        have HF := Lib.hid hf
        clear hst hf hb
        go_wp2_with fail
        refine (refSize_any _ _ _ hlt hs).mono ?_
        rintro e w1 ⟨rfl, rfl⟩
        rw [HF.out]
        simp only [Bool.false_eq_true, if_false]
        obtain ⟨d, hd⟩ : ∃ d, d = (Utf8.decode s q).2 := ⟨_, rfl⟩
        rw [← hd] at hw1 hw2 HS ⊢
        clear hd HF
        go_wp2
        go_round
        case rel => exact ⟨q + d, by go_num, hw2, by show _ = _; rw [← HQ.out, HS.out]; rfl⟩
        case measure => simp [intOf]; omega
    · go_wp2
      go_ret
      exact ⟨ret_int (by rw [← HQ.out, Rn.badAt_end s q hlt]), rfl⟩

set_option maxRecDepth 4000 in
set_option maxHeartbeats 800000 in
theorem refKey_any (s : ByteArray) (w : World) (hs : s.size ≤ 140737488355328) :
    Calls Tryz.prog 50 #[.string s] w (Says w (.bool (Rn.key s))) := by
  by_cases h0 : 0 < s.size
  · by_cases h1 : s.size ≤ 24
    · have E : Hid (Rn.key s = Rn.allAt Rn.plain s 0) := by show _ = _; simp [Rn.key, h0, h1]; rfl
      go_enter Tryz.func50, Tryz.ntmps50
      go_wp2
      go_loop [3, 4, 5] (fun i _ _ => ∃ q : Nat, i = .int .i64 (q : Int) ∧ q ≤ s.size ∧ Hid (Rn.allAt Rn.plain s q = Rn.key s)) (fun i _ _ => s.size - (intOf i).toNat)
      case atStart => exact ⟨0, rfl, by omega, E.out.symm⟩
      case round =>
        obtain ⟨q, rfl, hq, HQ⟩ := hrel
        by_cases hlt : q < s.size
        · have hw1 := Rn.width_pos s q
          have hw2 := Rn.width_le s q hlt
          have hst := Rn.allAt_eq Rn.plain s q hlt
          have hf := Rn.size_fst s q
          cases hb : Rn.isBad s q with
          | true =>
            have hnp := Rn.bad_not_plain s q hb
            rw [hnp] at hst
            rw [hb] at hf
            have HS := Lib.hid hst
            have HF := Lib.hid hf
            clear hst hf hb hnp
            go_wp2_with fail
            refine (refSize_any _ _ _ hlt hs).mono ?_
            rintro e w1 ⟨rfl, rfl⟩
            rw [HF.out]
            go_wp2
            go_ret
            exact ⟨ret_bool (by rw [← HQ.out, HS.out]; rfl), rfl⟩
          | false =>
            have hsn := Rn.size_snd s q hb
            rw [hb] at hf
            have HF := Lib.hid hf
            have HN := Lib.hid hsn
            obtain ⟨d, hd⟩ : ∃ d, d = (Utf8.decode s q).2 := ⟨_, rfl⟩
            obtain ⟨r, hr⟩ : ∃ r, r = (Utf8.decode s q).1 := ⟨_, rfl⟩
            rw [← hd] at hw1 hw2 hst HF
            rw [← hr] at hst HN
            clear hf hb hsn hd hr
            obtain ⟨b, hb⟩ : ∃ b, b = Rn.plain (r : Int) := ⟨_, rfl⟩
            rw [← hb] at hst
            have HS := Lib.hid hst
            have HB := Lib.hid hb
            clear hst hb
            cases b with
            | true =>
              go_wp2_with fail
              refine (refSize_any _ _ _ hlt hs).mono ?_
              rintro e w1 ⟨rfl, rfl⟩
              rw [HF.out, HN.out]
              simp only [Bool.false_eq_true, if_false]
              go_wp2_with fail
              refine (refPlain_any _ _).mono ?_
              rintro e w1 ⟨rfl, rfl⟩
              rw [← HB.out]
              go_wp2
              go_round
              case rel => exact ⟨q + d, by go_num, hw2, by show _ = _; rw [← HQ.out, HS.out]; rfl⟩
              case measure => simp [intOf]; omega
            | false =>
              go_wp2_with fail
              refine (refSize_any _ _ _ hlt hs).mono ?_
              rintro e w1 ⟨rfl, rfl⟩
              rw [HF.out, HN.out]
              simp only [Bool.false_eq_true, if_false]
              go_wp2_with fail
              refine (refPlain_any _ _).mono ?_
              rintro e w1 ⟨rfl, rfl⟩
              rw [← HB.out]
              go_wp2
              go_ret
              exact ⟨ret_bool (by rw [← HQ.out, HS.out]; rfl), rfl⟩
        · go_wp2
          go_ret
          exact ⟨ret_bool (by rw [← HQ.out, Rn.allAt_end _ s q hlt]), rfl⟩
    · have e : Hid (Rn.key s = false) := by show _ = _; simp [Rn.key, h1]
      go_enter Tryz.func50, Tryz.ntmps50
      go_wp2
      go_ret
      exact ⟨ret_bool (by rw [e.out]), rfl⟩
  · have e : Hid (Rn.key s = false) := by show _ = _; simp [Rn.key, h0]
    go_enter Tryz.func50, Tryz.ntmps50
    go_wp2
    go_ret
    exact ⟨ret_bool (by rw [e.out]), rfl⟩

set_option maxRecDepth 4000 in
set_option maxHeartbeats 800000 in
theorem refVal_any (s : ByteArray) (w : World) (hs : s.size ≤ 140737488355328) :
    Calls Tryz.prog 51 #[.string s] w (Says w (.bool (Rn.val s))) := by
  by_cases h1 : s.size ≤ 48
  · by_cases hbad : 0 ≤ Rn.bad s
    · have E : Hid (Rn.val s = false) := by show _ = _; unfold Rn.val; simp; intro _ h; omega
      go_enter Tryz.func51, Tryz.ntmps51
      go_wp2_with fail
      refine (refBad_any _ _ hs).mono ?_
      rintro e w1 ⟨rfl, rfl⟩
      go_wp2
      go_ret
      exact ⟨ret_bool (by rw [E.out]), rfl⟩
    · have E : Hid (Rn.val s = Rn.all Rn.shown s) := by show _ = _; unfold Rn.val; simp [h1]; intro h; omega
      go_enter Tryz.func51, Tryz.ntmps51
      go_wp2_with fail
      refine (refBad_any _ _ hs).mono ?_
      rintro e w1 ⟨rfl, rfl⟩
      go_wp2
      go_loop [3] (fun i => ∃ q : Nat, i = .int .i64 (q : Int) ∧ q ≤ s.size ∧ Hid (∀ j, j < q → 32 ≤ Rn.byteAt s j ∧ Rn.byteAt s j ≠ 127)) (fun i => s.size - (intOf i).toNat)
      case atStart => exact ⟨0, rfl, by omega, fun j hj => by omega⟩
      case round =>
        obtain ⟨q, rfl, hq, HQ⟩ := hrel
        by_cases hlt : q < s.size
        · have hat : ∀ h, (s[q]'h).toNat = Rn.byteAt s q := fun h => Rn.byteAt_get s q h
          have h255 := Rn.byteAt_lt s q
          obtain ⟨x, hx⟩ : ∃ x, x = Rn.byteAt s q := ⟨_, rfl⟩
          rw [← hx] at hat h255
          have HX := Lib.hid hx; clear hx
          by_cases x1 : x < 32
          · have EF : Hid (Rn.all Rn.shown s = false) := by
              show _ = _
              cases h : Rn.all Rn.shown s with
              | false => rfl
              | true => have := (Rn.all_shown s).1 h q hlt; rw [← HX.out] at this; omega
            go_wp2
            go_ret
            exact ⟨ret_bool (by rw [E.out, EF.out]), rfl⟩
          · by_cases x2 : x = 127
            · have EF : Hid (Rn.all Rn.shown s = false) := by
                show _ = _
                cases h : Rn.all Rn.shown s with
                | false => rfl
                | true => have := (Rn.all_shown s).1 h q hlt; rw [← HX.out] at this; omega
              subst x2
              go_wp2
              go_ret
              exact ⟨ret_bool (by rw [E.out, EF.out]), rfl⟩
            · have x3 : ((x : Int) == 127) = false := by simp; omega
              have x4 : ¬ (x : Int) = 127 := by omega
              have HN : Hid (∀ j, j < q + 1 → 32 ≤ Rn.byteAt s j ∧ Rn.byteAt s j ≠ 127) := by
                intro j hj
                by_cases e : j = q
                · subst e; rw [← HX.out]; omega
                · exact HQ.out j (by omega)
              clear x2
              go_wp2
              go_round
              case rel => exact ⟨q + 1, by go_num, by omega, HN.out⟩
              case measure => simp [intOf]; omega
        · have EF : Hid (Rn.all Rn.shown s = true) := by
            show _ = _
            rw [Rn.all_shown]; exact fun j hj => HQ.out j (by omega)
          go_wp2
          go_ret
          exact ⟨ret_bool (by rw [E.out, EF.out]), rfl⟩
  · have e : Hid (Rn.val s = false) := by show _ = _; simp [Rn.val, h1]
    go_enter Tryz.func51, Tryz.ntmps51
    go_wp2
    go_ret
    exact ⟨ret_bool (by rw [e.out]), rfl⟩

theorem info_byte : (Tryz.prog.info? 5).map (fun i => (i.zero, i.size, i.bytes)) = some (some (.int .u8 0), 1, 1) := by kernel_rfl

end Go.Proofs.YtammfmmpldahhaaGreat
