/- Quoted strings, plain: the quoted form of a string, what a string within quotes stands for, as the program and as the document read it. No program is spoken of. -/
import Derived.Test.YtgnjbbedeeiemaaRnPre
import Derived.Lib.RuneBytes
import Derived.Lib.Bytealg
namespace Go.Proofs.Ytgnjbbedeeiemaa.Qt
open Go Rn

def hex (n : Nat) : UInt8 := if n < 10 then UInt8.ofNat (48 + n) else UInt8.ofNat (87 + n)
def esc (c : UInt8) : List UInt8 := [92, 120, hex (c.toNat / 16), hex (c.toNat % 16)]
/-- What stands for the rune (or the lost byte) at i. -/
def piece (s : ByteArray) (i : Nat) : List UInt8 :=
  if (Utf8.decode s i).1 = 34 ∨ (Utf8.decode s i).1 = 92 then [92, s.get! i]
  else if (Utf8.decode s i).1 < 32 ∨ (Utf8.decode s i).1 = 127 ∨ isBad s i = true then esc (s.get! i)
  else (s.data.toList.drop i).take (Utf8.decode s i).2
def bodyFrom (s : ByteArray) : Nat → Nat → List UInt8
  | 0, _ => []
  | b + 1, i => if i < s.size then piece s i ++ bodyFrom s b (i + (Utf8.decode s i).2) else []
def bodyAt (s : ByteArray) (i : Nat) : List UInt8 := bodyFrom s (s.size - i) i
def quote (s : ByteArray) : List UInt8 := 34 :: bodyAt s 0 ++ [34]

theorem bodyFrom_any (s : ByteArray) : ∀ (b b' i : Nat), s.size - i ≤ b → s.size - i ≤ b' → bodyFrom s b i = bodyFrom s b' i := by
  intro b
  induction b with
  | zero =>
    intro b' i h h'
    cases b' with
    | zero => rfl
    | succ b' => simp only [bodyFrom]; rw [if_neg (by omega)]
  | succ b ih =>
    intro b' i h h'
    cases b' with
    | zero => simp only [bodyFrom]; rw [if_neg (by omega)]
    | succ b' =>
      simp only [bodyFrom]
      have := width_pos s i
      rw [ih b' (i + (Utf8.decode s i).2) (by omega) (by omega)]
theorem bodyAt_eq (s : ByteArray) (i : Nat) (h : i < s.size) : bodyAt s i = piece s i ++ bodyAt s (i + (Utf8.decode s i).2) := by
  unfold bodyAt
  obtain ⟨b, hb⟩ : ∃ b, s.size - i = b + 1 := ⟨s.size - i - 1, by omega⟩
  have := width_pos s i
  rw [hb]
  simp only [bodyFrom]
  rw [if_pos h, bodyFrom_any s b (s.size - (i + (Utf8.decode s i).2)) _ (by omega) (by omega)]
theorem bodyAt_end (s : ByteArray) (i : Nat) (h : ¬ i < s.size) : bodyAt s i = [] := by
  unfold bodyAt; rw [show s.size - i = 0 by omega]; rfl
theorem piece_len (s : ByteArray) (i : Nat) : (piece s i).length ≤ 4 := by
  unfold piece
  split
  · simp
  · split
    · simp [esc]
    · have : (Utf8.decode s i).2 ≤ 4 := by rw [decode_eq]; repeat' split
                                           all_goals simp
      simp; omega
theorem bodyFrom_len (s : ByteArray) : ∀ b i, (bodyFrom s b i).length ≤ 4 * b := by
  intro b
  induction b with
  | zero => intro i; simp [bodyFrom]
  | succ b ih =>
    intro i
    simp only [bodyFrom]
    split
    · have := piece_len s i
      have := ih (i + (Utf8.decode s i).2)
      rw [List.length_append]; omega
    · simp
theorem bodyAt_len (s : ByteArray) (i : Nat) : (bodyAt s i).length ≤ 4 * (s.size - i) := bodyFrom_len s _ i
theorem quote_len (s : ByteArray) : (quote s).length ≤ 4 * s.size + 2 := by
  have := bodyAt_len s 0
  unfold quote; simp; omega

/-- The three kinds of a piece. -/
theorem piece_cases (s : ByteArray) (i : Nat) :
    ((byteAt s i = 34 ∨ byteAt s i = 92) ∧ piece s i = [92, s.get! i] ∧ (Utf8.decode s i).2 = 1) ∨
    ((byteAt s i < 32 ∨ byteAt s i = 127 ∨ 128 ≤ byteAt s i) ∧ piece s i = esc (s.get! i) ∧ (Utf8.decode s i).2 = 1) ∨
    (isBad s i = false ∧ (Utf8.decode s i).1 ≠ 34 ∧ (Utf8.decode s i).1 ≠ 92 ∧ piece s i = (s.data.toList.drop i).take (Utf8.decode s i).2 ∧ (byteAt s i < 128 → 32 ≤ byteAt s i ∧ byteAt s i ≠ 34 ∧ byteAt s i ≠ 92)) := by
  unfold piece
  by_cases h0 : byteAt s i < 128
  · have hd := low_one s i h0
    have hb : isBad s i = false := by unfold isBad; rw [hd]; simp; omega
    rw [hd, hb]
    simp only
    by_cases h1 : byteAt s i = 34 ∨ byteAt s i = 92
    · left; rw [if_pos h1]; exact ⟨h1, by simp⟩
    · right
      rw [if_neg h1]
      by_cases h2 : byteAt s i < 32 ∨ byteAt s i = 127
      · left; rw [if_pos (by omega)]; exact ⟨by omega, by simp⟩
      · right; rw [if_neg (by simp; omega)]; exact ⟨by simp, by omega, by omega, by simp, fun _ => by omega⟩
  · have hh := high_high s i (by omega)
    right
    rw [if_neg (by omega)]
    by_cases hb : isBad s i = true
    · left
      rw [if_pos (.inr (.inr hb))]
      refine ⟨by omega, rfl, ?_⟩
      unfold isBad at hb; simp at hb; rw [hb]
    · right
      rw [if_neg (by simp [hb]; omega)]
      exact ⟨by simpa using hb, by omega, by omega, rfl, fun h => absurd h h0⟩

/-- A rune that is none but itself lies in its bytes. -/
theorem dec_lead (s : ByteArray) (i : Nat) (h0 : 128 ≤ byteAt s i) (hb : isBad s i = false) :
    ∃ low c, lead (byteAt s i) (Utf8.decode s i).2 low c ∧ (∀ k, k + 1 < (Utf8.decode s i).2 → contAt s (i + (k + 1)) = true) ∧ low ≤ fv s i c ((Utf8.decode s i).2 - 1) ∧ fv s i c ((Utf8.decode s i).2 - 1) ≤ 1114111 ∧ ¬ (55296 ≤ fv s i c ((Utf8.decode s i).2 - 1) ∧ fv s i c ((Utf8.decode s i).2 - 1) ≤ 57343) ∧ (Utf8.decode s i).1 = fv s i c ((Utf8.decode s i).2 - 1) := by
  have hne : Utf8.decode s i ≠ (65533, 1) := by unfold isBad at hb; simpa using hb
  have main : ∀ n low c, lead (byteAt s i) n low c → ∃ low c, lead (byteAt s i) (Utf8.decode s i).2 low c ∧ (∀ k, k + 1 < (Utf8.decode s i).2 → contAt s (i + (k + 1)) = true) ∧ low ≤ fv s i c ((Utf8.decode s i).2 - 1) ∧ fv s i c ((Utf8.decode s i).2 - 1) ≤ 1114111 ∧ ¬ (55296 ≤ fv s i c ((Utf8.decode s i).2 - 1) ∧ fv s i c ((Utf8.decode s i).2 - 1) ≤ 57343) ∧ (Utf8.decode s i).1 = fv s i c ((Utf8.decode s i).2 - 1) := by
    intro n low c hl
    by_cases hc : ∀ k, k + 1 < n → contAt s (i + (k + 1)) = true
    · have hd := dec_whole s i n low c hl hc
      by_cases hv : low ≤ fv s i c (n - 1) ∧ fv s i c (n - 1) ≤ 1114111 ∧ ¬ (55296 ≤ fv s i c (n - 1) ∧ fv s i c (n - 1) ≤ 57343)
      · rw [if_pos hv] at hd
        rw [hd]
        exact ⟨low, c, hl, hc, hv.1, hv.2.1, hv.2.2, rfl⟩
      · rw [if_neg hv] at hd; exact absurd hd hne
    · obtain ⟨k, hk⟩ := Classical.not_forall.1 hc
      obtain ⟨hk1, hk2⟩ := Classical.not_imp.1 hk
      exact absurd (dec_broken s i n low c k hl hk1 (by simpa using hk2)) hne
  have b1 := byteAt_lt s i
  by_cases g : byteAt s i < 194 ∨ 244 < byteAt s i
  · exact absurd (dec_none s i h0 g) hne
  · by_cases g2 : byteAt s i ≤ 223
    · exact main 2 128 (byteAt s i - 192) (.inl ⟨by omega, by omega, rfl, rfl, rfl⟩)
    · by_cases g3 : byteAt s i ≤ 239
      · exact main 3 2048 (byteAt s i - 224) (.inr (.inl ⟨by omega, by omega, rfl, rfl, rfl⟩))
      · exact main 4 65536 (byteAt s i - 240) (.inr (.inr ⟨by omega, by omega, rfl, rfl, rfl⟩))

/-- A rune's bytes, elsewhere, are the same rune. -/
theorem dec_same (s : ByteArray) (i : Nat) (t : ByteArray) (j : Nat) (hb : isBad s i = false) (h : ∀ k, k < (Utf8.decode s i).2 → j + k < t.size ∧ byteAt t (j + k) = byteAt s (i + k)) : Utf8.decode t j = Utf8.decode s i := by
  have hw := width_pos s i
  have e0 := (h 0 (by omega)).2
  simp only [Nat.add_zero] at e0
  by_cases h0 : byteAt s i < 128
  · rw [low_one s i h0, low_one t j (by omega), e0]
  · obtain ⟨low, c, hl, hc, v1, v2, v3, v4⟩ := dec_lead s i (by omega) hb
    obtain ⟨n, hn⟩ : ∃ n, n = (Utf8.decode s i).2 := ⟨_, rfl⟩
    rw [← hn] at hl hc v1 v2 v3 v4 h
    have hfv : ∀ k, k + 1 ≤ n → fv t j c k = fv s i c k := by
      intro k
      induction k with
      | zero => intro _; rfl
      | succ k ih =>
        intro hk
        simp only [fv]
        rw [ih (by omega), (h (k + 1) (by omega)).2]
    have hct : ∀ k, k + 1 < n → contAt t (j + (k + 1)) = true := by
      intro k hk
      have h1 := h (k + 1) hk
      have h2 := cont_range (hc k hk)
      exact cont_of h1.1 (by omega) (by omega)
    have hn2 : 2 ≤ n := by rcases hl with ⟨_, _, h, _⟩ | ⟨_, _, h, _⟩ | ⟨_, _, h, _⟩ <;> omega
    rw [dec_whole t j n low c (by rw [e0]; exact hl) hct, hfv (n - 1) (by omega), if_pos ⟨v1, v2, v3⟩]
    exact (Prod.ext v4 hn.symm).symm

theorem take_get (s : ByteArray) (i d : Nat) (h : i + d ≤ s.size) : (s.data.toList.drop i).take d = (List.range d).map fun k => s.get! (i + k) := by
  apply List.ext_getElem?
  intro k
  rw [List.getElem?_take, List.getElem?_map]
  by_cases hk : k < d
  · rw [if_pos hk, List.getElem?_drop, list_at s (i + k) (by omega), List.getElem?_range hk]; rfl
  · rw [if_neg hk, List.getElem?_eq_none (by simpa using hk)]; rfl

set_option maxRecDepth 4000 in
/-- The bytes that a rune has are those that are laid for it. -/
theorem enc_piece (s : ByteArray) (i : Nat) (h : i < s.size) (hb : isBad s i = false) : (s.data.toList.drop i).take (Utf8.decode s i).2 = Lib.encodeRune ((Utf8.decode s i).1 : Int) := by
  have hw := width_le s i h
  rw [take_get s i _ hw]
  have key : ∀ (k : Nat) (z : Int), z = (byteAt s (i + k) : Int) → s.get! (i + k) = z.toNat.toUInt8 := by
    intro k z hz
    subst hz
    show _ = UInt8.ofNat _
    apply UInt8.toNat_inj.1
    have := byteAt_lt s (i + k)
    rw [UInt8.toNat_ofNat', Int.toNat_natCast]
    show byteAt s (i + k) = _
    omega
  by_cases h0 : byteAt s i < 128
  · rw [low_one s i h0]
    unfold Lib.encodeRune
    rw [Lib.encodeRuneZ_one (by omega) (by simp only; omega)]
    simp only [List.range_succ, List.range_zero, List.nil_append, List.map_cons, List.map_nil]
    rw [key 0 _ rfl]; rfl
  · obtain ⟨low, c, hl, hc, v1, v2, v3, v4⟩ := dec_lead s i (by omega) hb
    rw [v4]
    unfold Lib.encodeRune
    obtain ⟨n, hn⟩ : ∃ n, n = (Utf8.decode s i).2 := ⟨_, rfl⟩
    rw [← hn] at hl hc v1 v2 v3 ⊢
    rcases hl with ⟨a1, a2, rfl, rfl, rfl⟩ | ⟨a1, a2, rfl, rfl, rfl⟩ | ⟨a1, a2, rfl, rfl, rfl⟩
    · have k1 := cont_range (hc 0 (by omega))
      simp only [fv, Nat.zero_add] at v1 v2 v3 k1 ⊢
      rw [Lib.encodeRuneZ_two (by omega) (by omega)]
      simp only [List.range_succ, List.range_zero, List.nil_append, List.cons_append, List.map_cons, List.map_nil]
      rw [← key 0 _ (by simp only [Nat.add_zero]; omega), ← key 1 _ (by omega)]
    · have k1 := cont_range (hc 0 (by omega))
      have k2 := cont_range (hc 1 (by omega))
      simp only [fv, Nat.zero_add, Nat.reduceAdd] at v1 v2 v3 k1 k2 ⊢
      rw [Lib.encodeRuneZ_three (by omega)]
      simp only [List.range_succ, List.range_zero, List.nil_append, List.cons_append, List.map_cons, List.map_nil]
      rw [← key 0 _ (by simp only [Nat.add_zero]; omega), ← key 1 _ (by omega), ← key 2 _ (by omega)]
    · have k1 := cont_range (hc 0 (by omega))
      have k2 := cont_range (hc 1 (by omega))
      have k3 := cont_range (hc 2 (by omega))
      simp only [fv, Nat.zero_add, Nat.reduceAdd] at v1 v2 v3 k1 k2 k3 ⊢
      rw [Lib.encodeRuneZ_four (by omega) (by omega)]
      simp only [List.range_succ, List.range_zero, List.nil_append, List.cons_append, List.map_cons, List.map_nil]
      rw [← key 0 _ (by simp only [Nat.add_zero]; omega), ← key 1 _ (by omega), ← key 2 _ (by omega), ← key 3 _ (by omega)]
end Go.Proofs.Ytgnjbbedeeiemaa.Qt
