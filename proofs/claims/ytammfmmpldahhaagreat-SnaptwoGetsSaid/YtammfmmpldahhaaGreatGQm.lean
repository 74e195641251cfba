/- Several texts of mine in one: QtMath QtRead QtWords QtSplit. -/
import Derived.Test.YtammfmmpldahhaaGreatGRune
import Derived.Lib.RuneBytes
import Derived.Lib.Bytealg
import Derived.Lib.Join
import Derived.Shelf.Strings.Prefix
namespace Go.Proofs.YtammfmmpldahhaaGreat.Qt
open Go Rn

def hex (n : Nat) : UInt8 := if n < 10 then UInt8.ofNat (48 + n) else UInt8.ofNat (87 + n)
def esc (c : UInt8) : List UInt8 := [92, 120, hex (c.toNat / 16), hex (c.toNat % 16)]
/-- What stands for the rune (or the lost byte) at i. -/
def piece (s : ByteArray) (i : Nat) : List UInt8 :=
  if (Utf8.decode s i).1 = 34 ∨ (Utf8.decode s i).1 = 92 then [92, s.get! i]
  else if (Utf8.decode s i).1 < 32 ∨ (Utf8.decode s i).1 = 127 ∨ isBad s i = true then esc (s.get! i)
  else (s.data.toList.drop i).take (Utf8.decode s i).2
def bodyFrom (s : ByteArray) : Nat → Nat → List UInt8
  | 0, _ => []
  | b + 1, i => if i < s.size then piece s i ++ bodyFrom s b (i + (Utf8.decode s i).2) else []
def bodyAt (s : ByteArray) (i : Nat) : List UInt8 := bodyFrom s (s.size - i) i
def quote (s : ByteArray) : List UInt8 := 34 :: bodyAt s 0 ++ [34]

theorem bodyFrom_any (s : ByteArray) : ∀ (b b' i : Nat), s.size - i ≤ b → s.size - i ≤ b' → bodyFrom s b i = bodyFrom s b' i := by
  intro b
  induction b with
  | zero =>
    intro b' i h h'
    cases b' with
    | zero => rfl
    | succ b' => simp only [bodyFrom]; rw [if_neg (by omega)]
  | succ b ih =>
    intro b' i h h'
    cases b' with
    | zero => simp only [bodyFrom]; rw [if_neg (by omega)]
    | succ b' =>
      simp only [bodyFrom]
      have := width_pos s i
      rw [ih b' (i + (Utf8.decode s i).2) (by omega) (by omega)]
theorem bodyAt_eq (s : ByteArray) (i : Nat) (h : i < s.size) : bodyAt s i = piece s i ++ bodyAt s (i + (Utf8.decode s i).2) := by
  unfold bodyAt
  obtain ⟨b, hb⟩ : ∃ b, s.size - i = b + 1 := ⟨s.size - i - 1, by omega⟩
  have := width_pos s i
  rw [hb]
  simp only [bodyFrom]
  rw [if_pos h, bodyFrom_any s b (s.size - (i + (Utf8.decode s i).2)) _ (by omega) (by omega)]
theorem bodyAt_end (s : ByteArray) (i : Nat) (h : ¬ i < s.size) : bodyAt s i = [] := by
  unfold bodyAt; rw [show s.size - i = 0 by omega]; rfl
theorem piece_len (s : ByteArray) (i : Nat) : (piece s i).length ≤ 4 := by
  unfold piece
  split
  · simp
  · split
    · simp [esc]
    · have : (Utf8.decode s i).2 ≤ 4 := by rw [decode_eq]; repeat' split
                                           all_goals simp
      simp; omega
theorem bodyFrom_len (s : ByteArray) : ∀ b i, (bodyFrom s b i).length ≤ 4 * b := by
  intro b
  induction b with
  | zero => intro i; simp [bodyFrom]
  | succ b ih =>
    intro i
    simp only [bodyFrom]
    split
    · have := piece_len s i
      have := ih (i + (Utf8.decode s i).2)
      rw [List.length_append]; omega
    · simp
theorem bodyAt_len (s : ByteArray) (i : Nat) : (bodyAt s i).length ≤ 4 * (s.size - i) := bodyFrom_len s _ i
theorem quote_len (s : ByteArray) : (quote s).length ≤ 4 * s.size + 2 := by
  have := bodyAt_len s 0
  unfold quote; simp; omega

/-- The three kinds of a piece. -/
theorem piece_cases (s : ByteArray) (i : Nat) :
    ((byteAt s i = 34 ∨ byteAt s i = 92) ∧ piece s i = [92, s.get! i] ∧ (Utf8.decode s i).2 = 1) ∨
    ((byteAt s i < 32 ∨ byteAt s i = 127 ∨ 128 ≤ byteAt s i) ∧ piece s i = esc (s.get! i) ∧ (Utf8.decode s i).2 = 1) ∨
    (isBad s i = false ∧ (Utf8.decode s i).1 ≠ 34 ∧ (Utf8.decode s i).1 ≠ 92 ∧ piece s i = (s.data.toList.drop i).take (Utf8.decode s i).2 ∧ (byteAt s i < 128 → 32 ≤ byteAt s i ∧ byteAt s i ≠ 34 ∧ byteAt s i ≠ 92)) := by
  unfold piece
  by_cases h0 : byteAt s i < 128
  · have hd := low_one s i h0
    have hb : isBad s i = false := by unfold isBad; rw [hd]; simp; omega
    rw [hd, hb]
    simp only
    by_cases h1 : byteAt s i = 34 ∨ byteAt s i = 92
    · left; rw [if_pos h1]; exact ⟨h1, by simp⟩
    · right
      rw [if_neg h1]
      by_cases h2 : byteAt s i < 32 ∨ byteAt s i = 127
      · left; rw [if_pos (by omega)]; exact ⟨by omega, by simp⟩
      · right; rw [if_neg (by simp; omega)]; exact ⟨by simp, by omega, by omega, by simp, fun _ => by omega⟩
  · have hh := high_high s i (by omega)
    right
    rw [if_neg (by omega)]
    by_cases hb : isBad s i = true
    · left
      rw [if_pos (.inr (.inr hb))]
      refine ⟨by omega, rfl, ?_⟩
      unfold isBad at hb; simp at hb; rw [hb]
    · right
      rw [if_neg (by simp [hb]; omega)]
      exact ⟨by simpa using hb, by omega, by omega, rfl, fun h => absurd h h0⟩

/-- A rune that is none but itself lies in its bytes. -/
theorem dec_lead (s : ByteArray) (i : Nat) (h0 : 128 ≤ byteAt s i) (hb : isBad s i = false) :
    ∃ low c, lead (byteAt s i) (Utf8.decode s i).2 low c ∧ (∀ k, k + 1 < (Utf8.decode s i).2 → contAt s (i + (k + 1)) = true) ∧ low ≤ fv s i c ((Utf8.decode s i).2 - 1) ∧ fv s i c ((Utf8.decode s i).2 - 1) ≤ 1114111 ∧ ¬ (55296 ≤ fv s i c ((Utf8.decode s i).2 - 1) ∧ fv s i c ((Utf8.decode s i).2 - 1) ≤ 57343) ∧ (Utf8.decode s i).1 = fv s i c ((Utf8.decode s i).2 - 1) := by
  have hne : Utf8.decode s i ≠ (65533, 1) := by unfold isBad at hb; simpa using hb
  have main : ∀ n low c, lead (byteAt s i) n low c → ∃ low c, lead (byteAt s i) (Utf8.decode s i).2 low c ∧ (∀ k, k + 1 < (Utf8.decode s i).2 → contAt s (i + (k + 1)) = true) ∧ low ≤ fv s i c ((Utf8.decode s i).2 - 1) ∧ fv s i c ((Utf8.decode s i).2 - 1) ≤ 1114111 ∧ ¬ (55296 ≤ fv s i c ((Utf8.decode s i).2 - 1) ∧ fv s i c ((Utf8.decode s i).2 - 1) ≤ 57343) ∧ (Utf8.decode s i).1 = fv s i c ((Utf8.decode s i).2 - 1) := by
    intro n low c hl
    by_cases hc : ∀ k, k + 1 < n → contAt s (i + (k + 1)) = true
    · have hd := dec_whole s i n low c hl hc
      by_cases hv : low ≤ fv s i c (n - 1) ∧ fv s i c (n - 1) ≤ 1114111 ∧ ¬ (55296 ≤ fv s i c (n - 1) ∧ fv s i c (n - 1) ≤ 57343)
      · rw [if_pos hv] at hd
        rw [hd]
        exact ⟨low, c, hl, hc, hv.1, hv.2.1, hv.2.2, rfl⟩
      · rw [if_neg hv] at hd; exact absurd hd hne
    · obtain ⟨k, hk⟩ := Classical.not_forall.1 hc
      obtain ⟨hk1, hk2⟩ := Classical.not_imp.1 hk
      exact absurd (dec_broken s i n low c k hl hk1 (by simpa using hk2)) hne
  have b1 := byteAt_lt s i
  by_cases g : byteAt s i < 194 ∨ 244 < byteAt s i
  · exact absurd (dec_none s i h0 g) hne
  · by_cases g2 : byteAt s i ≤ 223
    · exact main 2 128 (byteAt s i - 192) (.inl ⟨by omega, by omega, rfl, rfl, rfl⟩)
    · by_cases g3 : byteAt s i ≤ 239
      · exact main 3 2048 (byteAt s i - 224) (.inr (.inl ⟨by omega, by omega, rfl, rfl, rfl⟩))
      · exact main 4 65536 (byteAt s i - 240) (.inr (.inr ⟨by omega, by omega, rfl, rfl, rfl⟩))

/-- A rune's bytes, elsewhere, are the same rune. -/
theorem dec_same (s : ByteArray) (i : Nat) (t : ByteArray) (j : Nat) (hb : isBad s i = false) (h : ∀ k, k < (Utf8.decode s i).2 → j + k < t.size ∧ byteAt t (j + k) = byteAt s (i + k)) : Utf8.decode t j = Utf8.decode s i := by
  have hw := width_pos s i
  have e0 := (h 0 (by omega)).2
  simp only [Nat.add_zero] at e0
  by_cases h0 : byteAt s i < 128
  · rw [low_one s i h0, low_one t j (by omega), e0]
  · obtain ⟨low, c, hl, hc, v1, v2, v3, v4⟩ := dec_lead s i (by omega) hb
    obtain ⟨n, hn⟩ : ∃ n, n = (Utf8.decode s i).2 := ⟨_, rfl⟩
    rw [← hn] at hl hc v1 v2 v3 v4 h
    have hfv : ∀ k, k + 1 ≤ n → fv t j c k = fv s i c k := by
      intro k
      induction k with
      | zero => intro _; rfl
      | succ k ih =>
        intro hk
        simp only [fv]
        rw [ih (by omega), (h (k + 1) (by omega)).2]
    have hct : ∀ k, k + 1 < n → contAt t (j + (k + 1)) = true := by
      intro k hk
      have h1 := h (k + 1) hk
      have h2 := cont_range (hc k hk)
      exact cont_of h1.1 (by omega) (by omega)
    have hn2 : 2 ≤ n := by rcases hl with ⟨_, _, h, _⟩ | ⟨_, _, h, _⟩ | ⟨_, _, h, _⟩ <;> omega
    rw [dec_whole t j n low c (by rw [e0]; exact hl) hct, hfv (n - 1) (by omega), if_pos ⟨v1, v2, v3⟩]
    exact (Prod.ext v4 hn.symm).symm

theorem take_get (s : ByteArray) (i d : Nat) (h : i + d ≤ s.size) : (s.data.toList.drop i).take d = (List.range d).map fun k => s.get! (i + k) := by
  apply List.ext_getElem?
  intro k
  rw [List.getElem?_take, List.getElem?_map]
  by_cases hk : k < d
  · rw [if_pos hk, List.getElem?_drop, list_at s (i + k) (by omega), List.getElem?_range hk]; rfl
  · rw [if_neg hk, List.getElem?_eq_none (by simpa using hk)]; rfl

set_option maxRecDepth 4000 in
/-- The bytes that a rune has are those that are laid for it. -/
theorem enc_piece (s : ByteArray) (i : Nat) (h : i < s.size) (hb : isBad s i = false) : (s.data.toList.drop i).take (Utf8.decode s i).2 = Lib.encodeRune ((Utf8.decode s i).1 : Int) := by
  have hw := width_le s i h
  rw [take_get s i _ hw]
  have key : ∀ (k : Nat) (z : Int), z = (byteAt s (i + k) : Int) → s.get! (i + k) = z.toNat.toUInt8 := by
    intro k z hz
    subst hz
    show _ = UInt8.ofNat _
    apply UInt8.toNat_inj.1
    have := byteAt_lt s (i + k)
    rw [UInt8.toNat_ofNat', Int.toNat_natCast]
    show byteAt s (i + k) = _
    omega
  by_cases h0 : byteAt s i < 128
  · rw [low_one s i h0]
    unfold Lib.encodeRune
    rw [Lib.encodeRuneZ_one (by omega) (by simp only; omega)]
    simp only [List.range_succ, List.range_zero, List.nil_append, List.map_cons, List.map_nil]
    rw [key 0 _ rfl]; rfl
  · obtain ⟨low, c, hl, hc, v1, v2, v3, v4⟩ := dec_lead s i (by omega) hb
    rw [v4]
    unfold Lib.encodeRune
    obtain ⟨n, hn⟩ : ∃ n, n = (Utf8.decode s i).2 := ⟨_, rfl⟩
    rw [← hn] at hl hc v1 v2 v3 ⊢
    rcases hl with ⟨a1, a2, rfl, rfl, rfl⟩ | ⟨a1, a2, rfl, rfl, rfl⟩ | ⟨a1, a2, rfl, rfl, rfl⟩
    · have k1 := cont_range (hc 0 (by omega))
      simp only [fv, Nat.zero_add] at v1 v2 v3 k1 ⊢
      rw [Lib.encodeRuneZ_two (by omega) (by omega)]
      simp only [List.range_succ, List.range_zero, List.nil_append, List.cons_append, List.map_cons, List.map_nil]
      rw [← key 0 _ (by simp only [Nat.add_zero]; omega), ← key 1 _ (by omega)]
    · have k1 := cont_range (hc 0 (by omega))
      have k2 := cont_range (hc 1 (by omega))
      simp only [fv, Nat.zero_add, Nat.reduceAdd] at v1 v2 v3 k1 k2 ⊢
      rw [Lib.encodeRuneZ_three (by omega)]
      simp only [List.range_succ, List.range_zero, List.nil_append, List.cons_append, List.map_cons, List.map_nil]
      rw [← key 0 _ (by simp only [Nat.add_zero]; omega), ← key 1 _ (by omega), ← key 2 _ (by omega)]
    · have k1 := cont_range (hc 0 (by omega))
      have k2 := cont_range (hc 1 (by omega))
      have k3 := cont_range (hc 2 (by omega))
      simp only [fv, Nat.zero_add, Nat.reduceAdd] at v1 v2 v3 k1 k2 k3 ⊢
      rw [Lib.encodeRuneZ_four (by omega) (by omega)]
      simp only [List.range_succ, List.range_zero, List.nil_append, List.cons_append, List.map_cons, List.map_nil]
      rw [← key 0 _ (by simp only [Nat.add_zero]; omega), ← key 1 _ (by omega), ← key 2 _ (by omega), ← key 3 _ (by omega)]
end Go.Proofs.YtammfmmpldahhaaGreat.Qt


namespace Go.Proofs.YtammfmmpldahhaaGreat.Qt
open Go Rn

def digits : List UInt8 := [48, 49, 50, 51, 52, 53, 54, 55, 56, 57, 97, 98, 99, 100, 101, 102]
/-- The program's value of a digit (255: it is none). -/
def hv (c : UInt8) : Nat := (Lib.indexByte digits c % 256).toNat
/-- Two digits' byte. -/
def mix (a b : UInt8) : UInt8 := UInt8.ofNat (((hv a * 16) % 256) ||| hv b)

/-- Within quotes, by runes: how far an escape is, what was read. -/
def plFrom (s : ByteArray) : Nat → Nat → Nat → List UInt8 → List UInt8
  | 0, _, _, out => out
  | b + 1, i, k, out => if i < s.size then
      (if (k = 0 ∧ (Utf8.decode s i).1 = 92) ∨ (k = 1 ∧ (Utf8.decode s i).1 = 120) ∨ k = 2 then plFrom s b (i + (Utf8.decode s i).2) (k + 1) out
       else if k = 3 then plFrom s b (i + (Utf8.decode s i).2) 0 (out ++ [mix (s.get! (i - 1)) (s.get! i)])
       else plFrom s b (i + (Utf8.decode s i).2) 0 (out ++ Lib.encodeRune ((Utf8.decode s i).1 : Int)))
    else out
def plAt (s : ByteArray) (i k : Nat) (out : List UInt8) : List UInt8 := plFrom s (s.size - i) i k out
theorem plFrom_any (s : ByteArray) : ∀ (b b' i k : Nat) (out : List UInt8), s.size - i ≤ b → s.size - i ≤ b' → plFrom s b i k out = plFrom s b' i k out := by
  intro b
  induction b with
  | zero =>
    intro b' i k out h h'
    cases b' with
    | zero => rfl
    | succ b' => simp only [plFrom]; rw [if_neg (by omega)]
  | succ b ih =>
    intro b' i k out h h'
    cases b' with
    | zero => simp only [plFrom]; rw [if_neg (by omega)]
    | succ b' =>
      have := width_pos s i
      have e : ∀ k out, plFrom s b (i + (Utf8.decode s i).2) k out = plFrom s b' (i + (Utf8.decode s i).2) k out := fun k out => ih b' _ k out (by omega) (by omega)
      simp only [plFrom, e]
theorem plAt_eq (s : ByteArray) (i k : Nat) (out : List UInt8) (h : i < s.size) : plAt s i k out =
    (if (k = 0 ∧ (Utf8.decode s i).1 = 92) ∨ (k = 1 ∧ (Utf8.decode s i).1 = 120) ∨ k = 2 then plAt s (i + (Utf8.decode s i).2) (k + 1) out
     else if k = 3 then plAt s (i + (Utf8.decode s i).2) 0 (out ++ [mix (s.get! (i - 1)) (s.get! i)])
     else plAt s (i + (Utf8.decode s i).2) 0 (out ++ Lib.encodeRune ((Utf8.decode s i).1 : Int))) := by
  unfold plAt
  obtain ⟨b, hb⟩ : ∃ b, s.size - i = b + 1 := ⟨s.size - i - 1, by omega⟩
  have := width_pos s i
  have e : ∀ k out, plFrom s (s.size - (i + (Utf8.decode s i).2)) (i + (Utf8.decode s i).2) k out = plFrom s b (i + (Utf8.decode s i).2) k out := fun k out => plFrom_any s _ _ _ _ _ (by omega) (by omega)
  rw [hb]
  simp only [plFrom, e]
  rw [if_pos h]
theorem plAt_end (s : ByteArray) (i k : Nat) (out : List UInt8) (h : ¬ i < s.size) : plAt s i k out = out := by
  unfold plAt; rw [show s.size - i = 0 by omega]; rfl
def pl (s : ByteArray) : List UInt8 := plAt s 0 0 []

/-- The document's value of a digit (below 0: it is none). -/
def val (c : UInt8) : Int := if 48 ≤ c.toNat ∧ c.toNat ≤ 57 then (c.toNat : Int) - 48 else if 97 ≤ c.toNat ∧ c.toNat ≤ 102 then (c.toNat : Int) - 97 + 10 else -1
def two (a b : UInt8) : UInt8 := UInt8.ofNat (16 * val a + val b).toNat
/-- Within quotes, by bytes, up to e. -/
def prFrom (s : ByteArray) (e : Nat) : Nat → Nat → List UInt8 → Option (List UInt8)
  | 0, _, out => some out
  | b + 1, i, out => if i < e then
      (if byteAt s i ≠ 92 then prFrom s e b (i + 1) (out ++ [s.get! i])
       else if i + 1 < e ∧ (byteAt s (i + 1) = 34 ∨ byteAt s (i + 1) = 92) then prFrom s e b (i + 2) (out ++ [s.get! (i + 1)])
       else if e ≤ i + 3 ∨ byteAt s (i + 1) ≠ 120 ∨ val (s.get! (i + 2)) < 0 ∨ val (s.get! (i + 3)) < 0 then none
       else prFrom s e b (i + 4) (out ++ [two (s.get! (i + 2)) (s.get! (i + 3))]))
    else some out
def prAt (s : ByteArray) (e i : Nat) (out : List UInt8) : Option (List UInt8) := prFrom s e (e - i) i out
theorem prFrom_any (s : ByteArray) (e : Nat) : ∀ (b b' i : Nat) (out : List UInt8), e - i ≤ b → e - i ≤ b' → prFrom s e b i out = prFrom s e b' i out := by
  intro b
  induction b with
  | zero =>
    intro b' i out h h'
    cases b' with
    | zero => rfl
    | succ b' => simp only [prFrom]; rw [if_neg (by omega)]
  | succ b ih =>
    intro b' i out h h'
    cases b' with
    | zero => simp only [prFrom]; rw [if_neg (by omega)]
    | succ b' =>
      have e1 : ∀ d out, 1 ≤ d → prFrom s e b (i + d) out = prFrom s e b' (i + d) out := fun d out hd => ih b' _ out (by omega) (by omega)
      simp only [prFrom]
      rw [e1 1 _ (by omega), e1 2 _ (by omega), e1 4 _ (by omega)]
theorem prAt_eq (s : ByteArray) (e i : Nat) (out : List UInt8) (h : i < e) : prAt s e i out =
    (if byteAt s i ≠ 92 then prAt s e (i + 1) (out ++ [s.get! i])
     else if i + 1 < e ∧ (byteAt s (i + 1) = 34 ∨ byteAt s (i + 1) = 92) then prAt s e (i + 2) (out ++ [s.get! (i + 1)])
     else if e ≤ i + 3 ∨ byteAt s (i + 1) ≠ 120 ∨ val (s.get! (i + 2)) < 0 ∨ val (s.get! (i + 3)) < 0 then none
     else prAt s e (i + 4) (out ++ [two (s.get! (i + 2)) (s.get! (i + 3))])) := by
  unfold prAt
  obtain ⟨b, hb⟩ : ∃ b, e - i = b + 1 := ⟨e - i - 1, by omega⟩
  have e1 : ∀ d out, 1 ≤ d → prFrom s e (e - (i + d)) (i + d) out = prFrom s e b (i + d) out := fun d out hd => prFrom_any s e _ _ _ _ (by omega) (by omega)
  rw [hb, e1 1 _ (by omega), e1 2 _ (by omega), e1 4 _ (by omega)]
  simp only [prFrom]
  rw [if_pos h]
theorem prAt_end (s : ByteArray) (e i : Nat) (out : List UInt8) (h : ¬ i < e) : prAt s e i out = some out := by
  unfold prAt; rw [show e - i = 0 by omega]; rfl

/-- A string's byte, where its list is told in two parts. -/
theorem byte_of (s : ByteArray) (pre rest : List UInt8) (c : UInt8) (h : s.data.toList = pre ++ c :: rest) : pre.length < s.size ∧ s.get! pre.length = c ∧ byteAt s pre.length = c.toNat := by
  have hsz : s.size = (pre ++ c :: rest).length := by rw [← h]; rfl
  have hlt : pre.length < s.size := by rw [hsz]; simp
  have h1 := list_at s pre.length hlt
  rw [h, List.getElem?_append_right (Nat.le_refl _), Nat.sub_self] at h1
  have h2 : c = s.get! pre.length := by simpa using h1
  exact ⟨hlt, h2.symm, by rw [h2]; rfl⟩

theorem hex_low (n : Nat) (h : n < 16) : (hex n).toNat < 128 ∧ (hex n).toNat ≠ 92 ∧ (hex n).toNat ≠ 34 := by
  have : ∀ n : Fin 16, (hex n.val).toNat < 128 ∧ (hex n.val).toNat ≠ 92 ∧ (hex n.val).toNat ≠ 34 := by decide
  exact this ⟨n, h⟩
theorem hex_val (n : Nat) (h : n < 16) : val (hex n) = n := by
  have : ∀ n : Fin 16, val (hex n.val) = n.val := by decide
  exact this ⟨n, h⟩
theorem hex_hv (n : Nat) (h : n < 16) : hv (hex n) = n := by
  have : ∀ n : Fin 16, hv (hex n.val) = n.val := by decide
  exact this ⟨n, h⟩
theorem mix_esc (c : UInt8) : mix (hex (c.toNat / 16)) (hex (c.toNat % 16)) = c := by
  have hc : c.toNat < 256 := c.toNat_lt
  unfold mix
  rw [hex_hv _ (by omega), hex_hv _ (by omega)]
  have h : ∀ n : Fin 256, UInt8.ofNat ((n.val / 16 * 16) % 256 ||| n.val % 16) = UInt8.ofNat n.val := by decide +kernel
  rw [h ⟨c.toNat, hc⟩, UInt8.ofNat_toNat]
theorem two_esc (c : UInt8) : two (hex (c.toNat / 16)) (hex (c.toNat % 16)) = c := by
  have hc : c.toNat < 256 := c.toNat_lt
  unfold two
  rw [hex_val _ (by omega), hex_val _ (by omega)]
  have : (16 * ((c.toNat / 16 : Nat) : Int) + ((c.toNat % 16 : Nat) : Int)).toNat = c.toNat := by omega
  rw [this, UInt8.ofNat_toNat]

theorem drop_eq (x : ByteArray) (i : Nat) (h : i < x.size) : x.data.toList.drop i = x.get! i :: x.data.toList.drop (i + 1) := by
  have h1 := list_at x i h
  have hlt : i < x.data.toList.length := by simpa using h
  rw [List.drop_eq_getElem_cons hlt]
  rw [List.getElem?_eq_getElem hlt] at h1
  rw [Option.some.inj h1]

/-- By runes: the body of a quoted form tells its string. -/
theorem pl_body (x : ByteArray) (Y : ByteArray) : ∀ (b i : Nat) (pre out : List UInt8), x.size - i ≤ b → Y.data.toList = pre ++ bodyAt x i → plAt Y pre.length 0 out = out ++ x.data.toList.drop i := by
  intro b
  induction b with
  | zero =>
    intro i pre out hb hY
    rw [bodyAt_end x i (by omega), List.append_nil] at hY
    have hsz : Y.size = pre.length := by rw [← hY]; rfl
    rw [plAt_end Y _ _ _ (by omega), List.drop_eq_nil_of_le (by simpa using (by omega : x.size ≤ i)), List.append_nil]
  | succ b ih =>
    intro i pre out hb hY
    by_cases hi : i < x.size
    · rw [bodyAt_eq x i hi] at hY
      have hw := width_pos x i
      rcases piece_cases x i with ⟨hc, hp, hd⟩ | ⟨hc, hp, hd⟩ | ⟨hbad, n1, n2, hp, hlow⟩
      · rw [hp, hd] at hY
        have hY2 : Y.data.toList = (pre ++ [92, x.get! i]) ++ bodyAt x (i + 1) := by rw [hY]; simp
        obtain ⟨a1, a2, a3⟩ := byte_of Y pre _ _ hY
        obtain ⟨b1, b2, b3⟩ := byte_of Y (pre ++ [92]) (bodyAt x (i + 1)) (x.get! i) (by rw [hY]; simp)
        have bb : (x.get! i).toNat = byteAt x i := rfl
        have d1 := low_one Y pre.length (by rw [a3]; decide)
        have d2 := low_one Y (pre ++ [92]).length (by rw [b3, bb]; omega)
        rw [a3] at d1
        rw [b3, bb] at d2
        rw [plAt_eq Y _ _ _ a1, d1, if_pos (.inl ⟨rfl, rfl⟩)]
        rw [show (pre ++ [(92 : UInt8)]).length = pre.length + 1 by simp] at b1 d2
        have d2' : (Utf8.decode Y (pre.length + 1)) = (byteAt x i, 1) := d2
        show plAt Y (pre.length + 1) (0 + 1) out = _
        rw [plAt_eq Y _ _ _ b1, d2', if_neg (by simp only; omega), if_neg (by omega)]
        have hE : Lib.encodeRune ((byteAt x i : Nat) : Int) = [x.get! i] := by
          unfold Lib.encodeRune
          rw [Lib.encodeRuneZ_one (by omega) (by omega)]
          simp only [List.map_cons, List.map_nil, Int.toNat_natCast, ← bb]
          congr 1
          exact UInt8.ofNat_toNat
        show plAt Y (pre.length + 1 + 1) 0 (out ++ Lib.encodeRune ((byteAt x i : Nat) : Int)) = _
        rw [hE]
        have := ih (i + 1) (pre ++ [92, x.get! i]) (out ++ [x.get! i]) (by omega) hY2
        rw [show (pre ++ [(92 : UInt8), x.get! i]).length = pre.length + 1 + 1 by simp] at this
        rw [this, drop_eq x i hi]; simp
      · rw [hp, hd] at hY
        unfold esc at hY
        obtain ⟨h1, hh1⟩ : ∃ h1, h1 = hex ((x.get! i).toNat / 16) := ⟨_, rfl⟩
        obtain ⟨h2, hh2⟩ : ∃ h2, h2 = hex ((x.get! i).toNat % 16) := ⟨_, rfl⟩
        have hmx := mix_esc (x.get! i)
        have hc256 : (x.get! i).toNat < 256 := (x.get! i).toNat_lt
        have l1 := hex_low ((x.get! i).toNat / 16) (by omega)
        have l2 := hex_low ((x.get! i).toNat % 16) (by omega)
        rw [← hh1, ← hh2] at hmx hY
        rw [← hh1] at l1
        rw [← hh2] at l2
        have hY2 : Y.data.toList = (pre ++ [92, 120, h1, h2]) ++ bodyAt x (i + 1) := by rw [hY]; simp
        obtain ⟨a1, a2, a3⟩ := byte_of Y pre _ _ hY
        obtain ⟨b1, b2, b3⟩ := byte_of Y (pre ++ [92]) ([h1, h2] ++ bodyAt x (i + 1)) 120 (by rw [hY]; simp)
        obtain ⟨c1, c2, c3⟩ := byte_of Y (pre ++ [92, 120]) ([h2] ++ bodyAt x (i + 1)) h1 (by rw [hY]; simp)
        obtain ⟨e1, e2, e3⟩ := byte_of Y (pre ++ [92, 120, h1]) (bodyAt x (i + 1)) h2 (by rw [hY]; simp)
        rw [show (pre ++ [(92 : UInt8)]).length = pre.length + 1 by simp] at b1 b2 b3
        rw [show (pre ++ [(92 : UInt8), 120]).length = pre.length + 1 + 1 by simp] at c1 c2 c3
        rw [show (pre ++ [(92 : UInt8), 120, h1]).length = pre.length + 1 + 1 + 1 by simp] at e1 e2 e3
        have d1 := low_one Y _ (show byteAt Y pre.length < 128 by rw [a3]; decide)
        have d2 := low_one Y _ (show byteAt Y (pre.length + 1) < 128 by rw [b3]; decide)
        have d3 := low_one Y _ (show byteAt Y (pre.length + 1 + 1) < 128 by rw [c3]; exact l1.1)
        have d4 := low_one Y _ (show byteAt Y (pre.length + 1 + 1 + 1) < 128 by rw [e3]; exact l2.1)
        rw [a3] at d1
        rw [b3] at d2
        rw [plAt_eq Y _ _ _ a1, d1, if_pos (.inl ⟨rfl, rfl⟩)]
        show plAt Y (pre.length + 1) (0 + 1) out = _
        rw [plAt_eq Y _ _ _ b1, d2, if_pos (.inr (.inl ⟨rfl, rfl⟩))]
        show plAt Y (pre.length + 1 + 1) (0 + 1 + 1) out = _
        rw [plAt_eq Y _ _ _ c1, d3, if_pos (.inr (.inr rfl))]
        show plAt Y (pre.length + 1 + 1 + 1) (0 + 1 + 1 + 1) out = _
        rw [plAt_eq Y _ _ _ e1, d4, if_neg (by omega), if_pos rfl]
        show plAt Y (pre.length + 1 + 1 + 1 + 1) 0 (out ++ [mix (Y.get! (pre.length + 1 + 1 + 1 - 1)) (Y.get! (pre.length + 1 + 1 + 1))]) = _
        rw [Nat.add_sub_cancel, c2, e2, hmx]
        have := ih (i + 1) (pre ++ [92, 120, h1, h2]) (out ++ [x.get! i]) (by omega) hY2
        rw [show (pre ++ [(92 : UInt8), 120, h1, h2]).length = pre.length + 1 + 1 + 1 + 1 by simp] at this
        rw [this, drop_eq x i hi]; simp
      · have hwl := width_le x i hi
        have hE := enc_piece x i hi hbad
        have htk := take_get x i _ hwl
        obtain ⟨d, hdd⟩ : ∃ d, d = (Utf8.decode x i).2 := ⟨_, rfl⟩
        have hget : ∀ k, k < d → pre.length + k < Y.size ∧ byteAt Y (pre.length + k) = byteAt x (i + k) := by
          intro k hk
          have hsp : Y.data.toList = (pre ++ (List.range k).map (fun j => x.get! (i + j))) ++ x.get! (i + k) :: ((piece x i).drop (k + 1) ++ bodyAt x (i + (Utf8.decode x i).2)) := by
            rw [hY, hp, htk, ← hdd]
            have : (List.range d).map (fun j => x.get! (i + j)) = (List.range k).map (fun j => x.get! (i + j)) ++ x.get! (i + k) :: ((List.range d).map (fun j => x.get! (i + j))).drop (k + 1) := by
              apply List.ext_getElem?
              intro j
              by_cases h1 : j < k
              · rw [List.getElem?_append_left (by simpa using h1)]
                simp [h1, (by omega : j < d)]
              · rw [List.getElem?_append_right (by simpa using h1)]
                simp only [List.length_map, List.length_range]
                by_cases h2 : j = k
                · subst h2; simp [hk]
                · obtain ⟨m, hm⟩ : ∃ m, j - k = m + 1 := ⟨j - k - 1, by omega⟩
                  rw [hm, List.getElem?_cons_succ, List.getElem?_drop, show k + 1 + m = j by omega]
            conv => lhs; rw [this]
            simp [List.append_assoc]
          obtain ⟨q1, _, q3⟩ := byte_of Y _ _ _ hsp
          rw [show (pre ++ (List.range k).map (fun j => x.get! (i + j))).length = pre.length + k by simp] at q1 q3
          exact ⟨q1, q3⟩
        have hdec := dec_same x i Y pre.length hbad (by rw [← hdd]; exact hget)
        have hlt := (hget 0 (by omega)).1
        rw [Nat.add_zero] at hlt
        rw [plAt_eq Y _ _ _ hlt, hdec, if_neg (by omega), if_neg (by omega), ← hE]
        have := ih (i + (Utf8.decode x i).2) (pre ++ piece x i) (out ++ piece x i) (by omega) (by rw [hY]; simp)
        rw [hp] at this
        have hlen : (pre ++ (x.data.toList.drop i).take (Utf8.decode x i).2).length = pre.length + (Utf8.decode x i).2 := by
          have : x.data.toList.length = x.size := rfl
          simp; omega
        rw [hlen] at this
        rw [this, List.append_assoc]
        congr 1
        rw [← List.drop_drop]
        exact List.take_append_drop _ _
    · rw [bodyAt_end x i hi, List.append_nil] at hY
      have hsz : Y.size = pre.length := by rw [← hY]; rfl
      rw [plAt_end Y _ _ _ (by omega), List.drop_eq_nil_of_le (by simpa using (by omega : x.size ≤ i)), List.append_nil]
theorem pl_quote (x : ByteArray) : pl ⟨(bodyAt x 0).toArray⟩ = x.data.toList := by
  have := pl_body x ⟨(bodyAt x 0).toArray⟩ _ 0 [] [] (Nat.le_refl _) (by simp)
  simpa [pl] using this
end Go.Proofs.YtammfmmpldahhaaGreat.Qt


namespace Go.Proofs.YtammfmmpldahhaaGreat.Qt
open Go Rn

/-- Bytes that are no backslash are read as they are. -/
theorem pr_push (Y : ByteArray) (e : Nat) : ∀ (l pre rest out : List UInt8), Y.data.toList = pre ++ l ++ rest → (∀ c ∈ l, c.toNat ≠ 92) → pre.length + l.length ≤ e → prAt Y e pre.length out = prAt Y e (pre.length + l.length) (out ++ l) := by
  intro l
  induction l with
  | nil => intro pre rest out _ _ _; simp
  | cons c l ih =>
    intro pre rest out hY hc he
    obtain ⟨_, a2, a3⟩ := byte_of Y pre (l ++ rest) c (by rw [hY]; simp)
    simp only [List.length_cons] at he ⊢
    rw [prAt_eq Y e _ _ (by omega), if_pos (by rw [a3]; exact hc c (by simp)), a2]
    have := ih (pre ++ [c]) rest (out ++ [c]) (by rw [hY]; simp) (fun d hd => hc d (by simp [hd])) (by simp; omega)
    rw [show (pre ++ [c]).length = pre.length + 1 by simp] at this
    rw [this, List.append_assoc, Nat.add_assoc, Nat.add_comm 1]; rfl

theorem piece_lit (x : ByteArray) (i : Nat) (h : i < x.size) (hlow : byteAt x i < 128 → 32 ≤ byteAt x i ∧ byteAt x i ≠ 34 ∧ byteAt x i ≠ 92) :
    ∀ c ∈ (x.data.toList.drop i).take (Utf8.decode x i).2, c.toNat ≠ 34 ∧ c.toNat ≠ 92 := by
  have hw := width_le x i h
  rw [take_get x i _ hw]
  intro c hc
  obtain ⟨k, hk, rfl⟩ := List.mem_map.1 hc
  rw [List.mem_range] at hk
  have e : (x.get! (i + k)).toNat = byteAt x (i + k) := rfl
  rw [e]
  by_cases h0 : k = 0
  · subst h0
    rw [Nat.add_zero]
    by_cases h1 : byteAt x i < 128
    · exact ⟨(hlow h1).2.1, (hlow h1).2.2⟩
    · omega
  · have := inner_high x i (i + k) (by omega) (by omega)
    omega

/-- By bytes: the body of a quoted form tells its string. -/
theorem pr_body (x : ByteArray) (Y : ByteArray) (suf : List UInt8) : ∀ (b i : Nat) (pre out : List UInt8), x.size - i ≤ b → Y.data.toList = pre ++ bodyAt x i ++ suf → prAt Y (pre.length + (bodyAt x i).length) pre.length out = some (out ++ x.data.toList.drop i) := by
  intro b
  induction b with
  | zero =>
    intro i pre out hb hY
    rw [bodyAt_end x i (by omega)]
    rw [prAt_end Y _ _ _ (by simp), List.drop_eq_nil_of_le (by simpa using (by omega : x.size ≤ i)), List.append_nil]
  | succ b ih =>
    intro i pre out hb hY
    by_cases hi : i < x.size
    · rw [bodyAt_eq x i hi] at hY ⊢
      have hw := width_pos x i
      rcases piece_cases x i with ⟨hc, hp, hd⟩ | ⟨hc, hp, hd⟩ | ⟨hbad, n1, n2, hp, hlow⟩
      · rw [hp, hd] at hY ⊢
        have hY2 : Y.data.toList = (pre ++ [92, x.get! i]) ++ bodyAt x (i + 1) ++ suf := by rw [hY]; simp
        obtain ⟨a1, a2, a3⟩ := byte_of Y pre (x.get! i :: (bodyAt x (i + 1) ++ suf)) 92 (by rw [hY]; simp)
        obtain ⟨b1, b2, b3⟩ := byte_of Y (pre ++ [92]) (bodyAt x (i + 1) ++ suf) (x.get! i) (by rw [hY]; simp)
        rw [show (pre ++ [(92 : UInt8)]).length = pre.length + 1 by simp] at b1 b2 b3
        have bb : (x.get! i).toNat = byteAt x i := rfl
        simp only [List.length_append, List.length_cons, List.length_nil]
        rw [prAt_eq Y _ _ _ (by omega), if_neg (by rw [a3]; decide), if_pos ⟨by omega, by rw [b3, bb]; exact hc⟩, b2]
        have := ih (i + 1) (pre ++ [92, x.get! i]) (out ++ [x.get! i]) (by omega) hY2
        rw [show (pre ++ [(92 : UInt8), x.get! i]).length = pre.length + 2 by simp] at this
        rw [show pre.length + (0 + 1 + 1 + (bodyAt x (i + 1)).length) = pre.length + 2 + (bodyAt x (i + 1)).length by omega, this, drop_eq x i hi]; simp
      · rw [hp, hd] at hY ⊢
        unfold esc at hY ⊢
        obtain ⟨h1, hh1⟩ : ∃ h1, h1 = hex ((x.get! i).toNat / 16) := ⟨_, rfl⟩
        obtain ⟨h2, hh2⟩ : ∃ h2, h2 = hex ((x.get! i).toNat % 16) := ⟨_, rfl⟩
        have hmx := two_esc (x.get! i)
        have hc256 : (x.get! i).toNat < 256 := (x.get! i).toNat_lt
        have l1 := hex_val ((x.get! i).toNat / 16) (by omega)
        have l2 := hex_val ((x.get! i).toNat % 16) (by omega)
        rw [← hh1, ← hh2] at hmx hY ⊢
        rw [← hh1] at l1
        rw [← hh2] at l2
        have hY2 : Y.data.toList = (pre ++ [92, 120, h1, h2]) ++ bodyAt x (i + 1) ++ suf := by rw [hY]; simp
        obtain ⟨a1, a2, a3⟩ := byte_of Y pre ([120, h1, h2] ++ bodyAt x (i + 1) ++ suf) 92 (by rw [hY]; simp)
        obtain ⟨b1, b2, b3⟩ := byte_of Y (pre ++ [92]) ([h1, h2] ++ bodyAt x (i + 1) ++ suf) 120 (by rw [hY]; simp)
        obtain ⟨c1, c2, c3⟩ := byte_of Y (pre ++ [92, 120]) ([h2] ++ bodyAt x (i + 1) ++ suf) h1 (by rw [hY]; simp)
        obtain ⟨e1, e2, e3⟩ := byte_of Y (pre ++ [92, 120, h1]) (bodyAt x (i + 1) ++ suf) h2 (by rw [hY]; simp)
        rw [show (pre ++ [(92 : UInt8)]).length = pre.length + 1 by simp] at b1 b2 b3
        rw [show (pre ++ [(92 : UInt8), 120]).length = pre.length + 2 by simp] at c1 c2 c3
        rw [show (pre ++ [(92 : UInt8), 120, h1]).length = pre.length + 3 by simp] at e1 e2 e3
        simp only [List.length_append, List.length_cons, List.length_nil]
        have b4 : byteAt Y (pre.length + 1) = 120 := b3
        rw [prAt_eq Y _ _ _ (by omega), if_neg (by rw [a3]; decide), if_neg (by rw [b4]; omega), c2, e2, if_neg (by rw [b4, l1, l2]; omega), hmx]
        have := ih (i + 1) (pre ++ [92, 120, h1, h2]) (out ++ [x.get! i]) (by omega) hY2
        rw [show (pre ++ [(92 : UInt8), 120, h1, h2]).length = pre.length + 4 by simp] at this
        rw [show pre.length + (0 + 1 + 1 + 1 + 1 + (bodyAt x (i + 1)).length) = pre.length + 4 + (bodyAt x (i + 1)).length by omega, this, drop_eq x i hi]; simp
      · have hlit := piece_lit x i hi hlow
        rw [← hp] at hlit
        rw [List.length_append]
        rw [pr_push Y _ (piece x i) pre (bodyAt x (i + (Utf8.decode x i).2) ++ suf) out (by rw [hY]; simp) (fun c hc => (hlit c hc).2) (by omega)]
        have := ih (i + (Utf8.decode x i).2) (pre ++ piece x i) (out ++ piece x i) (by omega) (by rw [hY]; simp)
        rw [List.length_append] at this
        rw [← Nat.add_assoc, this, List.append_assoc]
        congr 2
        rw [hp, ← List.drop_drop]
        exact List.take_append_drop _ _
    · rw [bodyAt_end x i hi]
      rw [prAt_end Y _ _ _ (by simp), List.drop_eq_nil_of_le (by simpa using (by omega : x.size ≤ i)), List.append_nil]

theorem back (l : List UInt8) : (ByteArray.mk l.toArray).data.toList = l := by simp
theorem same_list {s t : ByteArray} (h : s.data.toList = t.data.toList) : s = t := by
  cases s with | mk a => cases t with | mk b => congr 1; exact Array.toList_inj.1 h

/-- What the document reads. -/
def rd (s : ByteArray) : Option (List UInt8) := if s.size < 2 then none else prAt s (s.size - 1) 1 []
theorem rd_quote (x s : ByteArray) (h : s.data.toList = quote x) : rd s = some x.data.toList := by
  have hsz : s.size = (quote x).length := by rw [← h]; rfl
  have hl : (quote x).length = 1 + (bodyAt x 0).length + 1 := by unfold quote; simp; omega
  unfold rd
  rw [if_neg (by omega), show s.size - 1 = 1 + (bodyAt x 0).length by omega]
  have := pr_body x s [34] _ 0 [34] [] (Nat.le_refl _) (by rw [h]; rfl)
  simpa using this

/-- What the program reads: the quotes off, the rest by runes. -/
def trimmed (s : ByteArray) : List UInt8 := Lib.trimPrefix (Lib.trimSuffix s.data.toList [34]) [34]
def got (s : ByteArray) : List UInt8 := pl ⟨(trimmed s).toArray⟩
theorem trimmed_quote (x s : ByteArray) (h : s.data.toList = quote x) : trimmed s = bodyAt x 0 := by
  unfold trimmed
  rw [h]
  have h1 : Lib.trimSuffix (quote x) [34] = 34 :: bodyAt x 0 := by
    unfold Lib.trimSuffix Lib.hasSuffix quote
    simp
  rw [h1]
  unfold Lib.trimPrefix Lib.hasPrefix
  simp
theorem got_quote (x s : ByteArray) (h : s.data.toList = quote x) : got s = x.data.toList := by
  unfold got
  rw [trimmed_quote x s h, pl_quote]

/-- The string of which s is the quoted form. -/
def unq (s : ByteArray) : Option (List UInt8) := if quote ⟨(got s).toArray⟩ = s.data.toList then some (got s) else none
def refUnq (s : ByteArray) : Option (List UInt8) := match rd s with
  | none => none
  | some o => if quote ⟨o.toArray⟩ = s.data.toList then some o else none
theorem unq_same (s : ByteArray) : refUnq s = unq s := by
  unfold unq refUnq
  by_cases h : quote ⟨(got s).toArray⟩ = s.data.toList
  · rw [if_pos h, rd_quote ⟨(got s).toArray⟩ s h.symm]
    simp only
    rw [if_pos h]
  · rw [if_neg h]
    cases hr : rd s with
    | none => rfl
    | some o =>
      simp only
      rw [if_neg]
      intro ho
      have := got_quote ⟨o.toArray⟩ s ho.symm
      rw [back] at this
      exact h (by rw [this]; exact ho)
theorem unq_quote (x s : ByteArray) (h : s.data.toList = quote x) : unq s = some x.data.toList := by
  unfold unq
  rw [got_quote x s h, if_pos]
  rw [h]
theorem unq_form (s : ByteArray) (o : List UInt8) (h : unq s = some o) : s.data.toList = quote ⟨o.toArray⟩ := by
  unfold unq at h
  split at h
  · rename_i hq; cases h; exact hq.symm
  · cases h
end Go.Proofs.YtammfmmpldahhaaGreat.Qt


namespace Go.Proofs.YtammfmmpldahhaaGreat.Qt
open Go Rn

/-- The parts of a line, by bytes: the part begun, whether within quotes, whether behind a backslash there, the parts done. -/
def sp : List UInt8 → List UInt8 → Bool → Bool → List (List UInt8) → List (List UInt8)
  | [], cur, _, _, l => l ++ [cur]
  | c :: r, cur, qd, es, l =>
    if es = true then sp r (cur ++ [c]) qd false l
    else if c.toNat = 92 then sp r (cur ++ [c]) qd qd l
    else if c.toNat = 34 ∧ (qd = true ∨ cur = []) then sp r (cur ++ [c]) (!qd) es l
    else if c.toNat = 32 ∧ qd = false then sp r [] qd es (l ++ [cur])
    else sp r (cur ++ [c]) qd es l
def split (s : List UInt8) : List (List UInt8) := sp s [] false false []

/-- High bytes go in as they are. -/
theorem sp_high (qd : Bool) (l : List (List UInt8)) : ∀ (h r cur : List UInt8), (∀ c ∈ h, 128 ≤ c.toNat) → sp (h ++ r) cur qd false l = sp r (cur ++ h) qd false l := by
  intro h
  induction h with
  | nil => intro r cur _; simp
  | cons c h ih =>
    intro r cur hc
    have h1 := hc c (by simp)
    rw [List.cons_append]
    simp only [sp]
    rw [if_neg (by simp), if_neg (by omega), if_neg (by omega), if_neg (by omega), ih r (cur ++ [c]) (fun d hd => hc d (by simp [hd])), List.append_assoc]
    rfl
theorem join_snoc (l : List (List UInt8)) (a : List UInt8) (sep : List UInt8) : Lib.join (l ++ [a]) sep = (if l = [] then a else Lib.join l sep ++ sep ++ a) := by
  cases l with
  | nil => rw [List.nil_append, if_pos rfl, Lib.join_one]
  | cons x r =>
    rw [if_neg (by simp), List.cons_append, Lib.join_cons, Lib.join_cons]
    unfold Lib.joinTail
    simp
theorem join_cur (l : List (List UInt8)) (a b : List UInt8) (sep : List UInt8) : Lib.join (l ++ [a ++ b]) sep = Lib.join (l ++ [a]) sep ++ b := by
  rw [join_snoc, join_snoc]
  split
  · rfl
  · simp
theorem sp_join : ∀ (r cur : List UInt8) (qd es : Bool) (l : List (List UInt8)), Lib.join (sp r cur qd es l) [32] = Lib.join (l ++ [cur]) [32] ++ r := by
  intro r
  induction r with
  | nil => intro cur qd es l; simp [sp]
  | cons c r ih =>
    intro cur qd es l
    have hcur : ∀ qd es, Lib.join (sp r (cur ++ [c]) qd es l) [32] = Lib.join (l ++ [cur]) [32] ++ c :: r := by
      intro qd es
      rw [ih, join_cur]; simp
    simp only [sp]
    split
    · exact hcur _ _
    · split
      · exact hcur _ _
      · split
        · exact hcur _ _
        · split
          · rename_i h
            have hc : c = 32 := UInt8.toNat_inj.1 h.1
            subst hc
            rw [ih, join_snoc (l ++ [cur]) [] [32], if_neg (by simp)]
            simp
          · exact hcur _ _
theorem split_join (s : List UInt8) : Lib.join (split s) [32] = s := by
  unfold split
  rw [sp_join]
  simp [Lib.join_one]

/-- A word. -/
def bare (l : List UInt8) : Bool := l.all fun c => decide (32 < c.toNat)
def word (s : ByteArray) : Bool := if s.size = 0 then false else if byteAt s 0 = 34 then (unq s).isSome else bare s.data.toList

theorem sp_bare : ∀ (w r cur : List UInt8) (l : List (List UInt8)), (∀ c ∈ w, 32 < c.toNat) → (cur ≠ [] ∨ ∀ c, w.head? = some c → c.toNat ≠ 34) → sp (w ++ r) cur false false l = sp r (cur ++ w) false false l := by
  intro w
  induction w with
  | nil => intro r cur l _ _; simp
  | cons c w ih =>
    intro r cur l hc h0
    have h1 := hc c (by simp)
    have h2 : ¬ (c.toNat = 34 ∧ (false = true ∨ cur = [])) := by
      rintro ⟨h3, h4⟩
      rcases h0 with h5 | h5
      · rcases h4 with h4 | h4
        · cases h4
        · exact h5 h4
      · exact h5 c rfl h3
    have h3 := ih r (cur ++ [c]) l (fun d hd => hc d (by simp [hd])) (.inl (by simp))
    rw [List.append_assoc] at h3
    rw [List.cons_append]
    simp only [sp]
    rw [if_neg (by simp)]
    by_cases h92 : c.toNat = 92
    · rw [if_pos h92]; exact h3
    · rw [if_neg h92, if_neg h2, if_neg (by omega)]; exact h3
theorem sp_lit (l : List (List UInt8)) : ∀ (w r cur : List UInt8), (∀ c ∈ w, c.toNat ≠ 34 ∧ c.toNat ≠ 92) → sp (w ++ r) cur true false l = sp r (cur ++ w) true false l := by
  intro w
  induction w with
  | nil => intro r cur _; simp
  | cons c w ih =>
    intro r cur hc
    have h1 := hc c (by simp)
    have h3 := ih r (cur ++ [c]) (fun d hd => hc d (by simp [hd]))
    rw [List.append_assoc] at h3
    rw [List.cons_append]
    simp only [sp]
    rw [if_neg (by simp), if_neg h1.2, if_neg (by simp [h1.1]), if_neg (by simp)]
    exact h3
theorem sp_body (x : ByteArray) (l : List (List UInt8)) (r : List UInt8) : ∀ (b i : Nat) (cur : List UInt8), x.size - i ≤ b → sp (bodyAt x i ++ r) cur true false l = sp r (cur ++ bodyAt x i) true false l := by
  intro b
  induction b with
  | zero => intro i cur hb; rw [bodyAt_end x i (by omega)]; simp
  | succ b ih =>
    intro i cur hb
    by_cases hi : i < x.size
    · rw [bodyAt_eq x i hi]
      have hw := width_pos x i
      have hnext : ∀ cur, sp (bodyAt x (i + (Utf8.decode x i).2) ++ r) cur true false l = sp r (cur ++ bodyAt x (i + (Utf8.decode x i).2)) true false l := fun cur => ih _ cur (by omega)
      suffices hp : ∀ (q : List UInt8), sp (piece x i ++ q) cur true false l = sp q (cur ++ piece x i) true false l by
        rw [List.append_assoc, hp, hnext, List.append_assoc]
      intro q
      rcases piece_cases x i with ⟨hc, hp, _⟩ | ⟨hc, hp, _⟩ | ⟨_, _, _, hp, hlow⟩
      · rw [hp]
        simp [sp]
      · rw [hp]
        have hc256 : (x.get! i).toNat < 256 := (x.get! i).toNat_lt
        have l1 := hex_low ((x.get! i).toNat / 16) (by omega)
        have l2 := hex_low ((x.get! i).toNat % 16) (by omega)
        simp [sp, esc, l1, l2]
      · have hlit := piece_lit x i hi hlow
        rw [← hp] at hlit
        exact sp_lit l _ q cur hlit
    · rw [bodyAt_end x i hi]; simp
theorem sp_word (s : ByteArray) (h : word s = true) (r : List UInt8) (l : List (List UInt8)) : sp (s.data.toList ++ r) [] false false l = sp r s.data.toList false false l := by
  unfold word at h
  by_cases h0 : s.size = 0
  · rw [if_pos h0] at h; cases h
  · rw [if_neg h0] at h
    have h1 := list_at s 0 (by omega)
    by_cases h2 : byteAt s 0 = 34
    · rw [if_pos h2] at h
      obtain ⟨o, ho⟩ := Option.isSome_iff_exists.1 h
      have hq := unq_form s o ho
      rw [hq]
      unfold quote
      rw [List.cons_append, List.cons_append, List.append_assoc]
      have e1 : sp (34 :: (bodyAt ⟨o.toArray⟩ 0 ++ ([34] ++ r))) [] false false l = sp (bodyAt ⟨o.toArray⟩ 0 ++ ([34] ++ r)) [34] true false l := by simp [sp]
      rw [e1, sp_body _ l _ _ 0 [34] (Nat.le_refl _)]
      simp [sp]
    · rw [if_neg h2] at h
      have := sp_bare s.data.toList r [] l (fun c hc => of_decide_eq_true (List.all_eq_true.1 h c hc)) (.inr (by
        intro c hc
        rw [List.head?_eq_getElem?, h1] at hc
        rw [← Option.some.inj hc]
        exact h2))
      simpa using this
/-- Words come back from their line. -/
theorem split_words : ∀ (ws : List ByteArray) (l : List (List UInt8)), ws ≠ [] → (∀ s ∈ ws, word s = true) → sp (Lib.join (ws.map (·.data.toList)) [32]) [] false false l = l ++ ws.map (·.data.toList) := by
  intro ws
  induction ws with
  | nil => intro l h _; exact absurd rfl h
  | cons s ws ih =>
    intro l _ hw
    have h1 := hw s (by simp)
    cases ws with
    | nil =>
      rw [List.map_cons, List.map_nil, Lib.join_one]
      have := sp_word s h1 [] l
      rw [List.append_nil] at this
      rw [this]; rfl
    | cons t ws =>
      have h2 := ih (l ++ [s.data.toList]) (by simp) (fun u hu => hw u (by simp [hu]))
      have e : Lib.join ((s :: t :: ws).map (·.data.toList)) [32] = s.data.toList ++ (32 :: Lib.join ((t :: ws).map (·.data.toList)) [32]) := by
        rw [List.map_cons, Lib.join_cons, List.map_cons, Lib.join_cons]
        simp [Lib.joinTail]
      rw [e, sp_word s h1]
      have e2 : sp (32 :: Lib.join ((t :: ws).map (·.data.toList)) [32]) s.data.toList false false l = sp (Lib.join ((t :: ws).map (·.data.toList)) [32]) [] false false (l ++ [s.data.toList]) := by simp [sp]
      rw [e2, h2]
      simp
theorem word_long (s : ByteArray) (h : word s = true) : 0 < s.size := by
  unfold word at h
  split at h
  · cases h
  · omega
end Go.Proofs.YtammfmmpldahhaaGreat.Qt
