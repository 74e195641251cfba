/- Quoted strings, plain: what the document reads in a quoted form; which strings are quoted forms; words and lines. No program is spoken of. -/
import Derived.Test.YtgnjbbedeeiemaaQtRead
import Derived.Lib.Join
import Derived.Shelf.Strings.Prefix
namespace Go.Proofs.Ytgnjbbedeeiemaa.Qt
open Go Rn

/-- Bytes that are no backslash are read as they are. -/
theorem pr_push (Y : ByteArray) (e : Nat) : ∀ (l pre rest out : List UInt8), Y.data.toList = pre ++ l ++ rest → (∀ c ∈ l, c.toNat ≠ 92) → pre.length + l.length ≤ e → prAt Y e pre.length out = prAt Y e (pre.length + l.length) (out ++ l) := by
  intro l
  induction l with
  | nil => intro pre rest out _ _ _; simp
  | cons c l ih =>
    intro pre rest out hY hc he
    obtain ⟨_, a2, a3⟩ := byte_of Y pre (l ++ rest) c (by rw [hY]; simp)
    simp only [List.length_cons] at he ⊢
    rw [prAt_eq Y e _ _ (by omega), if_pos (by rw [a3]; exact hc c (by simp)), a2]
    have := ih (pre ++ [c]) rest (out ++ [c]) (by rw [hY]; simp) (fun d hd => hc d (by simp [hd])) (by simp; omega)
    rw [show (pre ++ [c]).length = pre.length + 1 by simp] at this
    rw [this, List.append_assoc, Nat.add_assoc, Nat.add_comm 1]; rfl

theorem piece_lit (x : ByteArray) (i : Nat) (h : i < x.size) (hlow : byteAt x i < 128 → 32 ≤ byteAt x i ∧ byteAt x i ≠ 34 ∧ byteAt x i ≠ 92) :
    ∀ c ∈ (x.data.toList.drop i).take (Utf8.decode x i).2, c.toNat ≠ 34 ∧ c.toNat ≠ 92 := by
  have hw := width_le x i h
  rw [take_get x i _ hw]
  intro c hc
  obtain ⟨k, hk, rfl⟩ := List.mem_map.1 hc
  rw [List.mem_range] at hk
  have e : (x.get! (i + k)).toNat = byteAt x (i + k) := rfl
  rw [e]
  by_cases h0 : k = 0
  · subst h0
    rw [Nat.add_zero]
    by_cases h1 : byteAt x i < 128
    · exact ⟨(hlow h1).2.1, (hlow h1).2.2⟩
    · omega
  · have := inner_high x i (i + k) (by omega) (by omega)
    omega

/-- By bytes: the body of a quoted form tells its string. -/
theorem pr_body (x : ByteArray) (Y : ByteArray) (suf : List UInt8) : ∀ (b i : Nat) (pre out : List UInt8), x.size - i ≤ b → Y.data.toList = pre ++ bodyAt x i ++ suf → prAt Y (pre.length + (bodyAt x i).length) pre.length out = some (out ++ x.data.toList.drop i) := by
  intro b
  induction b with
  | zero =>
    intro i pre out hb hY
    rw [bodyAt_end x i (by omega)]
    rw [prAt_end Y _ _ _ (by simp), List.drop_eq_nil_of_le (by simpa using (by omega : x.size ≤ i)), List.append_nil]
  | succ b ih =>
    intro i pre out hb hY
    by_cases hi : i < x.size
    · rw [bodyAt_eq x i hi] at hY ⊢
      have hw := width_pos x i
      rcases piece_cases x i with ⟨hc, hp, hd⟩ | ⟨hc, hp, hd⟩ | ⟨hbad, n1, n2, hp, hlow⟩
      · rw [hp, hd] at hY ⊢
        have hY2 : Y.data.toList = (pre ++ [92, x.get! i]) ++ bodyAt x (i + 1) ++ suf := by rw [hY]; simp
        obtain ⟨a1, a2, a3⟩ := byte_of Y pre (x.get! i :: (bodyAt x (i + 1) ++ suf)) 92 (by rw [hY]; simp)
        obtain ⟨b1, b2, b3⟩ := byte_of Y (pre ++ [92]) (bodyAt x (i + 1) ++ suf) (x.get! i) (by rw [hY]; simp)
        rw [show (pre ++ [(92 : UInt8)]).length = pre.length + 1 by simp] at b1 b2 b3
        have bb : (x.get! i).toNat = byteAt x i := rfl
        simp only [List.length_append, List.length_cons, List.length_nil]
        rw [prAt_eq Y _ _ _ (by omega), if_neg (by rw [a3]; decide), if_pos ⟨by omega, by rw [b3, bb]; exact hc⟩, b2]
        have := ih (i + 1) (pre ++ [92, x.get! i]) (out ++ [x.get! i]) (by omega) hY2
        rw [show (pre ++ [(92 : UInt8), x.get! i]).length = pre.length + 2 by simp] at this
        rw [show pre.length + (0 + 1 + 1 + (bodyAt x (i + 1)).length) = pre.length + 2 + (bodyAt x (i + 1)).length by omega, this, drop_eq x i hi]; simp
      · rw [hp, hd] at hY ⊢
        unfold esc at hY ⊢
        obtain ⟨h1, hh1⟩ : ∃ h1, h1 = hex ((x.get! i).toNat / 16) := ⟨_, rfl⟩
        obtain ⟨h2, hh2⟩ : ∃ h2, h2 = hex ((x.get! i).toNat % 16) := ⟨_, rfl⟩
        have hmx := two_esc (x.get! i)
        have hc256 : (x.get! i).toNat < 256 := (x.get! i).toNat_lt
        have l1 := hex_val ((x.get! i).toNat / 16) (by omega)
        have l2 := hex_val ((x.get! i).toNat % 16) (by omega)
        rw [← hh1, ← hh2] at hmx hY ⊢
        rw [← hh1] at l1
        rw [← hh2] at l2
        have hY2 : Y.data.toList = (pre ++ [92, 120, h1, h2]) ++ bodyAt x (i + 1) ++ suf := by rw [hY]; simp
        obtain ⟨a1, a2, a3⟩ := byte_of Y pre ([120, h1, h2] ++ bodyAt x (i + 1) ++ suf) 92 (by rw [hY]; simp)
        obtain ⟨b1, b2, b3⟩ := byte_of Y (pre ++ [92]) ([h1, h2] ++ bodyAt x (i + 1) ++ suf) 120 (by rw [hY]; simp)
        obtain ⟨c1, c2, c3⟩ := byte_of Y (pre ++ [92, 120]) ([h2] ++ bodyAt x (i + 1) ++ suf) h1 (by rw [hY]; simp)
        obtain ⟨e1, e2, e3⟩ := byte_of Y (pre ++ [92, 120, h1]) (bodyAt x (i + 1) ++ suf) h2 (by rw [hY]; simp)
        rw [show (pre ++ [(92 : UInt8)]).length = pre.length + 1 by simp] at b1 b2 b3
        rw [show (pre ++ [(92 : UInt8), 120]).length = pre.length + 2 by simp] at c1 c2 c3
        rw [show (pre ++ [(92 : UInt8), 120, h1]).length = pre.length + 3 by simp] at e1 e2 e3
        simp only [List.length_append, List.length_cons, List.length_nil]
        have b4 : byteAt Y (pre.length + 1) = 120 := b3
        rw [prAt_eq Y _ _ _ (by omega), if_neg (by rw [a3]; decide), if_neg (by rw [b4]; omega), c2, e2, if_neg (by rw [b4, l1, l2]; omega), hmx]
        have := ih (i + 1) (pre ++ [92, 120, h1, h2]) (out ++ [x.get! i]) (by omega) hY2
        rw [show (pre ++ [(92 : UInt8), 120, h1, h2]).length = pre.length + 4 by simp] at this
        rw [show pre.length + (0 + 1 + 1 + 1 + 1 + (bodyAt x (i + 1)).length) = pre.length + 4 + (bodyAt x (i + 1)).length by omega, this, drop_eq x i hi]; simp
      · have hlit := piece_lit x i hi hlow
        rw [← hp] at hlit
        rw [List.length_append]
        rw [pr_push Y _ (piece x i) pre (bodyAt x (i + (Utf8.decode x i).2) ++ suf) out (by rw [hY]; simp) (fun c hc => (hlit c hc).2) (by omega)]
        have := ih (i + (Utf8.decode x i).2) (pre ++ piece x i) (out ++ piece x i) (by omega) (by rw [hY]; simp)
        rw [List.length_append] at this
        rw [← Nat.add_assoc, this, List.append_assoc]
        congr 2
        rw [hp, ← List.drop_drop]
        exact List.take_append_drop _ _
    · rw [bodyAt_end x i hi]
      rw [prAt_end Y _ _ _ (by simp), List.drop_eq_nil_of_le (by simpa using (by omega : x.size ≤ i)), List.append_nil]

theorem back (l : List UInt8) : (ByteArray.mk l.toArray).data.toList = l := by simp
theorem same_list {s t : ByteArray} (h : s.data.toList = t.data.toList) : s = t := by
  cases s with | mk a => cases t with | mk b => congr 1; exact Array.toList_inj.1 h

/-- What the document reads. -/
def rd (s : ByteArray) : Option (List UInt8) := if s.size < 2 then none else prAt s (s.size - 1) 1 []
theorem rd_quote (x s : ByteArray) (h : s.data.toList = quote x) : rd s = some x.data.toList := by
  have hsz : s.size = (quote x).length := by rw [← h]; rfl
  have hl : (quote x).length = 1 + (bodyAt x 0).length + 1 := by unfold quote; simp; omega
  unfold rd
  rw [if_neg (by omega), show s.size - 1 = 1 + (bodyAt x 0).length by omega]
  have := pr_body x s [34] _ 0 [34] [] (Nat.le_refl _) (by rw [h]; rfl)
  simpa using this

/-- What the program reads: the quotes off, the rest by runes. -/
def trimmed (s : ByteArray) : List UInt8 := Lib.trimPrefix (Lib.trimSuffix s.data.toList [34]) [34]
def got (s : ByteArray) : List UInt8 := pl ⟨(trimmed s).toArray⟩
theorem trimmed_quote (x s : ByteArray) (h : s.data.toList = quote x) : trimmed s = bodyAt x 0 := by
  unfold trimmed
  rw [h]
  have h1 : Lib.trimSuffix (quote x) [34] = 34 :: bodyAt x 0 := by
    unfold Lib.trimSuffix Lib.hasSuffix quote
    simp
  rw [h1]
  unfold Lib.trimPrefix Lib.hasPrefix
  simp
theorem got_quote (x s : ByteArray) (h : s.data.toList = quote x) : got s = x.data.toList := by
  unfold got
  rw [trimmed_quote x s h, pl_quote]

/-- The string of which s is the quoted form. -/
def unq (s : ByteArray) : Option (List UInt8) := if quote ⟨(got s).toArray⟩ = s.data.toList then some (got s) else none
def refUnq (s : ByteArray) : Option (List UInt8) := match rd s with
  | none => none
  | some o => if quote ⟨o.toArray⟩ = s.data.toList then some o else none
theorem unq_same (s : ByteArray) : refUnq s = unq s := by
  unfold unq refUnq
  by_cases h : quote ⟨(got s).toArray⟩ = s.data.toList
  · rw [if_pos h, rd_quote ⟨(got s).toArray⟩ s h.symm]
    simp only
    rw [if_pos h]
  · rw [if_neg h]
    cases hr : rd s with
    | none => rfl
    | some o =>
      simp only
      rw [if_neg]
      intro ho
      have := got_quote ⟨o.toArray⟩ s ho.symm
      rw [back] at this
      exact h (by rw [this]; exact ho)
theorem unq_quote (x s : ByteArray) (h : s.data.toList = quote x) : unq s = some x.data.toList := by
  unfold unq
  rw [got_quote x s h, if_pos]
  rw [h]
theorem unq_form (s : ByteArray) (o : List UInt8) (h : unq s = some o) : s.data.toList = quote ⟨o.toArray⟩ := by
  unfold unq at h
  split at h
  · rename_i hq; cases h; exact hq.symm
  · cases h
end Go.Proofs.Ytgnjbbedeeiemaa.Qt
