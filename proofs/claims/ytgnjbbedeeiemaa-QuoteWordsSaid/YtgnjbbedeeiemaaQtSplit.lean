/- Lines, plain: the parts between spaces that are not quoted; they join again; words come back. No program is spoken of. -/
import Derived.Test.YtgnjbbedeeiemaaQtWords
namespace Go.Proofs.Ytgnjbbedeeiemaa.Qt
open Go Rn

/-- The parts of a line, by bytes: the part begun, whether within quotes, whether behind a backslash there, the parts done. -/
def sp : List UInt8 → List UInt8 → Bool → Bool → List (List UInt8) → List (List UInt8)
  | [], cur, _, _, l => l ++ [cur]
  | c :: r, cur, qd, es, l =>
    if es = true then sp r (cur ++ [c]) qd false l
    else if c.toNat = 92 then sp r (cur ++ [c]) qd qd l
    else if c.toNat = 34 ∧ (qd = true ∨ cur = []) then sp r (cur ++ [c]) (!qd) es l
    else if c.toNat = 32 ∧ qd = false then sp r [] qd es (l ++ [cur])
    else sp r (cur ++ [c]) qd es l
def split (s : List UInt8) : List (List UInt8) := sp s [] false false []

/-- High bytes go in as they are. -/
theorem sp_high (qd : Bool) (l : List (List UInt8)) : ∀ (h r cur : List UInt8), (∀ c ∈ h, 128 ≤ c.toNat) → sp (h ++ r) cur qd false l = sp r (cur ++ h) qd false l := by
  intro h
  induction h with
  | nil => intro r cur _; simp
  | cons c h ih =>
    intro r cur hc
    have h1 := hc c (by simp)
    rw [List.cons_append]
    simp only [sp]
    rw [if_neg (by simp), if_neg (by omega), if_neg (by omega), if_neg (by omega), ih r (cur ++ [c]) (fun d hd => hc d (by simp [hd])), List.append_assoc]
    rfl
theorem join_snoc (l : List (List UInt8)) (a : List UInt8) (sep : List UInt8) : Lib.join (l ++ [a]) sep = (if l = [] then a else Lib.join l sep ++ sep ++ a) := by
  cases l with
  | nil => rw [List.nil_append, if_pos rfl, Lib.join_one]
  | cons x r =>
    rw [if_neg (by simp), List.cons_append, Lib.join_cons, Lib.join_cons]
    unfold Lib.joinTail
    simp
theorem join_cur (l : List (List UInt8)) (a b : List UInt8) (sep : List UInt8) : Lib.join (l ++ [a ++ b]) sep = Lib.join (l ++ [a]) sep ++ b := by
  rw [join_snoc, join_snoc]
  split
  · rfl
  · simp
theorem sp_join : ∀ (r cur : List UInt8) (qd es : Bool) (l : List (List UInt8)), Lib.join (sp r cur qd es l) [32] = Lib.join (l ++ [cur]) [32] ++ r := by
  intro r
  induction r with
  | nil => intro cur qd es l; simp [sp]
  | cons c r ih =>
    intro cur qd es l
    have hcur : ∀ qd es, Lib.join (sp r (cur ++ [c]) qd es l) [32] = Lib.join (l ++ [cur]) [32] ++ c :: r := by
      intro qd es
      rw [ih, join_cur]; simp
    simp only [sp]
    split
    · exact hcur _ _
    · split
      · exact hcur _ _
      · split
        · exact hcur _ _
        · split
          · rename_i h
            have hc : c = 32 := UInt8.toNat_inj.1 h.1
            subst hc
            rw [ih, join_snoc (l ++ [cur]) [] [32], if_neg (by simp)]
            simp
          · exact hcur _ _
theorem split_join (s : List UInt8) : Lib.join (split s) [32] = s := by
  unfold split
  rw [sp_join]
  simp [Lib.join_one]

/-- A word. -/
def bare (l : List UInt8) : Bool := l.all fun c => decide (32 < c.toNat)
def word (s : ByteArray) : Bool := if s.size = 0 then false else if byteAt s 0 = 34 then (unq s).isSome else bare s.data.toList

theorem sp_bare : ∀ (w r cur : List UInt8) (l : List (List UInt8)), (∀ c ∈ w, 32 < c.toNat) → (cur ≠ [] ∨ ∀ c, w.head? = some c → c.toNat ≠ 34) → sp (w ++ r) cur false false l = sp r (cur ++ w) false false l := by
  intro w
  induction w with
  | nil => intro r cur l _ _; simp
  | cons c w ih =>
    intro r cur l hc h0
    have h1 := hc c (by simp)
    have h2 : ¬ (c.toNat = 34 ∧ (false = true ∨ cur = [])) := by
      rintro ⟨h3, h4⟩
      rcases h0 with h5 | h5
      · rcases h4 with h4 | h4
        · cases h4
        · exact h5 h4
      · exact h5 c rfl h3
    have h3 := ih r (cur ++ [c]) l (fun d hd => hc d (by simp [hd])) (.inl (by simp))
    rw [List.append_assoc] at h3
    rw [List.cons_append]
    simp only [sp]
    rw [if_neg (by simp)]
    by_cases h92 : c.toNat = 92
    · rw [if_pos h92]; exact h3
    · rw [if_neg h92, if_neg h2, if_neg (by omega)]; exact h3
theorem sp_lit (l : List (List UInt8)) : ∀ (w r cur : List UInt8), (∀ c ∈ w, c.toNat ≠ 34 ∧ c.toNat ≠ 92) → sp (w ++ r) cur true false l = sp r (cur ++ w) true false l := by
  intro w
  induction w with
  | nil => intro r cur _; simp
  | cons c w ih =>
    intro r cur hc
    have h1 := hc c (by simp)
    have h3 := ih r (cur ++ [c]) (fun d hd => hc d (by simp [hd]))
    rw [List.append_assoc] at h3
    rw [List.cons_append]
    simp only [sp]
    rw [if_neg (by simp), if_neg h1.2, if_neg (by simp [h1.1]), if_neg (by simp)]
    exact h3
theorem sp_body (x : ByteArray) (l : List (List UInt8)) (r : List UInt8) : ∀ (b i : Nat) (cur : List UInt8), x.size - i ≤ b → sp (bodyAt x i ++ r) cur true false l = sp r (cur ++ bodyAt x i) true false l := by
  intro b
  induction b with
  | zero => intro i cur hb; rw [bodyAt_end x i (by omega)]; simp
  | succ b ih =>
    intro i cur hb
    by_cases hi : i < x.size
    · rw [bodyAt_eq x i hi]
      have hw := width_pos x i
      have hnext : ∀ cur, sp (bodyAt x (i + (Utf8.decode x i).2) ++ r) cur true false l = sp r (cur ++ bodyAt x (i + (Utf8.decode x i).2)) true false l := fun cur => ih _ cur (by omega)
      suffices hp : ∀ (q : List UInt8), sp (piece x i ++ q) cur true false l = sp q (cur ++ piece x i) true false l by
        rw [List.append_assoc, hp, hnext, List.append_assoc]
      intro q
      rcases piece_cases x i with ⟨hc, hp, _⟩ | ⟨hc, hp, _⟩ | ⟨_, _, _, hp, hlow⟩
      · rw [hp]
        simp [sp]
      · rw [hp]
        have hc256 : (x.get! i).toNat < 256 := (x.get! i).toNat_lt
        have l1 := hex_low ((x.get! i).toNat / 16) (by omega)
        have l2 := hex_low ((x.get! i).toNat % 16) (by omega)
        simp [sp, esc, l1, l2]
      · have hlit := piece_lit x i hi hlow
        rw [← hp] at hlit
        exact sp_lit l _ q cur hlit
    · rw [bodyAt_end x i hi]; simp
theorem sp_word (s : ByteArray) (h : word s = true) (r : List UInt8) (l : List (List UInt8)) : sp (s.data.toList ++ r) [] false false l = sp r s.data.toList false false l := by
  unfold word at h
  by_cases h0 : s.size = 0
  · rw [if_pos h0] at h; cases h
  · rw [if_neg h0] at h
    have h1 := list_at s 0 (by omega)
    by_cases h2 : byteAt s 0 = 34
    · rw [if_pos h2] at h
      obtain ⟨o, ho⟩ := Option.isSome_iff_exists.1 h
      have hq := unq_form s o ho
      rw [hq]
      unfold quote
      rw [List.cons_append, List.cons_append, List.append_assoc]
      have e1 : sp (34 :: (bodyAt ⟨o.toArray⟩ 0 ++ ([34] ++ r))) [] false false l = sp (bodyAt ⟨o.toArray⟩ 0 ++ ([34] ++ r)) [34] true false l := by simp [sp]
      rw [e1, sp_body _ l _ _ 0 [34] (Nat.le_refl _)]
      simp [sp]
    · rw [if_neg h2] at h
      have := sp_bare s.data.toList r [] l (fun c hc => of_decide_eq_true (List.all_eq_true.1 h c hc)) (.inr (by
        intro c hc
        rw [List.head?_eq_getElem?, h1] at hc
        rw [← Option.some.inj hc]
        exact h2))
      simpa using this
/-- Words come back from their line. -/
theorem split_words : ∀ (ws : List ByteArray) (l : List (List UInt8)), ws ≠ [] → (∀ s ∈ ws, word s = true) → sp (Lib.join (ws.map (·.data.toList)) [32]) [] false false l = l ++ ws.map (·.data.toList) := by
  intro ws
  induction ws with
  | nil => intro l h _; exact absurd rfl h
  | cons s ws ih =>
    intro l _ hw
    have h1 := hw s (by simp)
    cases ws with
    | nil =>
      rw [List.map_cons, List.map_nil, Lib.join_one]
      have := sp_word s h1 [] l
      rw [List.append_nil] at this
      rw [this]; rfl
    | cons t ws =>
      have h2 := ih (l ++ [s.data.toList]) (by simp) (fun u hu => hw u (by simp [hu]))
      have e : Lib.join ((s :: t :: ws).map (·.data.toList)) [32] = s.data.toList ++ (32 :: Lib.join ((t :: ws).map (·.data.toList)) [32]) := by
        rw [List.map_cons, Lib.join_cons, List.map_cons, Lib.join_cons]
        simp [Lib.joinTail]
      rw [e, sp_word s h1]
      have e2 : sp (32 :: Lib.join ((t :: ws).map (·.data.toList)) [32]) s.data.toList false false l = sp (Lib.join ((t :: ws).map (·.data.toList)) [32]) [] false false (l ++ [s.data.toList]) := by simp [sp]
      rw [e2, h2]
      simp
theorem word_long (s : ByteArray) (h : word s = true) : 0 < s.size := by
  unfold word at h
  split at h
  · cases h
  · omega
end Go.Proofs.Ytgnjbbedeeiemaa.Qt
