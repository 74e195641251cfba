/- Several texts of mine in one: MsRef MsRefC. -/
import Derived.Test.YtfdnmmmjaipgoaaDoorGMa
import Derived.Test.YtfdnmmmjaipgoaaDoorGEr
import Derived.Test.YtfdnmmmjaipgoaaDoorGMb
namespace Go.Proofs.YtfdnmmmjaipgoaaDoor
open Go.RowKit

namespace Ms
def letTab : List (List UInt8) := [[], [118], [118], [98, 105], [98, 105, 99, 101], [98, 101], [98, 105], [98], [98, 99], [105], [99, 101], [109]]
def letters (k : Int) : List UInt8 := if 1 ≤ k ∧ k ≤ 11 then letTab.getD k.toNat [] else []
theorem letters_no {k : Int} (h : k < 1 ∨ 11 < k) : letters k = [] := by unfold letters; rw [if_neg (by omega)]
theorem letters_known (k : Int) : (ByteArray.mk (letters k).toArray).toList.isEmpty = !known k := by
  rw [Qt.empty_eq, str_size]
  rcases kinds k with rfl | rfl | rfl | rfl | rfl | rfl | rfl | rfl | rfl | rfl | rfl | h
  rotate_right
  · rw [letters_no h, (has_no h).2.2.2.2.2.2]; rfl
  all_goals decide +kernel
theorem letters_has (k : Int) : (letters k).contains 98 = hb k ∧ (letters k).contains 105 = hi k ∧ (letters k).contains 99 = hc k ∧ (letters k).contains 118 = hv k ∧ (letters k).contains 101 = he k ∧ (letters k).contains 109 = hm k := by
  rcases kinds k with rfl | rfl | rfl | rfl | rfl | rfl | rfl | rfl | rfl | rfl | rfl | h
  rotate_right
  · obtain ⟨h1, h2, h3, h4, h5, h6, _⟩ := has_no h
    rw [letters_no h, h1, h2, h3, h4, h5, h6]
    decide +kernel
  all_goals decide +kernel
theorem letters_len (k : Int) : (letters k).length ≤ 4 := by
  rcases kinds k with rfl | rfl | rfl | rfl | rfl | rfl | rfl | rfl | rfl | rfl | rfl | h
  rotate_right
  · rw [letters_no h]; simp
  all_goals decide +kernel
theorem has_yes {l : List UInt8} {q : Nat} {c : UInt8} (h : l[q]? = some c) : l.contains c = true := by
  rw [List.contains_iff_mem]
  exact List.mem_of_getElem? h
theorem has_step {l : List UInt8} {q : Nat} {c d : UInt8} (h : l[q]? = some d) (hd : d ≠ c) (hi : (l.take q).contains c = false) : (l.take (q + 1)).contains c = false := by
  rw [List.take_add_one, h]
  have h1 : ¬ c ∈ l.take q := fun hm => by rw [List.contains_iff_mem.2 hm] at hi; cases hi
  have h2 : ¬ c ∈ l.take q ++ (some d).toList := by
    intro hm
    rcases List.mem_append.1 hm with hm | hm
    · exact h1 hm
    · simp at hm; exact hd hm.symm
  cases hcs : (l.take q ++ (some d).toList).contains c with
  | false => rfl
  | true => exact absurd (List.contains_iff_mem.1 hcs) h2
/-- Whose ballot it is. -/
theorem owned_round (b : Bl.Bal) : owned b = (Bl.may b && decide (0 < b.round)) := by
  unfold owned
  cases h : Bl.may b with
  | false => rfl
  | true =>
    rw [Bool.true_and, Bool.true_and]
    refine decide_eq_decide.2 ?_
    unfold Bl.may Bl.within at h
    constructor
    · intro hne
      rcases Bool.or_eq_true_iff.1 h with h1 | h1
      · exact absurd (of_decide_eq_true h1) hne
      · simp only [Bool.and_eq_true, decide_eq_true_eq] at h1; omega
    · intro h0 he
      rw [he] at h0
      simp [Bl.zero] at h0
def large (m : Msg) : Bool := En.large m.ents || ((decide (300 < m.img.length) && decide (m.img.length < 32760)) || decide (32780 < m.img.length))
theorem mk_at (s : ByteArray) (l : List UInt8) (hs : s.data.toList = l) {q : Nat} {c : UInt8} (h : l[q]? = some c) : ∀ h', (s[q]'h').toNat = c.toNat := by
  intro h'
  have h1 := Rn.list_at s q h'
  rw [hs, h] at h1
  rw [Rn.byteAt_get s q h']
  unfold Rn.byteAt
  rw [← Option.some.inj h1]
end Ms

/-! Its six letters. -/
end Go.Proofs.YtfdnmmmjaipgoaaDoor


namespace Go.Proofs.YtfdnmmmjaipgoaaDoor
open Go.RowKit

namespace Ms
theorem own_iff (m : Msg) : own m = m ↔ (hb m.kind = true ∨ m.bal = Bl.zero) ∧ (hi m.kind = true ∨ m.index = 0) ∧ (hc m.kind = true ∨ m.commit = 0) ∧ (hv m.kind = true ∨ m.version = 0) ∧ (he m.kind = true ∨ m.ents = []) ∧ (hm m.kind = true ∨ m.img = []) := by
  unfold own
  obtain ⟨k, f, d, b, i, c, v, e, g⟩ := m
  simp only [Msg.mk.injEq, true_and]
  constructor
  · rintro ⟨h1, h2, h3, h4, h5, h6⟩
    refine ⟨?_, ?_, ?_, ?_, ?_, ?_⟩
    · by_cases h : hb k = true
      · exact .inl h
      · rw [if_neg h] at h1; exact .inr h1.symm
    · by_cases h : hi k = true
      · exact .inl h
      · rw [if_neg h] at h2; exact .inr h2.symm
    · by_cases h : hc k = true
      · exact .inl h
      · rw [if_neg h] at h3; exact .inr h3.symm
    · by_cases h : hv k = true
      · exact .inl h
      · rw [if_neg h] at h4; exact .inr h4.symm
    · by_cases h : he k = true
      · exact .inl h
      · rw [if_neg h] at h5; exact .inr h5.symm
    · by_cases h : hm k = true
      · exact .inl h
      · rw [if_neg h] at h6; exact .inr h6.symm
  · rintro ⟨h1, h2, h3, h4, h5, h6⟩
    refine ⟨?_, ?_, ?_, ?_, ?_, ?_⟩
    · rcases h1 with h | h
      · rw [if_pos h]
      · rw [h]; split <;> rfl
    · rcases h2 with h | h
      · rw [if_pos h]
      · rw [h]; split <;> rfl
    · rcases h3 with h | h
      · rw [if_pos h]
      · rw [h]; split <;> rfl
    · rcases h4 with h | h
      · rw [if_pos h]
      · rw [h]; split <;> rfl
    · rcases h5 with h | h
      · rw [if_pos h]
      · rw [h]; split <;> rfl
    · rcases h6 with h | h
      · rw [if_pos h]
      · rw [h]; split <;> rfl
theorem letters_empty (k : Int) : (letters k).isEmpty = !known k := by
  rcases kinds k with rfl | rfl | rfl | rfl | rfl | rfl | rfl | rfl | rfl | rfl | rfl | h
  rotate_right
  · rw [letters_no h, (has_no h).2.2.2.2.2.2]; rfl
  all_goals decide +kernel
def hasX (k x : Int) : Bool := (letters k).contains (UInt8.ofNat x.toNat)
theorem hasX_b {k : Int} {t : Bool} (h : hb k = t) : hasX k 98 = t := (letters_has k).1.trans h
theorem hasX_i {k : Int} {t : Bool} (h : hi k = t) : hasX k 105 = t := (letters_has k).2.1.trans h
theorem hasX_c {k : Int} {t : Bool} (h : hc k = t) : hasX k 99 = t := (letters_has k).2.2.1.trans h
theorem hasX_v {k : Int} {t : Bool} (h : hv k = t) : hasX k 118 = t := (letters_has k).2.2.2.1.trans h
theorem hasX_e {k : Int} {t : Bool} (h : he k = t) : hasX k 101 = t := (letters_has k).2.2.2.2.1.trans h
theorem hasX_m {k : Int} {t : Bool} (h : hm k = t) : hasX k 109 = t := (letters_has k).2.2.2.2.2.trans h
theorem bal_zero {b : Bl.Bal} (h : b.round = 0) (h2 : b.node = 0) : b = Bl.zero := by
  obtain ⟨r, n⟩ := b
  simp only at h h2
  subst h
  subst h2
  rfl
def f1 (m : Msg) : Bool := decide (own m = m) && (!hm m.kind || decide (0 < m.img.length))
def f2 (m : Msg) : Bool := if m.kind = 5 then sole m else true
theorem form_split (m : Msg) : (decide (own m = m) && whole m) = (f1 m && f2 m) := by
  unfold f1 f2 whole
  by_cases h5 : m.kind = 5
  · rw [if_pos h5, if_pos h5, show hm m.kind = false by rw [h5]; decide]
    simp
  · rw [if_neg h5, if_neg h5]
    by_cases h11 : m.kind = 11
    · rw [if_pos h11, show hm m.kind = true by rw [h11]; decide]
      simp
    · rw [if_neg h11, show hm m.kind = false from decide_eq_false h11]
      simp
end Ms
end Go.Proofs.YtfdnmmmjaipgoaaDoor
