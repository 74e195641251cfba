/- Ballots, as plain values: valid ones, which is less, the greatest, the next, the text. No program is spoken of. -/
import Derived.Test.YtdbiplicmdnblaaDoorLie
import Derived.Lib.ItoaNum
namespace Go.Proofs.YtdbiplicmdnblaaDoor

namespace Bl

/-- A ballot. -/
structure Bal where
  round : Int
  node : Int
  deriving DecidableEq

/-- The fields of the machine's numbers. -/
structure Bal.Fits (b : Bal) : Prop where
  r0 : -9223372036854775808 ≤ b.round
  r1 : b.round ≤ 9223372036854775807
  n0 : -9223372036854775808 ≤ b.node
  n1 : b.node ≤ 9223372036854775807

def zero : Bal := ⟨0, 0⟩
theorem zero_fits : zero.Fits := by constructor <;> simp [zero]
def cells (b : Bal) : Array Value := #[.int .i64 b.round, .int .i64 b.node]

def within (n most : Int) : Bool := decide (1 ≤ n) && decide (n ≤ most)
def may (b : Bal) : Bool := decide (b = zero) || (within b.round 4294967296 && within b.node 9)
def less (a b : Bal) : Bool := if a.round = b.round then decide (a.node < b.node) else decide (a.round < b.round)
def top (x y : Bal) : Bal := if less x y = true then y else x
def most (l : List Bal) : Bal := match l with
  | [] => zero
  | x :: r => r.foldl top x
/-- The first round that Next looks at. -/
def from1 (b : Bal) : Int := max b.round 1
def first (b : Bal) (node : Int) : Bal := ⟨from1 b, node⟩
def step (b : Bal) (node : Int) : Bal := if less b (first b node) = true then first b node else ⟨from1 b + 1, node⟩
def next (b : Bal) (node : Int) : Bal × Int := if may b = true ∧ within node 9 = true then (if 4294967296 < (step b node).round then (zero, 6) else (step b node, 0)) else (zero, 6)
def text (b : Bal) : List UInt8 := if may b = true then Lib.itoa b.round ++ [46] ++ Lib.itoa b.node else []

theorem may_cases (b : Bal) (h : may b = true) : b = zero ∨ (1 ≤ b.round ∧ b.round ≤ 4294967296 ∧ 1 ≤ b.node ∧ b.node ≤ 9) := by
  unfold may within at h
  simp only [Bool.or_eq_true, Bool.and_eq_true, decide_eq_true_eq] at h
  rcases h with h | h
  · exact Or.inl h
  · exact Or.inr ⟨h.1.1, h.1.2, h.2.1, h.2.2⟩
theorem may_num (b : Bal) (h : may b = true) : 0 ≤ b.round ∧ b.round ≤ 4294967296 ∧ 0 ≤ b.node ∧ b.node ≤ 9 := by
  rcases may_cases b h with rfl | h
  · simp [zero]
  · omega
theorem may_fits (b : Bal) (h : may b = true) : b.Fits := by
  have := may_num b h
  constructor <;> omega
theorem less_irr (a : Bal) : less a a = false := by simp [less]
theorem less_or (a b : Bal) : (less a b = true ∧ less b a = false ∧ a ≠ b) ∨ (less a b = false ∧ less b a = true ∧ a ≠ b) ∨ (less a b = false ∧ less b a = false ∧ a = b) := by
  obtain ⟨r, n⟩ := a
  obtain ⟨r', n'⟩ := b
  simp only [less, ne_eq, Bal.mk.injEq]
  by_cases h : r = r'
  · subst h
    simp only [if_true, true_and, decide_eq_true_eq, decide_eq_false_iff_not]
    omega
  · rw [if_neg h, if_neg (fun e => h e.symm)]
    simp only [h, false_and, not_false_eq_true, and_true, decide_eq_true_eq, decide_eq_false_iff_not, and_false, or_false]
    omega
theorem less_trans (a b c : Bal) (h : less b a = false) (k : less c b = false) : less c a = false := by
  obtain ⟨r, n⟩ := a
  obtain ⟨r', n'⟩ := b
  obtain ⟨r'', n''⟩ := c
  simp only [less] at h k ⊢
  split at h <;> split at k <;> split <;> simp only [decide_eq_false_iff_not] at h k ⊢ <;> omega
theorem top_or (x y : Bal) : top x y = x ∨ top x y = y := by unfold top; split <;> simp
theorem top_left (x y : Bal) : less (top x y) x = false := by
  unfold top
  split
  · rename_i h
    rcases less_or x y with h1 | h1 | ⟨_, _, rfl⟩
    · exact h1.2.1
    · rw [h1.1] at h; cases h
    · rw [less_irr] at h; cases h
  · exact less_irr x
theorem top_right (x y : Bal) : less (top x y) y = false := by
  unfold top
  split
  · exact less_irr y
  · rename_i h
    simpa using h
theorem fold_top : ∀ (l : List Bal) (x : Bal), (l.foldl top x = x ∨ l.foldl top x ∈ l) ∧ less (l.foldl top x) x = false ∧ ∀ y ∈ l, less (l.foldl top x) y = false := by
  intro l
  induction l with
  | nil => intro x; exact ⟨Or.inl rfl, less_irr x, fun y hy => by simp at hy⟩
  | cons z l ih =>
    intro x
    obtain ⟨h1, h2, h3⟩ := ih (top x z)
    rw [List.foldl_cons]
    refine ⟨?_, less_trans _ _ _ (top_left x z) h2, fun y hy => ?_⟩
    · rcases h1 with h1 | h1
      · rw [h1]
        rcases top_or x z with h | h <;> rw [h] <;> simp
      · exact Or.inr (List.mem_cons_of_mem _ h1)
    · rcases List.mem_cons.1 hy with rfl | hy
      · exact less_trans _ _ _ (top_right x y) h2
      · exact h3 y hy
theorem most_in (l : List Bal) (h : l ≠ []) : most l ∈ l ∧ ∀ y ∈ l, less (most l) y = false := by
  cases l with
  | nil => exact absurd rfl h
  | cons x r =>
    obtain ⟨h1, h2, h3⟩ := fold_top r x
    refine ⟨?_, fun y hy => ?_⟩
    · rcases h1 with h1 | h1
      · show r.foldl top x ∈ _; rw [h1]; exact List.mem_cons_self
      · exact List.mem_cons_of_mem _ h1
    · rcases List.mem_cons.1 hy with rfl | hy
      · exact h2
      · exact h3 y hy
theorem most_snoc (x : Bal) (l : List Bal) (y : Bal) : most (x :: (l ++ [y])) = top (most (x :: l)) y := by
  show (l ++ [y]).foldl top x = top (l.foldl top x) y
  rw [List.foldl_append]; rfl

/-! The next ballot. -/
theorem from1_num (b : Bal) (h : may b = true) : 1 ≤ from1 b ∧ from1 b ≤ 4294967296 ∧ (b.round ≤ from1 b) := by
  have := may_num b h
  unfold from1
  omega
theorem next_ok (b : Bal) (node : Int) (h : (next b node).2 = 0) : may b = true ∧ within node 9 = true ∧ (next b node).1 = step b node ∧ (step b node).round ≤ 4294967296 := by
  unfold next at h ⊢
  by_cases h1 : may b = true ∧ within node 9 = true
  · rw [if_pos h1] at h ⊢
    by_cases h2 : 4294967296 < (step b node).round
    · rw [if_pos h2] at h; cases h
    · rw [if_neg h2] at h ⊢
      exact ⟨h1.1, h1.2, rfl, by omega⟩
  · rw [if_neg h1] at h; cases h
theorem next_or (b : Bal) (node : Int) : (next b node = (zero, 6)) ∨ ((next b node).2 = 0) := by
  unfold next
  split
  · split
    · exact Or.inl rfl
    · exact Or.inr rfl
  · exact Or.inl rfl
theorem step_says (b : Bal) (node : Int) (h : may b = true) : less b (step b node) = true ∧ (step b node).node = node ∧ 1 ≤ (step b node).round ∧ (step b node).round ≤ 4294967297 ∧
    ((step b node).round = 1 ∨ less b ⟨(step b node).round - 1, node⟩ = false) := by
  have hf := from1_num b h
  unfold step
  by_cases hl : less b (first b node) = true
  · rw [if_pos hl]
    refine ⟨hl, rfl, by show 1 ≤ from1 b; omega, by show from1 b ≤ _; omega, ?_⟩
    show from1 b = 1 ∨ less b ⟨from1 b - 1, node⟩ = false
    by_cases h1 : 1 ≤ b.round
    · have e : from1 b = b.round := by unfold from1; omega
      right
      rw [e]
      unfold less
      rw [if_neg (by show ¬ b.round = b.round - 1; omega)]
      show decide (b.round < b.round - 1) = false
      exact decide_eq_false (by omega)
    · left
      unfold from1; omega
  · rw [if_neg hl]
    have hl' : less b (first b node) = false := by simpa using hl
    refine ⟨?_, rfl, by show 1 ≤ from1 b + 1; omega, by show from1 b + 1 ≤ _; omega, ?_⟩
    · unfold less
      rw [if_neg (by show ¬ b.round = from1 b + 1; omega)]
      show decide (b.round < from1 b + 1) = true
      exact decide_eq_true (by omega)
    · right
      show less b ⟨from1 b + 1 - 1, node⟩ = false
      rw [show from1 b + 1 - 1 = from1 b by omega]
      exact hl'
/-- The same, as the document has it. -/
def refUp (b : Bal) (node : Int) : Bool := decide (b.round = 0) || decide (node ≤ b.node)
def refStep (b : Bal) (node : Int) : Bal := if refUp b node = true then ⟨b.round + 1, node⟩ else ⟨b.round, node⟩
def refNext (b : Bal) (node : Int) : Bal × Bool := if may b = true ∧ within node 9 = true then (if 4294967296 < (refStep b node).round then (zero, false) else (refStep b node, true)) else (zero, false)
theorem step_same (b : Bal) (node : Int) (h : may b = true) : refStep b node = step b node := by
  rcases may_cases b h with rfl | hb
  · have h1 : refUp zero node = true := by simp [refUp, zero]
    have h2 : less zero (first zero node) = true := by rw [show first zero node = ⟨1, node⟩ from rfl]; simp [less, zero]
    unfold refStep step
    rw [if_pos h1, if_pos h2]
    rfl
  · have e : from1 b = b.round := by unfold from1; omega
    unfold refStep step
    by_cases hle : node ≤ b.node
    · have h1 : refUp b node = true := by simp [refUp, hle]
      have h2 : ¬ less b (first b node) = true := by simp [less, first, e]; omega
      rw [if_pos h1, if_neg h2, e]
    · have h1 : ¬ refUp b node = true := by simp [refUp]; omega
      have h2 : less b (first b node) = true := by simp [less, first, e]; omega
      rw [if_neg h1, if_pos h2]
      unfold first
      rw [e]
theorem next_same (b : Bal) (node : Int) : refNext b node = ((next b node).1, decide ((next b node).2 = 0)) := by
  unfold refNext next
  by_cases h : may b = true ∧ within node 9 = true
  · rw [if_pos h, if_pos h, step_same b node h.1]
    split <;> rfl
  · rw [if_neg h, if_neg h]; rfl

end Bl

end Go.Proofs.YtdbiplicmdnblaaDoor
