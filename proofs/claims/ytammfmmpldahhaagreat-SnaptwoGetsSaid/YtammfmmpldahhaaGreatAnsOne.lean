/- An answer, as a plain value, and what is wrong with one. No program is spoken of. -/
import Derived.Test.YtammfmmpldahhaaGreatGRune
import Derived.Test.YtammfmmpldahhaaGreatVers
namespace Go.Proofs.YtammfmmpldahhaaGreat

namespace An

/-- An answer. -/
structure Ans where
  client : Int
  seq : Int
  err : Int
  found : Bool
  val : List UInt8
  rev : Int
  deriving DecidableEq

/-- The fields of the machine's numbers. -/
structure Ans.Fits (a : Ans) : Prop where
  c0 : -9223372036854775808 ≤ a.client
  c1 : a.client ≤ 9223372036854775807
  q0 : -9223372036854775808 ≤ a.seq
  q1 : a.seq ≤ 9223372036854775807
  e0 : -9223372036854775808 ≤ a.err
  e1 : a.err ≤ 9223372036854775807
  r0 : -9223372036854775808 ≤ a.rev
  r1 : a.rev ≤ 9223372036854775807

def zero : Ans := ⟨0, 0, 0, false, [], 0⟩
theorem zero_fits : zero.Fits := by constructor <;> simp [zero]
def cells (a : Ans) : Array Value := #[.int .i64 a.client, .int .i64 a.seq, .int .i64 a.err, .bool a.found, .string ⟨a.val.toArray⟩, .int .i64 a.rev]

/-! What is wrong with an answer. -/
def within (n least most : Int) : Bool := decide (least ≤ n) && decide (n ≤ most)
def okN (a : Ans) : Bool := within a.client 1 8 && (within a.seq 1 4294967296 && (within a.err 0 17 && within a.rev 0 4294967296))
def check (a : Ans) : Int := if okN a = false then 6 else if Rn.val ⟨a.val.toArray⟩ = false then 7 else 0
def checkIn (v : Int) (a : Ans) : Int := if Vs.may v = false then 8 else if check a ≠ 0 then check a else if v ≠ 2 ∧ a.rev ≠ 0 then 8 else 0

theorem check_num {a : Ans} (h : check a = 0) : 1 ≤ a.client ∧ a.client ≤ 8 ∧ 1 ≤ a.seq ∧ a.seq ≤ 4294967296 ∧ 0 ≤ a.err ∧ a.err ≤ 17 ∧ 0 ≤ a.rev ∧ a.rev ≤ 4294967296 := by
  unfold check at h
  by_cases h1 : okN a = false
  · rw [if_pos h1] at h; omega
  · have h2 : okN a = true := by simpa using h1
    unfold okN within at h2
    simp only [Bool.and_eq_true, decide_eq_true_eq] at h2
    omega
theorem check_fits {a : Ans} (h : check a = 0) : a.Fits := by
  have := check_num h
  constructor <;> omega
theorem checkIn_ok {v : Int} {a : Ans} (h : checkIn v a = 0) : Vs.may v = true ∧ check a = 0 ∧ (v ≠ 2 → a.rev = 0) := by
  unfold checkIn at h
  by_cases h1 : Vs.may v = false
  · rw [if_pos h1] at h; omega
  · rw [if_neg h1] at h
    by_cases h2 : check a = 0
    · rw [if_neg (by simpa using h2)] at h
      refine ⟨by simpa using h1, h2, fun hv => ?_⟩
      by_cases h3 : a.rev = 0
      · exact h3
      · rw [if_pos ⟨hv, h3⟩] at h; omega
    · rw [if_pos h2] at h; exact absurd h h2

end An

end Go.Proofs.YtammfmmpldahhaaGreat
