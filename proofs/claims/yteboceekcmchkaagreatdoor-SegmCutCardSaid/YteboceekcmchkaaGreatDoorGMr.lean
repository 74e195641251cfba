/- Several texts of mine in one: MsRef MsRefC. -/
import Derived.Test.YteboceekcmchkaaGreatDoorPGMa
import Derived.Test.YteboceekcmchkaaGreatDoorPGBl
import Derived.Test.YteboceekcmchkaaGreatDoorPVers
import Derived.Test.YteboceekcmchkaaGreatDoorGMb
import Derived.Test.YteboceekcmchkaaGreatDoorGEr
namespace Go.Proofs.YteboceekcmchkaaGreatDoor
open Go.RowKit
namespace Ms
def letTab : List (List UInt8) := [[], [118], [118], [98, 105], [98, 105, 99, 101], [98, 101], [98, 105], [98], [98, 99], [105], [99, 101], [109]]
def letters (k : Int) : List UInt8 := if 1 ≤ k ∧ k ≤ 11 then letTab.getD k.toNat [] else []
theorem owned_round (b : Bl.Bal) : owned b = (Bl.may b && decide (0 < b.round)) := by
 unfold owned
 cases h : Bl.may b with
 | false => rfl
 | true =>
  rw [Bool.true_and, Bool.true_and]
  refine decide_eq_decide.2 ?_
  unfold Bl.may Bl.within at h
  constructor
  ·intro hne
   rcases Bool.or_eq_true_iff.1 h with h1 | h1
   ·exact absurd (of_decide_eq_true h1) hne
   ·simp only [Bool.and_eq_true, decide_eq_true_eq] at h1; omega
  ·intro h0 he
   rw [he] at h0
   simp [Bl.zero] at h0
def large (m : Msg) : Bool := En.large m.ents || ((decide (300 < m.img.length) && decide (m.img.length < 32760)) || decide (32780 < m.img.length))
end Ms
namespace Ms
def f1 (m : Msg) : Bool := decide (own m = m) && (!hm m.kind || decide (0 < m.img.length))
def f2 (m : Msg) : Bool := if m.kind = 5 then sole m else true
end Ms
end Go.Proofs.YteboceekcmchkaaGreatDoor
