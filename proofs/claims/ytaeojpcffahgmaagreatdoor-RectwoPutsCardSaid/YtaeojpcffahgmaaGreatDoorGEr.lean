/- Several texts of mine in one: EnRef EnRefC. -/
import Derived.Test.YtaeojpcffahgmaaGreatDoorEnChk
import Derived.Test.YtaeojpcffahgmaaGreatDoorGCr
import Derived.Deep.QuietTactic
import Derived.BigQuiet
import Derived.Test.YtaeojpcffahgmaaGreatDoorGMb
namespace Go.Proofs.YtaeojpcffahgmaaGreatDoor
open Go.RowKit

end Go.Proofs.YtaeojpcffahgmaaGreatDoor


namespace Go.Proofs.YtaeojpcffahgmaaGreatDoor
open Go.RowKit

/-- Whether there are too many, or too long ones. -/
def En.long (e : En.Ent) : Bool := decide (200 < e.cmd.key.length) || (decide (200 < e.cmd.val.length) || decide (200 < e.cmd.old.length))
def En.large (l : List En.Ent) : Bool := (l.take 40).any En.long || decide (40 < l.length)
theorem En.large_yes {l : List En.Ent} {k : Nat} {e : En.Ent} (he : l[k]? = some e) (hk : k < 40) (h : En.long e = true) : En.large l = true := by
  unfold En.large
  rw [show (l.take 40).any En.long = true from List.any_eq_true.2 ⟨e, List.mem_of_getElem? (by rw [List.getElem?_take, if_pos hk]; exact he), h⟩]
  rfl
theorem En.large_no {l : List En.Ent} (h : ∀ (k : Nat) (e : En.Ent), k < 40 → l[k]? = some e → En.long e = false) : En.large l = decide (40 < l.length) := by
  unfold En.large
  rw [show (l.take 40).any En.long = false from List.any_eq_false.2 fun e he => by
    obtain ⟨k, hk⟩ := List.getElem?_of_mem he
    rw [List.getElem?_take] at hk
    split at hk
    · rename_i h40; rw [h k e h40 hk]; simp
    · cases hk]
  rfl
/-- What is not large. -/
theorem En.small {l : List En.Ent} (h : En.large l = false) : l.length ≤ 40 ∧ ∀ e ∈ l, e.cmd.Short 200 := by
  unfold En.large at h
  rw [Bool.or_eq_false_iff] at h
  have h40 : l.length ≤ 40 := by have := of_decide_eq_false h.2; omega
  refine ⟨h40, fun e he => ?_⟩
  have := List.any_eq_false.1 h.1 e (by rw [List.take_of_length_le h40]; exact he)
  unfold En.long at this
  simp at this
  exact ⟨this.1, this.2.2, this.2.1⟩

end Go.Proofs.YtaeojpcffahgmaaGreatDoor
