/- Several texts of mine in one: QtPlain QtUnq QtWord QtStrs QtLine. -/
import Derived.Test.YtndicjpbanmpjaaGreatDoorGQm
import Derived.Test.YtndicjpbanmpjaaGreatDoorApp
import Derived.Test.YtndicjpbanmpjaaGreatDoorShelf
import Derived.Laws.BitsAllLaws
import Derived.WalkLawsBesides
import Derived.SliceStrings
import Derived.Maps.AppendAt
namespace Go.Proofs.YtndicjpbanmpjaaGreatDoor
open Go.RowKit

theorem Qt.enc_len (r : Nat) : (Lib.encodeRune (r : Int)).length ≤ 4 := by
  unfold Lib.encodeRune
  rw [List.length_map]
  exact (Lib.encodeRuneZ_length _).2
end Go.Proofs.YtndicjpbanmpjaaGreatDoor


namespace Go.Proofs.YtndicjpbanmpjaaGreatDoor
open Go.RowKit

namespace Qt
/-- What Unquote tells. -/
def told (s : ByteArray) : Value := match unq s with
  | some o => .tuple #[.string ⟨o.toArray⟩, .int .i64 0]
  | none => .tuple #[.string ⟨#[]⟩, .int .i64 3]
end Qt

end Go.Proofs.YtndicjpbanmpjaaGreatDoor


namespace Go.Proofs.YtndicjpbanmpjaaGreatDoor
open Go.RowKit

namespace Qt
theorem empty_eq (s : ByteArray) : s.toList.isEmpty = decide (s.size = 0) := by
  rw [ByteArray.toList_eq, Bool.eq_iff_iff, List.isEmpty_iff_length_eq_zero, decide_eq_true_eq]
  exact Iff.rfl
end Qt

end Go.Proofs.YtndicjpbanmpjaaGreatDoor


namespace Go.Proofs.YtndicjpbanmpjaaGreatDoor
open Go.RowKit

/-- The slice value v reads as the strings ls. -/
def ReadsS (w : World) (v : Value) (ls : List ByteArray) : Prop :=
  ∃ (ao : Option Addr) (cap : Nat), v = .slice ao ls.length cap ∧ ls.length ≤ cap ∧ cap ≤ maxLen ∧ (ao = none → cap = 0) ∧ ∀ x, ao = some x → ∀ j s, ls[j]? = some s → w.cell? (x.add j) = some (.string s)
/-- A row of strings of the call's own. -/
def OwnsS (w : World) (base : Nat) (E : TypeId) (v : Value) (ls : List ByteArray) : Prop := w.ownsRow base E 1 v ls.length (ls.map Value.string)

theorem OwnsS.empty (w : World) (base : Nat) (E : TypeId) : OwnsS w base E (.slice none 0 0) [] := World.ownsRow_nil _ _ _ _
theorem OwnsS.reads {w : World} {base : Nat} {E : TypeId} {v : Value} {ls : List ByteArray} (h : OwnsS w base E v ls) : ReadsS w v ls := by
  rcases h.2 with ⟨rfl, h0⟩ | ⟨g, cap, cur, rfl, hb, hg, hc, hm, _, _⟩
  · exact ⟨none, 0, by rw [h0], by omega, by simp [maxLen], fun _ => rfl, (fun x hx => by cases hx)⟩
  · refine ⟨_, cap, rfl, hc, hm, (fun h => by cases h), fun x hx j s hs => ?_⟩
    cases hx
    exact World.ownsRow.cells h (g := g) rfl j _ (by rw [List.getElem?_map, hs]; rfl)
theorem ReadsS.below {w w' : World} {v : Value} {ls : List ByteArray} (h : ReadsS w v ls) (hb : Below w.heap.size w w') : ReadsS w' v ls := by
  obtain ⟨ao, cap, rfl, h1, h2, h3, h4⟩ := h
  refine ⟨ao, cap, rfl, h1, h2, h3, fun x hx j u hu => ?_⟩
  have hc := h4 x hx j u hu
  rw [← hc]
  exact hb.cell (World.block_lt_of_cell? w _ hc)
theorem ReadsS.shape {w : World} {v : Value} {ls : List ByteArray} (h : ReadsS w v ls) : ∃ ao cap, v = .slice ao ls.length cap := by
  obtain ⟨ao, cap, rfl, _⟩ := h; exact ⟨ao, cap, rfl⟩
/-- Where there is a string: the address is a place in a block of cells. -/
theorem ReadsS.place {w : World} {ao : Option Addr} {n cap : Nat} {ls : List ByteArray} (h : ReadsS w (.slice ao n cap) ls) (hl : 0 < ls.length) :
    ∃ b off, ao = some ⟨b, off, none⟩ ∧ n = ls.length ∧ ls.length ≤ cap ∧ cap ≤ maxLen ∧ b < w.heap.size ∧ ∀ j s, ls[j]? = some s → w.cell? ⟨b, off + j, none⟩ = some (.string s) := by
  obtain ⟨ao', cap', hv, h1, h2, h3, h4⟩ := h
  simp only [Value.slice.injEq] at hv
  obtain ⟨rfl, rfl, rfl⟩ := hv
  cases ao with
  | none => exact absurd (h3 rfl) (by omega)
  | some x =>
    obtain ⟨b, off, spot⟩ := x
    have hc := h4 _ rfl 0 _ (List.getElem?_eq_getElem hl)
    have hspot : spot = none := by simpa [Addr.add] using World.cell?_spot hc
    subst hspot
    refine ⟨b, off, rfl, rfl, h1, h2, ?_, fun j c hj => ?_⟩
    · have := World.block_lt_of_cell? w _ hc
      rwa [Addr.add_lit] at this
    · have := h4 _ rfl j _ hj
      rwa [Addr.add_lit] at this

namespace Qt
open Rn
end Qt
end Go.Proofs.YtndicjpbanmpjaaGreatDoor


namespace Go.Proofs.YtndicjpbanmpjaaGreatDoor
open Go.RowKit

namespace Qt
/-- The words of a line, and whether it is one. -/
def words (s : ByteArray) : List (List UInt8) := if s.size = 0 then [] else split s.data.toList
end Qt

end Go.Proofs.YtndicjpbanmpjaaGreatDoor
