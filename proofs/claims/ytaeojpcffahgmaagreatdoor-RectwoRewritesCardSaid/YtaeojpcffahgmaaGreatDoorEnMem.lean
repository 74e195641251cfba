/- An entry in memory: boxed, compared, stored and read whole; entries that came in. -/
import Derived.Test.YtaeojpcffahgmaaGreatDoorCmdEl
import Derived.Test.YtaeojpcffahgmaaGreatDoorGBl
import Derived.Test.YtaeojpcffahgmaaGreatDoorGPl
import Derived.Test.YtaeojpcffahgmaaGreatDoorGMb
import Derived.Deep.MidRow
namespace Go.Proofs.YtaeojpcffahgmaaGreatDoor
open Go.RowKit

/-- Ten cells in a row are an entry's. -/
structure EntAt (w : World) (g o : Nat) (e : En.Ent) : Prop where
  c0 : w.cell? ⟨g, o, none⟩ = some (.int .i64 e.index)
  c1 : w.cell? ⟨g, o + 1, none⟩ = some (.int .i64 e.bal.round)
  c2 : w.cell? ⟨g, o + 2, none⟩ = some (.int .i64 e.bal.node)
  c3 : w.cell? ⟨g, o + 3, none⟩ = some (.int .i64 e.cmd.kind)
  c4 : w.cell? ⟨g, o + 4, none⟩ = some (.int .i64 e.cmd.client)
  c5 : w.cell? ⟨g, o + 5, none⟩ = some (.int .i64 e.cmd.seq)
  c6 : w.cell? ⟨g, o + 6, none⟩ = some (.string ⟨e.cmd.key.toArray⟩)
  c7 : w.cell? ⟨g, o + 7, none⟩ = some (.string ⟨e.cmd.val.toArray⟩)
  c8 : w.cell? ⟨g, o + 8, none⟩ = some (.string ⟨e.cmd.old.toArray⟩)
  c9 : w.cell? ⟨g, o + 9, none⟩ = some (.int .i64 e.cmd.node)
theorem EntAt.of {w : World} {g o : Nat} {e : En.Ent} (h : ∀ j u, (En.cells e)[j]? = some u → w.cell? ⟨g, o + j, none⟩ = some u) : EntAt w g o e :=
  ⟨h 0 _ rfl, h 1 _ rfl, h 2 _ rfl, h 3 _ rfl, h 4 _ rfl, h 5 _ rfl, h 6 _ rfl, h 7 _ rfl, h 8 _ rfl, h 9 _ rfl⟩
theorem En.ext_iff (a b : En.Ent) : a = b ↔ a.index = b.index ∧ a.bal.round = b.bal.round ∧ a.bal.node = b.bal.node ∧ a.cmd.kind = b.cmd.kind ∧ a.cmd.client = b.cmd.client ∧ a.cmd.seq = b.cmd.seq ∧ a.cmd.key = b.cmd.key ∧ a.cmd.val = b.cmd.val ∧ a.cmd.old = b.cmd.old ∧ a.cmd.node = b.cmd.node := by
  obtain ⟨i, ⟨r, n⟩, k, cl, sq, nd, ky, od, vl⟩ := a
  obtain ⟨i', ⟨r', n'⟩, k', cl', sq', nd', ky', od', vl'⟩ := b
  simp only [En.Ent.mk.injEq, Bl.Bal.mk.injEq, Cm.Cmd.mk.injEq]
  grind
theorem En.cells_one (e : En.Ent) : (En.cells e).size = 10 ∧ (En.cells e).all (·.oneCell') = true := ⟨rfl, by simp [En.cells, Value.oneCell']⟩
theorem En.sized (l : List En.Ent) : Sized 10 (l.map En.cells) := Sized.map En.cells_one l
theorem En.cells_at (e : En.Ent) (j : Nat) (h : j < 10) : ∃ v, (En.cells e)[j]? = some v := ⟨_, Array.getElem?_eq_getElem (show j < (En.cells e).size from h)⟩
/-! What came in. -/
section
variable {H : Type} {enc : TypeId × Value → H} {w : World} {b0 base : Nat} {held : Bool}
/-- A row of entries. -/
abbrev ReadsE (w : World) (v : Value) (l : List En.Ent) : Prop := ReadsR w v 10 (l.map En.cells)
end
theorem ReadsE.shape {w : World} {v : Value} {l : List En.Ent} (h : ReadsE w v l) : ∃ ao cap, v = .slice ao l.length cap ∧ l.length ≤ cap ∧ cap ≤ 9223372036854775807 := by
  obtain ⟨ao, cap, h1, h2, h3⟩ := ReadsR.shape h
  rw [List.length_map] at h1 h2
  exact ⟨ao, cap, h1, h2, h3⟩
/-- Where there is an entry: its ten cells, in every world behind. -/
theorem ReadsE.places {w : World} {ao : Option Addr} {n cap : Nat} {l : List En.Ent} (h : ReadsE w (.slice ao n cap) l) (hl : 0 < l.length) :
    ∃ b off, ao = some ⟨b, off, none⟩ ∧ b < w.heap.size ∧ ∀ w', Below w.heap.size w w' → ∀ i e, l[i]? = some e → EntAt w' b (off + i * 10) e := by
  obtain ⟨b, off, e, hlt, hc⟩ := ReadsR.places h (r0 := En.cells (l[0]'hl)) (u0 := .int .i64 (l[0]'hl).index) (by rw [List.getElem?_map, List.getElem?_eq_getElem hl]; rfl) rfl
  refine ⟨b, off, e, hlt, fun w' hb i c hi => EntAt.of fun j u hu => ?_⟩
  have := hc w' hb i (En.cells c) (by rw [List.getElem?_map, hi]; rfl) j u hu
  rwa [← Nat.add_assoc] at this
end Go.Proofs.YtaeojpcffahgmaaGreatDoor
