/- A slice of elements among the cells of what came in. No program is spoken of. -/
import Derived.Test.YtammfmmpldahhaaGreatRow
namespace Go.Proofs.YtammfmmpldahhaaGreat
open Go.RowKit

/-- A slice of elements among cells. -/
theorem el_rows {α H : Type} {enc : TypeId × Value → H} {P : Program} {w : World} {base : Nat} {held : Bool} {t e : TypeId} {k : Nat} {fuel : Nat} {cs : List Value} {y : DataW H × List MemPlace} (cells : α → Array Value) (fit : α → Prop)
    (ht : P.underlying t = some (.slice e)) (hce : P.cellsOf e = k)
    (hel : ∀ (m : Nat) (cs : List Value) (y : DataW H × List MemPlace), DataW.trod enc P w base (fun _ => true) held m e cs = some y → ∃ a, cs = (cells a).toList ∧ fit a)
    (hf : DataW.trod enc P w base (fun _ => true) held fuel t cs = some y) : ∃ (u : Value) (l : List α), cs = [u] ∧ ReadsR w u k (l.map cells) ∧ ∀ a ∈ l, fit a := by
  rcases Deep.open_slice ht hf with ⟨rfl, _⟩ | ⟨x, l, c, m, n, D, Pl, rfl, _, hl, hm, hmm, _, hi⟩
  · exact ⟨_, [], rfl, ReadsR.empty w k, fun a ha => by simp at ha⟩
  · have each : ∀ i, i < l → ∃ f : α, (∀ (j : Nat) (u : Value), (cells f)[j]? = some u → w.cell? (x.add (i * k + j)) = some u) ∧ fit f := by
      intro i hil
      obtain ⟨cs', hc, ht'⟩ := hi i (by rw [hmm]; simp; omega)
      rw [hce] at hc
      obtain ⟨f, rfl, hfit⟩ := hel _ _ _ ht'
      obtain ⟨_, hcl, hat⟩ := World.cells?_some hc
      refine ⟨f, fun j u hu => ?_, hfit⟩
      have hjl : j < k := by have := (Array.getElem?_eq_some_iff.1 hu).1; rw [Array.length_toList] at hcl; omega
      have := hat j hjl
      rw [← Deep.add_add, this]
      simpa using hu
    obtain ⟨fs, hfl, hfq⟩ := pick _ l each
    refine ⟨_, fs, rfl, ⟨some x, c, by rw [List.length_map, hfl], by rw [List.length_map]; omega, hm, (fun h => by cases h), fun y hy i r hr j u hu => ?_⟩, fun f hf => ?_⟩
    · cases hy
      rw [List.getElem?_map, Option.map_eq_some_iff] at hr
      obtain ⟨f, hf, rfl⟩ := hr
      exact (hfq i f hf).1 j u hu
    · obtain ⟨i, hi⟩ := List.getElem?_of_mem hf
      exact (hfq i f hi).2

end Go.Proofs.YtammfmmpldahhaaGreat
