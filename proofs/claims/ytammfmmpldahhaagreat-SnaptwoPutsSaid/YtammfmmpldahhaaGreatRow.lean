/- Rows of elements that came in, by each element's cells; fields out of cells. No program is spoken of. -/
import Derived.Test.YtammfmmpldahhaaGreatLie
import Derived.Deep.Slices
import Derived.Deep.Fields
import Derived.ChangeSame
namespace Go.Proofs.YtammfmmpldahhaaGreat
open Go.RowKit

/-- The slice reads as a row of elements of k cells each. -/
def ReadsR (w : World) (v : Value) (k : Nat) (rs : List (Array Value)) : Prop :=
  ∃ (ao : Option Addr) (cap : Nat), v = .slice ao rs.length cap ∧ rs.length ≤ cap ∧ cap ≤ maxLen ∧ (ao = none → cap = 0) ∧
    ∀ x, ao = some x → ∀ (i : Nat) (r : Array Value), rs[i]? = some r → ∀ (j : Nat) (u : Value), r[j]? = some u → w.cell? (x.add (i * k + j)) = some u

theorem ReadsR.shape {w : World} {v : Value} {k : Nat} {rs : List (Array Value)} (h : ReadsR w v k rs) : ∃ ao cap, v = .slice ao rs.length cap ∧ rs.length ≤ cap ∧ cap ≤ 9223372036854775807 := by
  obtain ⟨ao, cap, rfl, h1, h2, _⟩ := h
  exact ⟨ao, cap, rfl, h1, by unfold maxLen at h2; exact h2⟩
theorem ReadsR.empty (w : World) (k : Nat) : ReadsR w (.slice none 0 0) k [] := ⟨none, 0, rfl, by simp, by simp [maxLen], fun _ => rfl, (fun x hx => by cases hx)⟩
theorem ReadsR.below {w w' : World} {v : Value} {k : Nat} {rs : List (Array Value)} (h : ReadsR w v k rs) (hb : Below w.heap.size w w') : ReadsR w' v k rs := by
  obtain ⟨ao, cap, rfl, h1, h2, h3, h4⟩ := h
  refine ⟨ao, cap, rfl, h1, h2, h3, fun x hx i r hr j u hu => ?_⟩
  have hc := h4 x hx i r hr j u hu
  rw [← hc]
  exact hb.cell (World.block_lt_of_cell? w _ hc)
/-- Where there is an element, with a cell: the address is a place in a block of cells, in every world behind. -/
theorem ReadsR.places {w : World} {ao : Option Addr} {n cap k : Nat} {rs : List (Array Value)} (h : ReadsR w (.slice ao n cap) k rs) {r0 : Array Value} {u0 : Value} (hr0 : rs[0]? = some r0) (hu0 : r0[0]? = some u0) :
    ∃ b off, ao = some ⟨b, off, none⟩ ∧ b < w.heap.size ∧ ∀ w', Below w.heap.size w w' → ∀ i r, rs[i]? = some r → ∀ j u, r[j]? = some u → w'.cell? ⟨b, off + (i * k + j), none⟩ = some u := by
  have h' := h
  obtain ⟨ao', cap', hv, h1, h2, h3, h4⟩ := h'
  simp only [Value.slice.injEq] at hv
  obtain ⟨rfl, rfl, rfl⟩ := hv
  cases ao with
  | none => have := (List.getElem?_eq_some_iff.1 hr0).1; exact absurd (h3 rfl) (by omega)
  | some x =>
    obtain ⟨b, off, spot⟩ := x
    have hc := h4 _ rfl 0 _ hr0 0 _ hu0
    have hspot : spot = none := by simpa [Addr.add] using World.cell?_spot hc
    subst hspot
    refine ⟨b, off, rfl, by have := World.block_lt_of_cell? w _ hc; simpa [Addr.add] using this, fun w' hb i r hr j u hu => ?_⟩
    obtain ⟨ao2, cap2, hv2, _, _, _, k4⟩ := h.below hb
    simp only [Value.slice.injEq] at hv2
    obtain ⟨rfl, _, _⟩ := hv2
    have := k4 _ rfl i r hr j u hu
    rwa [Addr.add_lit] at this
/-- What lies behind the first f elements. -/
theorem ReadsR.rest {w : World} {ao : Option Addr} {n cap k : Nat} {rs : List (Array Value)} (h : ReadsR w (.slice ao n cap) k rs) (f : Nat) (hf : f ≤ n) :
    ∃ ao2, sliced ao f n cap k = .slice ao2 (n - f) (cap - f) ∧ ReadsR w (.slice ao2 (n - f) (cap - f)) k (rs.drop f) := by
  obtain ⟨ao', cap', hv, h1, h2, h3, h4⟩ := h
  simp only [Value.slice.injEq] at hv
  obtain ⟨rfl, rfl, rfl⟩ := hv
  have hlen : (rs.drop f).length = rs.length - f := List.length_drop
  refine ⟨_, rfl, _, _, by rw [hlen], by rw [hlen]; omega, by omega, ?_, ?_⟩
  · intro h0
    split at h0
    · have := h3 h0; omega
    · cases ao with
      | none => have := h3 rfl; omega
      | some x => simp at h0
  · intro x hx i r hr j u hu
    have hlt := (List.getElem?_eq_some_iff.1 hr).1
    rw [hlen] at hlt
    rw [if_neg (by omega)] at hx
    cases ao with
    | none => simp at hx
    | some y =>
      simp only [Option.map_some, Option.some.injEq] at hx
      subst hx
      rw [List.getElem?_drop] at hr
      have := h4 y rfl _ r hr j u hu
      rw [Deep.add_add, ← Nat.add_assoc, ← Nat.add_mul]
      exact this

/-- A row of elements that came in: what an element's cells are is asked of its type alone. -/
theorem came_rows {α H : Type} {enc : TypeId × Value → H} {P : Program} {w : World} {b0 base : Nat} {held : Bool} {t e : TypeId} {k : Nat} {v : Value} {d : DataW H} {p : List MemPlace} (cells : α → Array Value) (fit : α → Prop)
    (ht : P.underlying t = some (.slice e)) (hce : P.cellsOf e = k)
    (hel : ∀ (m : Nat) (cs : List Value) (y : DataW H × List MemPlace), DataW.trod enc P w base (fun _ => true) held m e cs = some y → ∃ a, cs = (cells a).toList ∧ fit a)
    (hv : Value.okWide P w .any b0 t v) (h : DataW.Trod enc P w base (fun _ => true) held t v d p) : ∃ l : List α, ReadsR w v k (l.map cells) ∧ ∀ a ∈ l, fit a := by
  obtain ⟨a, len, cap, rfl⟩ := WideShapes.okWide_slice ht hv
  obtain ⟨fuel, hf⟩ := h
  rcases Deep.open_slice ht hf with ⟨hcs, _⟩ | ⟨x, l, c, m, n, D, Pl, hcs, _, hl, hm, hmm, _, hi⟩
  · simp [Value.cells] at hcs
    obtain ⟨rfl, rfl, rfl⟩ := hcs
    exact ⟨[], ReadsR.empty w k, fun a ha => by simp at ha⟩
  · simp [Value.cells] at hcs
    obtain ⟨rfl, rfl, rfl⟩ := hcs
    have each : ∀ i, i < len → ∃ f : α, (∀ (j : Nat) (u : Value), (cells f)[j]? = some u → w.cell? (x.add (i * k + j)) = some u) ∧ fit f := by
      intro i hil
      obtain ⟨cs', hc, ht'⟩ := hi i (by rw [hmm]; simp; omega)
      rw [hce] at hc
      obtain ⟨f, rfl, hfit⟩ := hel _ _ _ ht'
      obtain ⟨_, hcl, hat⟩ := World.cells?_some hc
      refine ⟨f, fun j u hu => ?_, hfit⟩
      have hjl : j < k := by have := (Array.getElem?_eq_some_iff.1 hu).1; rw [Array.length_toList] at hcl; omega
      have := hat j hjl
      rw [← Deep.add_add, this]
      simpa using hu
    obtain ⟨fs, hfl, hfq⟩ := pick _ len each
    refine ⟨fs, ⟨some x, cap, by rw [List.length_map, hfl], by rw [List.length_map]; omega, hm, (fun h => by cases h), fun y hy i r hr j u hu => ?_⟩, fun f hf => ?_⟩
    · cases hy
      rw [List.getElem?_map, Option.map_eq_some_iff] at hr
      obtain ⟨f, hf, rfl⟩ := hr
      exact (hfq i f hf).1 j u hu
    · obtain ⟨i, hi⟩ := List.getElem?_of_mem hf
      exact (hfq i f hi).2

/-! A field out of cells. -/
section
variable {H : Type} {enc : TypeId × Value → H} {P : Program} {w : World} {base : Nat} {sp : Nat → Bool} {held : Bool} {n : Nat} {t : TypeId} {o : Nat} {cs : List Value} {y : DataW H × List MemPlace}
theorem one_int (ht : P.underlying t = some (.int .i64)) (h : DataW.trod enc P w base sp held n t ((cs.drop o).take (P.cellsOf t)) = some y) (hc : P.cellsOf t = 1) : ∃ x : Int, cs[o]? = some (.int .i64 x) ∧ -9223372036854775808 ≤ x ∧ x ≤ 9223372036854775807 := by
  rw [hc] at h
  obtain ⟨x, e, _, hw⟩ := DataW.trod_int ht h
  refine ⟨x, ?_, i64_bounds hw⟩
  have h2 := congrArg (fun l => l[0]?) e
  simpa [List.getElem?_take, List.getElem?_drop] using h2
theorem one_bool (ht : P.underlying t = some .bool) (h : DataW.trod enc P w base sp held n t ((cs.drop o).take (P.cellsOf t)) = some y) (hc : P.cellsOf t = 1) : ∃ x : Bool, cs[o]? = some (.bool x) := by
  rw [hc] at h
  obtain ⟨x, e, _⟩ := DataW.trod_bool ht h
  refine ⟨x, ?_⟩
  have h2 := congrArg (fun l => l[0]?) e
  simpa [List.getElem?_take, List.getElem?_drop] using h2
theorem one_str (ht : P.underlying t = some .string) (h : DataW.trod enc P w base sp held n t ((cs.drop o).take (P.cellsOf t)) = some y) (hc : P.cellsOf t = 1) : ∃ x : ByteArray, cs[o]? = some (.string x) ∧ x.size ≤ 9223372036854775807 := by
  rw [hc] at h
  obtain ⟨x, e, _, hw⟩ := DataW.trod_string ht h
  refine ⟨x, ?_, by unfold maxLen at hw; exact hw⟩
  have h2 := congrArg (fun l => l[0]?) e
  simpa [List.getElem?_take, List.getElem?_drop] using h2
end

end Go.Proofs.YtammfmmpldahhaaGreat
