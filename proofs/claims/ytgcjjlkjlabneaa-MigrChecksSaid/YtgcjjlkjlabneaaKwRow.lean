/- A row of pairs of the call's own: read at its places, one stored anew. -/
import Derived.Test.YtgcjjlkjlabneaaKwMath
import Derived.Test.YtgcjjlkjlabneaaKvMem
namespace Go.Proofs.Ytgcjjlkjlabneaa
open Go.RowKit

/-- A row of cells stored into a block: what lies behind stays too. -/
theorem Lies.sets3 {g : Nat} {T : TypeId} : ∀ (vs : List Value) (o : Nat) (w : World) (cur : Array Value), Lies w g T cur → o + vs.length ≤ cur.size →
    ∃ cur', Lies (w.setCells g o vs) g T cur' ∧ cur'.size = cur.size ∧ (∀ j, j < o → cur'[j]? = cur[j]?) ∧ (∀ j u, vs[j]? = some u → cur'[o + j]? = some u) ∧ ∀ j, o + vs.length ≤ j → cur'[j]? = cur[j]?
  | [], _, _, cur, h, _ => ⟨cur, h, rfl, fun _ _ => rfl, fun j u hu => by simp at hu, fun _ _ => rfl⟩
  | v :: r, o, w, cur, h, hs => by
    rw [List.length_cons] at hs
    obtain ⟨cur', h1, h2, h3, h4, h5⟩ := Lies.sets3 r (o + 1) _ _ (h.set o v) (by simp; omega)
    refine ⟨cur', h1, by rw [h2]; simp, fun j hj => ?_, fun j u hu => ?_, fun j hj => ?_⟩
    · rw [h3 j (by omega), Array.getElem?_setIfInBounds, if_neg (by omega)]
    · cases j with
      | zero =>
        simp at hu
        subst hu
        rw [Nat.add_zero, h3 o (by omega), Array.getElem?_setIfInBounds, if_pos rfl, if_pos (by omega)]
      | succ j =>
        have := h4 j u (by simpa using hu)
        rw [show o + (j + 1) = o + 1 + j by omega]
        exact this
    · rw [List.length_cons] at hj
      rw [h5 j (by omega), Array.getElem?_setIfInBounds, if_neg (by omega)]

/-- A block holds these pairs, one behind the other, with room for cap. -/
def RowK (w : World) (g cap : Nat) (l : List Kv.Item) : Prop := ∃ cur, Lies w g 38 cur ∧ l.length ≤ cap ∧ cap ≤ maxLen ∧ cur.size = cap * 3 ∧ cur.toList.take (l.length * 3) = flatR (l.map Kv.cells)
theorem RowK.of_owns {w : World} {base : Nat} {v : Value} {l : List Kv.Item} (h : OwnsR w base 38 3 v (l.map Kv.cells)) : (v = .slice none 0 0 ∧ l = []) ∨ ∃ g cap, v = .slice (some ⟨g, 0, none⟩) l.length cap ∧ base ≤ g ∧ RowK w g cap l := by
  rcases h.2 with ⟨hv, h0⟩ | ⟨g, cap, cur, hv, hb, hg, hc, hm, hs, ht⟩
  · rw [List.length_map] at h0
    exact .inl ⟨hv, List.eq_nil_of_length_eq_zero h0⟩
  · rw [List.length_map] at hv hc ht
    exact .inr ⟨g, cap, hv, hb, cur, hg, hc, hm, hs, ht⟩
theorem RowK.owns {w : World} {base g cap : Nat} {l : List Kv.Item} (h : RowK w g cap l) (hb : base ≤ g) : OwnsR w base 38 3 (.slice (some ⟨g, 0, none⟩) l.length cap) (l.map Kv.cells) := by
  obtain ⟨cur, hg, hc, hm, hs, ht⟩ := h
  refine ⟨by rw [flatR_len (Kv.sized l)], .inr ⟨g, cap, cur, ?_, hb, hg, ?_, hm, hs, ?_⟩⟩ <;> rw [List.length_map] <;> assumption
theorem RowK.lt {w : World} {g cap : Nat} {l : List Kv.Item} (h : RowK w g cap l) : g < w.heap.size := by obtain ⟨cur, hg, _⟩ := h; exact hg.lt
theorem RowK.below {w w' : World} {B g cap : Nat} {l : List Kv.Item} (h : RowK w g cap l) (hb : Below B w w') (hB : g < B) : RowK w' g cap l := by
  obtain ⟨cur, hg, rest⟩ := h
  exact ⟨cur, hg.below hb hB, rest⟩
theorem RowK.kept {w w' : World} {row : Option Nat} {g cap : Nat} {l : List Kv.Item} (h : RowK w g cap l) (hg' : w.grownBy w' row) (hne : some g ≠ row) : RowK w' g cap l := by
  obtain ⟨cur, hg, rest⟩ := h
  exact ⟨cur, hg.kept hg' hne, rest⟩
theorem RowK.at {w : World} {g cap : Nat} {l : List Kv.Item} (h : RowK w g cap l) {k : Nat} {p : Kv.Item} (hp : l[k]? = some p) : KvAt w g (k * 3) p := by
  obtain ⟨cur, hg, hc, hm, hs, ht⟩ := h
  refine KvAt.of fun j u hu => hg.cell _ u ?_
  have h1 := flatR_at (Kv.sized l) (i := k) (r := Kv.cells p) (by rw [List.getElem?_map, hp]; rfl) hu
  rw [← ht, List.getElem?_take] at h1
  split at h1
  · rwa [Array.getElem?_toList] at h1
  · cases h1
theorem RowK.there {w : World} {g cap : Nat} {l : List Kv.Item} (h : RowK w g cap l) {k : Nat} (hk : k < l.length) : w.there g (k * 3) 3 := by
  obtain ⟨cur, hg, hc, hm, hs, ht⟩ := h
  intro j hj
  have hlt : k * 3 + j < cur.size := by omega
  exact ⟨by rw [hg.cell _ _ (Array.getElem?_eq_getElem hlt)]; rfl, hg.free _⟩
theorem RowK.store {w : World} {g cap : Nat} {l : List Kv.Item} (h : RowK w g cap l) {k : Nat} (hk : k < l.length) (q : Kv.Item) : RowK (w.setCells g (k * 3) (Kv.cells q).toList) g cap (l.set k q) := by
  obtain ⟨cur, hg, hc, hm, hs, ht⟩ := h
  have hq : (Kv.cells q).toList.length = 3 := rfl
  obtain ⟨cur', h1, h2, h3, h4, h5⟩ := Lies.sets3 (Kv.cells q).toList (k * 3) w cur hg (by rw [hq]; omega)
  rw [hq] at h5
  refine ⟨cur', h1, by rw [List.length_set]; exact hc, hm, by rw [h2]; exact hs, ?_⟩
  have hfl : (flatR (l.map Kv.cells)).length = l.length * 3 := by rw [flatR_len (Kv.sized l), List.length_map]
  have hfl' : (flatR ((l.set k q).map Kv.cells)).length = l.length * 3 := by rw [flatR_len (Kv.sized _), List.length_map, List.length_set]
  rw [List.length_set]
  apply List.ext_getElem?
  intro m
  rw [List.getElem?_take]
  by_cases hml : m < l.length * 3
  · rw [if_pos hml, Array.getElem?_toList]
    have hme : m = m / 3 * 3 + m % 3 := by omega
    have hr := Nat.mod_lt m (show 0 < 3 by omega)
    obtain ⟨i, hi⟩ : ∃ i, i = m / 3 := ⟨_, rfl⟩
    obtain ⟨j, hj⟩ : ∃ j, j = m % 3 := ⟨_, rfl⟩
    rw [← hi, ← hj] at hme
    rw [← hj] at hr
    clear hi hj
    subst hme
    have hil : i < l.length := by omega
    by_cases hik : i = k
    · subst hik
      obtain ⟨u, hu⟩ := Kv.cells_at q j hr
      rw [h4 j u (by simpa using hu)]
      symm
      exact flatR_at (Kv.sized _) (by rw [List.getElem?_map, List.getElem?_set, if_pos rfl, if_pos hk]; rfl) hu
    · obtain ⟨e, he⟩ : ∃ e, l[i]? = some e := ⟨_, List.getElem?_eq_getElem hil⟩
      obtain ⟨u, hu⟩ := Kv.cells_at e j hr
      have ho : cur'[i * 3 + j]? = cur[i * 3 + j]? := by
        rcases Nat.lt_or_gt_of_ne hik with h' | h'
        · exact h3 _ (by omega)
        · exact h5 _ (by omega)
      rw [ho]
      have e1 := flatR_at (Kv.sized l) (i := i) (r := Kv.cells e) (by rw [List.getElem?_map, he]; rfl) hu
      have e2 := flatR_at (Kv.sized (l.set k q)) (i := i) (r := Kv.cells e) (by rw [List.getElem?_map, List.getElem?_set, if_neg (fun h => hik h.symm), he]; rfl) hu
      rw [e2, ← e1, ← ht, List.getElem?_take, if_pos (by omega), Array.getElem?_toList]
  · rw [if_neg hml, List.getElem?_eq_none (by omega)]

set_option maxHeartbeats 1600000 in
/-- A pair stored into a row. -/
theorem store_rowK {ops : Array Oper} {rest : List Oper} {op : Oper} {a : Act} {w : World} {Q : Exit → Act → World → Prop} (hgd : op.guard = none) (x y : Operand) (ho : op.op = .store 38 x y)
    (g cap k : Nat) (l : List Kv.Item) (q : Kv.Item) (hx : a.eval x = .pointer (some ⟨g, k * 3, none⟩)) (hy : a.eval y = .agg (Kv.cells q)) (hl : RowK w g cap l) (hk : k < l.length)
    (h : ∀ w', RowK w' g cap (l.set k q) → w.grownBy w' (some g) → wpList Try.prog ops Q rest (a.put op.dst undef) w') : wpList Try.prog ops Q (op :: rest) a w :=
  wpList_store_mid hgd _ x y ho g (k * 3) (Kv.cells q) hx hy (hl.there hk) (by kernel_rfl) (Kv.cells_one q).2 (h _ (hl.store hk q) (grown_sets g _ _ _))

end Go.Proofs.Ytgcjjlkjlabneaa
