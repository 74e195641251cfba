/- Rows of numbers: what came in, what a call owns; sorted, compacted, searched. No program is spoken of. -/
import Derived.Test.YtimlfiomoalieaaRow
import Derived.Lib.RowBridge
import Derived.Lib.SlicesCompact
import Derived.Laws.IdiomCopy
namespace Go.Proofs.Ytimlfiomoalieaa
open Go.RowKit

/-- The slice reads as these numbers. -/
abbrev ReadsI (w : World) (v : Value) (l : List Int) : Prop := ReadsR w v 1 (l.map fun x => #[Value.int .i64 x])

theorem ReadsI.shape {w : World} {v : Value} {l : List Int} (h : ReadsI w v l) : ∃ ao cap, v = .slice ao l.length cap ∧ l.length ≤ cap ∧ cap ≤ 9223372036854775807 := by
  obtain ⟨ao, cap, h1, h2, h3⟩ := ReadsR.shape h
  rw [List.length_map] at h1 h2
  exact ⟨ao, cap, h1, h2, h3⟩
theorem ReadsI.empty (w : World) : ReadsI w (.slice none 0 0) [] := ReadsR.empty w 1
theorem ReadsI.below {w w' : World} {v : Value} {l : List Int} (h : ReadsI w v l) (hb : Below w.heap.size w w') : ReadsI w' v l := ReadsR.below h hb
/-- Where there is a number: its cell, in every world behind. -/
theorem ReadsI.places {w : World} {ao : Option Addr} {n cap : Nat} {l : List Int} (h : ReadsI w (.slice ao n cap) l) (hl : 0 < l.length) :
    ∃ b off, ao = some ⟨b, off, none⟩ ∧ b < w.heap.size ∧ ∀ w', Below w.heap.size w w' → ∀ i x, l[i]? = some x → w'.cell? ⟨b, off + i, none⟩ = some (.int .i64 x) := by
  obtain ⟨b, off, e, hlt, hc⟩ := ReadsR.places h (r0 := #[.int .i64 (l[0]'hl)]) (u0 := .int .i64 (l[0]'hl)) (by rw [List.getElem?_map, List.getElem?_eq_getElem hl]; rfl) rfl
  refine ⟨b, off, e, hlt, fun w' hb i x hi => ?_⟩
  have := hc w' hb i #[.int .i64 x] (by rw [List.getElem?_map, hi]; rfl) 0 _ rfl
  rwa [Nat.mul_one, Nat.add_zero] at this
/-- Nothing of a block but one turns: a slice that begins in another block reads as it did. -/
theorem ReadsI.kept {w w' : World} {row : Option Nat} {v : Value} {l : List Int} (h : ReadsI w v l) (hg : w.grownBy w' row) (hv : ∀ a n c, v = .slice (some a) n c → some a.block ≠ row) : ReadsI w' v l := by
  obtain ⟨ao, cap, rfl, h1, h2, h3, h4⟩ := h
  refine ⟨ao, cap, rfl, h1, h2, h3, fun x hx i r hr j u hu => ?_⟩
  have hc := h4 x hx i r hr j u hu
  rw [← hc]
  have hlt := World.block_lt_of_cell? w _ hc
  have hadd : (x.add (i * 1 + j)).block = x.block := by unfold Addr.add; split <;> rfl
  rw [hadd] at hlt
  exact World.cell?_of_block (by rw [hadd]; exact hg.block _ hlt (by cases hx; exact hv _ _ _ rfl))
/-- The first k of them. -/
theorem ReadsI.take {w : World} {ao : Option Addr} {n cap : Nat} {l : List Int} (h : ReadsI w (.slice ao n cap) l) (k : Nat) (hk : k ≤ n) : ReadsI w (.slice ao k cap) (l.take k) := by
  obtain ⟨ao', cap', hv, h1, h2, h3, h4⟩ := h
  simp only [Value.slice.injEq] at hv
  obtain ⟨rfl, hn, rfl⟩ := hv
  rw [List.length_map] at hn h1
  have hlen : (l.take k).length = k := by rw [List.length_take]; omega
  refine ⟨ao, cap, by rw [List.length_map, hlen], by rw [List.length_map, hlen]; omega, h2, h3, fun x hx i r hr j u hu => ?_⟩
  refine h4 x hx i r ?_ j u hu
  rw [List.getElem?_map] at hr ⊢
  rw [List.getElem?_take] at hr
  split at hr
  · exact hr
  · cases hr

/-- The slice is a row of the call's own, from block base on, of these numbers. -/
def RowI (w : World) (base : Nat) (v : Value) (l : List Int) : Prop :=
  (v = .slice none 0 0 ∧ l = []) ∨ ∃ g cap, v = .slice (some ⟨g, 0, none⟩) l.length cap ∧ base ≤ g ∧ g < w.heap.size ∧ l.length ≤ cap ∧ cap ≤ 9223372036854775807 ∧
    ∀ j x, l[j]? = some x → w.cell? ⟨g, j, none⟩ = some (.int .i64 x) ∧ w.frozen? ⟨g, j, none⟩ = false

theorem RowI.reads {w : World} {base : Nat} {v : Value} {l : List Int} (h : RowI w base v l) : ReadsI w v l := by
  rcases h with ⟨rfl, rfl⟩ | ⟨g, cap, rfl, hb, hg, h1, h2, h3⟩
  · exact ReadsI.empty w
  · refine ⟨some ⟨g, 0, none⟩, cap, by rw [List.length_map], by rw [List.length_map]; exact h1, by unfold maxLen; exact h2, (fun h => by cases h), fun x hx i r hr j u hu => ?_⟩
    cases hx
    rw [List.getElem?_map, Option.map_eq_some_iff] at hr
    obtain ⟨y, hy, rfl⟩ := hr
    obtain ⟨hj, he⟩ := Array.getElem?_eq_some_iff.1 hu
    have hj0 : j = 0 := by simp at hj; omega
    subst hj0
    simp at he
    subst he
    rw [Addr.add_lit, Nat.mul_one, Nat.add_zero, Nat.zero_add]
    exact (h3 i y hy).1
theorem RowI.block {w : World} {base : Nat} {v : Value} {l : List Int} (h : RowI w base v l) : ∀ a n c, v = .slice (some a) n c → base ≤ a.block ∧ a.block < w.heap.size := by
  rintro a n c rfl
  rcases h with ⟨hv, _⟩ | ⟨g, cap, hv, hb, hg, _⟩
  · cases hv
  · cases hv; exact ⟨hb, hg⟩
theorem RowI.mono {w : World} {base B : Nat} {v : Value} {l : List Int} (h : RowI w B v l) (hb : base ≤ B) : RowI w base v l := by
  rcases h with h | ⟨g, cap, h1, h2, h3⟩
  · exact .inl h
  · exact .inr ⟨g, cap, h1, Nat.le_trans hb h2, h3⟩
theorem RowI.of_owns {w : World} {base : Nat} {E : TypeId} {v : Value} {l : List Int} (h : w.ownsRow base E 1 v l.length (l.map (Value.int .i64))) : RowI w base v l := by
  rcases h.2 with ⟨rfl, h0⟩ | ⟨g, cap, cur, rfl, hb, hg, hc, hm, hs, ht⟩
  · exact .inl ⟨rfl, List.eq_nil_of_length_eq_zero h0⟩
  · refine .inr ⟨g, cap, rfl, hb, (Array.getElem?_eq_some_iff.1 hg).1, hc, by unfold maxLen at hm; exact hm, fun j x hx => ⟨?_, ?_⟩⟩
    · have hj := (List.getElem?_eq_some_iff.1 hx).1
      have e : cur[j]? = some (.int .i64 x) := by
        have h1 : (cur.toList.take (l.length * 1))[j]? = some (.int .i64 x) := by rw [ht, List.getElem?_map, hx]; rfl
        rw [List.getElem?_take, if_pos (by omega), Array.getElem?_toList] at h1
        exact h1
      simp [World.cell?, hg, e]
    · simp [World.frozen?, hg]
/-- A row of the call's own, in a world in which its block is as it was. -/
theorem RowI.kept {w w' : World} {row : Option Nat} {base : Nat} {v : Value} {l : List Int} (h : RowI w base v l) (hg : w.grownBy w' row) (hv : ∀ a n c, v = .slice (some a) n c → some a.block ≠ row) : RowI w' base v l := by
  rcases h with h | ⟨g, cap, rfl, h2, h3, h4, h5, h6⟩
  · exact .inl h
  · have hb := hg.block g h3 (hv _ _ _ rfl)
    refine .inr ⟨g, cap, rfl, h2, Nat.lt_of_lt_of_le h3 hg.size, h4, h5, fun j x hx => ?_⟩
    obtain ⟨a, b⟩ := h6 j x hx
    refine ⟨?_, ?_⟩
    · rw [← a]; exact World.cell?_of_block hb
    · rw [← b]; simp only [World.frozen?, hb]
theorem RowI.behind {w w' : World} {base : Nat} {v : Value} {l : List Int} (h : RowI w base v l) (hb : Below w.heap.size w w') : RowI w' base v l :=
  h.kept (row := none) ⟨hb.os, hb.tape, hb.output, hb.size, fun k hk _ => hb.block k hk⟩ (fun _ _ _ _ h => by cases h)
theorem RowI.holds {w : World} {g : Nat} {l : List Int} (h : ∀ j x, l[j]? = some x → w.cell? ⟨g, j, none⟩ = some (.int .i64 x) ∧ w.frozen? ⟨g, j, none⟩ = false) : Go.Sort.Holds (Value.int .i64) w g 0 l.toArray := by
  intro j hj
  have hj' : j < l.length := by simpa using hj
  have := h j _ (List.getElem?_eq_getElem hj')
  rw [Nat.zero_add, getElem!_pos l.toArray j hj]
  simpa using this
theorem RowI.of_holds {w : World} {g : Nat} {l : List Int} (h : Go.Sort.Holds (Value.int .i64) w g 0 l.toArray) : ∀ j x, l[j]? = some x → w.cell? ⟨g, j, none⟩ = some (.int .i64 x) ∧ w.frozen? ⟨g, j, none⟩ = false := by
  intro j x hx
  obtain ⟨hj, e⟩ := List.getElem?_eq_some_iff.1 hx
  have := h j (by simpa using hj)
  rw [Nat.zero_add, getElem!_pos l.toArray j (by simpa using hj)] at this
  simpa [e] using this
/-- The row's own block rewritten: what lay below is as it was. -/
theorem below_mapBlock {w : World} {B g : Nat} (f : Array Value → Array Value) (hg : B ≤ g) : Below B w (Go.Sort.mapBlock w g f) :=
  ⟨rfl, rfl, rfl, by simp [Go.Sort.mapBlock], fun k hk => by
    show (w.heap.modify g _)[k]? = _
    rw [Array.getElem?_modify, if_neg (by omega)]⟩
theorem below_setCells (b : Nat) {B : Nat} (hB : B ≤ b) : ∀ (vs : List Value) (o : Nat) (w : World), Below B w (w.setCells b o vs)
  | [], _, w => Below.refl _ w
  | v :: r, o, w => by
    have h1 : Below B w (w.setCell ⟨b, o, none⟩ v) := by
      have := grown_set w b o v
      exact ⟨this.os, this.tape, this.output, this.size, fun k hk => Below.heap_setCell _ _ _ k (by show k ≠ b; omega)⟩
    exact h1.trans (below_setCells b hB r (o + 1) _)

/-- The members of a compacted row. -/
theorem compact_spec (zs : List Int) (hs : zs.Pairwise (· ≤ ·)) : (Lib.compact zs).Pairwise (· < ·) ∧ ∀ x, x ∈ Lib.compact zs ↔ x ∈ zs := by
  have hget : ∀ j (h : j < zs.length), zs.toArray[j]! = zs[j] := fun j h => by rw [getElem!_pos zs.toArray j (by simpa using h)]; simp
  have key : ∀ m, m ≤ zs.length → (Lib.compactUpTo zs.toArray m).Pairwise (· < ·) ∧ (∀ x, x ∈ Lib.compactUpTo zs.toArray m ↔ x ∈ zs.take m) := by
    intro m
    induction m with
    | zero => intro _; simp [Lib.compactUpTo]
    | succ m ih =>
      intro hm
      obtain ⟨i1, i2⟩ := ih (by omega)
      have hml : m < zs.length := by omega
      rw [Lib.compactUpTo_succ, hget m hml]
      have htake : zs.take (m + 1) = zs.take m ++ [zs[m]] := by rw [List.take_add_one, List.getElem?_eq_getElem hml]; rfl
      have hle : ∀ x ∈ zs.take m, x ≤ zs[m] := by
        intro x hx
        obtain ⟨k, hk⟩ := List.getElem?_of_mem hx
        rw [List.getElem?_take] at hk
        split at hk
        · rename_i hkm
          obtain ⟨q, e⟩ := List.getElem?_eq_some_iff.1 hk
          rw [← e]
          exact List.pairwise_iff_getElem.1 hs k m q hml hkm
        · cases hk
      by_cases h0 : m = 0
      · subst h0
        have : Lib.keeps zs.toArray 0 = true := by simp [Lib.keeps]
        rw [this, htake]
        simp [Lib.compactUpTo]
      · have hm1 : m - 1 < zs.length := by omega
        by_cases hk : zs[m] = zs[m - 1]
        · have : Lib.keeps zs.toArray m = false := Lib.keeps_neg (by omega) (by rw [hget m hml, hget (m - 1) hm1]; exact hk)
          rw [this, htake]
          simp only [Bool.false_eq_true, if_false, List.append_nil]
          refine ⟨i1, fun x => ?_⟩
          rw [i2, List.mem_append]
          refine ⟨.inl, fun h => ?_⟩
          rcases h with h | h
          · exact h
          · simp at h
            rw [h, hk]
            exact List.mem_iff_getElem?.2 ⟨m - 1, by rw [List.getElem?_take, if_pos (by omega)]; exact List.getElem?_eq_getElem hm1⟩
        · have : Lib.keeps zs.toArray m = true := Lib.keeps_pos (by rw [hget m hml, hget (m - 1) hm1]; exact hk)
          rw [this, htake]
          simp only [if_true]
          refine ⟨?_, fun x => by rw [List.mem_append, List.mem_append, i2]⟩
          rw [List.pairwise_append]
          refine ⟨i1, by simp, fun a ha b hb => ?_⟩
          simp at hb
          subst hb
          have ha' := (i2 a).1 ha
          have h1 := hle a ha'
          obtain ⟨k, hka⟩ := List.getElem?_of_mem ha'
          rw [List.getElem?_take] at hka
          split at hka
          · rename_i hkm
            obtain ⟨q, e⟩ := List.getElem?_eq_some_iff.1 hka
            have h2 : a ≤ zs[m - 1] := by
              rw [← e]
              rcases Nat.lt_or_eq_of_le (show k ≤ m - 1 by omega) with h | h
              · exact List.pairwise_iff_getElem.1 hs k (m - 1) q hm1 h
              · subst h; exact Int.le_refl _
            have h3 : zs[m - 1] ≤ zs[m] := List.pairwise_iff_getElem.1 hs (m - 1) m hm1 hml (by omega)
            omega
          · cases hka
  have h := key zs.length (Nat.le_refl _)
  rw [List.take_length] at h
  exact h
theorem sorted_spec (l : List Int) : (l.mergeSort fun x y => decide (x ≤ y)).Pairwise (· ≤ ·) ∧ (l.mergeSort fun x y => decide (x ≤ y)).Perm l := by
  refine ⟨?_, List.mergeSort_perm _ _⟩
  have := List.pairwise_mergeSort (le := fun x y : Int => decide (x ≤ y)) (fun a b c h1 h2 => by simp at h1 h2 ⊢; omega) (fun a b => by simp; omega) l
  exact this.imp fun h => by simpa using h
/-- Each number once, ascending. -/
def dist (l : List Int) : List Int := Lib.compact (l.mergeSort fun x y => decide (x ≤ y))
theorem dist_up (l : List Int) : (dist l).Pairwise (· < ·) := (compact_spec _ (sorted_spec l).1).1
theorem mem_dist (l : List Int) (x : Int) : x ∈ dist l ↔ x ∈ l := ((compact_spec _ (sorted_spec l).1).2 x).trans (sorted_spec l).2.mem_iff

end Go.Proofs.Ytimlfiomoalieaa
