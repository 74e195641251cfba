/- Rows of numbers, by Go's library: copied, sorted, compacted, searched, one put in, one taken out. -/
import Derived.Test.YtimlfiomoalieaaCfMem
import Derived.Test.YtimlfiomoalieaaShelf
import Derived.Laws.AppendOwn
namespace Go.Proofs.Ytimlfiomoalieaa
open Go.RowKit

theorem getD_of {l : List Int} {j : Nat} {x : Int} (h : l[j]? = some x) : l.getD j 0 = x := by rw [List.getD_eq_getElem?_getD, h, Option.getD_some]
theorem at_getD {l : List Int} {j : Nat} (h : j < l.length) : l[j]? = some (l.getD j 0) := by rw [List.getD_eq_getElem?_getD, List.getElem?_eq_getElem h, Option.getD_some]

/-- A copy in memory of the call's own. -/
def Cloned (w : World) (l : List Int) (e : Ending) (w' : World) : Prop := ∃ v', e = .returned v' ∧ w'.ownsRow w.heap.size 3 1 v' l.length (l.map (Value.int .i64)) ∧ Below w.heap.size w w'
theorem clone_ints (v : Value) (l : List Int) (w : World) (hv : ReadsI w v l) (hn : l.length ≤ 1048576) : Calls Try.prog 23 #[v] w (Cloned w l) := by
  have hv' := hv
  obtain ⟨ao, cap, rfl, h1, h2, h3, h4⟩ := hv'
  rw [List.length_map] at h1 hv ⊢
  cases ao with
  | none =>
    have h0 : l.length = 0 := by have := h3 rfl; omega
    obtain rfl : l = [] := List.eq_nil_of_length_eq_zero h0
    refine (Try.slices_Clone_int_nil _ _ w).mono ?_
    rintro e w' ⟨rfl, rfl⟩
    exact ⟨_, rfl, World.ownsRow_nil _ _ _ _, Below.refl _ _⟩
  | some a =>
    by_cases h0 : l.length = 0
    · obtain rfl : l = [] := List.eq_nil_of_length_eq_zero h0
      refine (Try.slices_Clone_int_zero a cap w).mono ?_
      rintro e w' ⟨v', rfl, ho, _, hb⟩
      exact ⟨_, rfl, ho, hb⟩
    · obtain ⟨b, off, e, _, hc⟩ := ReadsI.places hv (by omega)
      cases e
      refine (Try.slices_Clone_int b off l.length cap l w (Nat.le_refl _) (by omega) (fun j hj => hc w (Below.refl _ w) j _ (at_getD hj))).mono ?_
      rintro e w' ⟨v', rfl, ho, _, hb⟩
      rw [List.take_length] at ho
      exact ⟨_, rfl, ho, hb⟩

/-- A row of the call's own, turned; what lay below the base is as it was. -/
def Rowed (w : World) (base : Nat) (l : List Int) (e : Ending) (w' : World) : Prop := ∃ v', e = .returned v' ∧ RowI w' base v' l ∧ Below base w w'

theorem sort_ints (v : Value) (l : List Int) (w : World) (base : Nat) (hv : RowI w base v l) (hn : l.length ≤ 1048576) :
    Calls Try.prog 35 #[v] w fun e w' => e = .returned (.tuple #[]) ∧ RowI w' base v (l.mergeSort fun x y => decide (x ≤ y)) ∧ Below base w w' := by
  by_cases h0 : l = []
  · subst h0
    obtain ⟨ao, cap, rfl, _, _⟩ := ReadsI.shape hv.reads
    refine (Try.slices_Sort_int_none ao cap w).mono ?_
    rintro e w' ⟨rfl, rfl⟩
    exact ⟨rfl, by simpa using hv, Below.refl _ _⟩
  · rcases hv with ⟨_, h⟩ | ⟨g, cap, rfl, hb, hg, hc, hm, hcell⟩
    · exact absurd h h0
    have hH := RowI.holds hcell
    have hlen : (l.mergeSort fun x y => decide (x ≤ y)).length = l.length := by simp
    refine (Try.slices_Sort_int g 0 cap l w hH hg (by omega)).mono ?_
    rintro e w' ⟨rfl, q, os, rfl⟩
    have hA := Go.Sort.holds_ahead (Value.int .i64) w q g 0 _ hH
    have hS := Go.Sort.holds_putRow (Value.int .i64) (Go.Sort.ahead w q) g 0 _ (l.mergeSort fun x y => decide (x ≤ y)).toArray hA (by simp)
    have hsz : (Go.Sort.putRow (Value.int .i64) (Go.Sort.ahead w q) g 0 (l.mergeSort fun x y => decide (x ≤ y)).toArray).heap.size = w.heap.size := by simp
    have hG := Go.Sort.holds_grow (Value.int .i64) _ os g 0 _ (by rw [hsz]; exact hg) hS
    refine ⟨rfl, .inr ⟨g, cap, by rw [hlen], hb, by rw [Go.Sort.size_grow, hsz]; omega, by rw [hlen]; exact hc, hm, RowI.of_holds hG⟩, ?_⟩
    have b1 : Below base w (Go.Sort.ahead w q) := ⟨rfl, rfl, rfl, Nat.le_refl _, fun _ _ => rfl⟩
    have b2 : Below base (Go.Sort.ahead w q) (Go.Sort.putRow (Value.int .i64) (Go.Sort.ahead w q) g 0 (l.mergeSort fun x y => decide (x ≤ y)).toArray) := below_mapBlock _ hb
    have b3 := (grow_below (Go.Sort.putRow (Value.int .i64) (Go.Sort.ahead w q) g 0 (l.mergeSort fun x y => decide (x ≤ y)).toArray) 0 os).mono (show base ≤ _ by rw [hsz]; omega)
    exact b1.trans (b2.trans b3)

/-- A row of which the first cells were set. -/
theorem RowI.set {w : World} {base g cap q : Nat} {ys : List Int} (l : List Int) (hb : base ≤ g) (hg : g < w.heap.size) (hm : cap ≤ 9223372036854775807) (hc : l.length ≤ cap) (hl : ∀ (j : Nat) (x : Int), l[j]? = some x → ys[j]? = some x)
    (hcell : ∀ j, j < ys.length → (w.cell? ⟨g, j, none⟩).isSome = true ∧ w.frozen? ⟨g, j, none⟩ = false) :
    RowI ((w.drewN q).setCells g 0 (ys.map (Value.int .i64))) base (.slice (some ⟨g, 0, none⟩) l.length cap) l ∧ Below base w ((w.drewN q).setCells g 0 (ys.map (Value.int .i64))) := by
  have hB : Below base w ((w.drewN q).setCells g 0 (ys.map (Value.int .i64))) := ((drawn w q).mono (show base ≤ w.heap.size by omega)).trans (below_setCells g hb _ _ _)
  have hB1 : w.heap.size ≤ ((w.drewN q).setCells g 0 (ys.map (Value.int .i64))).heap.size := Nat.le_trans (drawn w q).size (below_setCells g (Nat.le_refl g) _ _ (w.drewN q)).size
  refine ⟨.inr ⟨g, cap, rfl, hb, by omega, hc, hm, fun j x hx => ?_⟩, hB⟩
  have hy := hl j x hx
  obtain ⟨hj, e⟩ := List.getElem?_eq_some_iff.1 hy
  obtain ⟨h1, h2⟩ := hcell j hj
  refine ⟨?_, by rw [World.frozen?_setCells]; exact h2⟩
  have := World.cell?_setCells_in g (ys.map (Value.int .i64)) 0 (w.drewN q) (fun k hk => by rw [Nat.zero_add]; exact (hcell k (by simpa using hk)).1) j (by simpa using hj)
  rw [Nat.zero_add] at this
  rw [this, List.getElem_map, e]

theorem compact_ints (v : Value) (l : List Int) (w : World) (base : Nat) (hv : RowI w base v l) : Calls Try.prog 36 #[v] w (Rowed w base (Lib.compact l)) := by
  by_cases h0 : l = []
  · subst h0
    obtain ⟨ao, cap, rfl, _, _⟩ := ReadsI.shape hv.reads
    refine (Try.slices_Compact_int_empty ao cap w).mono ?_
    rintro e w' ⟨rfl, rfl⟩
    exact ⟨_, rfl, hv, Below.refl _ _⟩
  · rcases hv with ⟨_, h⟩ | ⟨g, cap, rfl, hb, hg, hc, hm, hcell⟩
    · exact absurd h h0
    refine (Try.slices_Compact_int_cells g 0 l.length cap l w (Nat.le_refl _) (by omega) hc (fun j hj => by rw [Nat.zero_add]; exact (hcell j _ (at_getD hj)).1) (fun j hj => by rw [Nat.zero_add]; exact (hcell j _ (at_getD hj)).2)).mono ?_
    rintro e w' ⟨rfl, q, rfl⟩
    rw [List.take_length]
    have hle := Lib.compact_length_le l
    have h := RowI.set (w := w) (q := q) (ys := Lib.compact l ++ List.replicate (l.length - (Lib.compact l).length) 0) (Lib.compact l) hb hg hm (by omega) (fun j x hx => by rw [List.getElem?_append_left (List.getElem?_eq_some_iff.1 hx).1]; exact hx)
      (fun j hj => by
        have hj' : j < l.length := by simp at hj; omega
        obtain ⟨a, b⟩ := hcell j _ (at_getD hj')
        rw [a]; exact ⟨rfl, b⟩)
    exact ⟨_, rfl, h⟩

theorem search_ints (v : Value) (l : List Int) (x : Int) (w : World) (hv : ReadsI w v l) (hn : l.length ≤ 1048576) (hs : l.Pairwise (· < ·)) :
    Calls Try.prog 34 #[v, .int .i64 x] w (Looks w (.tuple #[.int .i64 (Cf.place l x : Nat), .bool (l.contains x)])) := by
  obtain ⟨ao, cap, rfl, hc1, hc2⟩ := ReadsI.shape hv
  by_cases h0 : l = []
  · subst h0
    refine (Try.slices_BinarySearch_int_empty ao cap x w).mono ?_
    rintro e w' ⟨rfl, rfl⟩
    exact ⟨rfl, Below.refl _ _⟩
  · obtain ⟨b, off, rfl, _, hc⟩ := ReadsI.places hv (List.length_pos_iff.2 h0)
    refine (Try.slices_BinarySearch_int b off l.length cap l x w (Nat.le_refl _) (by omega) (fun j hj => hc w (Below.refl _ w) j _ (at_getD hj)) (by rw [List.take_length]; exact hs.imp fun h => by omega)).mono ?_
    rintro e w' ⟨rfl, q, rfl⟩
    rw [List.take_length]
    exact ⟨rfl, drawn _ _⟩

theorem put_at (l : List Int) (i : Nat) (x : Int) (hi : i ≤ l.length) (j : Nat) : (l.take i ++ x :: l.drop i)[j]? = if j < i then l[j]? else if j = i then some x else l[j - 1]? := by
  have hlen : (l.take i).length = i := by rw [List.length_take]; omega
  by_cases h1 : j < i
  · rw [if_pos h1, List.getElem?_append_left (by omega), List.getElem?_take, if_pos h1]
  · rw [if_neg h1, List.getElem?_append_right (by omega), hlen]
    by_cases h2 : j = i
    · subst h2; simp
    · rw [if_neg h2]
      obtain ⟨k, hk⟩ : ∃ k, j - i = k + 1 := ⟨j - i - 1, by omega⟩
      rw [hk, List.getElem?_cons_succ, List.getElem?_drop]
      congr 1
      omega

theorem delete_ints (v : Value) (l : List Int) (i : Nat) (w : World) (base : Nat) (hv : RowI w base v l) (hi : i < l.length) :
    Calls Try.prog 38 #[v, .int .i64 i, .int .i64 ((i + 1 : Nat) : Int)] w (Rowed w base (l.take i ++ l.drop (i + 1))) := by
  rcases hv with ⟨_, rfl⟩ | ⟨g, cap, rfl, hb, hg, hc, hm, hcell⟩
  · simp at hi
  · refine (Try.slices_Delete_int_cells g 0 l.length cap i (i + 1) l w (Nat.le_refl _) hc hm (by omega) hi (fun j hj => by rw [Nat.zero_add]; exact (hcell j _ (at_getD hj)).1) (fun j hj => by rw [Nat.zero_add]; exact (hcell j _ (at_getD hj)).2)).mono ?_
    rintro e w' ⟨rfl, q, rfl⟩
    rw [List.take_length]
    have hlen : (l.take i ++ l.drop (i + 1)).length = l.length - (i + 1 - i) := by simp; omega
    have h := RowI.set (w := w) (q := q) (ys := l.take i ++ l.drop (i + 1) ++ List.replicate (i + 1 - i) 0) (l.take i ++ l.drop (i + 1)) hb hg hm (by omega) (fun j x hx => by rw [List.getElem?_append_left (List.getElem?_eq_some_iff.1 hx).1]; exact hx)
      (fun j hj => by
        have hj' : j < l.length := by simp at hj; omega
        obtain ⟨a, b⟩ := hcell j _ (at_getD hj')
        rw [a]; exact ⟨rfl, b⟩)
    rw [hlen] at h
    exact ⟨_, rfl, h⟩

theorem below_of_alloc {w : World} {base : Nat} (hb : base ≤ w.heap.size) (o : Obj) : Below base w (w.alloc o) := (Below.refl _ w).alloc hb o
/-- A row in a block of which the cells are known. -/
theorem RowI.of_cells {w : World} {base g cap : Nat} {l : List Int} {E : TypeId} {cur : Array Value} (hg : w.heap[g]? = some (.cells cur E (0, 0))) (hb : base ≤ g) (hc : l.length ≤ cap) (hm : cap ≤ 9223372036854775807) (h : ∀ (j : Nat) (x : Int), l[j]? = some x → cur[j]? = some (.int .i64 x)) :
    RowI w base (.slice (some ⟨g, 0, none⟩) l.length cap) l :=
  .inr ⟨g, cap, rfl, hb, (Array.getElem?_eq_some_iff.1 hg).1, hc, hm, fun j x hx => ⟨by simp [World.cell?, hg, h j x hx], by simp [World.frozen?, hg]⟩⟩
theorem block_cell {w : World} {g : Nat} {E : TypeId} {cur : Array Value} (hg : w.heap[g]? = some (.cells cur E (0, 0))) (j : Nat) : w.cell? ⟨g, j, none⟩ = cur[j]? := by simp [World.cell?, hg]
theorem block_free {w : World} {g : Nat} {E : TypeId} {cur : Array Value} (hg : w.heap[g]? = some (.cells cur E (0, 0))) (j : Nat) : w.frozen? ⟨g, j, none⟩ = false := by simp [World.frozen?, hg]

theorem insert_ints (v : Value) (l : List Int) (i : Nat) (x : Int) (w : World) (base vb : Nat) (hv : w.ownsRow base 3 1 v l.length (l.map (Value.int .i64))) (h0 : 0 < l.length) (hn : l.length ≤ 1048576) (hi : i ≤ l.length)
    (hx : Lies w vb 3 #[.int .i64 x]) (hvb : ∀ a n c, v = .slice (some a) n c → a.block ≠ vb) :
    Calls Try.prog 37 #[v, .int .i64 i, .slice (some ⟨vb, 0, none⟩) 1 1] w (Rowed w base (l.take i ++ x :: l.drop i)) := by
  have hlen : (l.take i ++ x :: l.drop i).length = l.length + 1 := by simp; omega
  rcases hv.2 with ⟨_, h⟩ | ⟨g, cap, cur, rfl, hb, hg, hc, hm, hs, ht⟩
  · omega
  have hne : vb ≠ g := fun h => hvb _ _ _ rfl h.symm
  have hgl := (Array.getElem?_eq_some_iff.1 hg).1
  have hm' : cap ≤ 9223372036854775807 := by unfold maxLen at hm; exact hm
  have hcur : ∀ (j : Nat) (u : Value), (l.map (Value.int .i64))[j]? = some u → cur[j]? = some u := by
    intro j u hu
    have hj := (List.getElem?_eq_some_iff.1 hu).1
    rw [List.length_map] at hj
    rw [← ht, List.getElem?_take, if_pos (by omega), Array.getElem?_toList] at hu
    exact hu
  have hcs : ∀ (j : Nat) (u : Value), (l.map (Value.int .i64))[j]? = some u → w.cell? ⟨g, 0 + j, none⟩ = some u := fun j u hu => by rw [Nat.zero_add, block_cell hg]; exact hcur j u hu
  have hvs : ∀ (j : Nat) (u : Value), [Value.int .i64 x][j]? = some u → w.cell? ⟨vb, 0 + j, none⟩ = some u := by
    intro j u hu
    have hj := (List.getElem?_eq_some_iff.1 hu).1
    have hj0 : j = 0 := by simp at hj; omega
    subst hj0
    simp at hu; subst hu
    exact hx.cell 0 _ rfl
  have h1c : ∀ u ∈ l.map (Value.int .i64), u.oneCell' = true := by intro u hu; obtain ⟨y, _, rfl⟩ := List.mem_map.1 hu; rfl
  have h1v : ∀ u ∈ [Value.int .i64 x], u.oneCell' = true := by intro u hu; simp at hu; subst hu; rfl
  have hput := put_at l i x hi
  have hsome : ∀ j, j < cap → (w.cell? ⟨g, 0 + j, none⟩).isSome = true := fun j hj => by rw [Nat.zero_add, block_cell hg, Array.getElem?_eq_getElem (by omega)]; rfl
  by_cases hin : i < l.length
  · by_cases hroom : l.length + 1 ≤ cap
    · refine (Any2.slices_Insert_int_shift Try.laysNm221 g 0 l.length cap i vb 0 1 1 (l.map (Value.int .i64)) [.int .i64 x] w hin (by omega) hroom hm' hne (by simp) rfl hcs (fun j hj => hsome j (by omega)) (fun j _ => block_free hg _) hvs h1c h1v
        3 3 1 cur.size (by simp [World.shape?, show w.heap[vb]? = _ from hx]) (by simp [World.shape?, hg]) (by omega) (hx.free 0) (hx.free 1)).mono ?_
      rintro e w' ⟨rfl, rfl⟩
      have b1 : Below base w w.drew := (drawn w 1).mono (by omega)
      have b2 := below_setCells g hb ((l.map (Value.int .i64)).drop i) (0 + (i + 1)) w.drew
      have b3 := below_setCells g hb [.int .i64 x] (0 + i) (w.drew.setCells g (0 + (i + 1)) ((l.map (Value.int .i64)).drop i))
      have hsz : w.heap.size ≤ ((w.drew.setCells g (0 + (i + 1)) ((l.map (Value.int .i64)).drop i)).setCells g (0 + i) [.int .i64 x]).heap.size :=
        Nat.le_trans (drawn w 1).size (Nat.le_trans (below_setCells g (Nat.le_refl g) _ _ w.drew).size (below_setCells g (Nat.le_refl g) _ _ _).size)
      refine ⟨_, rfl, .inr ⟨g, cap, by rw [hlen], hb, by omega, by omega, hm', fun j y hy => ⟨?_, ?_⟩⟩, b1.trans (b2.trans b3)⟩
      · rw [hput] at hy
        have hold : ∀ k, k < cap → (w.drew.cell? ⟨g, 0 + k, none⟩).isSome = true := hsome
        split at hy
        · rename_i hji
          rw [World.cell?_setCells_out g _ _ _ _ (fun _ _ => .inl (by show j < 0 + i; omega)), World.cell?_setCells_out g _ _ _ _ (fun _ _ => .inl (by show j < 0 + (i + 1); omega))]
          have := hcs j (.int .i64 y) (by rw [List.getElem?_map, hy]; rfl)
          rw [Nat.zero_add] at this
          exact this
        · split at hy
          · rename_i hji hje
            subst hje
            cases hy
            have := World.cell?_setCells_in g [Value.int .i64 x] (0 + j) (w.drew.setCells g (0 + (j + 1)) ((l.map (Value.int .i64)).drop j)) (fun k hk => by
              have hk0 : k = 0 := by simp at hk; omega
              subst hk0
              rw [World.cell?_setCells_out g _ _ _ _ (fun _ _ => .inl (by show 0 + j + 0 < 0 + (j + 1); omega))]
              have := hold j (by omega)
              simpa using this) 0 (by simp)
            simpa using this
          · rename_i hji hje
            have hj1 : j - 1 < l.length := (List.getElem?_eq_some_iff.1 hy).1
            rw [World.cell?_setCells_out g _ _ _ _ (fun _ _ => .inr (by show 0 + i + 1 ≤ j; omega))]
            have hd : j - (i + 1) < ((l.map (Value.int .i64)).drop i).length := by simp; omega
            have := World.cell?_setCells_in g ((l.map (Value.int .i64)).drop i) (0 + (i + 1)) w.drew (fun k hk => by
              have := hold (i + 1 + k) (by simp at hk; omega)
              rw [show 0 + (i + 1) + k = 0 + (i + 1 + k) by omega]
              exact this) (j - (i + 1)) hd
            rw [show 0 + (i + 1) + (j - (i + 1)) = j by omega] at this
            rw [this]
            have e2 : ((l.map (Value.int .i64)).drop i)[j - (i + 1)]? = some (.int .i64 y) := by
              rw [List.getElem?_drop, show i + (j - (i + 1)) = j - 1 by omega, List.getElem?_map, hy]; rfl
            rw [List.getElem?_eq_getElem hd] at e2
            exact e2
      · rw [World.frozen?_setCells, World.frozen?_setCells]
        exact block_free hg j
    · refine (Any2.slices_Insert_int_grow Try.laysNm221 g 0 l.length cap i vb 0 1 1 (l.map (Value.int .i64)) [.int .i64 x] w hin (by omega) hc (by omega) (by omega) (by simp) rfl hcs hvs h1c h1v).mono ?_
      rintro e w' ⟨rfl, rfl⟩
      obtain ⟨G, hG⟩ : ∃ G, G = grownCap w (l.length + 1) cap 3 := ⟨_, rfl⟩
      have hG1 : l.length + 1 ≤ G := by rw [hG]; exact grownCap_ge _ _ _ _
      have hG2 : G ≤ 9223372036854775807 := by have := grownCap_le_maxLen w (l.length + 1) cap 3 (by unfold maxLen; omega); rw [← hG] at this; unfold maxLen at this; exact this
      show Rowed w base _ (.returned (.slice (some ⟨w.heap.size, 0, none⟩) (l.length + 1) (grownCap w (l.length + 1) cap 3))) ((((w.alloc (.cells (((l.map (Value.int .i64)).take i).toArray ++ Builtin.zeroCells (Value.int .i64 0).cells (l.length + 1 - i) ++ Builtin.zeroCells (Value.int .i64 0).cells (grownCap w (l.length + 1) cap 3 - (l.length + 1))) 3)).drew.setCells w.heap.size i [.int .i64 x]).drew).setCells w.heap.size (i + 1) ((l.map (Value.int .i64)).drop i))
      rw [← hG]
      obtain ⟨C, hC⟩ : ∃ C : Array Value, C = ((l.map (Value.int .i64)).take i).toArray ++ Builtin.zeroCells (Value.int .i64 0).cells (l.length + 1 - i) ++ Builtin.zeroCells (Value.int .i64 0).cells (G - (l.length + 1)) := ⟨_, rfl⟩
      have hCs : C.size = G := by
        rw [hC]
        simp only [Array.size_append, List.size_toArray, size_zeroCells, List.length_take, List.length_map, show (Value.int .i64 0).cells.size = 1 from rfl]
        omega
      have hCt : ∀ (j : Nat) (y : Int), j < i → l[j]? = some y → C[j]? = some (.int .i64 y) := by
        intro j y hj hy
        rw [hC, Array.append_assoc, Array.getElem?_append_left (by simp; omega), List.getElem?_toArray, List.getElem?_take, if_pos hj, List.getElem?_map, hy]
        rfl
      rw [← hC]
      obtain ⟨W, hW⟩ : ∃ W, W = w.alloc (.cells C 3) := ⟨_, rfl⟩
      have hWH : W.heap[w.heap.size]? = some (.cells C 3 (0, 0)) := by rw [hW]; exact World.alloc_heap_new w _
      have hWb : Below base w W := by rw [hW]; exact below_of_alloc (by omega) _
      have hWs : W.heap.size = w.heap.size + 1 := by rw [hW]; simp
      rw [← hW]
      have b1 : Below base W W.drew := (drawn W 1).mono (by omega)
      have b2 := below_setCells (B := base) w.heap.size (by omega) [.int .i64 x] i W.drew
      have b3 : Below base (W.drew.setCells w.heap.size i [.int .i64 x]) (W.drew.setCells w.heap.size i [.int .i64 x]).drew := (drawn (W.drew.setCells w.heap.size i [.int .i64 x]) 1).mono (by have := (below_setCells w.heap.size (Nat.le_refl _) [.int .i64 x] i W.drew).size; have : W.drew.heap.size = W.heap.size := rfl; omega)
      have b4 := below_setCells (B := base) w.heap.size (by omega) ((l.map (Value.int .i64)).drop i) (i + 1) (W.drew.setCells w.heap.size i [.int .i64 x]).drew
      have hsz : W.heap.size ≤ (((W.drew.setCells w.heap.size i [.int .i64 x]).drew).setCells w.heap.size (i + 1) ((l.map (Value.int .i64)).drop i)).heap.size :=
        Nat.le_trans (below_setCells w.heap.size (Nat.le_refl _) [.int .i64 x] i W.drew).size (below_setCells w.heap.size (Nat.le_refl _) ((l.map (Value.int .i64)).drop i) (i + 1) (W.drew.setCells w.heap.size i [.int .i64 x]).drew).size
      have hold : ∀ k, k < G → (W.drew.cell? ⟨w.heap.size, k, none⟩).isSome = true := fun k hk => by
        show (W.cell? _).isSome = true
        rw [block_cell hWH, Array.getElem?_eq_getElem (by omega)]; rfl
      refine ⟨_, rfl, .inr ⟨w.heap.size, G, by rw [hlen], by omega, by omega, by omega, hG2, fun j y hy => ⟨?_, ?_⟩⟩, hWb.trans (b1.trans (b2.trans (b3.trans b4)))⟩
      · rw [hput] at hy
        split at hy
        · rename_i hji
          rw [World.cell?_setCells_out w.heap.size _ _ _ _ (fun _ _ => .inl (by show j < i + 1; omega))]
          show (W.drew.setCells w.heap.size i [.int .i64 x]).cell? _ = _
          rw [World.cell?_setCells_out w.heap.size _ _ _ _ (fun _ _ => .inl (by show j < i; omega))]
          show W.cell? _ = _
          rw [block_cell hWH]
          exact hCt j y hji hy
        · split at hy
          · rename_i hji hje
            subst hje
            cases hy
            rw [World.cell?_setCells_out w.heap.size _ _ _ _ (fun _ _ => .inl (by show j < j + 1; omega))]
            show (W.drew.setCells w.heap.size j [.int .i64 x]).cell? _ = _
            have := World.cell?_setCells_in w.heap.size [Value.int .i64 x] j W.drew (fun k hk => by
              have hk0 : k = 0 := by simp at hk; omega
              subst hk0
              exact hold j (by omega)) 0 (by simp)
            simpa using this
          · rename_i hji hje
            have hj1 : j - 1 < l.length := (List.getElem?_eq_some_iff.1 hy).1
            have hd : j - (i + 1) < ((l.map (Value.int .i64)).drop i).length := by simp; omega
            have := World.cell?_setCells_in w.heap.size ((l.map (Value.int .i64)).drop i) (i + 1) (W.drew.setCells w.heap.size i [.int .i64 x]).drew (fun k hk => by
              show ((W.drew.setCells w.heap.size i [.int .i64 x]).cell? _).isSome = true
              rw [World.cell?_setCells_out w.heap.size _ _ _ _ (fun _ _ => .inr (by show i + 1 ≤ i + 1 + k; omega))]
              exact hold (i + 1 + k) (by simp at hk; omega)) (j - (i + 1)) hd
            rw [show i + 1 + (j - (i + 1)) = j by omega] at this
            rw [this]
            have e2 : ((l.map (Value.int .i64)).drop i)[j - (i + 1)]? = some (.int .i64 y) := by
              rw [List.getElem?_drop, show i + (j - (i + 1)) = j - 1 by omega, List.getElem?_map, hy]; rfl
            rw [List.getElem?_eq_getElem hd] at e2
            exact e2
      · rw [World.frozen?_setCells]
        show (W.drew.setCells w.heap.size i [.int .i64 x]).frozen? _ = false
        rw [World.frozen?_setCells]
        exact block_free hWH j
  · obtain rfl : i = l.length := by omega
    by_cases hroom : l.length + 1 ≤ cap
    · refine (Any2.slices_Insert_int_end_room Try.laysNm221 g 0 l.length cap vb 0 1 1 [.int .i64 x] w (by omega) hroom hm' rfl (fun j hj => by have := hsome (l.length + j) (by omega); rwa [← Nat.add_assoc] at this) (fun j _ => block_free hg _) hvs h1v).mono ?_
      rintro e w' ⟨rfl, rfl⟩
      have b3 := below_setCells g hb [.int .i64 x] (0 + l.length) w
      have hsz : w.heap.size ≤ (w.setCells g (0 + l.length) [.int .i64 x]).heap.size := (below_setCells g (Nat.le_refl g) _ _ w).size
      refine ⟨_, rfl, .inr ⟨g, cap, by rw [hlen], hb, by omega, by omega, hm', fun j y hy => ⟨?_, ?_⟩⟩, b3⟩
      · rw [hput] at hy
        split at hy
        · rename_i hji
          rw [World.cell?_setCells_out g _ _ _ _ (fun _ _ => .inl (by show j < 0 + l.length; omega))]
          have := hcs j (.int .i64 y) (by rw [List.getElem?_map, hy]; rfl)
          rw [Nat.zero_add] at this
          exact this
        · split at hy
          · rename_i hji hje
            subst hje
            cases hy
            have := World.cell?_setCells_in g [Value.int .i64 x] (0 + l.length) w (fun k hk => by
              have hk0 : k = 0 := by simp at hk; omega
              subst hk0
              have := hsome l.length (by omega)
              simpa using this) 0 (by simp)
            simpa using this
          · have := (List.getElem?_eq_some_iff.1 hy).1
            omega
      · rw [World.frozen?_setCells]
        exact block_free hg j
    · refine (Any2.slices_Insert_int_end_grow Try.laysNm221 (some ⟨g, 0, none⟩) l.length cap vb 0 1 1 (l.map (Value.int .i64)) [.int .i64 x] w (by omega) hc (by omega) (by omega) (by simp) rfl (fun h => by cases h) (fun a ha j u hu => by cases ha; rw [Addr.add_lit]; exact hcs j u hu) hvs h1v).mono ?_
      rintro e w' ⟨rfl, rfl⟩
      obtain ⟨G, hG⟩ : ∃ G, G = grownCap w (l.length + 1) cap 3 := ⟨_, rfl⟩
      have hG1 : l.length + 1 ≤ G := by rw [hG]; exact grownCap_ge _ _ _ _
      have hG2 : G ≤ 9223372036854775807 := by have := grownCap_le_maxLen w (l.length + 1) cap 3 (by unfold maxLen; omega); rw [← hG] at this; unfold maxLen at this; exact this
      show Rowed w base _ (.returned (.slice (some ⟨w.heap.size, 0, none⟩) (l.length + 1) (grownCap w (l.length + 1) cap 3))) (w.drew.alloc (.cells ((l.map (Value.int .i64) ++ [Value.int .i64 x]).toArray ++ Builtin.zeroCells (Value.int .i64 0).cells (grownCap w (l.length + 1) cap 3 - (l.length + 1))) 3))
      rw [← hG]
      have hrow := RowI.of_cells (base := base) (cap := G) (l := l.take l.length ++ x :: l.drop l.length) (World.alloc_heap_new w.drew (.cells ((l.map (Value.int .i64) ++ [Value.int .i64 x]).toArray ++ Builtin.zeroCells (Value.int .i64 0).cells (G - (l.length + 1))) 3)) (show base ≤ w.heap.size by omega) (by omega) hG2 (fun j y hy => by
        have hj := (List.getElem?_eq_some_iff.1 hy).1
        rw [hlen] at hj
        rw [Array.getElem?_append_left (by simp; omega), List.getElem?_toArray]
        have e : l.map (Value.int .i64) ++ [Value.int .i64 x] = (l.take l.length ++ x :: l.drop l.length).map (Value.int .i64) := by simp
        rw [e, List.getElem?_map, hy]
        rfl)
      rw [hlen] at hrow
      exact ⟨_, rfl, hrow, ((drawn w 1).mono (show base ≤ w.heap.size by omega)).trans (below_of_alloc (show base ≤ w.drew.heap.size from (by omega : base ≤ w.heap.size)) _)⟩

end Go.Proofs.Ytimlfiomoalieaa
