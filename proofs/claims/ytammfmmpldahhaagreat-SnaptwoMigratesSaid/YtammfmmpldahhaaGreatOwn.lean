/- Rows of elements of any struct type that a call owns: the cells one behind the other; appended to; cut. No program is spoken of. -/
import Derived.Test.YtammfmmpldahhaaGreatRow
import Derived.Laws.AppendOwn
import Derived.Lib.SliceRun
namespace Go.Proofs.YtammfmmpldahhaaGreat
open Go.RowKit

/-- The cells of a row of elements, one behind the other. -/
def flatR (rs : List (Array Value)) : List Value := rs.flatMap (·.toList)
/-- Each element has k cells, each of which is one. -/
def Sized (k : Nat) (rs : List (Array Value)) : Prop := ∀ r ∈ rs, r.size = k ∧ r.all (·.oneCell') = true
theorem Sized.nil (k : Nat) : Sized k [] := fun r h => by simp at h
theorem Sized.tail {k : Nat} {r : Array Value} {rs : List (Array Value)} (h : Sized k (r :: rs)) : Sized k rs := fun x hx => h x (List.mem_cons_of_mem _ hx)
theorem Sized.app {k : Nat} {a b : List (Array Value)} (h : Sized k a) (h' : Sized k b) : Sized k (a ++ b) := fun x hx => by
  rcases List.mem_append.1 hx with hx | hx
  · exact h x hx
  · exact h' x hx
theorem Sized.map {α : Type} {k : Nat} {f : α → Array Value} (h : ∀ a, (f a).size = k ∧ (f a).all (·.oneCell') = true) (l : List α) : Sized k (l.map f) := fun x hx => by
  obtain ⟨a, _, rfl⟩ := List.mem_map.1 hx
  exact h a
theorem Sized.take {k : Nat} {rs : List (Array Value)} (h : Sized k rs) (n : Nat) : Sized k (rs.take n) := fun x hx => h x (List.mem_of_mem_take hx)
theorem Sized.drop {k : Nat} {rs : List (Array Value)} (h : Sized k rs) (n : Nat) : Sized k (rs.drop n) := fun x hx => h x (List.mem_of_mem_drop hx)
theorem flatR_cons (r : Array Value) (rs : List (Array Value)) : flatR (r :: rs) = r.toList ++ flatR rs := rfl
theorem flatR_app (a b : List (Array Value)) : flatR (a ++ b) = flatR a ++ flatR b := by simp [flatR, List.flatMap_append]
theorem flatR_one (r : Array Value) : flatR [r] = r.toList := by simp [flatR]
theorem flatR_len {k : Nat} : ∀ {rs : List (Array Value)}, Sized k rs → (flatR rs).length = rs.length * k
  | [], _ => by simp [flatR]
  | r :: rs, h => by
    rw [flatR_cons, List.length_append, flatR_len h.tail, Array.length_toList, (h r (by simp)).1, List.length_cons, Nat.add_mul]
    omega
theorem flatR_at {k : Nat} : ∀ {rs : List (Array Value)}, Sized k rs → ∀ {i : Nat} {r : Array Value} {j : Nat} {u : Value}, rs[i]? = some r → r[j]? = some u → (flatR rs)[i * k + j]? = some u
  | [], _, i, r, j, u, h, _ => by simp at h
  | q :: rs, hs, i, r, j, u, h, hj => by
    have hq := (hs q (by simp)).1
    cases i with
    | zero =>
      simp at h
      subst h
      have := (Array.getElem?_eq_some_iff.1 hj).1
      rw [flatR_cons, Nat.zero_mul, Nat.zero_add, List.getElem?_append_left (by simpa using this), Array.getElem?_toList, hj]
    | succ i =>
      rw [flatR_cons, Nat.add_mul, Nat.one_mul, List.getElem?_append_right (by rw [Array.length_toList, hq]; omega), Array.length_toList, hq, show i * k + k + j - k = i * k + j by omega]
      exact flatR_at hs.tail (by simpa using h) hj
theorem flatR_back {k : Nat} : ∀ {rs : List (Array Value)}, Sized k rs → ∀ {m : Nat} {u : Value}, (flatR rs)[m]? = some u → ∃ i r j, rs[i]? = some r ∧ r[j]? = some u ∧ m = i * k + j
  | [], _, m, u, h => by simp [flatR] at h
  | q :: rs, hs, m, u, h => by
    have hq := (hs q (by simp)).1
    rw [flatR_cons] at h
    rcases Nat.lt_or_ge m k with hlt | hge
    · rw [List.getElem?_append_left (by rw [Array.length_toList, hq]; exact hlt), Array.getElem?_toList] at h
      exact ⟨0, q, m, rfl, h, by omega⟩
    · rw [List.getElem?_append_right (by rw [Array.length_toList, hq]; exact hge), Array.length_toList, hq] at h
      obtain ⟨i, r, j, h1, h2, h3⟩ := flatR_back hs.tail h
      exact ⟨i + 1, r, j, by simpa using h1, h2, by rw [Nat.add_mul, Nat.one_mul]; omega⟩
theorem flatR_one_cell {k : Nat} {rs : List (Array Value)} (h : Sized k rs) : ∀ u ∈ flatR rs, u.oneCell' = true := fun u hu => by
  obtain ⟨r, hr, hu⟩ := List.mem_flatMap.1 hu
  exact Array.all_eq_true'.1 (h r hr).2 u (by simpa using hu)

/-- A row of the call's own, of elements of k cells each. -/
def OwnsR (w : World) (base : Nat) (E : TypeId) (k : Nat) (v : Value) (rs : List (Array Value)) : Prop := w.ownsRow base E k v rs.length (flatR rs)
theorem OwnsR.empty (w : World) (base : Nat) (E : TypeId) (k : Nat) : OwnsR w base E k (.slice none 0 0) [] := World.ownsRow_nil _ _ _ _
theorem OwnsR.shape {w : World} {base : Nat} {E : TypeId} {k : Nat} {v : Value} {rs : List (Array Value)} (h : OwnsR w base E k v rs) : ∃ ao cap, v = .slice ao rs.length cap := by
  rcases h.2 with ⟨rfl, h0⟩ | ⟨g, cap, cur, rfl, _⟩
  · exact ⟨none, 0, by rw [h0]⟩
  · exact ⟨_, cap, rfl⟩
theorem OwnsR.reads {w : World} {base : Nat} {E : TypeId} {k : Nat} {v : Value} {rs : List (Array Value)} (h : OwnsR w base E k v rs) (hs : Sized k rs) : ReadsR w v k rs := by
  rcases h.2 with ⟨rfl, h0⟩ | ⟨g, cap, cur, rfl, _, hg, hc, hm, _, ht⟩
  · obtain rfl : rs = [] := List.eq_nil_of_length_eq_zero h0
    exact ReadsR.empty w k
  · refine ⟨_, cap, rfl, hc, hm, (fun h => by cases h), fun x hx i r hr j u hu => ?_⟩
    cases hx
    have h1 := flatR_at hs hr hu
    rw [← ht, List.getElem?_take] at h1
    split at h1
    · rw [Array.getElem?_toList] at h1
      rw [Addr.add_lit, Nat.zero_add]
      simp [World.cell?, hg, h1]
    · cases h1
theorem OwnsR.alloc {w : World} {base : Nat} {E : TypeId} {k : Nat} {v : Value} {rs : List (Array Value)} (h : OwnsR w base E k v rs) (o : Obj) : OwnsR (w.alloc o) base E k v rs := World.ownsRow.alloc h o
theorem OwnsR.lt {w : World} {base : Nat} {E : TypeId} {k : Nat} {v : Value} {rs : List (Array Value)} (h : OwnsR w base E k v rs) : ∀ j, v.ownBlock = some j → base ≤ j ∧ j < w.heap.size := fun j e => World.ownsRow.lt h j e
theorem OwnsR.mono {w : World} {base B : Nat} {E : TypeId} {k : Nat} {v : Value} {rs : List (Array Value)} (h : OwnsR w B E k v rs) (hb : base ≤ B) : OwnsR w base E k v rs := by
  refine ⟨h.1, ?_⟩
  rcases h.2 with hn | ⟨g, cap, cur, rfl, hb', rest⟩
  · exact .inl hn
  · exact .inr ⟨g, cap, cur, rfl, Nat.le_trans hb hb', rest⟩
/-- What is owned is below whatever is made later. -/
theorem OwnsR.keep {w w' : World} {base B : Nat} {E : TypeId} {k : Nat} {v : Value} {rs : List (Array Value)} (h : OwnsR w base E k v rs) (hb : Below B w w') (hB : w.heap.size ≤ B) : OwnsR w' base E k v rs := by
  refine ⟨h.1, ?_⟩
  rcases h.2 with hn | ⟨g, cap, cur, rfl, hb', hgg, rest⟩
  · exact .inl hn
  · refine .inr ⟨g, cap, cur, rfl, hb', ?_, rest⟩
    rw [hb.block g (by have := (Array.getElem?_eq_some_iff.1 hgg).1; omega)]
    exact hgg

/-- What a slice of elements holds. -/
theorem ReadsR.held {w : World} {ao : Option Addr} {n cap k : Nat} {rs : List (Array Value)} (h : ReadsR w (.slice ao n cap) k rs) (hs : Sized k rs) : ∀ b, ao = some b → ∀ j u, (flatR rs)[j]? = some u → w.cell? (b.add j) = some u := by
  obtain ⟨ao', cap', hv, _, _, _, h4⟩ := h
  simp only [Value.slice.injEq] at hv
  obtain ⟨rfl, _, rfl⟩ := hv
  intro b hb j u hu
  obtain ⟨i, r, q, h1, h2, rfl⟩ := flatR_back hs hu
  exact h4 b hb i r h1 q u h2
theorem ReadsR.len {w : World} {ao : Option Addr} {n cap k : Nat} {rs : List (Array Value)} (h : ReadsR w (.slice ao n cap) k rs) : n = rs.length ∧ n ≤ cap ∧ (ao = none → cap = 0) ∧ cap ≤ 9223372036854775807 := by
  obtain ⟨ao', cap', hv, h1, h2, h3, _⟩ := h
  simp only [Value.slice.injEq] at hv
  obtain ⟨rfl, rfl, rfl⟩ := hv
  exact ⟨rfl, h1, h3, by unfold maxLen at h2; exact h2⟩
/-- Elements a .. b of a slice, with the room that there is up to c. -/
theorem ReadsR.part {w : World} {ao : Option Addr} {n cap k : Nat} {rs : List (Array Value)} (h : ReadsR w (.slice ao n cap) k rs) (a b c : Nat) (hab : a ≤ b) (hb : b ≤ n) (hbc : b ≤ c) (hc : c ≤ cap) :
    ∃ ao2, sliced ao a b c k = .slice ao2 (b - a) (c - a) ∧ ReadsR w (.slice ao2 (b - a) (c - a)) k ((rs.take b).drop a) := by
  obtain ⟨ao', cap', hv, h1, h2, h3, h4⟩ := h
  simp only [Value.slice.injEq] at hv
  obtain ⟨rfl, rfl, rfl⟩ := hv
  have hlen : ((rs.take b).drop a).length = b - a := by rw [List.length_drop, List.length_take]; omega
  refine ⟨_, rfl, _, _, by rw [hlen], by rw [hlen]; omega, by omega, ?_, ?_⟩
  · intro h0
    split at h0
    · omega
    · cases ao with
      | none => have := h3 rfl; omega
      | some x => simp at h0
  · intro x hx i r hr j u hu
    have hlt := (List.getElem?_eq_some_iff.1 hr).1
    rw [hlen] at hlt
    rw [if_neg (by omega)] at hx
    cases ao with
    | none => simp at hx
    | some y =>
      simp only [Option.map_some, Option.some.injEq] at hx
      subst hx
      rw [List.getElem?_drop, List.getElem?_take] at hr
      split at hr
      · have := h4 y rfl _ r hr j u hu
        rw [Deep.add_add, ← Nat.add_assoc, ← Nat.add_mul]
        exact this
      · cases hr

/-- The one element that is laid in a block of its own ahead of an append. -/
theorem ReadsR.single {w : World} {g k : Nat} {E : TypeId} {r : Array Value} (h : Lies w g E r) : ReadsR w (.slice (some ⟨g, 0, none⟩) 1 1) k [r] := by
  refine ⟨_, 1, rfl, by simp, by simp [maxLen], (fun h => by cases h), fun a ha i q hq j u hu => ?_⟩
  cases ha
  obtain ⟨hi, e⟩ := List.getElem?_eq_some_iff.1 hq
  have hi0 : i = 0 := by simp at hi; omega
  subst hi0
  simp at e
  subst e
  rw [Addr.add_lit, Nat.zero_mul, Nat.zero_add, Nat.zero_add]
  exact h.cell j u hu

/-- append(out, x..) where out is the call's own and x any slice of such elements. -/
theorem append_rows {P : Program} {w : World} {ops : Array Oper} {rest : List Oper} {o : Oper} {a : Act} {Q : Exit → Act → World → Prop} (hgd : o.guard = none) (s x : Operand) (t E : TypeId) (k bytes : Nat) (z : Value)
    (ho : o.op = .call { callee := .builtin .append, args := #[s, x], argTypes := #[t, t] }) (ht : P.underlying t = some (.slice E))
    (hi : (P.info? E).map (fun i => (i.zero, i.size, i.bytes)) = some (some z, k, bytes)) (hzk : z.cells.size = k) (hk : 0 < k)
    (base : Nat) (l m : List (Array Value)) (v u : Value) (hs : a.eval s = v) (hx : a.eval x = u) (hown : OwnsR w base E k v l) (hr : ReadsR w u k m) (hm : Sized k m)
    (hlen : (l.length + m.length) * bytes ≤ 140737488355328) (hlen2 : l.length + m.length ≤ 140737488355328) (w0 : World) (hb : Below base w0 w) (hbase : base ≤ w0.heap.size)
    (h : ∀ v' w', OwnsR w' base E k v' (l ++ m) → Below base w0 w' → w.grownBy w' v.ownBlock → wpList P ops Q rest (a.put o.dst v') w') : wpList P ops Q (o :: rest) a w := by
  obtain ⟨i, h1, h2, h3, h4⟩ := info_parts hi
  obtain ⟨ao, cap, rfl⟩ : ∃ ao cap, u = .slice ao m.length cap := by obtain ⟨ao, cap, e, _⟩ := hr.shape; exact ⟨ao, cap, e⟩
  have hh := hr.held hm
  obtain ⟨_, hc1, hc3, _⟩ := hr.len
  have hsz := hb.size
  cases ao with
  | none =>
    have h0 := hc3 rfl
    have hm0 : m = [] := List.eq_nil_of_length_eq_zero (by omega)
    subst hm0
    refine wpList_plain hgd fun K hK => ?_
    have hrun := run_append_owned_none (P := P) w base t o.type E i k ht h1 v l.length (flatR l) hown
    subst h0
    unfold Oper.wp
    simp [execOp, ho, resolve, invoke, builtin, hs, hx, hrun, Result.andThen]
    exact hK _ _ (h _ _ (by simpa using hown) hb (World.grownBy.refl _ _))
  | some ad =>
    refine wpList_append_own w hgd s x t ho base E i z k bytes ht h1 h2 h3 h4 hzk hk v l.length (flatR l) hs hown ad m.length cap (flatR m) hx (flatR_len hm) (hh ad rfl) (flatR_one_cell hm) (by unfold maxLen; omega) hlen (by omega) ?_
    intro v' w' h5 h6 _
    refine h v' w' ?_ (hb.grown h6 (by omega) fun k hk => (World.ownsRow.lt hown k hk).1) h6
    unfold OwnsR
    rw [List.length_append, flatR_app]
    exact h5

/-- A row of cells stored into a block. -/
theorem Lies.sets {g : Nat} {T : TypeId} : ∀ (vs : List Value) (o : Nat) (w : World) (cur : Array Value), Lies w g T cur → o + vs.length ≤ cur.size →
    ∃ cur', Lies (w.setCells g o vs) g T cur' ∧ cur'.size = cur.size ∧ (∀ j, j < o → cur'[j]? = cur[j]?) ∧ ∀ j u, vs[j]? = some u → cur'[o + j]? = some u
  | [], _, _, cur, h, _ => ⟨cur, h, rfl, fun _ _ => rfl, fun j u hu => by simp at hu⟩
  | v :: r, o, w, cur, h, hs => by
    rw [List.length_cons] at hs
    obtain ⟨cur', h1, h2, h3, h4⟩ := Lies.sets r (o + 1) _ _ (h.set o v) (by simp; omega)
    refine ⟨cur', h1, by rw [h2]; simp, fun j hj => ?_, fun j u hu => ?_⟩
    · rw [h3 j (by omega), Array.getElem?_setIfInBounds, if_neg (by omega)]
    · cases j with
      | zero =>
        simp at hu
        subst hu
        rw [Nat.add_zero, h3 o (by omega), Array.getElem?_setIfInBounds, if_pos rfl, if_pos (by omega)]
      | succ j =>
        have := h4 j u (by simpa using hu)
        rw [show o + (j + 1) = o + 1 + j by omega]
        exact this
theorem grown_sets (g : Nat) : ∀ (vs : List Value) (o : Nat) (w : World), w.grownBy (w.setCells g o vs) (some g)
  | [], _, _ => World.grownBy.refl _ _
  | v :: r, o, w => grown_on (grown_set w g o v) (grown_sets g r (o + 1) _)
/-- A block's cells, all of them stored anew. -/
theorem Lies.whole {w : World} {g : Nat} {T : TypeId} {cur cells : Array Value} (h : Lies w g T cur) (hs : cells.size = cur.size) : Lies (w.setCells g 0 cells.toList) g T cells := by
  obtain ⟨cur', h1, h2, _, h4⟩ := Lies.sets cells.toList 0 w cur h (by simp; omega)
  have e : cur' = cells := by
    refine Array.ext_getElem? fun j => ?_
    by_cases hj : j < cells.size
    · have := h4 j cells[j] (by simp [hj])
      rw [Nat.zero_add] at this
      rw [this, Array.getElem?_eq_getElem hj]
    · rw [Array.getElem?_eq_none (by omega), Array.getElem?_eq_none (by omega)]
  rw [e] at h1
  exact h1

end Go.Proofs.YtammfmmpldahhaaGreat
