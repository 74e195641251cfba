/- What memory keeps, by the block's place and type; lists of slices of bytes. No program is spoken of. -/
import Derived.Test.YtammfmmpldahhaaGreatKit
import Derived.RangeFuncBox
namespace Go.Proofs.YtammfmmpldahhaaGreat
open Go.RowKit

/-- The blocks of cells of which p says so lie as they lay. -/
structure Keep (p : Nat → TypeId → Prop) (w w' : World) : Prop where
  size : w.heap.size ≤ w'.heap.size
  same : ∀ b cs t fr, w.heap[b]? = some (.cells cs t fr) → p b t → w'.heap[b]? = some (.cells cs t fr)

theorem Keep.refl (p : Nat → TypeId → Prop) (w : World) : Keep p w w := ⟨Nat.le_refl _, fun _ _ _ _ h _ => h⟩
theorem Keep.trans {p : Nat → TypeId → Prop} {a b c : World} (h : Keep p a b) (k : Keep p b c) : Keep p a c :=
  ⟨Nat.le_trans h.size k.size, fun g cs t fr e hp => k.same g cs t fr (h.same g cs t fr e hp) hp⟩
theorem Keep.of_grown {p : Nat → TypeId → Prop} {w w' : World} {row : Option Nat} (h : w.grownBy w' row) (hr : ∀ g cs t fr, row = some g → w.heap[g]? = some (.cells cs t fr) → ¬ p g t) : Keep p w w' :=
  ⟨h.size, fun b cs t fr e hp => (h.block b (Array.getElem?_eq_some_iff.1 e).1 (fun hb => hr b cs t fr hb.symm e hp)).trans e⟩
theorem Keep.of_below {p : Nat → TypeId → Prop} {w w' : World} (h : Below w.heap.size w w') : Keep p w w' :=
  ⟨h.size, fun b _ _ _ e _ => (h.block b (Array.getElem?_eq_some_iff.1 e).1).trans e⟩
theorem Keep.alloc (p : Nat → TypeId → Prop) (w : World) (o : Obj) : Keep p w (w.alloc o) := Keep.of_below ((Below.refl _ w).alloc (Nat.le_refl _) o)
theorem Keep.putObj (p : Nat → TypeId → Prop) (w : World) {l : Nat} {o : Obj} (o' : Obj) (hl : w.heap[l]? = some o) (ho : o.isCells = false) : Keep p w (w.putObj l o') :=
  Keep.of_grown (grownBy_putObj' w l o') (fun g cs t fr e hc => by cases e; rw [hl] at hc; cases hc; cases ho)
theorem Keep.store {p : Nat → TypeId → Prop} {w : World} {b : Nat} {t : TypeId} {v : Value} (hb : Boxed w b t v) (hp : ¬ p b t) (u : Value) : Keep p w (w.setCell ⟨b, 0, none⟩ u) :=
  Keep.of_grown (grownBy_setCell' w b u) (fun g cs t' fr e hc => by cases e; rw [show w.heap[b]? = _ from hb] at hc; cases hc; exact hp)

theorem Owns.mono {w : World} {base B : Nat} {E : TypeId} {v : Value} {l : List UInt8} (h : Owns w B E v l) (hb : base ≤ B) : Owns w base E v l := by
  refine ⟨h.1, ?_⟩
  rcases h.2 with hn | ⟨g, cap, cur, hv, hg, rest⟩
  · exact .inl hn
  · exact .inr ⟨g, cap, cur, hv, by omega, rest⟩

/-- No growth but new blocks. -/
theorem below_of_grown {w w' : World} (h : w.grownBy w' none) : Below w.heap.size w w' := ⟨h.os, h.tape, h.output, h.size, fun k hk => h.block k hk (by simp)⟩
theorem grown_of_below {w w' : World} (h : Below w.heap.size w w') : w.grownBy w' none := ⟨h.os, h.tape, h.output, h.size, fun k hk _ => h.block k hk⟩

/-- An owned row's block holds cells. -/
theorem row_cells {w : World} {base : Nat} {e : TypeId} {size : Nat} {v : Value} {n : Nat} {xs : List Value} (h : w.ownsRow base e size v n xs) {j : Nat} {o : Obj} (ej : v.ownBlock = some j) (hj : w.heap[j]? = some o) : o.isCells = true ∧ base ≤ j := by
  rcases h.2 with ⟨rfl, _⟩ | ⟨g, cap, cur, rfl, hb, hgb, _⟩
  · simp [Value.ownBlock] at ej
  · obtain rfl : g = j := by simpa [Value.ownBlock] using ej
    rw [hgb] at hj; cases hj
    exact ⟨rfl, hb⟩

/-- The block of an address that has a cell. -/
theorem block_of_cell {w : World} {a : Addr} {v : Value} (h : w.cell? a = some v) : ∃ cs t fr, w.heap[a.block]? = some (.cells cs t fr) := by
  unfold World.cell? at h
  split at h
  · rename_i c t fr e; exact ⟨c, t, fr, e⟩
  · cases h

theorem add_block (x : Addr) (j : Nat) : (x.add j).block = x.block := by unfold Addr.add; split <;> rfl

/-- The value reads as l, and p speaks of its block, if it has a byte. -/
def ReadsP (p : Nat → TypeId → Prop) (w : World) (v : Value) (l : List UInt8) : Prop :=
  Reads w v l ∧ (0 < l.length → ∃ (x : Addr) (n c : Nat) (cs : Array Value) (t : TypeId) (fr : Nat × Nat), v = .slice (some x) n c ∧ w.heap[x.block]? = some (.cells cs t fr) ∧ p x.block t)

theorem ReadsP.keep {p : Nat → TypeId → Prop} {w w' : World} {v : Value} {l : List UInt8} (h : ReadsP p w v l) (hk : Keep p w w') : ReadsP p w' v l := by
  obtain ⟨⟨ao, cap, rfl, h1, h2, h3, h4⟩, hp⟩ := h
  by_cases h0 : 0 < l.length
  · obtain ⟨x, n, c, cs, t, fr, hv, hb, hpt⟩ := hp h0
    simp only [Value.slice.injEq] at hv
    obtain ⟨rfl, rfl, rfl⟩ := hv
    have hb' := hk.same _ _ _ _ hb hpt
    refine ⟨⟨some x, cap, rfl, h1, h2, h3, fun y hy j u hu => ?_⟩, fun _ => ⟨x, _, _, cs, t, fr, rfl, hb', hpt⟩⟩
    cases hy
    have := h4 x rfl j u hu
    rw [← this]
    exact World.cell?_of_block (by rw [add_block, hb, hb'])
  · obtain rfl : l = [] := List.eq_nil_of_length_eq_zero (by omega)
    exact ⟨⟨ao, cap, rfl, h1, h2, h3, fun y _ j u hu => by simp [cellsOf] at hu⟩, fun h => absurd h (by simp)⟩

theorem ReadsP.of_reads {p : Nat → TypeId → Prop} {w : World} {v : Value} {l : List UInt8} (h : Reads w v l) (hp : ∀ b t, b < w.heap.size → p b t) : ReadsP p w v l := by
  refine ⟨h, fun h0 => ?_⟩
  obtain ⟨ao, cap, rfl⟩ := h.shape
  obtain ⟨b, off, rfl, hc⟩ := h.place h0
  obtain ⟨cs, t, fr, hb⟩ := block_of_cell (hc 0 _ (List.getElem?_eq_getElem h0))
  exact ⟨_, _, _, cs, t, fr, rfl, hb, hp _ _ (Array.getElem?_eq_some_iff.1 hb).1⟩

theorem ReadsP.of_owns {p : Nat → TypeId → Prop} {w : World} {base : Nat} {E : TypeId} {v : Value} {l : List UInt8} (h : Owns w base E v l) (hp : ∀ b, base ≤ b → p b E) : ReadsP p w v l := by
  refine ⟨h.reads, fun h0 => ?_⟩
  rcases h.2 with ⟨_, h1⟩ | ⟨g, cap, cur, hv, hb, hg, _⟩
  · omega
  · exact ⟨_, _, _, cur, E, (0, 0), hv, hg, hp g hb⟩

theorem ReadsP.none (p : Nat → TypeId → Prop) (w : World) : ReadsP p w (.slice none 0 0) [] := ⟨Reads.empty w, fun h => absurd h (by simp)⟩

/-- The value reads as a list of slices of bytes. -/
def ReadsL (w : World) (v : Value) (ls : List (List UInt8)) : Prop :=
  ∃ (ao : Option Addr) (cap : Nat) (us : List Value), v = .slice ao ls.length cap ∧ ls.length ≤ cap ∧ cap ≤ maxLen ∧ us.length = ls.length ∧
    (∀ x, ao = some x → ∀ j u, us[j]? = some u → w.cell? (x.add j) = some u) ∧ (ao = none → cap = 0) ∧ ∀ (j : Nat) (u : Value) (l : List UInt8), us[j]? = some u → ls[j]? = some l → Reads w u l

theorem ReadsL.shape {w : World} {v : Value} {ls : List (List UInt8)} (h : ReadsL w v ls) : ∃ ao cap, v = .slice ao ls.length cap ∧ ls.length ≤ cap ∧ cap ≤ 9223372036854775807 := by
  obtain ⟨ao, cap, us, rfl, h1, h2, _⟩ := h
  exact ⟨ao, cap, rfl, h1, by unfold maxLen at h2; exact h2⟩

theorem ReadsL.empty (w : World) : ReadsL w (.slice none 0 0) [] := ⟨none, 0, [], rfl, by simp, by simp [maxLen], rfl, (fun x hx => by cases hx), fun _ => rfl, fun j u l hu => by simp at hu⟩

theorem ReadsL.below {w w' : World} {v : Value} {ls : List (List UInt8)} (h : ReadsL w v ls) (hb : Below w.heap.size w w') : ReadsL w' v ls := by
  obtain ⟨ao, cap, us, rfl, h1, h2, h3, h4, h5, h6⟩ := h
  refine ⟨ao, cap, us, rfl, h1, h2, h3, fun x hx j u hu => ?_, h5, fun j u l hu hl => (h6 j u l hu hl).below hb⟩
  have hc := h4 x hx j u hu
  rw [← hc]
  exact hb.cell (World.block_lt_of_cell? w _ hc)

/-- A literal of slices, just laid. -/
theorem ReadsL.laid (w : World) (T : TypeId) (us : List Value) (ls : List (List UInt8)) (n : Nat) (cs : Array Value) (hn : n = ls.length) (hc : cs.toList = us) (hl : us.length = ls.length) (hm : n ≤ 9223372036854775807)
    (h : ∀ (j : Nat) (u : Value) (l : List UInt8), us[j]? = some u → ls[j]? = some l → Reads w u l) : ReadsL (w.alloc (.cells cs T)) (.slice (some ⟨w.heap.size, 0, none⟩) n n) ls := by
  subst hn
  refine ⟨_, _, us, rfl, Nat.le_refl _, by unfold maxLen; omega, hl, fun x hx j u hu => ?_, (fun h => by cases h), fun j u l hu hll => (h j u l hu hll).below ((Below.refl _ w).alloc (Nat.le_refl _) _)⟩
  cases hx
  rw [Addr.add_lit, Nat.zero_add, World.cell?_alloc_mark]
  rw [← hu, ← hc, Array.getElem?_toList]

/-- At an element that there is: its cell holds a slice that reads as it. -/
theorem ReadsL.place {w : World} {ao : Option Addr} {n cap : Nat} {ls : List (List UInt8)} (h : ReadsL w (.slice ao n cap) ls) (hl : 0 < ls.length) :
    ∃ b off, ao = some ⟨b, off, none⟩ ∧ ∀ j l, ls[j]? = some l → ∃ u, w.cell? ⟨b, off + j, none⟩ = some u ∧ Reads w u l := by
  obtain ⟨ao', cap', us, hv, h1, h2, h3, h4, h5, h6⟩ := h
  simp only [Value.slice.injEq] at hv
  obtain ⟨rfl, rfl, rfl⟩ := hv
  cases ao with
  | none => exact absurd (h5 rfl) (by omega)
  | some x =>
    obtain ⟨b, off, spot⟩ := x
    have hc := h4 _ rfl 0 _ (List.getElem?_eq_getElem (by omega))
    have hspot : spot = none := by simpa [Addr.add] using World.cell?_spot hc
    subst hspot
    refine ⟨b, off, rfl, fun j l hj => ?_⟩
    obtain ⟨u, hju⟩ : ∃ u, us[j]? = some u := ⟨_, List.getElem?_eq_getElem (by have := (List.getElem?_eq_some_iff.1 hj).1; omega)⟩
    refine ⟨u, ?_, h6 j _ l hju hj⟩
    have := h4 _ rfl j _ hju
    rwa [Addr.add_lit] at this

/-- The value owns a row of slices of bytes, each of which reads so, in blocks of which p speaks. -/
def OwnsL (p : Nat → TypeId → Prop) (w : World) (base : Nat) (T : TypeId) (v : Value) (ls : List (List UInt8)) : Prop :=
  ∃ us : List Value, w.ownsRow base T 1 v ls.length us ∧ us.length = ls.length ∧ ∀ (j : Nat) (u : Value) (l : List UInt8), us[j]? = some u → ls[j]? = some l → ReadsP p w u l

theorem OwnsL.reads {p : Nat → TypeId → Prop} {w : World} {base : Nat} {T : TypeId} {v : Value} {ls : List (List UInt8)} (h : OwnsL p w base T v ls) : ReadsL w v ls := by
  obtain ⟨us, ho, hl, hr⟩ := h
  have ho' := ho
  rcases ho.2 with ⟨rfl, h0⟩ | ⟨g, cap, cur, rfl, hb, hg, hc, hm, _, _⟩
  · obtain rfl : ls = [] := List.eq_nil_of_length_eq_zero h0
    exact ReadsL.empty w
  · refine ⟨_, cap, us, rfl, hc, hm, hl, (fun x hx j u hu => ?_), (fun h => by cases h), fun j u l hu hl => (hr j u l hu hl).1⟩
    cases hx
    exact World.ownsRow.cells ho' (g := g) rfl j u hu

theorem OwnsL.none (p : Nat → TypeId → Prop) (w : World) (base : Nat) (T : TypeId) : OwnsL p w base T (.slice none 0 0) [] :=
  ⟨[], World.ownsRow_nil _ _ _ _, rfl, fun j u l hu => by simp at hu⟩

theorem OwnsL.keep {p : Nat → TypeId → Prop} {w w' : World} {base : Nat} {T : TypeId} {v : Value} {ls : List (List UInt8)} {row : Option Nat} (h : OwnsL p w base T v ls) (hg : w.grownBy w' row) (hne : v.ownBlock = Option.none ∨ v.ownBlock ≠ row) (hk : Keep p w w') : OwnsL p w' base T v ls := by
  obtain ⟨us, ho, hl, hr⟩ := h
  exact ⟨us, ho.kept hg hne, hl, fun j u l hu hll => (hr j u l hu hll).keep hk⟩

/-- What lies below is not touched. -/
theorem OwnsL.below {p : Nat → TypeId → Prop} {w w' : World} {base : Nat} {T : TypeId} {v : Value} {ls : List (List UInt8)} (h : OwnsL p w base T v ls) (hb : Below w.heap.size w w') : OwnsL p w' base T v ls :=
  h.keep (row := Option.none) (grown_of_below hb) (by
    by_cases e : v.ownBlock = Option.none
    · exact .inl e
    · exact .inr e) (Keep.of_below hb)

/-- One more behind: what the law on append hands over. tmp: the block that was laid for it; p speaks of no row of this type. -/
theorem OwnsL.snoc {p : Nat → TypeId → Prop} {w w1 : World} {base : Nat} {T : TypeId} {v v' u : Value} {ls : List (List UInt8)} {l : List UInt8} {us : List Value} {tmp : Obj}
    (ho : w.ownsRow base T 1 v ls.length us) (hr : ∀ (j : Nat) (u : Value) (l : List UInt8), us[j]? = some u → ls[j]? = some l → ReadsP p w u l) (hl : us.length = ls.length) (hu : ReadsP p w u l)
    (hown : w1.ownsRow base T 1 v' (ls.length + 1) (us ++ [u])) (hgrow : (w.alloc tmp).grownBy w1 v.ownBlock) (hp : ∀ g, base ≤ g → ¬ p g T) : OwnsL p w1 base T v' (ls ++ [l]) ∧ Keep p w w1 := by
  have hk : Keep p w w1 := by
    refine (Keep.alloc p w tmp).trans (Keep.of_grown hgrow fun g cs t fr e hc => ?_)
    rcases (ho.alloc tmp).2 with ⟨rfl, _⟩ | ⟨g', cap, cur, rfl, hb, hgb, _⟩
    · simp [Value.ownBlock] at e
    · obtain rfl : g' = g := by simpa [Value.ownBlock] using e
      rw [hgb] at hc; cases hc
      exact hp _ hb
  refine ⟨⟨us ++ [u], by simpa using hown, by simp [hl], fun j u' l' hu' hl' => ?_⟩, hk⟩
  rw [List.getElem?_append] at hu' hl'
  rw [hl] at hu'
  split at hu'
  · rename_i hj
    rw [if_pos (by omega)] at hl'
    exact (hr j u' l' hu' hl').keep hk
  · rename_i hj
    rw [if_neg (by omega)] at hl'
    have e : j - ls.length = 0 := by
      have := (List.getElem?_eq_some_iff.1 hu').1
      simp at this; omega
    rw [e] at hu' hl'
    simp at hu' hl'
    subst hu' hl'
    exact hu.keep hk

end Go.Proofs.YtammfmmpldahhaaGreat
