/- Words for calls that only read, that find, that look; blocks of a struct's cells; results that lie in memory. No program is spoken of. -/
import Derived.Test.YtammfmmpldahhaaGreatKit
import Derived.RangeFuncBox
import Derived.Sort.Grow
namespace Go.Proofs.YtammfmmpldahhaaGreat
open Go.RowKit

/-- A call that only reads and makes nothing: the world is the same. -/
def Says (w : World) (v : Value) (e : Ending) (w' : World) : Prop := e = .returned v ∧ w = w'

/-- A call that tells v, and leaves all that there was as it was. -/
def Finds (w : World) (v : Value) (e : Ending) (w' : World) : Prop := e = .returned v ∧ Below w.heap.size w w'

/-- What a look at a field tells; new blocks at most. -/
def Looks (w : World) (v : Value) (e : Ending) (w' : World) : Prop := e = .returned v ∧ Below w.heap.size w w'

theorem truly_of {w w' : World} (h : Below w.heap.size w w') : Truly w (.returned (.bool true)) w' := ⟨rfl, h⟩

/-- The block's cells. -/
def Lies (w : World) (o : Nat) (t : TypeId) (vs : Array Value) : Prop := w.heap[o]? = some (.cells vs t (0, 0))

theorem Lies.lt {w : World} {o : Nat} {t : TypeId} {vs : Array Value} (h : Lies w o t vs) : o < w.heap.size := (Array.getElem?_eq_some_iff.1 h).1

theorem Lies.cell {w : World} {o : Nat} {t : TypeId} {vs : Array Value} (h : Lies w o t vs) (j : Nat) (v : Value) (hj : vs[j]? = some v) : w.cell? ⟨o, j, none⟩ = some v := by
  simp [World.cell?, show w.heap[o]? = _ from h, hj]

theorem Lies.free {w : World} {o : Nat} {t : TypeId} {vs : Array Value} (h : Lies w o t vs) (j : Nat) : w.frozen? ⟨o, j, none⟩ = false := by
  simp [World.frozen?, show w.heap[o]? = _ from h]

theorem Lies.new (w : World) (t : TypeId) (vs : Array Value) : Lies (w.alloc (.cells vs t)) w.heap.size t vs := World.alloc_heap_new w _

theorem Lies.kept {w w' : World} {row : Option Nat} {o : Nat} {t : TypeId} {vs : Array Value} (h : Lies w o t vs) (hg : w.grownBy w' row) (hne : some o ≠ row) : Lies w' o t vs := (hg.block o h.lt hne).trans h

theorem Lies.below {w w' : World} {B o : Nat} {t : TypeId} {vs : Array Value} (h : Lies w o t vs) (hb : Below B w w') (hB : o < B) : Lies w' o t vs := (hb.block o hB).trans h

theorem Lies.alloc {w : World} {o : Nat} {t : TypeId} {vs : Array Value} (h : Lies w o t vs) (x : Obj) : Lies (w.alloc x) o t vs := h.kept (World.grownBy_alloc w x none) (by simp)

theorem Lies.set {w : World} {o : Nat} {t : TypeId} {vs : Array Value} (h : Lies w o t vs) (j : Nat) (v : Value) : Lies (w.setCell ⟨o, j, none⟩ v) o t (vs.setIfInBounds j v) := by
  obtain ⟨hlt, hk⟩ := Array.getElem?_eq_some_iff.1 h
  show (w.heap.modify o _)[o]? = _
  rw [Array.getElem?_eq_getElem (by rw [Array.size_modify]; exact hlt), Array.getElem_modify_self, hk]
  rfl

theorem grown_set (w : World) (o j : Nat) (v : Value) : w.grownBy (w.setCell ⟨o, j, none⟩ v) (some o) :=
  ⟨rfl, rfl, rfl, (KeepsWalks.setCell w _ v).size, fun k _ hk => Below.heap_setCell _ _ _ k (fun e => hk (by rw [e]))⟩

/-- A row's block is not a struct's of another type. -/
theorem Lies.not_row {w : World} {o : Nat} {t e : TypeId} {vs : Array Value} (h : Lies w o t vs) (hte : t ≠ e) {base size k : Nat} {v : Value} {xs : List Value} (hr : w.ownsRow base e size v k xs) : some o ≠ v.ownBlock := by
  rcases hr.2 with ⟨rfl, _⟩ | ⟨g, cap, cur, rfl, _, hgb, _⟩
  · simp [Value.ownBlock]
  · intro he
    obtain rfl : o = g := by simpa [Value.ownBlock] using he
    have h' := h
    unfold Lies at h'
    rw [hgb] at h'
    simp only [Option.some.injEq, Obj.cells.injEq] at h'
    exact hte h'.2.1.symm

theorem grown_on {w w1 w2 : World} {row : Option Nat} (h : w.grownBy w1 row) (k : w1.grownBy w2 row) : w.grownBy w2 row :=
  ⟨k.os.trans h.os, k.tape.trans h.tape, k.output.trans h.output, Nat.le_trans h.size k.size, fun j hj hr => (k.block j (Nat.lt_of_lt_of_le hj h.size) hr).trans (h.block j hj hr)⟩

/-- A block just laid, and stored into. -/
theorem fresh_below {w w' : World} {x : Obj} (hg : (w.alloc x).grownBy w' (some w.heap.size)) : Below w.heap.size w w' :=
  ((Below.refl _ w).alloc (Nat.le_refl _) x).grown hg (by simp) (by rintro j hj; cases hj; exact Nat.le_refl _)

theorem str_size (s : List UInt8) : (ByteArray.mk s.toArray).size = s.length := by simp [ByteArray.size]

theorem var_below {P : Program} {n : String} {cs : Array Value} {w w' : World} (h : w.var? P n = some cs) (hb : Below w.heap.size w w') : w'.var? P n = some cs := by
  unfold World.var? at h ⊢
  cases hg : P.globalNamed n with
  | none => simp [hg] at h
  | some g =>
    simp only [hg, Option.bind_some] at h ⊢
    have hlt : g < w.heap.size := by
      rcases Nat.lt_or_ge g w.heap.size with hlt | hge
      · exact hlt
      · rw [Array.getElem?_eq_none hge] at h; simp at h
    rw [hb.block g hlt]; exact h

theorem grow_below (w : World) (k : Nat) (os : Array Obj) : Below w.heap.size w (Go.Sort.grow (w.drewN k) os) := by
  refine ⟨rfl, rfl, rfl, ?_, fun j hj => ?_⟩
  · show _ ≤ (w.heap ++ os).size
    simp
  · show (w.heap ++ os)[j]? = _
    rw [Array.getElem?_append_left hj]

theorem pick {α : Type} (q : Nat → α → Prop) : ∀ n : Nat, (∀ i, i < n → ∃ a, q i a) → ∃ xs : List α, xs.length = n ∧ ∀ i a, xs[i]? = some a → q i a := by
  intro n
  induction n with
  | zero => intro _; exact ⟨[], rfl, fun i a h => by simp at h⟩
  | succ n ih =>
    intro h
    obtain ⟨xs, h1, h2⟩ := ih (fun i hi => h i (by omega))
    obtain ⟨a, ha⟩ := h n (by omega)
    refine ⟨xs ++ [a], by simp [h1], fun i x hx => ?_⟩
    rcases Nat.lt_or_ge i n with hi | hi
    · rw [List.getElem?_append_left (by omega)] at hx; exact h2 i x hx
    · rw [List.getElem?_append_right (by omega)] at hx
      have hi0 : i - xs.length = 0 := by have := (List.getElem?_eq_some_iff.1 hx).1; simp at this; omega
      obtain rfl : i = n := by omega
      rw [hi0] at hx
      simp at hx
      subst hx; exact ha

theorem results_one {fn : Func} {p : Tmp} {ty : TypeId} (h : fn.results = #[.cell p ty]) (tmps : Array Value) (P : Program) (w : World) :
    (results fn tmps).run P w = ((asAddr (tmps.getD p undef)).run P w).andThen fun a w₁ => (loadVar ty a).run P w₁ := by
  simp only [results, h]
  simp [Sem.run_bind, Result.andThen]

theorem results_two {fn : Func} {p u : Tmp} {ty : TypeId} (h : fn.results = #[.cell p ty, .tmp u]) (tmps : Array Value) (P : Program) (w : World) :
    (results fn tmps).run P w = ((asAddr (tmps.getD p undef)).run P w).andThen fun a w₁ => ((loadVar ty a).run P w₁).andThen fun v w₂ => .ok (.tuple #[v, tmps.getD u undef]) w₂ := by
  simp only [results, h]
  simp [Sem.run_bind, Result.andThen]

end Go.Proofs.YtammfmmpldahhaaGreat
