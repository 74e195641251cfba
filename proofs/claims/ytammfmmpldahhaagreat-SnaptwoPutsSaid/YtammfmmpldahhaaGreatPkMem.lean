/- Blocks of a struct's cells; a writer's memory; strings as bytes; rows of fields. No program is spoken of. -/
import Derived.Test.YtammfmmpldahhaaGreatLie
import Derived.Test.YtammfmmpldahhaaGreatMem
import Derived.Test.YtammfmmpldahhaaGreatApp
import Derived.Test.YtammfmmpldahhaaGreatPkMath
import Derived.Lib.AppendStr
import Derived.Laws.IdiomStrings
namespace Go.Proofs.YtammfmmpldahhaaGreat
open Go.RowKit

/-- An owned row lies as it lay where another block is stored into. -/
theorem Owns.grown {w w' : World} {base : Nat} {E : TypeId} {v : Value} {l : List UInt8} {row : Option Nat} (h : Owns w base E v l) (hg : w.grownBy w' row) (hne : v.ownBlock = none ∨ v.ownBlock ≠ row) : Owns w' base E v l :=
  World.ownsRow.kept h hg hne

/-- Two blocks of the call's own have turned: the struct's, and the row's that it held; all that there was else lies as it lay. -/
structure Grew (w w' : World) (o : Nat) (v : Value) : Prop where
  os : w'.os = w.os
  tape : w'.tape = w.tape
  output : w'.output = w.output
  size : w.heap.size ≤ w'.heap.size
  block : ∀ k, k < w.heap.size → k ≠ o → some k ≠ v.ownBlock → w'.heap[k]? = w.heap[k]?

theorem Grew.below {w w' : World} {o B : Nat} {v : Value} (h : Grew w w' o v) (ho : B ≤ o) (hv : ∀ k, v.ownBlock = some k → B ≤ k) (hB : B ≤ w.heap.size) : Below B w w' :=
  ⟨h.os, h.tape, h.output, h.size, fun k hk => h.block k (by omega) (by omega) (fun e => by have := hv k e.symm; omega)⟩
theorem Grew.on {w0 w w' : World} {o : Nat} {v : Value} (hb : Below w0.heap.size w0 w) (h : Grew w w' o v) : Grew w0 w' o v :=
  ⟨h.os.trans hb.os, h.tape.trans hb.tape, h.output.trans hb.output, Nat.le_trans hb.size h.size, fun k hk h1 h2 => (h.block k (Nat.lt_of_lt_of_le hk hb.size) h1 h2).trans (hb.block k hk)⟩

/-- A writer of the call's own: the block that holds its row, and the row. -/
structure Wr (T E : TypeId) (w : World) (B o : Nat) (v : Value) (l : List UInt8) : Prop where
  base : B ≤ o
  lies : Lies w o T #[v]
  owns : Owns w B E v l

theorem Wr.row {T E : TypeId} {w : World} {B o : Nat} {v : Value} {l : List UInt8} (h : Wr T E w B o v l) : ∀ k, v.ownBlock = some k → B ≤ k := fun k e => (World.ownsRow.lt h.owns k e).1
theorem Wr.grown {T E : TypeId} {w w' : World} {B o : Nat} {v : Value} {l : List UInt8} (h : Wr T E w B o v l) (hb : Below w.heap.size w w') : Wr T E w' B o v l :=
  ⟨h.base, h.lies.below hb h.lies.lt, h.owns.keep hb (Nat.le_refl _)⟩
theorem Wr.below {T E : TypeId} {w w' : World} {B o : Nat} {v : Value} {l : List UInt8} (h : Wr T E w B o v l) (hg : Grew w w' o v) (hB : B ≤ w.heap.size) : Below B w w' := hg.below h.base h.row hB
/-- The row has grown, and is stored. -/
theorem Wr.put {T E : TypeId} {w w' : World} {B o : Nat} {v v' : Value} {l m : List UInt8} (hTE : T ≠ E) (h : Wr T E w B o v l) (ho : Owns w' B E v' m) (hg : w.grownBy w' v.ownBlock) :
    Wr T E (w'.setCell ⟨o, 0, none⟩ v') B o v' m ∧ Grew w (w'.setCell ⟨o, 0, none⟩ v') o v := by
  have hl : Lies w' o T #[v] := h.lies.kept hg (h.lies.not_row hTE h.owns)
  have hs := grown_set w' o 0 v'
  refine ⟨⟨h.base, hl.set 0 v', ho.grown hs ?_⟩, ⟨hs.os.trans hg.os, hs.tape.trans hg.tape, hs.output.trans hg.output, Nat.le_trans hg.size hs.size, fun k hk hko hkr => ?_⟩⟩
  · right; exact fun e => hl.not_row hTE ho e.symm
  · rw [hs.block k (Nat.lt_of_lt_of_le hk hg.size) (by simpa using hko)]
    exact hg.block k hk hkr

/-- What reads somewhere else reads on. -/
theorem Reads.grew {w w' : World} {u : Value} {m : List UInt8} {o : Nat} {v : Value} (h : Reads w u m) (hg : Grew w w' o v) (hoff : ∀ x n c, u = .slice (some x) n c → x.block ≠ o ∧ some x.block ≠ v.ownBlock) : Reads w' u m := by
  obtain ⟨ao, cap, rfl, h1, h2, h3, h4⟩ := h
  refine ⟨ao, cap, rfl, h1, h2, h3, fun x hx j c hc => ?_⟩
  have h5 := h4 x hx j c hc
  rw [← h5]
  subst hx
  obtain ⟨e1, e2⟩ := hoff x _ _ rfl
  have hlt := World.block_lt_of_cell? w _ h5
  rw [add_block] at hlt
  exact World.cell?_of_block (by rw [add_block]; exact hg.block _ hlt e1 e2)

theorem str_cells (s : List UInt8) : Lib.strCells ⟨s.toArray⟩ = cellsOf s := by simp [Lib.strCells, cellsOf]
/-- append(out, s..) where out is the call's own and s a string. -/
theorem append_text {P : Program} {w : World} {ops : Array Oper} {rest : List Oper} {o : Oper} {a : Act} {Q : Exit → Act → World → Prop} (hgd : o.guard = none) (s x : Operand) (t u E : TypeId)
    (ho : o.op = .call { callee := .builtin .append, args := #[s, x], argTypes := #[t, u] }) (ht : P.underlying t = some (.slice E)) (hu : P.underlying u = some .string)
    (hi : (P.info? E).map (fun i => (i.zero, i.size, i.bytes)) = some (some (.int .u8 0), 1, 1))
    (base : Nat) (l m : List UInt8) (v : Value) (hs : a.eval s = v) (hx : a.eval x = .string ⟨m.toArray⟩) (hown : Owns w base E v l)
    (hlen : l.length + m.length ≤ 140737488355328) (hbase : base ≤ w.heap.size)
    (h : ∀ v' w', Owns w' base E v' (l ++ m) → w.grownBy w' v.ownBlock → wpList P ops Q rest (a.put o.dst v') w') : wpList P ops Q (o :: rest) a w := by
  obtain ⟨i, h1, h2, h3, h4⟩ := info_parts hi
  refine Lib.wpList_append_own_string _ hgd s x t u ho base E i ht hu h1 h2 h3 h4 v l.length (cellsOf l) hs hown _ hx (by rw [str_size]; unfold maxLen; omega) (by rw [str_size]; omega) hbase fun v' w' h5 h6 _ => ?_
  refine h v' w' ?_ h6
  unfold Owns
  rw [List.length_append, cellsOf_app, ← str_cells m, ← str_size m]
  exact h5

end Go.Proofs.YtammfmmpldahhaaGreat
