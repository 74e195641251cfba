/- Rows of bytes of the call's own: laid, and appended to in regions that draw; an iterator beside a row that grows. No program is spoken of. -/
import Derived.Test.YtammfmmpldahhaaGreatMem
import Derived.Test.YtammfmmpldahhaaGreatGRune
namespace Go.Proofs.YtammfmmpldahhaaGreat
open Go.RowKit

/-- A literal of bytes, just laid. -/
theorem Owns.laid (w : World) (E : TypeId) (l : List UInt8) (n : Nat) (cs : Array Value) (hn : n = l.length) (hc : cs.toList = cellsOf l) (hm : n ≤ 9223372036854775807) : Owns (w.alloc (.cells cs E)) w.heap.size E (.slice (some ⟨w.heap.size, 0, none⟩) n n) l := by
  subst hn
  have hs : cs.size = l.length := by rw [← Array.length_toList, hc, cellsOf_len]
  refine ⟨by simp [cellsOf_len], .inr ⟨w.heap.size, l.length, cs, rfl, Nat.le_refl _, heap_alloc_new w _, Nat.le_refl _, by unfold maxLen; omega, by simpa using hs, ?_⟩⟩
  rw [hc, List.take_of_length_le (by rw [cellsOf_len]; omega)]

/-- append's run, where out is the call's own and x any slice of bytes. -/
theorem run_append_bytes {P : Program} {w : World} (t ty E : TypeId) (ht : P.underlying t = some (.slice E)) (hi : (P.info? E).map (fun i => (i.zero, i.size, i.bytes)) = some (some (.int .u8 0), 1, 1))
    (base : Nat) (l m : List UInt8) (v u : Value) (hown : Owns w base E v l) (hr : Reads w u m) (hlen : l.length + m.length ≤ 140737488355328) (hbase : base ≤ w.heap.size) :
    ∃ v' w', (Builtin.append_ #[t, t] ty #[v, u]).run P w = .ok v' w' ∧ Owns w' base E v' (l ++ m) ∧ w.grownBy w' v.ownBlock := by
  obtain ⟨i, h1, h2, h3, h4⟩ := info_parts hi
  obtain ⟨ao, cap, rfl, hc1, hc2, hc3, hc4⟩ := hr
  cases ao with
  | none =>
    have h0 := hc3 rfl
    have hm : m = [] := List.eq_nil_of_length_eq_zero (by omega)
    subst hm
    subst h0
    have hrun := run_append_owned_none (P := P) w base t ty E i 1 ht h1 v l.length (cellsOf l) hown
    exact ⟨v, w, hrun, by simpa using hown, World.grownBy.refl _ _⟩
  | some ad =>
    obtain ⟨v', w', hrun, h5, h6, _⟩ := run_append_own (P := P) w base t ty E i (.int .u8 0) 1 1 ht h1 h2 h3 h4 rfl (by decide) v l.length (cellsOf l) hown ad m.length cap (cellsOf m) (by simp [cellsOf]) (hc4 ad rfl) (cellsOf_one m) (by unfold maxLen; omega) (by omega) (by omega)
    refine ⟨v', w', hrun, ?_, h6⟩
    unfold Owns
    rw [List.length_append, cellsOf_app]
    exact h5

/-- The same at a step of a region that draws its order. -/
theorem step_append_bytes {P : Program} {w : World} {ops : Array Oper} {o : Oper} {a : Act} {K : Act → World → Prop} {Q : Exit → Act → World → Prop} {Z : Prop} (hgd : o.guard = none) (s x : Operand) (t E : TypeId)
    (ho : o.op = .call { callee := .builtin .append, args := #[s, x], argTypes := #[t, t] }) (ht : P.underlying t = some (.slice E)) (hi : (P.info? E).map (fun i => (i.zero, i.size, i.bytes)) = some (some (.int .u8 0), 1, 1))
    (base : Nat) (l m : List UInt8) (v u : Value) (hs : a.eval s = v) (hx : a.eval x = u) (hown : Owns w base E v l) (hr : Reads w u m) (hlen : l.length + m.length ≤ 140737488355328) (hbase : base ≤ w.heap.size)
    (h : ∀ v' w', Owns w' base E v' (l ++ m) → w.grownBy w' v.ownBlock → K (a.put o.dst v') w') :
    if Region.wanted o (yielded ops a.tmps) = true then Oper.wp P o a w K Q else Z := by
  have hw : Region.wanted o (yielded ops a.tmps) = true := by simp [Region.wanted, hgd]
  obtain ⟨v', w', hr, h2, h3⟩ := run_append_bytes (P := P) t o.type E ht hi base l m v u hown hr hlen hbase
  rw [if_pos hw]
  unfold Oper.wp execOp
  simp only [ho, resolve, invoke, builtin, Sem.run_bind, Sem.run_pure, Result.andThen_ok, List.map_toArray, List.map_cons, List.map_nil, hs, hx, hr]
  exact h v' w' h2 h3

theorem Reads.drew {w : World} {v : Value} {l : List UInt8} (h : Reads w v l) : Reads w.drew v l := h
/-- A row grows, the iterator beside it stays. -/
theorem It.grown {B base : Nat} {w0 w w' : World} {k : Nat} {s : ByteArray} {p : Nat} {E : TypeId} {v : Value} {n : Nat} {xs : List Value} (h : It B w0 w k s p) (ho : w.ownsRow base E 1 v n xs) (hB : B ≤ base) (hg : w.grownBy w' v.ownBlock) : It B w0 w' k s p := by
  have hk := h.lt
  refine ⟨?_, h.below.grown hg (by have := h.base; omega) (fun j ej => by have := (World.ownsRow.lt ho j ej).1; omega), h.base⟩
  rw [hg.block k hk ?_]
  · exact h.iter
  · intro e
    have := (row_cells ho e.symm h.iter).1
    simp [Obj.isCells] at this
/-- The iterator goes on, a row stays. -/
theorem rowNext {base : Nat} {w : World} {k p q : Nat} {s t : ByteArray} {E : TypeId} {v : Value} {n : Nat} {xs : List Value} (ho : w.ownsRow base E 1 v n xs) (hk : w.heap[k]? = some (.stringIter s p)) : (iterSet w k t q).ownsRow base E 1 v n xs := by
  refine ⟨ho.1, ?_⟩
  rcases ho.2 with hn | ⟨g, cap, cur, rfl, hb, hg, rest⟩
  · exact .inl hn
  · refine .inr ⟨g, cap, cur, rfl, hb, ?_, rest⟩
    rw [iterSet_other w k g t q (fun e => by subst e; rw [hg] at hk; cases hk)]
    exact hg
theorem rowBelow {base : Nat} {w0 w w' : World} {E : TypeId} {v : Value} {n : Nat} {xs : List Value} (h : Below base w0 w) (ho : w.ownsRow base E 1 v n xs) (hB : base ≤ w.heap.size) (hg : w.grownBy w' v.ownBlock) : Below base w0 w' :=
  h.grown hg hB fun j ej => (World.ownsRow.lt ho j ej).1
theorem belowDrew {base : Nat} {w0 w : World} (h : Below base w0 w) (hB : base ≤ w.heap.size) : Below base w0 w.drew := h.trans ((drawn w 1).mono hB)
theorem It.alloc {B : Nat} {w0 w : World} {k : Nat} {s : ByteArray} {p : Nat} (h : It B w0 w k s p) (o : Obj) : It B w0 (w.alloc o) k s p :=
  h.on ((Below.refl _ w).alloc (Nat.le_refl _) o)

end Go.Proofs.YtammfmmpldahhaaGreat
