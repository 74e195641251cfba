/- A value of any number of cells stored into a part of a block: the block behind it, said whole. No program is spoken of. -/
import Derived.Test.YtammfmmpldahhaaGreatLie
import Derived.Test.YtammfmmpldahhaaGreatMem
import Derived.Deep.MidRow
namespace Go.Proofs.YtammfmmpldahhaaGreat
open Go.RowKit

theorem Lies.partly {g : Nat} {T : TypeId} : ∀ (cs : List Value) (o : Nat) (w : World) (vs vs' : List Value), Lies w g T vs.toArray → o + cs.length ≤ vs.length → vs' = vs.take o ++ cs ++ vs.drop (o + cs.length) → Lies (w.setCells g o cs) g T vs'.toArray
  | [], o, w, vs, vs', h, hb, e => by
    subst e
    simp only [List.append_nil, List.length_nil, Nat.add_zero, List.take_append_drop]
    exact h
  | c :: r, o, w, vs, vs', h, hb, e => by
    rw [List.length_cons] at hb
    have h' : Lies (w.setCell ⟨g, o, none⟩ c) g T (vs.set o c).toArray := by
      have := h.set o c
      rwa [List.setIfInBounds_toArray] at this
    refine Lies.partly r (o + 1) _ (vs.set o c) vs' h' (by rw [List.length_set]; omega) ?_
    subst e
    have e1 : (vs.set o c).take (o + 1) = vs.take o ++ [c] := by
      rw [List.take_add_one, List.take_set_of_le (Nat.le_refl _), List.getElem?_set_self (by omega)]
      rfl
    have e2 : (vs.set o c).drop (o + 1 + r.length) = vs.drop (o + (c :: r).length) := by
      rw [List.drop_set_of_lt (by omega), List.length_cons, show o + 1 + r.length = o + (r.length + 1) by omega]
    rw [e1, e2]
    simp
theorem grown_cells (g : Nat) : ∀ (vs : List Value) (o : Nat) (w : World), w.grownBy (w.setCells g o vs) (some g)
  | [], _, _ => World.grownBy.refl _ _
  | v :: r, o, w => grown_on (grown_set w g o v) (grown_cells g r (o + 1) _)

theorem run_storeVar_any {P : Program} (w : World) (b o : Nat) (ty : TypeId) (u : Value) (ht : w.there b o u.cells.size) (hi : (P.info? ty).map (·.size) = some u.cells.size) (h1 : u.cells.all (·.oneCell') = true) :
    (storeVar ty ⟨b, o, none⟩ u).run P w = .ok () (w.setCells b o u.cells.toList) := by
  have := run_storeCells_cells (P := P) b o u.cells.toList 0 w (fun j hj => by simpa using (ht j (by simpa using hj)).1) (fun j hj => by simpa using (ht j (by simpa using hj)).2)
    (fun v hv => (Array.all_eq_true_iff_forall_mem.1 h1) v (by simpa using hv))
  cases hq : P.info? ty with
  | none => simp [hq] at hi
  | some i =>
    have hs : u.cells.size = i.size := by simp [hq] at hi; omega
    simp only [Nat.add_zero] at this
    simp [storeVar, sizeOf, typeInfo, hq, hs, this]

/-- The operation: a value goes into the cells from o on of a block that lies so. -/
theorem store_part {P : Program} {ops : Array Oper} {rest : List Oper} {op : Oper} {a : Act} {w : World} {Q : Exit → Act → World → Prop} (hgd : op.guard = none) (ty : TypeId) (x y : Operand) (ho : op.op = .store ty x y)
    (g o : Nat) (T : TypeId) (vs vs' : Array Value) (u : Value) (cs : List Value) (hx : a.eval x = .pointer (some ⟨g, o, none⟩)) (hy : a.eval y = u) (hcs : u.cells.toList = cs)
    (hi : (P.info? ty).map (·.size) = some cs.length) (h1 : cs.all (·.oneCell') = true) (hl : Lies w g T vs) (hb : o + cs.length ≤ vs.size)
    (hv : vs'.toList = vs.toList.take o ++ cs ++ vs.toList.drop (o + cs.length))
    (h : ∀ w', Lies w' g T vs' → w.grownBy w' (some g) → wpList P ops Q rest (a.put op.dst undef) w') : wpList P ops Q (op :: rest) a w := by
  have hn : u.cells.size = cs.length := by rw [← hcs, Array.length_toList]
  have hall : u.cells.all (·.oneCell') = true := by
    rw [← Array.all_toList, hcs]; exact h1
  have ht : w.there g o u.cells.size := fun j hj => by
    refine ⟨?_, hl.free (o + j)⟩
    obtain ⟨v, hv⟩ : ∃ v, vs[o + j]? = some v := ⟨_, Array.getElem?_eq_getElem (by omega)⟩
    rw [hl.cell (o + j) v hv]
    rfl
  have hrun := run_storeVar_any (P := P) w g o ty u ht (by rw [hi, hn]) hall
  have hlies : Lies (w.setCells g o u.cells.toList) g T vs' := by
    have := Lies.partly cs o w vs.toList vs'.toList (by simpa using hl) (by simpa using hb) hv
    rw [hcs]
    simpa using this
  refine wpList_plain hgd fun _ hK => ?_
  unfold Oper.wp execOp
  simp only [ho, hx, hy, Instr.storeAt, Instr.sureAddr, Sem.run_bind, Sem.run_pure, Result.andThen_ok, hrun]
  exact hK _ _ (h _ hlies (grown_cells g _ _ _))
/-- Bytes lie as they lay where a block that holds no byte is stored into. -/
theorem Reads.kept_of {w w' : World} {b : Nat} {T : TypeId} {vs : Array Value} {v : Value} {l : List UInt8} (h : Reads w v l) (hl : Lies w b T vs) (hno : ∀ (j : Nat) (x : Int), vs[j]? ≠ some (.int .u8 x)) (hg : w.grownBy w' (some b)) : Reads w' v l := by
  obtain ⟨ao, cap, rfl, h1, h2, h3, h4⟩ := h
  refine ⟨ao, cap, rfl, h1, h2, h3, fun x hx j u hu => ?_⟩
  have hc := h4 x hx j u hu
  rw [← hc]
  refine World.cell?_of_block ?_
  have hlt := World.block_lt_of_cell? w _ hc
  rw [add_block] at hlt ⊢
  refine hg.block _ hlt ?_
  intro hb
  obtain ⟨blk, off, spot⟩ := x
  obtain rfl : blk = b := by simpa using hb
  have hadd : (Addr.add ⟨blk, off, spot⟩ j) = ⟨blk, off + j, none⟩ := by
    have h := World.cell?_spot hc
    by_cases h0 : j = 0
    · subst h0
      simpa [Addr.add] using h
    · simp [Addr.add, h0]
  rw [hadd] at hc
  obtain ⟨c, hcm, rfl⟩ := List.mem_map.1 (List.mem_of_getElem? hu)
  have hl' : w.heap[blk]? = some (.cells vs T (0, 0)) := hl
  simp only [World.cell?, hl'] at hc
  exact hno _ _ (by simpa using hc)

end Go.Proofs.YtammfmmpldahhaaGreat
