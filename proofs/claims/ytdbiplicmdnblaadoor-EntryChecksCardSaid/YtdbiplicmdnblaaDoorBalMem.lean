/- A ballot in memory: boxed, compared, stored and read whole; ballots that came in. -/
import Derived.Test.YtdbiplicmdnblaaDoorRows
import Derived.Test.YtdbiplicmdnblaaDoorBalMath
import Derived.Test.YtdbiplicmdnblaaDoorRow
import Derived.Deep.MidRow
namespace Go.Proofs.YtdbiplicmdnblaaDoor
open Go.RowKit

/-- A ballot lies in a block. -/
abbrev Bals (w : World) (g : Nat) (b : Bl.Bal) : Prop := Lies w g 29 (Bl.cells b)
theorem Bals.both {w : World} {g : Nat} {b : Bl.Bal} (h : Bals w g b) : w.cell? ⟨g, 0, none⟩ = some (.int .i64 b.round) ∧ w.cell? ⟨g, 1, none⟩ = some (.int .i64 b.node) :=
  ⟨h.cell 0 _ rfl, h.cell 1 _ rfl⟩

theorem guard_bal : Tryd.prog.eqGuardType Tryd.prog.depth 29 = false := by kernel_rfl
theorem run_eql_bal (w : World) (c d : Bl.Bal) : (binOp .eql 29 (.agg (Bl.cells c)) (.agg (Bl.cells d))).run Tryd.prog w = .ok (.bool (decide (c = d))) w := by
  have hu := Tryd.underlying29
  obtain ⟨r, n⟩ := c
  obtain ⟨r', n'⟩ := d
  dsimp only [Bl.cells]
  go_simp
  repeat' split
  all_goals simp_all
theorem run_neq_bal (w : World) (c d : Bl.Bal) : (binOp .neq 29 (.agg (Bl.cells c)) (.agg (Bl.cells d))).run Tryd.prog w = .ok (.bool (!decide (c = d))) w := by
  have hu := Tryd.underlying29
  obtain ⟨r, n⟩ := c
  obtain ⟨r', n'⟩ := d
  dsimp only [Bl.cells]
  go_simp
  repeat' split
  all_goals simp_all

/-- A ballot boxed. -/
theorem box_bal (w : World) (b : Bl.Bal) : ∃ w1, w.alloc (.cells (Bl.cells b) 29) = w1 ∧ Bals w1 w.heap.size b ∧ Below w.heap.size w w1 ∧ w1.heap.size = w.heap.size + 1 :=
  ⟨_, rfl, Lies.new w _ _, (Below.refl _ w).alloc (Nat.le_refl _) _, by simp⟩
/-- Two ballots boxed. -/
theorem box_bals (w : World) (a b : Bl.Bal) : ∃ w1, (w.alloc (.cells (Bl.cells a) 29)).alloc (.cells (Bl.cells b) 29) = w1 ∧ Bals w1 w.heap.size a ∧ Bals w1 (w.heap.size + 1) b ∧ Below w.heap.size w w1 ∧ w1.heap.size = w.heap.size + 2 := by
  refine ⟨_, rfl, (Lies.new w _ _).alloc _, ?_, ((Below.refl _ w).alloc (Nat.le_refl _) _).alloc (by simp) _, by simp⟩
  have := Lies.new (w.alloc (.cells (Bl.cells a) 29)) 29 (Bl.cells b)
  simpa using this
/-- A ballot boxed, and a block for another one. -/
theorem box_bal0 (w : World) (a : Bl.Bal) : ∃ w1, (w.alloc (.cells (Bl.cells a) 29)).alloc (.cells #[.int .i64 0, .int .i64 0] 29) = w1 ∧ Bals w1 w.heap.size a ∧ Bals w1 (w.heap.size + 1) Bl.zero ∧ Below w.heap.size w w1 ∧ w1.heap.size = w.heap.size + 2 :=
  box_bals w a Bl.zero
theorem run_ballot (w : World) (g : Nat) (a : Bl.Bal) (h : Bals w g a) : (loadVar 29 ⟨g, 0, none⟩).run Tryd.prog w = .ok (.agg (Bl.cells a)) w :=
  run_loadVar_row w g _ _ (Bl.cells a) (0, 0) _ h Tryd.underlying29 rfl (by kernel_rfl)
theorem ret_bal1 {fn : Func} {R : Ending → World → Prop} {a : Act} {w : World} {p : Tmp} {g : Nat} {c : Bl.Bal} (h : fn.results = #[.cell p 29]) (hp : a.tmps.getD p undef = .pointer (some ⟨g, 0, none⟩))
    (hl : Bals w g c) (hd : a.defers = []) (hR : R (.returned (.agg (Bl.cells c))) w) : bodyPost Tryd.prog fn R .ret a w := by
  refine bodyPost_ret ?_ hd hR
  rw [results_one h, hp]
  simp [asAddr, Result.andThen, run_ballot w g c hl]
theorem ret_bal2 {fn : Func} {R : Ending → World → Prop} {a : Act} {w : World} {p u : Tmp} {g : Nat} {c : Bl.Bal} (h : fn.results = #[.cell p 29, .tmp u]) (hp : a.tmps.getD p undef = .pointer (some ⟨g, 0, none⟩))
    (hl : Bals w g c) (hd : a.defers = []) (hR : R (.returned (.tuple #[.agg (Bl.cells c), a.tmps.getD u undef])) w) : bodyPost Tryd.prog fn R .ret a w := by
  refine bodyPost_ret ?_ hd hR
  rw [results_two h, hp]
  simp [asAddr, Result.andThen, run_ballot w g c hl]

theorem Bl.cells_one (b : Bl.Bal) : (Bl.cells b).all (·.oneCell') = true := by simp [Bl.cells, Value.oneCell']
set_option maxHeartbeats 1600000 in
theorem store_bal {ops : Array Oper} {rest : List Oper} {op : Oper} {a : Act} {w : World} {Q : Exit → Act → World → Prop} (hgd : op.guard = none) (x y : Operand) (ho : op.op = .store 29 x y)
    (g : Nat) (c0 c : Bl.Bal) (hx : a.eval x = .pointer (some ⟨g, 0, none⟩)) (hy : a.eval y = .agg (Bl.cells c)) (hl : Bals w g c0)
    (h : ∀ w', Bals w' g c → w.grownBy w' (some g) → wpList Tryd.prog ops Q rest (a.put op.dst undef) w') : wpList Tryd.prog ops Q (op :: rest) a w := by
  have h0 : ∀ j, j < 2 → (w.cell? ⟨g, j, none⟩).isSome = true := by
    intro j hj
    obtain ⟨v, hv⟩ : ∃ v, (Bl.cells c0)[j]? = some v := ⟨_, Array.getElem?_eq_getElem (show j < (Bl.cells c0).size from hj)⟩
    rw [hl.cell j v hv]; rfl
  have hone := Bl.cells_one c
  have hL : Bals ((w.setCell ⟨g, 0, none⟩ (.int .i64 c.round)).setCell ⟨g, 1, none⟩ (.int .i64 c.node)) g c := (hl.set 0 _).set 1 _
  have hG : w.grownBy ((w.setCell ⟨g, 0, none⟩ (.int .i64 c.round)).setCell ⟨g, 1, none⟩ (.int .i64 c.node)) (some g) := grown_on (grown_set w g 0 _) (grown_set _ g 1 _)
  have hf := hl.free
  refine wpList_store_mid hgd _ x y ho g 0 (Bl.cells c) hx hy (fun j hj => ?_) (by kernel_rfl) hone (h _ hL hG)
  rw [Nat.zero_add]
  exact ⟨h0 j hj, hf j⟩

set_option maxRecDepth 20000 in
/-- An element's cells are a ballot's. -/
theorem el_bal {H : Type} {enc : TypeId × Value → H} {w : World} {base : Nat} {sp : Nat → Bool} {held : Bool} (m : Nat) (cs : List Value) (y : DataW H × List MemPlace)
    (h : DataW.trod enc Tryd.prog w base sp held m 29 cs = some y) : ∃ b : Bl.Bal, cs = (Bl.cells b).toList ∧ b.Fits := by
  obtain ⟨ys, n, _, _, hl, hlen, hat⟩ := DataW.trod_struct Tryd.underlying29 h
  have hce : Tryd.prog.cellsOf 29 = 2 := by kernel_rfl
  have hci : Tryd.prog.cellsOf 3 = 1 := by kernel_rfl
  have g0 := hat 0 _ rfl
  have g1 := hat 1 _ rfl
  rw [List.getElem?_eq_getElem (by rw [hlen]; simp)] at g0 g1
  obtain ⟨r, e0, a0, b0⟩ := one_int Tryd.underlying3 g0 hci
  obtain ⟨nd, e1, a1, b1⟩ := one_int Tryd.underlying3 g1 hci
  rw [hce] at hl
  match cs, hl with
  | [c0, c1], _ =>
    simp at e0 e1
    subst e0 e1
    exact ⟨⟨r, nd⟩, rfl, ⟨a0, b0, a1, b1⟩⟩
set_option maxRecDepth 20000 in
theorem came_bal {H : Type} {enc : TypeId × Value → H} {w : World} {b0 base : Nat} {sp : Nat → Bool} {held : Bool} {v : Value} {d : DataW H} {p : List MemPlace}
    (hv : Value.okWide Tryd.prog w .any b0 29 v) (h : DataW.Trod enc Tryd.prog w base sp held 29 v d p) : ∃ b : Bl.Bal, v = .agg (Bl.cells b) ∧ b.Fits := by
  obtain ⟨cs, rfl, hsz⟩ := WideShapes.okWide_struct Tryd.underlying29 hv
  obtain ⟨fuel, hf⟩ := h
  obtain ⟨b, e, hb⟩ := el_bal fuel _ _ hf
  refine ⟨b, ?_, hb⟩
  have : cs.toList = (Bl.cells b).toList := e
  rw [Array.toList_inj.1 this]
/-- A row of ballots. -/
abbrev ReadsB (w : World) (v : Value) (l : List Bl.Bal) : Prop := ReadsR w v 2 (l.map Bl.cells)
/-- Where there is a ballot: its two cells, in every world behind. -/
theorem ReadsB.places {w : World} {ao : Option Addr} {n cap : Nat} {l : List Bl.Bal} (h : ReadsB w (.slice ao n cap) l) (hl : 0 < l.length) :
    ∃ b off, ao = some ⟨b, off, none⟩ ∧ b < w.heap.size ∧ ∀ w', Below w.heap.size w w' → ∀ i c, l[i]? = some c → w'.cell? ⟨b, off + i * 2, none⟩ = some (.int .i64 c.round) ∧ w'.cell? ⟨b, off + i * 2 + 1, none⟩ = some (.int .i64 c.node) := by
  obtain ⟨b, off, e, hlt, hc⟩ := ReadsR.places h (r0 := Bl.cells (l[0]'hl)) (u0 := .int .i64 (l[0]'hl).round) (by rw [List.getElem?_map, List.getElem?_eq_getElem hl]; rfl) rfl
  refine ⟨b, off, e, hlt, fun w' hb i c hi => ⟨?_, ?_⟩⟩
  · exact hc w' hb i (Bl.cells c) (by rw [List.getElem?_map, hi]; rfl) 0 _ rfl
  · exact hc w' hb i (Bl.cells c) (by rw [List.getElem?_map, hi]; rfl) 1 _ rfl
end Go.Proofs.YtdbiplicmdnblaaDoor
