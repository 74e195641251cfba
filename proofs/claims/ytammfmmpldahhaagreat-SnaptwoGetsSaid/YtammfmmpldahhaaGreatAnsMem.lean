/- An answer in memory: boxed, compared, stored and read whole. -/
import Derived.Test.YtammfmmpldahhaaGreatAnsOne
import Derived.Test.YtammfmmpldahhaaGreatLie
import Derived.Deep.MidRow
namespace Go.Proofs.YtammfmmpldahhaaGreat
open Go.RowKit

/-- An answer lies in a block. -/
abbrev Anss (w : World) (b : Nat) (a : An.Ans) : Prop := Lies w b 53 (An.cells a)
theorem Anss.every {w : World} {b : Nat} {a : An.Ans} (h : Anss w b a) : w.cell? ⟨b, 0, none⟩ = some (.int .i64 a.client) ∧ w.cell? ⟨b, 1, none⟩ = some (.int .i64 a.seq) ∧ w.cell? ⟨b, 2, none⟩ = some (.int .i64 a.err) ∧ w.cell? ⟨b, 3, none⟩ = some (.bool a.found) ∧
    w.cell? ⟨b, 4, none⟩ = some (.string ⟨a.val.toArray⟩) ∧ w.cell? ⟨b, 5, none⟩ = some (.int .i64 a.rev) :=
  ⟨h.cell 0 _ rfl, h.cell 1 _ rfl, h.cell 2 _ rfl, h.cell 3 _ rfl, h.cell 4 _ rfl, h.cell 5 _ rfl⟩

theorem guard_ans : Tryz.prog.eqGuardType Tryz.prog.depth 53 = false := by kernel_rfl
theorem run_eql_ans (w : World) (c d : An.Ans) : (binOp .eql 53 (.agg (An.cells c)) (.agg (An.cells d))).run Tryz.prog w = .ok (.bool (decide (c = d))) w := by
  have hu := Tryz.underlying53
  obtain ⟨k, cl, sq, nd, ky, od⟩ := c
  obtain ⟨k', cl', sq', nd', ky', od'⟩ := d
  dsimp only [An.cells]
  go_simp
  repeat' split
  all_goals simp_all
theorem run_same_ans (w : World) (c : An.Ans) : (binOp .eql 53 (.agg (An.cells c)) (.agg (An.cells c))).run Tryz.prog w = .ok (.bool true) w := by rw [run_eql_ans]; simp
theorem run_neq_ans (w : World) (c : An.Ans) : (binOp .neq 53 (.agg (An.cells c)) (.agg (An.cells c))).run Tryz.prog w = .ok (.bool false) w := by
  have hu := Tryz.underlying53
  obtain ⟨k, cl, sq, nd, ky, od⟩ := c
  dsimp only [An.cells]
  go_simp

/-- An answer boxed. -/
theorem box_ans (w : World) (a : An.Ans) : ∃ w1, w.alloc (.cells (An.cells a) 53) = w1 ∧ Anss w1 w.heap.size a ∧ Below w.heap.size w w1 ∧ w1.heap.size = w.heap.size + 1 :=
  ⟨_, rfl, Lies.new w _ _, (Below.refl _ w).alloc (Nat.le_refl _) _, by simp⟩
theorem run_answer (w : World) (g : Nat) (a : An.Ans) (h : Anss w g a) : (loadVar 53 ⟨g, 0, none⟩).run Tryz.prog w = .ok (.agg (An.cells a)) w :=
  run_loadVar_row w g _ _ (An.cells a) (0, 0) _ h Tryz.underlying53 rfl (by kernel_rfl)
theorem ret_ans1 {fn : Func} {R : Ending → World → Prop} {a : Act} {w : World} {p : Tmp} {g : Nat} {c : An.Ans} (h : fn.results = #[.cell p 53]) (hp : a.tmps.getD p undef = .pointer (some ⟨g, 0, none⟩))
    (hl : Anss w g c) (hd : a.defers = []) (hR : R (.returned (.agg (An.cells c))) w) : bodyPost Tryz.prog fn R .ret a w := by
  refine bodyPost_ret ?_ hd hR
  rw [results_one h, hp]
  simp [asAddr, Result.andThen, run_answer w g c hl]
theorem ret_ans2 {fn : Func} {R : Ending → World → Prop} {a : Act} {w : World} {p u : Tmp} {g : Nat} {c : An.Ans} (h : fn.results = #[.cell p 53, .tmp u]) (hp : a.tmps.getD p undef = .pointer (some ⟨g, 0, none⟩))
    (hl : Anss w g c) (hd : a.defers = []) (hR : R (.returned (.tuple #[.agg (An.cells c), a.tmps.getD u undef])) w) : bodyPost Tryz.prog fn R .ret a w := by
  refine bodyPost_ret ?_ hd hR
  rw [results_two h, hp]
  simp [asAddr, Result.andThen, run_answer w g c hl]

theorem results_tail {fn : Func} {p u : Tmp} {ty : TypeId} (h : fn.results = #[.tmp u, .cell p ty]) (tmps : Array Value) (P : Program) (w : World) :
    (results fn tmps).run P w = ((asAddr (tmps.getD p undef)).run P w).andThen fun a w₁ => ((loadVar ty a).run P w₁).andThen fun v w₂ => .ok (.tuple #[tmps.getD u undef, v]) w₂ := by
  simp only [results, h]
  simp [Sem.run_bind, Result.andThen]
theorem An.cells_one (a : An.Ans) : (An.cells a).all (·.oneCell') = true := by simp [An.cells, Value.oneCell']
theorem An.cells_at (a : An.Ans) (j : Nat) (hj : j < 6) : ∃ v, (An.cells a)[j]? = some v := ⟨_, Array.getElem?_eq_getElem (show j < (An.cells a).size from hj)⟩
set_option maxHeartbeats 1600000 in
theorem store_ans {ops : Array Oper} {rest : List Oper} {op : Oper} {a : Act} {w : World} {Q : Exit → Act → World → Prop} (hgd : op.guard = none) (x y : Operand) (ho : op.op = .store 53 x y)
    (g : Nat) (c0 c : An.Ans) (hx : a.eval x = .pointer (some ⟨g, 0, none⟩)) (hy : a.eval y = .agg (An.cells c)) (hl : Anss w g c0)
    (h : ∀ w', Anss w' g c → w.grownBy w' (some g) → wpList Tryz.prog ops Q rest (a.put op.dst undef) w') : wpList Tryz.prog ops Q (op :: rest) a w := by
  have h0 : ∀ j, j < 6 → (w.cell? ⟨g, j, none⟩).isSome = true := by
    intro j hj
    obtain ⟨v, hv⟩ := An.cells_at c0 j hj
    rw [hl.cell j v hv]; rfl
  have hone := An.cells_one c
  have hL : Anss ((((((w.setCell ⟨g, 0, none⟩ (.int .i64 c.client)).setCell ⟨g, 1, none⟩ (.int .i64 c.seq)).setCell ⟨g, 2, none⟩ (.int .i64 c.err)).setCell ⟨g, 3, none⟩ (.bool c.found)).setCell ⟨g, 4, none⟩ (.string ⟨c.val.toArray⟩)).setCell ⟨g, 5, none⟩ (.int .i64 c.rev)) g c :=
    (((((hl.set 0 _).set 1 _).set 2 _).set 3 _).set 4 _).set 5 _
  have hG : w.grownBy ((((((w.setCell ⟨g, 0, none⟩ (.int .i64 c.client)).setCell ⟨g, 1, none⟩ (.int .i64 c.seq)).setCell ⟨g, 2, none⟩ (.int .i64 c.err)).setCell ⟨g, 3, none⟩ (.bool c.found)).setCell ⟨g, 4, none⟩ (.string ⟨c.val.toArray⟩)).setCell ⟨g, 5, none⟩ (.int .i64 c.rev)) (some g) :=
    grown_on (grown_on (grown_on (grown_on (grown_on (grown_set w g 0 _) (grown_set _ g 1 _)) (grown_set _ g 2 _)) (grown_set _ g 3 _)) (grown_set _ g 4 _)) (grown_set _ g 5 _)
  have hf := hl.free
  refine wpList_store_mid hgd _ x y ho g 0 (An.cells c) hx hy (fun j hj => ?_) (by kernel_rfl) hone (h _ hL hG)
  rw [Nat.zero_add]
  exact ⟨h0 j hj, hf j⟩

/-- The cells with one field turned. -/
theorem An.set_client (a : An.Ans) (n : Int) : (An.cells a).setIfInBounds 0 (.int .i64 n) = An.cells { a with client := n } := by simp [An.cells]
theorem An.set_seq (a : An.Ans) (n : Int) : (An.cells a).setIfInBounds 1 (.int .i64 n) = An.cells { a with seq := n } := by simp [An.cells]
theorem An.set_err (a : An.Ans) (n : Int) : (An.cells a).setIfInBounds 2 (.int .i64 n) = An.cells { a with err := n } := by simp [An.cells]
theorem An.set_found (a : An.Ans) (n : Bool) : (An.cells a).setIfInBounds 3 (.bool n) = An.cells { a with found := n } := by simp [An.cells]
theorem An.set_val (a : An.Ans) (s : List UInt8) : (An.cells a).setIfInBounds 4 (.string ⟨s.toArray⟩) = An.cells { a with val := s } := by simp [An.cells]
theorem An.set_rev (a : An.Ans) (n : Int) : (An.cells a).setIfInBounds 5 (.int .i64 n) = An.cells { a with rev := n } := by simp [An.cells]

end Go.Proofs.YtammfmmpldahhaaGreat
