/- A record in memory: boxed, stored, loaded and returned whole; a command compared with any other. -/
import Derived.Test.YtegpfbmanpnhkaaDoorReMath
import Derived.Test.YtegpfbmanpnhkaaDoorGCw
import Derived.Test.YtegpfbmanpnhkaaDoorCmdChk
import Derived.Test.YtegpfbmanpnhkaaDoorGBl
import Derived.Test.YtegpfbmanpnhkaaDoorGMb
namespace Go.Proofs.YtegpfbmanpnhkaaDoor
open Go.RowKit

/-- A record lies in a block: its image at vi. -/
abbrev Recs (w : World) (g : Nat) (x : Re.Rec) (vi : Value) : Prop := Lies w g 28 (Re.cells x vi)
section
variable {w : World} {g : Nat} {x : Re.Rec} {vi : Value}
theorem Recs.c0 (h : Recs w g x vi) : w.cell? ⟨g, 0, none⟩ = some (.int .i64 x.kind) := h.cell 0 _ rfl
theorem Recs.c1 (h : Recs w g x vi) : w.cell? ⟨g, 1, none⟩ = some (.int .i64 x.bal.round) := h.cell 1 _ rfl
theorem Recs.c2 (h : Recs w g x vi) : w.cell? ⟨g, 2, none⟩ = some (.int .i64 x.bal.node) := h.cell 2 _ rfl
theorem Recs.c3 (h : Recs w g x vi) : w.cell? ⟨g, 3, none⟩ = some (.int .i64 x.index) := h.cell 3 _ rfl
theorem Recs.c4 (h : Recs w g x vi) : w.cell? ⟨g, 4, none⟩ = some (.int .i64 x.cmd.kind) := h.cell 4 _ rfl
theorem Recs.c5 (h : Recs w g x vi) : w.cell? ⟨g, 5, none⟩ = some (.int .i64 x.cmd.client) := h.cell 5 _ rfl
theorem Recs.c6 (h : Recs w g x vi) : w.cell? ⟨g, 6, none⟩ = some (.int .i64 x.cmd.seq) := h.cell 6 _ rfl
theorem Recs.c7 (h : Recs w g x vi) : w.cell? ⟨g, 7, none⟩ = some (.string ⟨x.cmd.key.toArray⟩) := h.cell 7 _ rfl
theorem Recs.c8 (h : Recs w g x vi) : w.cell? ⟨g, 8, none⟩ = some (.string ⟨x.cmd.val.toArray⟩) := h.cell 8 _ rfl
theorem Recs.c9 (h : Recs w g x vi) : w.cell? ⟨g, 9, none⟩ = some (.string ⟨x.cmd.old.toArray⟩) := h.cell 9 _ rfl
theorem Recs.c10 (h : Recs w g x vi) : w.cell? ⟨g, 10, none⟩ = some (.int .i64 x.cmd.node) := h.cell 10 _ rfl
theorem Recs.c11 (h : Recs w g x vi) : w.cell? ⟨g, 11, none⟩ = some vi := h.cell 11 _ rfl
theorem Recs.all (h : Recs w g x vi) : w.cell? ⟨g, 0, none⟩ = some (.int .i64 x.kind) ∧ w.cell? ⟨g, 1, none⟩ = some (.int .i64 x.bal.round) ∧ w.cell? ⟨g, 2, none⟩ = some (.int .i64 x.bal.node) ∧ w.cell? ⟨g, 3, none⟩ = some (.int .i64 x.index) ∧ w.cell? ⟨g, 4, none⟩ = some (.int .i64 x.cmd.kind) ∧ w.cell? ⟨g, 5, none⟩ = some (.int .i64 x.cmd.client) ∧ w.cell? ⟨g, 6, none⟩ = some (.int .i64 x.cmd.seq) ∧ w.cell? ⟨g, 7, none⟩ = some (.string ⟨x.cmd.key.toArray⟩) ∧ w.cell? ⟨g, 8, none⟩ = some (.string ⟨x.cmd.val.toArray⟩) ∧ w.cell? ⟨g, 9, none⟩ = some (.string ⟨x.cmd.old.toArray⟩) ∧ w.cell? ⟨g, 10, none⟩ = some (.int .i64 x.cmd.node) ∧ w.cell? ⟨g, 11, none⟩ = some vi :=
  ⟨h.c0, h.c1, h.c2, h.c3, h.c4, h.c5, h.c6, h.c7, h.c8, h.c9, h.c10, h.c11⟩
/-- One of the four numbers that every kind has. -/
theorem Recs.num (h : Recs w g x vi) (k : Nat) (hk : k < 4) : w.cell? ⟨g, k, none⟩ = some (.int .i64 (Ms.nth (Re.nums x) k)) := by
  have : k = 0 ∨ k = 1 ∨ k = 2 ∨ k = 3 := by omega
  rcases this with rfl | rfl | rfl | rfl <;> exact h.cell _ _ rfl
end
theorem box_rec (w : World) (x : Re.Rec) (vi : Value) : ∃ w1, w.alloc (.cells (Re.cells x vi) 28) = w1 ∧ Recs w1 w.heap.size x vi ∧ Below w.heap.size w w1 ∧ w1.heap.size = w.heap.size + 1 :=
  ⟨_, rfl, Lies.new w _ _, (Below.refl _ w).alloc (Nat.le_refl _) _, by simp⟩
/-- Two records boxed. -/
theorem box_recs (w : World) (x : Re.Rec) (vi : Value) (x' : Re.Rec) (vi' : Value) : ∃ w1, (w.alloc (.cells (Re.cells x vi) 28)).alloc (.cells (Re.cells x' vi') 28) = w1 ∧ Recs w1 w.heap.size x vi ∧ Recs w1 (w.heap.size + 1) x' vi' ∧ Below w.heap.size w w1 ∧ w1.heap.size = w.heap.size + 2 := by
  refine ⟨_, rfl, (Lies.new w _ _).alloc _, ?_, ((Below.refl _ w).alloc (Nat.le_refl _) _).alloc (by simp) _, by simp⟩
  have := Lies.new (w.alloc (.cells (Re.cells x vi) 28)) 28 (Re.cells x' vi')
  simpa using this
theorem Re.cells_one (x : Re.Rec) {vi : Value} (h : vi.oneCell' = true) : (Re.cells x vi).all (·.oneCell') = true := by
  have hi : ∀ x : Int, (Value.int .i64 x).oneCell' = true := fun _ => rfl
  have hs : ∀ s : ByteArray, (Value.string s).oneCell' = true := fun _ => rfl
  simp [Re.cells, hi, hs, h]
theorem run_rec (w : World) (g : Nat) (x : Re.Rec) (vi : Value) (h : Recs w g x vi) : (loadVar 28 ⟨g, 0, none⟩).run Tryd.prog w = .ok (.agg (Re.cells x vi)) w :=
  run_loadVar_row w g _ _ (Re.cells x vi) (0, 0) _ h Tryd.underlying28 rfl (by kernel_rfl)
theorem ret_rec1 {fn : Func} {R : Ending → World → Prop} {a : Act} {w : World} {p : Tmp} {g : Nat} {x : Re.Rec} {vi : Value} (h : fn.results = #[.cell p 28]) (hp : a.tmps.getD p undef = .pointer (some ⟨g, 0, none⟩))
    (hl : Recs w g x vi) (hd : a.defers = []) (hR : R (.returned (.agg (Re.cells x vi))) w) : bodyPost Tryd.prog fn R .ret a w := by
  refine bodyPost_ret ?_ hd hR
  rw [results_one h, hp]
  simp [asAddr, Result.andThen, run_rec w g x vi hl]
theorem ret_rec2 {fn : Func} {R : Ending → World → Prop} {a : Act} {w : World} {p u : Tmp} {g : Nat} {x : Re.Rec} {vi : Value} (h : fn.results = #[.cell p 28, .tmp u]) (hp : a.tmps.getD p undef = .pointer (some ⟨g, 0, none⟩))
    (hl : Recs w g x vi) (hd : a.defers = []) (hR : R (.returned (.tuple #[.agg (Re.cells x vi), a.tmps.getD u undef])) w) : bodyPost Tryd.prog fn R .ret a w := by
  refine bodyPost_ret ?_ hd hR
  rw [results_two h, hp]
  simp [asAddr, Result.andThen, run_rec w g x vi hl]
set_option maxHeartbeats 1600000 in
/-- A whole record stored into a block of twelve cells. -/
theorem store_rec {ops : Array Oper} {rest : List Oper} {op : Oper} {a : Act} {w : World} {Q : Exit → Act → World → Prop} (hgd : op.guard = none) (x y : Operand) (ho : op.op = .store 28 x y)
    (g : Nat) (r0 : Re.Rec) (vi0 : Value) (r : Re.Rec) (vi : Value) (hx : a.eval x = .pointer (some ⟨g, 0, none⟩)) (hy : a.eval y = .agg (Re.cells r vi)) (hi : vi.oneCell' = true) (hl : Recs w g r0 vi0)
    (h : ∀ w', Recs w' g r vi → w.grownBy w' (some g) → wpList Tryd.prog ops Q rest (a.put op.dst undef) w') : wpList Tryd.prog ops Q (op :: rest) a w :=
  store_part hgd _ x y ho g 0 _ _ (Re.cells r vi) (.agg (Re.cells r vi)) (Re.cells r vi).toList hx hy rfl (by kernel_rfl) (by rw [Array.all_toList]; exact Re.cells_one r hi) hl (Nat.le_refl 12) (by simp [Re.cells]) h
set_option maxHeartbeats 1600000 in
theorem load_rec {ops : Array Oper} {rest : List Oper} {op : Oper} {a : Act} {w : World} {Q : Exit → Act → World → Prop} (hgd : op.guard = none) (x : Operand) (ho : op.op = .load 28 x)
    (g : Nat) (r : Re.Rec) (vi : Value) (hx : a.eval x = .pointer (some ⟨g, 0, none⟩)) (hl : Recs w g r vi)
    (h : wpList Tryd.prog ops Q rest (a.put op.dst (.agg (Re.cells r vi))) w) : wpList Tryd.prog ops Q (op :: rest) a w :=
  wpList_load_mid hgd _ x ho g 0 hx (Re.cells r vi).toList _ (fun j v hv => by rw [Nat.zero_add]; exact hl.cell j v (by simpa using hv)) Tryd.underlying28 rfl (by kernel_rfl) h
theorem Re.cells_no8 (r : Re.Rec) (io : Option Addr) (ik ic : Nat) (c : Int) : ∀ k : Nat, (Re.cells r (.slice io ik ic))[k]? ≠ some (Value.int .u8 c)
  | 0 => by simp [Re.cells]
  | 1 => by simp [Re.cells]
  | 2 => by simp [Re.cells]
  | 3 => by simp [Re.cells]
  | 4 => by simp [Re.cells]
  | 5 => by simp [Re.cells]
  | 6 => by simp [Re.cells]
  | 7 => by simp [Re.cells]
  | 8 => by simp [Re.cells]
  | 9 => by simp [Re.cells]
  | 10 => by simp [Re.cells]
  | 11 => by simp [Re.cells]
  | k + 12 => by simp [Re.cells]
/-- Bytes lie as they lay where a record's block is stored into. -/
theorem Reads.kept_rec {w w' : World} {b : Nat} {v : Value} {l : List UInt8} {r : Re.Rec} {io : Option Addr} {ik ic : Nat} (h : Reads w v l) (hl : Recs w b r (.slice io ik ic)) (hg : w.grownBy w' (some b)) : Reads w' v l :=
  h.kept_of hl (fun j x => Re.cells_no8 r io ik ic x j) hg
/-- A command compared with any other. -/
theorem run_neq_cmd2 (w : World) (c d : Cm.Cmd) : (binOp .neq 25 (.agg (Cm.cells c)) (.agg (Cm.cells d))).run Tryd.prog w = .ok (.bool (!decide (c = d))) w := by
  have hu := Tryd.underlying25
  obtain ⟨k, cl, sq, nd, ky, od, vl⟩ := c
  obtain ⟨k', cl', sq', nd', ky', od', vl'⟩ := d
  dsimp only [Cm.cells]
  go_simp
  repeat' split
  all_goals simp_all

end Go.Proofs.YtegpfbmanpnhkaaDoor
