/- An entry in memory: boxed, compared, stored and read whole; entries that came in. -/
import Derived.Test.YtfdnmmmjaipgoaaDoorCmdEl
import Derived.Test.YtfdnmmmjaipgoaaDoorGBl
import Derived.Test.YtfdnmmmjaipgoaaDoorGPl
import Derived.Test.YtfdnmmmjaipgoaaDoorGMb
import Derived.Deep.MidRow
namespace Go.Proofs.YtfdnmmmjaipgoaaDoor
open Go.RowKit

/-- An entry lies in a block. -/
abbrev Ents (w : World) (g : Nat) (e : En.Ent) : Prop := Lies w g 46 (En.cells e)
/-- Ten cells in a row are an entry's. -/
structure EntAt (w : World) (g o : Nat) (e : En.Ent) : Prop where
  c0 : w.cell? ⟨g, o, none⟩ = some (.int .i64 e.index)
  c1 : w.cell? ⟨g, o + 1, none⟩ = some (.int .i64 e.bal.round)
  c2 : w.cell? ⟨g, o + 2, none⟩ = some (.int .i64 e.bal.node)
  c3 : w.cell? ⟨g, o + 3, none⟩ = some (.int .i64 e.cmd.kind)
  c4 : w.cell? ⟨g, o + 4, none⟩ = some (.int .i64 e.cmd.client)
  c5 : w.cell? ⟨g, o + 5, none⟩ = some (.int .i64 e.cmd.seq)
  c6 : w.cell? ⟨g, o + 6, none⟩ = some (.string ⟨e.cmd.key.toArray⟩)
  c7 : w.cell? ⟨g, o + 7, none⟩ = some (.string ⟨e.cmd.val.toArray⟩)
  c8 : w.cell? ⟨g, o + 8, none⟩ = some (.string ⟨e.cmd.old.toArray⟩)
  c9 : w.cell? ⟨g, o + 9, none⟩ = some (.int .i64 e.cmd.node)
theorem EntAt.of {w : World} {g o : Nat} {e : En.Ent} (h : ∀ j u, (En.cells e)[j]? = some u → w.cell? ⟨g, o + j, none⟩ = some u) : EntAt w g o e :=
  ⟨h 0 _ rfl, h 1 _ rfl, h 2 _ rfl, h 3 _ rfl, h 4 _ rfl, h 5 _ rfl, h 6 _ rfl, h 7 _ rfl, h 8 _ rfl, h 9 _ rfl⟩
/-- The ten cells of an entry in a block. -/
theorem Ents.ten {w : World} {g : Nat} {e : En.Ent} (h : Ents w g e) : w.cell? ⟨g, 0, none⟩ = some (.int .i64 e.index) ∧ w.cell? ⟨g, 1, none⟩ = some (.int .i64 e.bal.round) ∧ w.cell? ⟨g, 2, none⟩ = some (.int .i64 e.bal.node) ∧ w.cell? ⟨g, 3, none⟩ = some (.int .i64 e.cmd.kind) ∧ w.cell? ⟨g, 4, none⟩ = some (.int .i64 e.cmd.client) ∧ w.cell? ⟨g, 5, none⟩ = some (.int .i64 e.cmd.seq) ∧ w.cell? ⟨g, 6, none⟩ = some (.string ⟨e.cmd.key.toArray⟩) ∧ w.cell? ⟨g, 7, none⟩ = some (.string ⟨e.cmd.val.toArray⟩) ∧ w.cell? ⟨g, 8, none⟩ = some (.string ⟨e.cmd.old.toArray⟩) ∧ w.cell? ⟨g, 9, none⟩ = some (.int .i64 e.cmd.node) :=
  ⟨h.cell 0 _ rfl, h.cell 1 _ rfl, h.cell 2 _ rfl, h.cell 3 _ rfl, h.cell 4 _ rfl, h.cell 5 _ rfl, h.cell 6 _ rfl, h.cell 7 _ rfl, h.cell 8 _ rfl, h.cell 9 _ rfl⟩
theorem guard_ent : Tryd.prog.eqGuardType Tryd.prog.depth 46 = false := by kernel_rfl
theorem En.ext_iff (a b : En.Ent) : a = b ↔ a.index = b.index ∧ a.bal.round = b.bal.round ∧ a.bal.node = b.bal.node ∧ a.cmd.kind = b.cmd.kind ∧ a.cmd.client = b.cmd.client ∧ a.cmd.seq = b.cmd.seq ∧ a.cmd.key = b.cmd.key ∧ a.cmd.val = b.cmd.val ∧ a.cmd.old = b.cmd.old ∧ a.cmd.node = b.cmd.node := by
  obtain ⟨i, ⟨r, n⟩, k, cl, sq, nd, ky, od, vl⟩ := a
  obtain ⟨i', ⟨r', n'⟩, k', cl', sq', nd', ky', od', vl'⟩ := b
  simp only [En.Ent.mk.injEq, Bl.Bal.mk.injEq, Cm.Cmd.mk.injEq]
  grind
theorem run_eql_ent (w : World) (a b : En.Ent) : (binOp .eql 46 (.agg (En.cells a)) (.agg (En.cells b))).run Tryd.prog w = .ok (.bool (decide (a = b))) w := by
  have hu := Tryd.underlying46
  have hb := Tryd.underlying26
  have hc := Tryd.underlying39
  rw [show decide (a = b) = decide (a.index = b.index ∧ a.bal.round = b.bal.round ∧ a.bal.node = b.bal.node ∧ a.cmd.kind = b.cmd.kind ∧ a.cmd.client = b.cmd.client ∧ a.cmd.seq = b.cmd.seq ∧ a.cmd.key = b.cmd.key ∧ a.cmd.val = b.cmd.val ∧ a.cmd.old = b.cmd.old ∧ a.cmd.node = b.cmd.node) from decide_eq_decide.2 (En.ext_iff a b)]
  obtain ⟨i, ⟨r, n⟩, k, cl, sq, nd, ky, od, vl⟩ := a
  obtain ⟨i', ⟨r', n'⟩, k', cl', sq', nd', ky', od', vl'⟩ := b
  dsimp only [En.cells]
  go_simp
  repeat' split
  all_goals simp_all

theorem run_neq_ent (w : World) (a b : En.Ent) : (binOp .neq 46 (.agg (En.cells a)) (.agg (En.cells b))).run Tryd.prog w = .ok (.bool (!decide (a = b))) w := by
  have hu := Tryd.underlying46
  have hb := Tryd.underlying26
  have hc := Tryd.underlying39
  rw [show decide (a = b) = decide (a.index = b.index ∧ a.bal.round = b.bal.round ∧ a.bal.node = b.bal.node ∧ a.cmd.kind = b.cmd.kind ∧ a.cmd.client = b.cmd.client ∧ a.cmd.seq = b.cmd.seq ∧ a.cmd.key = b.cmd.key ∧ a.cmd.val = b.cmd.val ∧ a.cmd.old = b.cmd.old ∧ a.cmd.node = b.cmd.node) from decide_eq_decide.2 (En.ext_iff a b)]
  obtain ⟨i, ⟨r, n⟩, k, cl, sq, nd, ky, od, vl⟩ := a
  obtain ⟨i', ⟨r', n'⟩, k', cl', sq', nd', ky', od', vl'⟩ := b
  dsimp only [En.cells]
  go_simp
  repeat' split
  all_goals simp_all

/-- An entry boxed. -/
theorem box_ent (w : World) (e : En.Ent) : ∃ w1, w.alloc (.cells (En.cells e) 46) = w1 ∧ Ents w1 w.heap.size e ∧ Below w.heap.size w w1 ∧ w1.heap.size = w.heap.size + 1 :=
  ⟨_, rfl, Lies.new w _ _, (Below.refl _ w).alloc (Nat.le_refl _) _, by simp⟩
theorem En.cells_one (e : En.Ent) : (En.cells e).size = 10 ∧ (En.cells e).all (·.oneCell') = true := ⟨rfl, by simp [En.cells, Value.oneCell']⟩
theorem En.sized (l : List En.Ent) : Sized 10 (l.map En.cells) := Sized.map En.cells_one l
theorem run_entry (w : World) (g : Nat) (e : En.Ent) (h : Ents w g e) : (loadVar 46 ⟨g, 0, none⟩).run Tryd.prog w = .ok (.agg (En.cells e)) w :=
  run_loadVar_row w g _ _ (En.cells e) (0, 0) _ h Tryd.underlying46 rfl (by kernel_rfl)
theorem ret_ent1 {fn : Func} {R : Ending → World → Prop} {a : Act} {w : World} {p : Tmp} {g : Nat} {e : En.Ent} (h : fn.results = #[.cell p 46]) (hp : a.tmps.getD p undef = .pointer (some ⟨g, 0, none⟩))
    (hl : Ents w g e) (hd : a.defers = []) (hR : R (.returned (.agg (En.cells e))) w) : bodyPost Tryd.prog fn R .ret a w := by
  refine bodyPost_ret ?_ hd hR
  rw [results_one h, hp]
  simp [asAddr, Result.andThen, run_entry w g e hl]
theorem ret_ent2 {fn : Func} {R : Ending → World → Prop} {a : Act} {w : World} {p u : Tmp} {g : Nat} {e : En.Ent} (h : fn.results = #[.cell p 46, .tmp u]) (hp : a.tmps.getD p undef = .pointer (some ⟨g, 0, none⟩))
    (hl : Ents w g e) (hd : a.defers = []) (hR : R (.returned (.tuple #[.agg (En.cells e), a.tmps.getD u undef])) w) : bodyPost Tryd.prog fn R .ret a w := by
  refine bodyPost_ret ?_ hd hR
  rw [results_two h, hp]
  simp [asAddr, Result.andThen, run_entry w g e hl]
theorem En.cells_at (e : En.Ent) (j : Nat) (h : j < 10) : ∃ v, (En.cells e)[j]? = some v := ⟨_, Array.getElem?_eq_getElem (show j < (En.cells e).size from h)⟩
set_option maxHeartbeats 1600000 in
theorem store_ent {ops : Array Oper} {rest : List Oper} {op : Oper} {a : Act} {w : World} {Q : Exit → Act → World → Prop} (hgd : op.guard = none) (x y : Operand) (ho : op.op = .store 46 x y)
    (g : Nat) (e0 e : En.Ent) (hx : a.eval x = .pointer (some ⟨g, 0, none⟩)) (hy : a.eval y = .agg (En.cells e)) (hl : Ents w g e0)
    (h : ∀ w', Ents w' g e → w.grownBy w' (some g) → wpList Tryd.prog ops Q rest (a.put op.dst undef) w') : wpList Tryd.prog ops Q (op :: rest) a w := by
  have h0 : ∀ j, j < 10 → (w.cell? ⟨g, j, none⟩).isSome = true := by
    intro j hj
    obtain ⟨v, hv⟩ := En.cells_at e0 j hj
    rw [hl.cell j v hv]; rfl
  have hone := (En.cells_one e).2
  have hf := hl.free
  refine wpList_store_mid hgd _ x y ho g 0 (En.cells e) hx hy (fun j hj => ?_) (by kernel_rfl) hone (h _ (Lies.whole hl rfl) (grown_sets g _ _ _))
  rw [Nat.zero_add]
  exact ⟨h0 j hj, hf j⟩
/-- A load of an entry that lies anywhere. -/
theorem load_ent {ops : Array Oper} {rest : List Oper} {op : Oper} {a : Act} {w : World} {Q : Exit → Act → World → Prop} (hgd : op.guard = none) (x : Operand) (ho : op.op = .load 46 x)
    (g o : Nat) (e : En.Ent) (hx : a.eval x = .pointer (some ⟨g, o, none⟩)) (hl : EntAt w g o e)
    (h : wpList Tryd.prog ops Q rest (a.put op.dst (.agg (En.cells e))) w) : wpList Tryd.prog ops Q (op :: rest) a w :=
  wpList_load_mid hgd _ x ho g o hx (En.cells e).toList _ (fun j v hv => by
    match j with
    | 0 => simp [En.cells] at hv; subst hv; exact hl.c0
    | 1 => simp [En.cells] at hv; subst hv; exact hl.c1
    | 2 => simp [En.cells] at hv; subst hv; exact hl.c2
    | 3 => simp [En.cells] at hv; subst hv; exact hl.c3
    | 4 => simp [En.cells] at hv; subst hv; exact hl.c4
    | 5 => simp [En.cells] at hv; subst hv; exact hl.c5
    | 6 => simp [En.cells] at hv; subst hv; exact hl.c6
    | 7 => simp [En.cells] at hv; subst hv; exact hl.c7
    | 8 => simp [En.cells] at hv; subst hv; exact hl.c8
    | 9 => simp [En.cells] at hv; subst hv; exact hl.c9
    | j + 10 => simp [En.cells] at hv) Tryd.underlying46 rfl (by kernel_rfl) h

/-! What came in. -/
section
variable {H : Type} {enc : TypeId × Value → H} {w : World} {b0 base : Nat} {held : Bool}
set_option maxRecDepth 20000 in
/-- An element's cells are an entry's. -/
theorem el_ent {sp : Nat → Bool} (m : Nat) (cs : List Value) (y : DataW H × List MemPlace)
    (h : DataW.trod enc Tryd.prog w base sp held m 46 cs = some y) : ∃ e : En.Ent, cs = (En.cells e).toList ∧ e.Fits ∧ e.cmd.Short 9223372036854775807 := by
  obtain ⟨ys, n, _, _, hl, hlen, hat⟩ := DataW.trod_struct Tryd.underlying46 h
  have hce : Tryd.prog.cellsOf 46 = 10 := by kernel_rfl
  have hci : Tryd.prog.cellsOf 3 = 1 := by kernel_rfl
  have hcb : Tryd.prog.cellsOf 26 = 2 := by kernel_rfl
  have hcc : Tryd.prog.cellsOf 39 = 7 := by kernel_rfl
  have g0 := hat 0 _ rfl
  have g1 := hat 1 _ rfl
  have g2 := hat 2 _ rfl
  rw [List.getElem?_eq_getElem (by rw [hlen]; simp)] at g0 g1 g2
  obtain ⟨i, e0, a0, b0⟩ := one_int Tryd.underlying3 g0 hci
  have g1' : DataW.trod enc Tryd.prog w base sp held n 26 ((cs.drop 1).take (Tryd.prog.cellsOf 26)) = some _ := g1
  have g2' : DataW.trod enc Tryd.prog w base sp held n 39 ((cs.drop 3).take (Tryd.prog.cellsOf 39)) = some _ := g2
  rw [hcb] at g1'
  rw [hcc] at g2'
  obtain ⟨b, e1, fb⟩ := el_bal _ _ _ g1'
  obtain ⟨c, e2, fc, sc⟩ := el_cmd _ _ _ g2'
  rw [hce] at hl
  match cs, hl with
  | [c0, c1, c2, c3, c4, c5, c6, c7, c8, c9], _ =>
    refine ⟨⟨i, b, c⟩, ?_, ⟨a0, b0, fb, fc⟩, sc⟩
    simp [Bl.cells, Cm.cells] at e0 e1 e2
    simp [En.cells, e0, e1, e2]
set_option maxRecDepth 20000 in
theorem came_ent {sp : Nat → Bool} {v : Value} {d : DataW H} {p : List MemPlace} (hv : Value.okWide Tryd.prog w .any b0 46 v) (h : DataW.Trod enc Tryd.prog w base sp held 46 v d p) :
    ∃ e : En.Ent, v = .agg (En.cells e) ∧ e.Fits ∧ e.cmd.Short 9223372036854775807 := by
  obtain ⟨cs, rfl, hsz⟩ := WideShapes.okWide_struct Tryd.underlying46 hv
  obtain ⟨fuel, hf⟩ := h
  obtain ⟨e, he, hfit⟩ := el_ent fuel _ _ hf
  refine ⟨e, ?_, hfit⟩
  have : cs.toList = (En.cells e).toList := he
  rw [Array.toList_inj.1 this]
/-- A row of entries. -/
abbrev ReadsE (w : World) (v : Value) (l : List En.Ent) : Prop := ReadsR w v 10 (l.map En.cells)
set_option maxRecDepth 20000 in
theorem came_ents {v : Value} {d : DataW H} {p : List MemPlace} (hv : Value.okWide Tryd.prog w .any b0 28 v) (h : DataW.Trod enc Tryd.prog w base (fun _ => true) held 28 v d p) :
    ∃ l : List En.Ent, ReadsE w v l ∧ ∀ e ∈ l, e.Fits ∧ e.cmd.Short 9223372036854775807 :=
  came_rows En.cells (fun e => e.Fits ∧ e.cmd.Short 9223372036854775807) Tryd.underlying28 (by kernel_rfl) (fun m cs y hm => el_ent m cs y hm) hv h
end
theorem ReadsE.shape {w : World} {v : Value} {l : List En.Ent} (h : ReadsE w v l) : ∃ ao cap, v = .slice ao l.length cap ∧ l.length ≤ cap ∧ cap ≤ 9223372036854775807 := by
  obtain ⟨ao, cap, h1, h2, h3⟩ := ReadsR.shape h
  rw [List.length_map] at h1 h2
  exact ⟨ao, cap, h1, h2, h3⟩
/-- Where there is an entry: its ten cells, in every world behind. -/
theorem ReadsE.places {w : World} {ao : Option Addr} {n cap : Nat} {l : List En.Ent} (h : ReadsE w (.slice ao n cap) l) (hl : 0 < l.length) :
    ∃ b off, ao = some ⟨b, off, none⟩ ∧ b < w.heap.size ∧ ∀ w', Below w.heap.size w w' → ∀ i e, l[i]? = some e → EntAt w' b (off + i * 10) e := by
  obtain ⟨b, off, e, hlt, hc⟩ := ReadsR.places h (r0 := En.cells (l[0]'hl)) (u0 := .int .i64 (l[0]'hl).index) (by rw [List.getElem?_map, List.getElem?_eq_getElem hl]; rfl) rfl
  refine ⟨b, off, e, hlt, fun w' hb i c hi => EntAt.of fun j u hu => ?_⟩
  have := hc w' hb i (En.cells c) (by rw [List.getElem?_map, hi]; rfl) j u hu
  rwa [← Nat.add_assoc] at this
theorem info_ent : (Tryd.prog.info? 46).map (fun i => (i.zero, i.size, i.bytes)) = some (some (.agg (En.cells En.zero)), 10, 104) := by kernel_rfl
/-- Entries lie as they lay where a block that holds no string is stored into. -/
theorem ReadsE.kept_of {w w' : World} {b : Nat} {T : TypeId} {vs : Array Value} {v : Value} {l : List En.Ent} (h : ReadsE w v l) (hl : Lies w b T vs) (hno : ∀ (j : Nat) (x : ByteArray), vs[j]? ≠ some (.string x)) (hg : w.grownBy w' (some b)) : ReadsE w' v l := by
  cases l with
  | nil =>
    obtain ⟨ao, cap, rfl, h1, h2, h3, h4⟩ := h
    exact ⟨ao, cap, rfl, h1, h2, h3, fun x hx i r hr => by simp at hr⟩
  | cons e t =>
    obtain ⟨ao, cap, rfl, h1, h2, h3, h4⟩ := h
    refine ⟨ao, cap, rfl, h1, h2, h3, fun x hx i r hr j u hu => ?_⟩
    have hc := h4 x hx i r hr j u hu
    have hs : w.cell? (x.add (0 * 10 + 6)) = some (.string ⟨e.cmd.key.toArray⟩) := h4 x hx 0 (En.cells e) rfl 6 _ rfl
    rw [← hc]
    refine World.cell?_of_block ?_
    have hlt := World.block_lt_of_cell? w _ hc
    rw [add_block] at hlt ⊢
    refine hg.block _ hlt ?_
    intro hb
    obtain ⟨blk, off, spot⟩ := x
    obtain rfl : blk = b := by simpa using hb
    have hadd : (Addr.add ⟨blk, off, spot⟩ (0 * 10 + 6)) = ⟨blk, off + 6, none⟩ := by simp [Addr.add]
    rw [hadd] at hs
    have hl' : w.heap[blk]? = some (.cells vs T (0, 0)) := hl
    simp only [World.cell?, hl'] at hs
    exact hno _ _ (by simpa using hs)

end Go.Proofs.YtfdnmmmjaipgoaaDoor
