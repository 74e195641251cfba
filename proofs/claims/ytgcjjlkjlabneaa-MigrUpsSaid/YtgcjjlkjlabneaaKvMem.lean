/- A pair in memory: boxed, compared, stored and read whole; pairs that came in. -/
import Derived.Test.YtgcjjlkjlabneaaKvMath
import Derived.Test.YtgcjjlkjlabneaaCmdCell
import Derived.Test.YtgcjjlkjlabneaaAnsMem
import Derived.Test.YtgcjjlkjlabneaaRows
import Derived.Test.YtgcjjlkjlabneaaOwn
import Derived.Deep.MidRow
namespace Go.Proofs.Ytgcjjlkjlabneaa
open Go.RowKit

/-- A pair lies in a block. -/
abbrev Kvs (w : World) (g : Nat) (p : Kv.Item) : Prop := Lies w g 38 (Kv.cells p)
/-- Three cells in a row are a pair's. -/
structure KvAt (w : World) (g o : Nat) (p : Kv.Item) : Prop where
  c0 : w.cell? ⟨g, o, none⟩ = some (.string ⟨p.key.toArray⟩)
  c1 : w.cell? ⟨g, o + 1, none⟩ = some (.string ⟨p.val.toArray⟩)
  c2 : w.cell? ⟨g, o + 2, none⟩ = some (.int .i64 p.rev)
theorem KvAt.of {w : World} {g o : Nat} {p : Kv.Item} (h : ∀ j u, (Kv.cells p)[j]? = some u → w.cell? ⟨g, o + j, none⟩ = some u) : KvAt w g o p := ⟨h 0 _ rfl, h 1 _ rfl, h 2 _ rfl⟩
theorem Kvs.at {w : World} {g : Nat} {p : Kv.Item} (h : Kvs w g p) : KvAt w g 0 p := ⟨h.cell 0 _ rfl, h.cell 1 _ rfl, h.cell 2 _ rfl⟩
theorem Kvs.three {w : World} {g : Nat} {p : Kv.Item} (h : Kvs w g p) : w.cell? ⟨g, 0, none⟩ = some (.string ⟨p.key.toArray⟩) ∧ w.cell? ⟨g, 1, none⟩ = some (.string ⟨p.val.toArray⟩) ∧ w.cell? ⟨g, 2, none⟩ = some (.int .i64 p.rev) :=
  ⟨h.cell 0 _ rfl, h.cell 1 _ rfl, h.cell 2 _ rfl⟩
theorem guard_kv : Try.prog.eqGuardType Try.prog.depth 38 = false := by kernel_rfl
theorem Kv.ext_iff (a b : Kv.Item) : a = b ↔ a.key = b.key ∧ a.val = b.val ∧ a.rev = b.rev := by
  obtain ⟨c, q, k⟩ := a
  obtain ⟨c', q', k'⟩ := b
  simp only [Kv.Item.mk.injEq]
theorem run_neq_kv (w : World) (a b : Kv.Item) : (binOp .neq 38 (.agg (Kv.cells a)) (.agg (Kv.cells b))).run Try.prog w = .ok (.bool (!decide (a = b))) w := by
  have hu := Try.underlying38
  rw [show decide (a = b) = decide (a.key = b.key ∧ a.val = b.val ∧ a.rev = b.rev) from decide_eq_decide.2 (Kv.ext_iff a b)]
  obtain ⟨c, q, k⟩ := a
  obtain ⟨c', q', k'⟩ := b
  dsimp only [Kv.cells]
  go_simp
  repeat' split
  all_goals simp_all
theorem run_eql_kv (w : World) (a b : Kv.Item) : (binOp .eql 38 (.agg (Kv.cells a)) (.agg (Kv.cells b))).run Try.prog w = .ok (.bool (decide (a = b))) w := by
  have hu := Try.underlying38
  rw [show decide (a = b) = decide (a.key = b.key ∧ a.val = b.val ∧ a.rev = b.rev) from decide_eq_decide.2 (Kv.ext_iff a b)]
  obtain ⟨c, q, k⟩ := a
  obtain ⟨c', q', k'⟩ := b
  dsimp only [Kv.cells]
  go_simp
  repeat' split
  all_goals simp_all
/-! Two strings compared. -/
theorem str_bytes (a : List UInt8) : (ByteArray.mk a.toArray).toList = a := by rw [ByteArray.toList_eq]
theorem run_lss_str (w : World) (a b : List UInt8) : (binOp .lss 9 (.string ⟨a.toArray⟩) (.string ⟨b.toArray⟩)).run Try.prog w = .ok (.bool (decide (a < b))) w := by
  have h : (binOp .lss 9 (.string ⟨a.toArray⟩) (.string ⟨b.toArray⟩)).run Try.prog w = .ok (.bool (Op.bytesLess (ByteArray.mk a.toArray).toList (ByteArray.mk b.toArray).toList)) w := rfl
  rw [h, str_bytes, str_bytes]
  rw [Kv.less_eq]
theorem run_gtr_str (w : World) (a b : List UInt8) : (binOp .gtr 9 (.string ⟨a.toArray⟩) (.string ⟨b.toArray⟩)).run Try.prog w = .ok (.bool (decide (b < a))) w := by
  have h : (binOp .gtr 9 (.string ⟨a.toArray⟩) (.string ⟨b.toArray⟩)).run Try.prog w = .ok (.bool (!(Op.bytesLess (ByteArray.mk a.toArray).toList (ByteArray.mk b.toArray).toList || (ByteArray.mk a.toArray).toList == (ByteArray.mk b.toArray).toList))) w := rfl
  rw [h, str_bytes, str_bytes]
  rw [Kv.le_eq, Bool.not_not]
theorem run_leq_str (w : World) (a b : List UInt8) : (binOp .leq 9 (.string ⟨a.toArray⟩) (.string ⟨b.toArray⟩)).run Try.prog w = .ok (.bool (!decide (b < a))) w := by
  have h : (binOp .leq 9 (.string ⟨a.toArray⟩) (.string ⟨b.toArray⟩)).run Try.prog w = .ok (.bool (Op.bytesLess (ByteArray.mk a.toArray).toList (ByteArray.mk b.toArray).toList || (ByteArray.mk a.toArray).toList == (ByteArray.mk b.toArray).toList)) w := rfl
  rw [h, str_bytes, str_bytes]
  rw [Kv.le_eq]
theorem run_eql_str (w : World) (a b : List UInt8) : (binOp .eql 9 (.string ⟨a.toArray⟩) (.string ⟨b.toArray⟩)).run Try.prog w = .ok (.bool (decide (a = b))) w := by
  have h : (binOp .eql 9 (.string ⟨a.toArray⟩) (.string ⟨b.toArray⟩)).run Try.prog w = .ok (.bool ((ByteArray.mk a.toArray).toList == (ByteArray.mk b.toArray).toList)) w := rfl
  rw [h, str_bytes, str_bytes]
  rw [show (a == b) = decide (a = b) by rw [Bool.eq_iff_iff]; simp]
theorem run_neq_str (w : World) (a b : List UInt8) : (binOp .neq 9 (.string ⟨a.toArray⟩) (.string ⟨b.toArray⟩)).run Try.prog w = .ok (.bool (!decide (a = b))) w := by
  have h : (binOp .neq 9 (.string ⟨a.toArray⟩) (.string ⟨b.toArray⟩)).run Try.prog w = .ok (.bool (!((ByteArray.mk a.toArray).toList == (ByteArray.mk b.toArray).toList))) w := rfl
  rw [h, str_bytes, str_bytes]
  rw [show (a == b) = decide (a = b) by rw [Bool.eq_iff_iff]; simp]

/-- A pair boxed. -/
theorem box_kv (w : World) (p : Kv.Item) : ∃ w1, w.alloc (.cells (Kv.cells p) 38) = w1 ∧ Kvs w1 w.heap.size p ∧ Below w.heap.size w w1 ∧ w1.heap.size = w.heap.size + 1 :=
  ⟨_, rfl, Lies.new w _ _, (Below.refl _ w).alloc (Nat.le_refl _) _, by simp⟩
theorem Kv.cells_one (p : Kv.Item) : (Kv.cells p).size = 3 ∧ (Kv.cells p).all (·.oneCell') = true := ⟨rfl, by simp [Kv.cells, Value.oneCell']⟩
theorem Kv.sized (l : List Kv.Item) : Sized 3 (l.map Kv.cells) := Sized.map Kv.cells_one l
theorem run_kv (w : World) (g : Nat) (p : Kv.Item) (h : Kvs w g p) : (loadVar 38 ⟨g, 0, none⟩).run Try.prog w = .ok (.agg (Kv.cells p)) w :=
  run_loadVar_row w g _ _ (Kv.cells p) (0, 0) _ h Try.underlying38 rfl (by kernel_rfl)
theorem ret_kv2 {fn : Func} {R : Ending → World → Prop} {a : Act} {w : World} {p u : Tmp} {g : Nat} {s : Kv.Item} (h : fn.results = #[.cell p 38, .tmp u]) (hp : a.tmps.getD p undef = .pointer (some ⟨g, 0, none⟩))
    (hl : Kvs w g s) (hd : a.defers = []) (hR : R (.returned (.tuple #[.agg (Kv.cells s), a.tmps.getD u undef])) w) : bodyPost Try.prog fn R .ret a w := by
  refine bodyPost_ret ?_ hd hR
  rw [results_two h, hp]
  simp [asAddr, Result.andThen, run_kv w g s hl]
/-- A value, and an answer that lies in memory. -/
theorem ret_val_ans {fn : Func} {R : Ending → World → Prop} {a : Act} {w : World} {p u : Tmp} {g : Nat} {c : An.Ans} (h : fn.results = #[.tmp u, .cell p 41]) (hp : a.tmps.getD p undef = .pointer (some ⟨g, 0, none⟩))
    (hl : Anss w g c) (hd : a.defers = []) (hR : R (.returned (.tuple #[a.tmps.getD u undef, .agg (An.cells c)])) w) : bodyPost Try.prog fn R .ret a w := by
  refine bodyPost_ret ?_ hd hR
  rw [results_tail h, hp]
  simp [asAddr, Result.andThen, run_answer w g c hl]
theorem Kv.cells_at (p : Kv.Item) (j : Nat) (h : j < 3) : ∃ v, (Kv.cells p)[j]? = some v := ⟨_, Array.getElem?_eq_getElem (show j < (Kv.cells p).size from h)⟩
set_option maxHeartbeats 1600000 in
theorem store_kv {ops : Array Oper} {rest : List Oper} {op : Oper} {a : Act} {w : World} {Q : Exit → Act → World → Prop} (hgd : op.guard = none) (x y : Operand) (ho : op.op = .store 38 x y)
    (g : Nat) (e0 e : Kv.Item) (hx : a.eval x = .pointer (some ⟨g, 0, none⟩)) (hy : a.eval y = .agg (Kv.cells e)) (hl : Kvs w g e0)
    (h : ∀ w', Kvs w' g e → w.grownBy w' (some g) → wpList Try.prog ops Q rest (a.put op.dst undef) w') : wpList Try.prog ops Q (op :: rest) a w := by
  have h0 : ∀ j, j < 3 → (w.cell? ⟨g, j, none⟩).isSome = true := by
    intro j hj
    obtain ⟨v, hv⟩ := Kv.cells_at e0 j hj
    rw [hl.cell j v hv]; rfl
  have hone := (Kv.cells_one e).2
  have hf := hl.free
  refine wpList_store_mid hgd _ x y ho g 0 (Kv.cells e) hx hy (fun j hj => ?_) (by kernel_rfl) hone (h _ (Lies.whole hl rfl) (grown_sets g _ _ _))
  rw [Nat.zero_add]
  exact ⟨h0 j hj, hf j⟩
/-- A load of a pair that lies anywhere. -/
theorem load_kv {ops : Array Oper} {rest : List Oper} {op : Oper} {a : Act} {w : World} {Q : Exit → Act → World → Prop} (hgd : op.guard = none) (x : Operand) (ho : op.op = .load 38 x)
    (g o : Nat) (s : Kv.Item) (hx : a.eval x = .pointer (some ⟨g, o, none⟩)) (hl : KvAt w g o s)
    (h : wpList Try.prog ops Q rest (a.put op.dst (.agg (Kv.cells s))) w) : wpList Try.prog ops Q (op :: rest) a w :=
  wpList_load_mid hgd _ x ho g o hx (Kv.cells s).toList _ (fun j v hv => by
    match j with
    | 0 => simp [Kv.cells] at hv; subst hv; exact hl.c0
    | 1 => simp [Kv.cells] at hv; subst hv; exact hl.c1
    | 2 => simp [Kv.cells] at hv; subst hv; exact hl.c2
    | j + 3 => simp [Kv.cells] at hv) Try.underlying38 rfl (by kernel_rfl) h

/-! What came in. -/
section
variable {H : Type} {enc : TypeId × Value → H} {w : World} {b0 base : Nat} {held : Bool}
set_option maxRecDepth 20000 in
/-- An element's cells are a pair's. -/
theorem el_kv {sp : Nat → Bool} (m : Nat) (cs : List Value) (y : DataW H × List MemPlace)
    (h : DataW.trod enc Try.prog w base sp held m 38 cs = some y) : ∃ p : Kv.Item, cs = (Kv.cells p).toList ∧ p.key.length ≤ 9223372036854775807 ∧ p.val.length ≤ 9223372036854775807 := by
  obtain ⟨ys, n, _, _, hl, hlen, hat⟩ := DataW.trod_struct Try.underlying38 h
  have hce : Try.prog.cellsOf 38 = 3 := by kernel_rfl
  have hci : Try.prog.cellsOf 3 = 1 := by kernel_rfl
  have hcs : Try.prog.cellsOf 9 = 1 := by kernel_rfl
  have g0 := hat 0 _ rfl
  have g1 := hat 1 _ rfl
  have g2 := hat 2 _ rfl
  rw [List.getElem?_eq_getElem (by rw [hlen]; simp)] at g0 g1 g2
  obtain ⟨x0, e0, a0⟩ := one_str Try.underlying9 g0 hcs
  obtain ⟨x1, e1, a1⟩ := one_str Try.underlying9 g1 hcs
  obtain ⟨x2, e2, a2, b2⟩ := one_int Try.underlying3 g2 hci
  rw [hce] at hl
  match cs, hl with
  | [c0, c1, c2], _ =>
    simp at e0 e1 e2
    subst e0 e1 e2
    refine ⟨⟨x0.data.toList, x1.data.toList, x2⟩, rfl, ?_, ?_⟩
    · show x0.size ≤ _; omega
    · show x1.size ≤ _; omega
/-- A row of pairs. -/
abbrev ReadsK (w : World) (v : Value) (l : List Kv.Item) : Prop := ReadsR w v 3 (l.map Kv.cells)
set_option maxRecDepth 20000 in
theorem came_kvs {v : Value} {d : DataW H} {p : List MemPlace} (hv : Value.okWide Try.prog w .any b0 22 v) (h : DataW.Trod enc Try.prog w base (fun _ => true) held 22 v d p) :
    ∃ l : List Kv.Item, ReadsK w v l ∧ ∀ s ∈ l, s.key.length ≤ 9223372036854775807 ∧ s.val.length ≤ 9223372036854775807 :=
  came_rows Kv.cells (fun s => s.key.length ≤ 9223372036854775807 ∧ s.val.length ≤ 9223372036854775807) Try.underlying22 (by kernel_rfl) (fun m cs y hm => el_kv m cs y hm) hv h
end
theorem ReadsK.shape {w : World} {v : Value} {l : List Kv.Item} (h : ReadsK w v l) : ∃ ao cap, v = .slice ao l.length cap ∧ l.length ≤ cap ∧ cap ≤ 9223372036854775807 := by
  obtain ⟨ao, cap, h1, h2, h3⟩ := ReadsR.shape h
  rw [List.length_map] at h1 h2
  exact ⟨ao, cap, h1, h2, h3⟩
/-- Where there is a pair: its three cells, in every world behind. -/
theorem ReadsK.places {w : World} {ao : Option Addr} {n cap : Nat} {l : List Kv.Item} (h : ReadsK w (.slice ao n cap) l) (hl : 0 < l.length) :
    ∃ b off, ao = some ⟨b, off, none⟩ ∧ b < w.heap.size ∧ ∀ w', Below w.heap.size w w' → ∀ i s, l[i]? = some s → KvAt w' b (off + i * 3) s := by
  obtain ⟨b, off, e, hlt, hc⟩ := ReadsR.places h (r0 := Kv.cells (l[0]'hl)) (u0 := .string ⟨(l[0]'hl).key.toArray⟩) (by rw [List.getElem?_map, List.getElem?_eq_getElem hl]; rfl) rfl
  refine ⟨b, off, e, hlt, fun w' hb i c hi => KvAt.of fun j u hu => ?_⟩
  have := hc w' hb i (Kv.cells c) (by rw [List.getElem?_map, hi]; rfl) j u hu
  rwa [← Nat.add_assoc] at this
theorem info_kv : (Try.prog.info? 38).map (fun i => (i.zero, i.size, i.bytes)) = some (some (.agg (Kv.cells Kv.zero)), 3, 40) := by kernel_rfl

end Go.Proofs.Ytgcjjlkjlabneaa
