/- A command in memory: its cells, boxed; one that came in. -/
import Derived.Test.YtiakpedioemmiaaCmdOne
import Derived.Test.YtiakpedioemmiaaRows
import Derived.Test.YtiakpedioemmiaaLie
import Derived.Deep.MidRow
import Derived.ChangeSame
namespace Go.Proofs.Ytiakpedioemmiaa
open Go.RowKit

/-- A command lies in a block. -/
def Cm.cells (c : Cm.Cmd) : Array Value := #[.int .i64 c.kind, .int .i64 c.client, .int .i64 c.seq, .string ⟨c.key.toArray⟩, .string ⟨c.val.toArray⟩, .string ⟨c.old.toArray⟩, .int .i64 c.node]
abbrev Cmds (w : World) (b : Nat) (c : Cm.Cmd) : Prop := Lies w b 32 (Cm.cells c)
/-- A command boxed. -/
theorem box_cmd (w : World) (c : Cm.Cmd) : ∃ w1, w.alloc (.cells (Cm.cells c) 32) = w1 ∧ Cmds w1 w.heap.size c ∧ Below w.heap.size w w1 ∧ w1.heap.size = w.heap.size + 1 :=
  ⟨_, rfl, Lies.new w _ _, (Below.refl _ w).alloc (Nat.le_refl _) _, by simp⟩
theorem Cmds.all {w : World} {b : Nat} {c : Cm.Cmd} (h : Cmds w b c) : w.cell? ⟨b, 0, none⟩ = some (.int .i64 c.kind) ∧ w.cell? ⟨b, 1, none⟩ = some (.int .i64 c.client) ∧ w.cell? ⟨b, 2, none⟩ = some (.int .i64 c.seq) ∧ w.cell? ⟨b, 3, none⟩ = some (.string ⟨c.key.toArray⟩) ∧
    w.cell? ⟨b, 4, none⟩ = some (.string ⟨c.val.toArray⟩) ∧ w.cell? ⟨b, 5, none⟩ = some (.string ⟨c.old.toArray⟩) ∧ w.cell? ⟨b, 6, none⟩ = some (.int .i64 c.node) :=
  ⟨h.cell 0 _ rfl, h.cell 1 _ rfl, h.cell 2 _ rfl, h.cell 3 _ rfl, h.cell 4 _ rfl, h.cell 5 _ rfl, h.cell 6 _ rfl⟩
theorem load_cmd {ops : Array Oper} {rest : List Oper} {op : Oper} {a : Act} {w : World} {Q : Exit → Act → World → Prop} (hgd : op.guard = none) (x : Operand) (ho : op.op = .load 32 x)
    (g : Nat) (c : Cm.Cmd) (hx : a.eval x = .pointer (some ⟨g, 0, none⟩)) (hl : Cmds w g c)
    (h : wpList Try.prog ops Q rest (a.put op.dst (.agg (Cm.cells c))) w) : wpList Try.prog ops Q (op :: rest) a w :=
  wpList_load_mid hgd _ x ho g 0 hx (Cm.cells c).toList _ (fun j v hv => by rw [Nat.zero_add]; exact hl.cell j v (by simpa using hv)) Try.underlying32 rfl (by kernel_rfl) h

set_option maxRecDepth 20000 in
theorem came_cmd {H : Type} {enc : TypeId × Value → H} {w : World} {b0 base : Nat} {sp : Nat → Bool} {held : Bool} {v : Value} {d : DataW H} {p : List MemPlace}
    (hv : Value.okWide Try.prog w .any b0 32 v) (h : DataW.Trod enc Try.prog w base sp held 32 v d p) : ∃ c : Cm.Cmd, v = .agg (Cm.cells c) ∧ c.Fits ∧ c.Short 9223372036854775807 := by
  obtain ⟨cs, rfl, hsz⟩ := WideShapes.okWide_struct Try.underlying32 hv
  obtain ⟨fuel, hf⟩ := h
  obtain ⟨xs, n, _, _, hl, hlen, hat⟩ := DataW.trod_struct Try.underlying32 hf
  have hce : Try.prog.cellsOf 32 = 7 := by kernel_rfl
  have hci : Try.prog.cellsOf 3 = 1 := by kernel_rfl
  have hcs : Try.prog.cellsOf 9 = 1 := by kernel_rfl
  rw [hce] at hsz
  have oneI : ∀ (i : Nat) (fl : Field), i < 7 → fl.type = 3 → fl.offset = i → DataW.trod enc Try.prog w base sp held n fl.type (((Value.agg cs).cells.toList.drop fl.offset).take (Try.prog.cellsOf fl.type)) = xs[i]? → ∃ x : Int, cs[i]? = some (.int .i64 x) ∧ -9223372036854775808 ≤ x ∧ x ≤ 9223372036854775807 := by
    intro i fl hi ht ho h1
    rw [ht, ho, hci, List.getElem?_eq_getElem (by rw [hlen]; exact hi)] at h1
    obtain ⟨x, e1, _, hw⟩ := DataW.trod_int Try.underlying3 h1
    refine ⟨x, ?_, i64_bounds hw⟩
    have h2 := congrArg (fun l => l[0]?) e1
    simpa [List.getElem?_take, List.getElem?_drop, Value.cells] using h2
  have oneS : ∀ (i : Nat) (fl : Field), i < 7 → fl.type = 9 → fl.offset = i → DataW.trod enc Try.prog w base sp held n fl.type (((Value.agg cs).cells.toList.drop fl.offset).take (Try.prog.cellsOf fl.type)) = xs[i]? → ∃ s : ByteArray, cs[i]? = some (.string s) ∧ s.size ≤ maxLen := by
    intro i fl hi ht ho h1
    rw [ht, ho, hcs, List.getElem?_eq_getElem (by rw [hlen]; exact hi)] at h1
    obtain ⟨x, e1, _, hw⟩ := DataW.trod_string Try.underlying9 h1
    refine ⟨x, ?_, hw⟩
    have h2 := congrArg (fun l => l[0]?) e1
    simpa [List.getElem?_take, List.getElem?_drop, Value.cells] using h2
  obtain ⟨x0, e0, a0, b0⟩ := oneI 0 _ (by omega) rfl rfl (hat 0 _ rfl)
  obtain ⟨x1, e1, a1, b1⟩ := oneI 1 _ (by omega) rfl rfl (hat 1 _ rfl)
  obtain ⟨x2, e2, a2, b2⟩ := oneI 2 _ (by omega) rfl rfl (hat 2 _ rfl)
  obtain ⟨x3, e3, a3⟩ := oneS 3 _ (by omega) rfl rfl (hat 3 _ rfl)
  obtain ⟨x4, e4, a4⟩ := oneS 4 _ (by omega) rfl rfl (hat 4 _ rfl)
  obtain ⟨x5, e5, a5⟩ := oneS 5 _ (by omega) rfl rfl (hat 5 _ rfl)
  obtain ⟨x6, e6, a6, b6⟩ := oneI 6 _ (by omega) rfl rfl (hat 6 _ rfl)
  unfold maxLen at a3 a4 a5
  refine ⟨⟨x0, x1, x2, x6, x3.data.toList, x5.data.toList, x4.data.toList⟩, ?_, ⟨a0, b0, a1, b1, a2, b2, a6, b6⟩, ⟨?_, ?_, ?_⟩⟩
  · congr 1
    apply Array.ext_getElem?
    intro i
    unfold Cm.cells
    dsimp only
    match i with
    | 0 => rw [e0]; rfl
    | 1 => rw [e1]; rfl
    | 2 => rw [e2]; rfl
    | 3 => rw [e3]; rfl
    | 4 => rw [e4]; rfl
    | 5 => rw [e5]; rfl
    | 6 => rw [e6]; rfl
    | j + 7 => rw [Array.getElem?_eq_none (by omega), Array.getElem?_eq_none (by simp)]
  · show x3.size ≤ _; omega
  · show x5.size ≤ _; omega
  · show x4.size ≤ _; omega

end Go.Proofs.Ytiakpedioemmiaa
