/- A session in memory: boxed, compared, stored and read whole; sessions that came in. -/
import Derived.Test.YtgcjjlkjlabneaaSeMath
import Derived.Test.YtgcjjlkjlabneaaAnsMem
import Derived.Test.YtgcjjlkjlabneaaRows
import Derived.Test.YtgcjjlkjlabneaaOwn
import Derived.Deep.MidRow
namespace Go.Proofs.Ytgcjjlkjlabneaa
open Go.RowKit

/-- A session lies in a block. -/
abbrev Sess (w : World) (g : Nat) (s : Se.Ses) : Prop := Lies w g 43 (Se.cells s)
/-- Eight cells in a row are a session's. -/
structure SesAt (w : World) (g o : Nat) (s : Se.Ses) : Prop where
  c0 : w.cell? ⟨g, o, none⟩ = some (.int .i64 s.client)
  c1 : w.cell? ⟨g, o + 1, none⟩ = some (.int .i64 s.seq)
  c2 : w.cell? ⟨g, o + 2, none⟩ = some (.int .i64 s.last.client)
  c3 : w.cell? ⟨g, o + 3, none⟩ = some (.int .i64 s.last.seq)
  c4 : w.cell? ⟨g, o + 4, none⟩ = some (.int .i64 s.last.err)
  c5 : w.cell? ⟨g, o + 5, none⟩ = some (.bool s.last.found)
  c6 : w.cell? ⟨g, o + 6, none⟩ = some (.string ⟨s.last.val.toArray⟩)
  c7 : w.cell? ⟨g, o + 7, none⟩ = some (.int .i64 s.last.rev)
theorem SesAt.of {w : World} {g o : Nat} {s : Se.Ses} (h : ∀ j u, (Se.cells s)[j]? = some u → w.cell? ⟨g, o + j, none⟩ = some u) : SesAt w g o s :=
  ⟨h 0 _ rfl, h 1 _ rfl, h 2 _ rfl, h 3 _ rfl, h 4 _ rfl, h 5 _ rfl, h 6 _ rfl, h 7 _ rfl⟩
theorem Sess.at {w : World} {g : Nat} {s : Se.Ses} (h : Sess w g s) : SesAt w g 0 s :=
  ⟨h.cell 0 _ rfl, h.cell 1 _ rfl, h.cell 2 _ rfl, h.cell 3 _ rfl, h.cell 4 _ rfl, h.cell 5 _ rfl, h.cell 6 _ rfl, h.cell 7 _ rfl⟩
theorem Sess.eight {w : World} {g : Nat} {s : Se.Ses} (h : Sess w g s) : w.cell? ⟨g, 0, none⟩ = some (.int .i64 s.client) ∧ w.cell? ⟨g, 1, none⟩ = some (.int .i64 s.seq) ∧ w.cell? ⟨g, 2, none⟩ = some (.int .i64 s.last.client) ∧ w.cell? ⟨g, 3, none⟩ = some (.int .i64 s.last.seq) ∧ w.cell? ⟨g, 4, none⟩ = some (.int .i64 s.last.err) ∧ w.cell? ⟨g, 5, none⟩ = some (.bool s.last.found) ∧ w.cell? ⟨g, 6, none⟩ = some (.string ⟨s.last.val.toArray⟩) ∧ w.cell? ⟨g, 7, none⟩ = some (.int .i64 s.last.rev) :=
  ⟨h.cell 0 _ rfl, h.cell 1 _ rfl, h.cell 2 _ rfl, h.cell 3 _ rfl, h.cell 4 _ rfl, h.cell 5 _ rfl, h.cell 6 _ rfl, h.cell 7 _ rfl⟩
theorem guard_ses : Try.prog.eqGuardType Try.prog.depth 43 = false := by kernel_rfl
theorem Se.ext_iff (a b : Se.Ses) : a = b ↔ a.client = b.client ∧ a.seq = b.seq ∧ a.last.client = b.last.client ∧ a.last.seq = b.last.seq ∧ a.last.err = b.last.err ∧ a.last.found = b.last.found ∧ a.last.val = b.last.val ∧ a.last.rev = b.last.rev := by
  obtain ⟨c, q, k, cl, sq, nd, ky, od⟩ := a
  obtain ⟨c', q', k', cl', sq', nd', ky', od'⟩ := b
  simp only [Se.Ses.mk.injEq, An.Ans.mk.injEq]
theorem run_neq_ses (w : World) (a b : Se.Ses) : (binOp .neq 43 (.agg (Se.cells a)) (.agg (Se.cells b))).run Try.prog w = .ok (.bool (!decide (a = b))) w := by
  have hu := Try.underlying43
  have hc := Try.underlying41
  rw [show decide (a = b) = decide (a.client = b.client ∧ a.seq = b.seq ∧ a.last.client = b.last.client ∧ a.last.seq = b.last.seq ∧ a.last.err = b.last.err ∧ a.last.found = b.last.found ∧ a.last.val = b.last.val ∧ a.last.rev = b.last.rev) from decide_eq_decide.2 (Se.ext_iff a b)]
  obtain ⟨c, q, k, cl, sq, nd, ky, od⟩ := a
  obtain ⟨c', q', k', cl', sq', nd', ky', od'⟩ := b
  dsimp only [Se.cells]
  go_simp
  repeat' split
  all_goals simp_all

/-- A session boxed. -/
theorem box_ses (w : World) (s : Se.Ses) : ∃ w1, w.alloc (.cells (Se.cells s) 43) = w1 ∧ Sess w1 w.heap.size s ∧ Below w.heap.size w w1 ∧ w1.heap.size = w.heap.size + 1 :=
  ⟨_, rfl, Lies.new w _ _, (Below.refl _ w).alloc (Nat.le_refl _) _, by simp⟩
theorem Se.cells_one (s : Se.Ses) : (Se.cells s).size = 8 ∧ (Se.cells s).all (·.oneCell') = true := ⟨rfl, by simp [Se.cells, Value.oneCell']⟩
theorem Se.sized (l : List Se.Ses) : Sized 8 (l.map Se.cells) := Sized.map Se.cells_one l
theorem run_ses (w : World) (g : Nat) (s : Se.Ses) (h : Sess w g s) : (loadVar 43 ⟨g, 0, none⟩).run Try.prog w = .ok (.agg (Se.cells s)) w :=
  run_loadVar_row w g _ _ (Se.cells s) (0, 0) _ h Try.underlying43 rfl (by kernel_rfl)
theorem ret_ses2 {fn : Func} {R : Ending → World → Prop} {a : Act} {w : World} {p u : Tmp} {g : Nat} {s : Se.Ses} (h : fn.results = #[.cell p 43, .tmp u]) (hp : a.tmps.getD p undef = .pointer (some ⟨g, 0, none⟩))
    (hl : Sess w g s) (hd : a.defers = []) (hR : R (.returned (.tuple #[.agg (Se.cells s), a.tmps.getD u undef])) w) : bodyPost Try.prog fn R .ret a w := by
  refine bodyPost_ret ?_ hd hR
  rw [results_two h, hp]
  simp [asAddr, Result.andThen, run_ses w g s hl]
/-- A number, and an answer that lies in memory. -/
theorem ret_int_ans {fn : Func} {R : Ending → World → Prop} {a : Act} {w : World} {p u : Tmp} {g : Nat} {c : An.Ans} (h : fn.results = #[.tmp u, .cell p 41]) (hp : a.tmps.getD p undef = .pointer (some ⟨g, 0, none⟩))
    (hl : Anss w g c) (hd : a.defers = []) (hR : R (.returned (.tuple #[a.tmps.getD u undef, .agg (An.cells c)])) w) : bodyPost Try.prog fn R .ret a w := by
  refine bodyPost_ret ?_ hd hR
  rw [results_tail h, hp]
  simp [asAddr, Result.andThen, run_answer w g c hl]
/-- An answer's cells, stored one behind the other. -/
theorem set_ans {w : World} {g : Nat} {c0 : An.Ans} (c : An.Ans) (h : Anss w g c0) : ∃ w', (((((w.setCell ⟨g, 0, none⟩ (.int .i64 c.client)).setCell ⟨g, 1, none⟩ (.int .i64 c.seq)).setCell ⟨g, 2, none⟩ (.int .i64 c.err)).setCell ⟨g, 3, none⟩ (.bool c.found)).setCell ⟨g, 4, none⟩ (.string ⟨c.val.toArray⟩)).setCell ⟨g, 5, none⟩ (.int .i64 c.rev) = w' ∧ Anss w' g c ∧ w.grownBy w' (some g) :=
  ⟨_, rfl, (((((h.set 0 _).set 1 _).set 2 _).set 3 _).set 4 _).set 5 _, grown_on (grown_on (grown_on (grown_on (grown_on (grown_set w g 0 _) (grown_set _ g 1 _)) (grown_set _ g 2 _)) (grown_set _ g 3 _)) (grown_set _ g 4 _)) (grown_set _ g 5 _)⟩
theorem Se.cells_at (s : Se.Ses) (j : Nat) (h : j < 8) : ∃ v, (Se.cells s)[j]? = some v := ⟨_, Array.getElem?_eq_getElem (show j < (Se.cells s).size from h)⟩
set_option maxHeartbeats 1600000 in
theorem store_ses {ops : Array Oper} {rest : List Oper} {op : Oper} {a : Act} {w : World} {Q : Exit → Act → World → Prop} (hgd : op.guard = none) (x y : Operand) (ho : op.op = .store 43 x y)
    (g : Nat) (e0 e : Se.Ses) (hx : a.eval x = .pointer (some ⟨g, 0, none⟩)) (hy : a.eval y = .agg (Se.cells e)) (hl : Sess w g e0)
    (h : ∀ w', Sess w' g e → w.grownBy w' (some g) → wpList Try.prog ops Q rest (a.put op.dst undef) w') : wpList Try.prog ops Q (op :: rest) a w := by
  have h0 : ∀ j, j < 8 → (w.cell? ⟨g, j, none⟩).isSome = true := by
    intro j hj
    obtain ⟨v, hv⟩ := Se.cells_at e0 j hj
    rw [hl.cell j v hv]; rfl
  have hone := (Se.cells_one e).2
  have hf := hl.free
  refine wpList_store_mid hgd _ x y ho g 0 (Se.cells e) hx hy (fun j hj => ?_) (by kernel_rfl) hone (h _ (Lies.whole hl rfl) (grown_sets g _ _ _))
  rw [Nat.zero_add]
  exact ⟨h0 j hj, hf j⟩
/-- A load of a session that lies anywhere. -/
theorem load_ses {ops : Array Oper} {rest : List Oper} {op : Oper} {a : Act} {w : World} {Q : Exit → Act → World → Prop} (hgd : op.guard = none) (x : Operand) (ho : op.op = .load 43 x)
    (g o : Nat) (s : Se.Ses) (hx : a.eval x = .pointer (some ⟨g, o, none⟩)) (hl : SesAt w g o s)
    (h : wpList Try.prog ops Q rest (a.put op.dst (.agg (Se.cells s))) w) : wpList Try.prog ops Q (op :: rest) a w :=
  wpList_load_mid hgd _ x ho g o hx (Se.cells s).toList _ (fun j v hv => by
    match j with
    | 0 => simp [Se.cells] at hv; subst hv; exact hl.c0
    | 1 => simp [Se.cells] at hv; subst hv; exact hl.c1
    | 2 => simp [Se.cells] at hv; subst hv; exact hl.c2
    | 3 => simp [Se.cells] at hv; subst hv; exact hl.c3
    | 4 => simp [Se.cells] at hv; subst hv; exact hl.c4
    | 5 => simp [Se.cells] at hv; subst hv; exact hl.c5
    | 6 => simp [Se.cells] at hv; subst hv; exact hl.c6
    | 7 => simp [Se.cells] at hv; subst hv; exact hl.c7
    | j + 8 => simp [Se.cells] at hv) Try.underlying43 rfl (by kernel_rfl) h
/-- A load of its answer. -/
theorem load_last {ops : Array Oper} {rest : List Oper} {op : Oper} {a : Act} {w : World} {Q : Exit → Act → World → Prop} (hgd : op.guard = none) (x : Operand) (ho : op.op = .load 41 x)
    (g o : Nat) (s : Se.Ses) (hx : a.eval x = .pointer (some ⟨g, o + 2, none⟩)) (hl : SesAt w g o s)
    (h : wpList Try.prog ops Q rest (a.put op.dst (.agg (An.cells s.last))) w) : wpList Try.prog ops Q (op :: rest) a w :=
  wpList_load_mid hgd _ x ho g (o + 2) hx (An.cells s.last).toList _ (fun j v hv => by
    match j with
    | 0 => simp [An.cells] at hv; subst hv; exact hl.c2
    | 1 => simp [An.cells] at hv; subst hv; exact hl.c3
    | 2 => simp [An.cells] at hv; subst hv; exact hl.c4
    | 3 => simp [An.cells] at hv; subst hv; exact hl.c5
    | 4 => simp [An.cells] at hv; subst hv; exact hl.c6
    | 5 => simp [An.cells] at hv; subst hv; exact hl.c7
    | j + 6 => simp [An.cells] at hv) Try.underlying41 rfl (by kernel_rfl) h

/-! What came in. -/
section
variable {H : Type} {enc : TypeId × Value → H} {w : World} {b0 base : Nat} {held : Bool}
set_option maxRecDepth 20000 in
/-- An element's cells are an answer's. -/
theorem el_ans {sp : Nat → Bool} (m : Nat) (cs : List Value) (y : DataW H × List MemPlace)
    (h : DataW.trod enc Try.prog w base sp held m 41 cs = some y) : ∃ a : An.Ans, cs = (An.cells a).toList ∧ a.Fits ∧ a.val.length ≤ 9223372036854775807 := by
  obtain ⟨ys, n, _, _, hl, hlen, hat⟩ := DataW.trod_struct Try.underlying41 h
  have hce : Try.prog.cellsOf 41 = 6 := by kernel_rfl
  have hci : Try.prog.cellsOf 3 = 1 := by kernel_rfl
  have hcr : Try.prog.cellsOf 28 = 1 := by kernel_rfl
  have hcb : Try.prog.cellsOf 4 = 1 := by kernel_rfl
  have hcs : Try.prog.cellsOf 9 = 1 := by kernel_rfl
  have g0 := hat 0 _ rfl
  have g1 := hat 1 _ rfl
  have g2 := hat 2 _ rfl
  have g3 := hat 3 _ rfl
  have g4 := hat 4 _ rfl
  have g5 := hat 5 _ rfl
  rw [List.getElem?_eq_getElem (by rw [hlen]; simp)] at g0 g1 g2 g3 g4 g5
  obtain ⟨x0, e0, a0, b0⟩ := one_int Try.underlying3 g0 hci
  obtain ⟨x1, e1, a1, b1⟩ := one_int Try.underlying3 g1 hci
  obtain ⟨x2, e2, a2, b2⟩ := one_int Try.underlying28 g2 hcr
  obtain ⟨x3, e3⟩ := one_bool Try.underlying4 g3 hcb
  obtain ⟨x4, e4, a4⟩ := one_str Try.underlying9 g4 hcs
  obtain ⟨x5, e5, a5, b5⟩ := one_int Try.underlying3 g5 hci
  rw [hce] at hl
  match cs, hl with
  | [c0, c1, c2, c3, c4, c5], _ =>
    simp at e0 e1 e2 e3 e4 e5
    subst e0 e1 e2 e3 e4 e5
    refine ⟨⟨x0, x1, x2, x3, x4.data.toList, x5⟩, rfl, ⟨a0, b0, a1, b1, a2, b2, a5, b5⟩, ?_⟩
    show x4.size ≤ _; omega
set_option maxRecDepth 20000 in
/-- An element's cells are a session's. -/
theorem el_ses {sp : Nat → Bool} (m : Nat) (cs : List Value) (y : DataW H × List MemPlace)
    (h : DataW.trod enc Try.prog w base sp held m 43 cs = some y) : ∃ s : Se.Ses, cs = (Se.cells s).toList ∧ s.Fits ∧ s.last.val.length ≤ 9223372036854775807 := by
  obtain ⟨ys, n, _, _, hl, hlen, hat⟩ := DataW.trod_struct Try.underlying43 h
  have hce : Try.prog.cellsOf 43 = 8 := by kernel_rfl
  have hci : Try.prog.cellsOf 3 = 1 := by kernel_rfl
  have hca : Try.prog.cellsOf 41 = 6 := by kernel_rfl
  have g0 := hat 0 _ rfl
  have g1 := hat 1 _ rfl
  have g2 := hat 2 _ rfl
  rw [List.getElem?_eq_getElem (by rw [hlen]; simp)] at g0 g1 g2
  obtain ⟨x0, e0, a0, b0⟩ := one_int Try.underlying3 g0 hci
  obtain ⟨x1, e1, a1, b1⟩ := one_int Try.underlying3 g1 hci
  have g2' : DataW.trod enc Try.prog w base sp held n 41 ((cs.drop 2).take (Try.prog.cellsOf 41)) = some _ := g2
  rw [hca] at g2'
  obtain ⟨a, e2, fa, sa⟩ := el_ans _ _ _ g2'
  rw [hce] at hl
  match cs, hl with
  | [c0, c1, c2, c3, c4, c5, c6, c7], _ =>
    refine ⟨⟨x0, x1, a⟩, ?_, ⟨a0, b0, a1, b1, fa⟩, sa⟩
    simp [An.cells] at e0 e1 e2
    simp [Se.cells, e0, e1, e2]
/-- A row of sessions. -/
abbrev ReadsN (w : World) (v : Value) (l : List Se.Ses) : Prop := ReadsR w v 8 (l.map Se.cells)
set_option maxRecDepth 20000 in
theorem came_sess {v : Value} {d : DataW H} {p : List MemPlace} (hv : Value.okWide Try.prog w .any b0 23 v) (h : DataW.Trod enc Try.prog w base (fun _ => true) held 23 v d p) :
    ∃ l : List Se.Ses, ReadsN w v l ∧ ∀ s ∈ l, s.Fits ∧ s.last.val.length ≤ 9223372036854775807 :=
  came_rows Se.cells (fun s => s.Fits ∧ s.last.val.length ≤ 9223372036854775807) Try.underlying23 (by kernel_rfl) (fun m cs y hm => el_ses m cs y hm) hv h
end
theorem ReadsN.shape {w : World} {v : Value} {l : List Se.Ses} (h : ReadsN w v l) : ∃ ao cap, v = .slice ao l.length cap ∧ l.length ≤ cap ∧ cap ≤ 9223372036854775807 := by
  obtain ⟨ao, cap, h1, h2, h3⟩ := ReadsR.shape h
  rw [List.length_map] at h1 h2
  exact ⟨ao, cap, h1, h2, h3⟩
/-- Where there is a session: its eight cells, in every world behind. -/
theorem ReadsN.places {w : World} {ao : Option Addr} {n cap : Nat} {l : List Se.Ses} (h : ReadsN w (.slice ao n cap) l) (hl : 0 < l.length) :
    ∃ b off, ao = some ⟨b, off, none⟩ ∧ b < w.heap.size ∧ ∀ w', Below w.heap.size w w' → ∀ i s, l[i]? = some s → SesAt w' b (off + i * 8) s := by
  obtain ⟨b, off, e, hlt, hc⟩ := ReadsR.places h (r0 := Se.cells (l[0]'hl)) (u0 := .int .i64 (l[0]'hl).client) (by rw [List.getElem?_map, List.getElem?_eq_getElem hl]; rfl) rfl
  refine ⟨b, off, e, hlt, fun w' hb i c hi => SesAt.of fun j u hu => ?_⟩
  have := hc w' hb i (Se.cells c) (by rw [List.getElem?_map, hi]; rfl) j u hu
  rwa [← Nat.add_assoc] at this
theorem info_ses : (Try.prog.info? 43).map (fun i => (i.zero, i.size, i.bytes)) = some (some (.agg (Se.cells Se.zero)), 8, 72) := by kernel_rfl

end Go.Proofs.Ytgcjjlkjlabneaa
