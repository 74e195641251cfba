/- Several texts of mine in one: SeMem SeChk SeFind SeCopy. -/
import Derived.Test.YtammfmmpldahhaaGreatGSt
import Derived.Test.YtammfmmpldahhaaGreatAnsMem
import Derived.Test.YtammfmmpldahhaaGreatRows
import Derived.Test.YtammfmmpldahhaaGreatOwn
import Derived.Deep.MidRow
import Derived.Test.YtammfmmpldahhaaGreatAnsChk
import Derived.Lib.AppendZerosOnto
import Derived.ArgAppend
namespace Go.Proofs.YtammfmmpldahhaaGreat
open Go.RowKit

/-- A session lies in a block. -/
abbrev Sess (w : World) (g : Nat) (s : Se.Ses) : Prop := Lies w g 55 (Se.cells s)
/-- Eight cells in a row are a session's. -/
structure SesAt (w : World) (g o : Nat) (s : Se.Ses) : Prop where
  c0 : w.cell? ⟨g, o, none⟩ = some (.int .i64 s.client)
  c1 : w.cell? ⟨g, o + 1, none⟩ = some (.int .i64 s.seq)
  c2 : w.cell? ⟨g, o + 2, none⟩ = some (.int .i64 s.last.client)
  c3 : w.cell? ⟨g, o + 3, none⟩ = some (.int .i64 s.last.seq)
  c4 : w.cell? ⟨g, o + 4, none⟩ = some (.int .i64 s.last.err)
  c5 : w.cell? ⟨g, o + 5, none⟩ = some (.bool s.last.found)
  c6 : w.cell? ⟨g, o + 6, none⟩ = some (.string ⟨s.last.val.toArray⟩)
  c7 : w.cell? ⟨g, o + 7, none⟩ = some (.int .i64 s.last.rev)
theorem SesAt.of {w : World} {g o : Nat} {s : Se.Ses} (h : ∀ j u, (Se.cells s)[j]? = some u → w.cell? ⟨g, o + j, none⟩ = some u) : SesAt w g o s :=
  ⟨h 0 _ rfl, h 1 _ rfl, h 2 _ rfl, h 3 _ rfl, h 4 _ rfl, h 5 _ rfl, h 6 _ rfl, h 7 _ rfl⟩
theorem Sess.at {w : World} {g : Nat} {s : Se.Ses} (h : Sess w g s) : SesAt w g 0 s :=
  ⟨h.cell 0 _ rfl, h.cell 1 _ rfl, h.cell 2 _ rfl, h.cell 3 _ rfl, h.cell 4 _ rfl, h.cell 5 _ rfl, h.cell 6 _ rfl, h.cell 7 _ rfl⟩
theorem Sess.eight {w : World} {g : Nat} {s : Se.Ses} (h : Sess w g s) : w.cell? ⟨g, 0, none⟩ = some (.int .i64 s.client) ∧ w.cell? ⟨g, 1, none⟩ = some (.int .i64 s.seq) ∧ w.cell? ⟨g, 2, none⟩ = some (.int .i64 s.last.client) ∧ w.cell? ⟨g, 3, none⟩ = some (.int .i64 s.last.seq) ∧ w.cell? ⟨g, 4, none⟩ = some (.int .i64 s.last.err) ∧ w.cell? ⟨g, 5, none⟩ = some (.bool s.last.found) ∧ w.cell? ⟨g, 6, none⟩ = some (.string ⟨s.last.val.toArray⟩) ∧ w.cell? ⟨g, 7, none⟩ = some (.int .i64 s.last.rev) :=
  ⟨h.cell 0 _ rfl, h.cell 1 _ rfl, h.cell 2 _ rfl, h.cell 3 _ rfl, h.cell 4 _ rfl, h.cell 5 _ rfl, h.cell 6 _ rfl, h.cell 7 _ rfl⟩
theorem guard_ses : Tryz.prog.eqGuardType Tryz.prog.depth 55 = false := by kernel_rfl
theorem Se.ext_iff (a b : Se.Ses) : a = b ↔ a.client = b.client ∧ a.seq = b.seq ∧ a.last.client = b.last.client ∧ a.last.seq = b.last.seq ∧ a.last.err = b.last.err ∧ a.last.found = b.last.found ∧ a.last.val = b.last.val ∧ a.last.rev = b.last.rev := by
  obtain ⟨c, q, k, cl, sq, nd, ky, od⟩ := a
  obtain ⟨c', q', k', cl', sq', nd', ky', od'⟩ := b
  simp only [Se.Ses.mk.injEq, An.Ans.mk.injEq]
theorem run_neq_ses (w : World) (a b : Se.Ses) : (binOp .neq 55 (.agg (Se.cells a)) (.agg (Se.cells b))).run Tryz.prog w = .ok (.bool (!decide (a = b))) w := by
  have hu := Tryz.underlying55
  have hc := Tryz.underlying53
  rw [show decide (a = b) = decide (a.client = b.client ∧ a.seq = b.seq ∧ a.last.client = b.last.client ∧ a.last.seq = b.last.seq ∧ a.last.err = b.last.err ∧ a.last.found = b.last.found ∧ a.last.val = b.last.val ∧ a.last.rev = b.last.rev) from decide_eq_decide.2 (Se.ext_iff a b)]
  obtain ⟨c, q, k, cl, sq, nd, ky, od⟩ := a
  obtain ⟨c', q', k', cl', sq', nd', ky', od'⟩ := b
  dsimp only [Se.cells]
  go_simp
  repeat' split
  all_goals simp_all

/-- A session boxed. -/
theorem box_ses (w : World) (s : Se.Ses) : ∃ w1, w.alloc (.cells (Se.cells s) 55) = w1 ∧ Sess w1 w.heap.size s ∧ Below w.heap.size w w1 ∧ w1.heap.size = w.heap.size + 1 :=
  ⟨_, rfl, Lies.new w _ _, (Below.refl _ w).alloc (Nat.le_refl _) _, by simp⟩
theorem Se.cells_one (s : Se.Ses) : (Se.cells s).size = 8 ∧ (Se.cells s).all (·.oneCell') = true := ⟨rfl, by simp [Se.cells, Value.oneCell']⟩
theorem Se.sized (l : List Se.Ses) : Sized 8 (l.map Se.cells) := Sized.map Se.cells_one l
theorem run_ses (w : World) (g : Nat) (s : Se.Ses) (h : Sess w g s) : (loadVar 55 ⟨g, 0, none⟩).run Tryz.prog w = .ok (.agg (Se.cells s)) w :=
  run_loadVar_row w g _ _ (Se.cells s) (0, 0) _ h Tryz.underlying55 rfl (by kernel_rfl)
theorem ret_ses2 {fn : Func} {R : Ending → World → Prop} {a : Act} {w : World} {p u : Tmp} {g : Nat} {s : Se.Ses} (h : fn.results = #[.cell p 55, .tmp u]) (hp : a.tmps.getD p undef = .pointer (some ⟨g, 0, none⟩))
    (hl : Sess w g s) (hd : a.defers = []) (hR : R (.returned (.tuple #[.agg (Se.cells s), a.tmps.getD u undef])) w) : bodyPost Tryz.prog fn R .ret a w := by
  refine bodyPost_ret ?_ hd hR
  rw [results_two h, hp]
  simp [asAddr, Result.andThen, run_ses w g s hl]
/-- A number, and an answer that lies in memory. -/
theorem ret_int_ans {fn : Func} {R : Ending → World → Prop} {a : Act} {w : World} {p u : Tmp} {g : Nat} {c : An.Ans} (h : fn.results = #[.tmp u, .cell p 53]) (hp : a.tmps.getD p undef = .pointer (some ⟨g, 0, none⟩))
    (hl : Anss w g c) (hd : a.defers = []) (hR : R (.returned (.tuple #[a.tmps.getD u undef, .agg (An.cells c)])) w) : bodyPost Tryz.prog fn R .ret a w := by
  refine bodyPost_ret ?_ hd hR
  rw [results_tail h, hp]
  simp [asAddr, Result.andThen, run_answer w g c hl]
/-- An answer's cells, stored one behind the other. -/
theorem set_ans {w : World} {g : Nat} {c0 : An.Ans} (c : An.Ans) (h : Anss w g c0) : ∃ w', (((((w.setCell ⟨g, 0, none⟩ (.int .i64 c.client)).setCell ⟨g, 1, none⟩ (.int .i64 c.seq)).setCell ⟨g, 2, none⟩ (.int .i64 c.err)).setCell ⟨g, 3, none⟩ (.bool c.found)).setCell ⟨g, 4, none⟩ (.string ⟨c.val.toArray⟩)).setCell ⟨g, 5, none⟩ (.int .i64 c.rev) = w' ∧ Anss w' g c ∧ w.grownBy w' (some g) :=
  ⟨_, rfl, (((((h.set 0 _).set 1 _).set 2 _).set 3 _).set 4 _).set 5 _, grown_on (grown_on (grown_on (grown_on (grown_on (grown_set w g 0 _) (grown_set _ g 1 _)) (grown_set _ g 2 _)) (grown_set _ g 3 _)) (grown_set _ g 4 _)) (grown_set _ g 5 _)⟩
theorem Se.cells_at (s : Se.Ses) (j : Nat) (h : j < 8) : ∃ v, (Se.cells s)[j]? = some v := ⟨_, Array.getElem?_eq_getElem (show j < (Se.cells s).size from h)⟩
set_option maxHeartbeats 1600000 in
theorem store_ses {ops : Array Oper} {rest : List Oper} {op : Oper} {a : Act} {w : World} {Q : Exit → Act → World → Prop} (hgd : op.guard = none) (x y : Operand) (ho : op.op = .store 55 x y)
    (g : Nat) (e0 e : Se.Ses) (hx : a.eval x = .pointer (some ⟨g, 0, none⟩)) (hy : a.eval y = .agg (Se.cells e)) (hl : Sess w g e0)
    (h : ∀ w', Sess w' g e → w.grownBy w' (some g) → wpList Tryz.prog ops Q rest (a.put op.dst undef) w') : wpList Tryz.prog ops Q (op :: rest) a w := by
  have h0 : ∀ j, j < 8 → (w.cell? ⟨g, j, none⟩).isSome = true := by
    intro j hj
    obtain ⟨v, hv⟩ := Se.cells_at e0 j hj
    rw [hl.cell j v hv]; rfl
  have hone := (Se.cells_one e).2
  have hf := hl.free
  refine wpList_store_mid hgd _ x y ho g 0 (Se.cells e) hx hy (fun j hj => ?_) (by kernel_rfl) hone (h _ (Lies.whole hl rfl) (grown_sets g _ _ _))
  rw [Nat.zero_add]
  exact ⟨h0 j hj, hf j⟩
/-- A load of a session that lies anywhere. -/
theorem load_ses {ops : Array Oper} {rest : List Oper} {op : Oper} {a : Act} {w : World} {Q : Exit → Act → World → Prop} (hgd : op.guard = none) (x : Operand) (ho : op.op = .load 55 x)
    (g o : Nat) (s : Se.Ses) (hx : a.eval x = .pointer (some ⟨g, o, none⟩)) (hl : SesAt w g o s)
    (h : wpList Tryz.prog ops Q rest (a.put op.dst (.agg (Se.cells s))) w) : wpList Tryz.prog ops Q (op :: rest) a w :=
  wpList_load_mid hgd _ x ho g o hx (Se.cells s).toList _ (fun j v hv => by
    match j with
    | 0 => simp [Se.cells] at hv; subst hv; exact hl.c0
    | 1 => simp [Se.cells] at hv; subst hv; exact hl.c1
    | 2 => simp [Se.cells] at hv; subst hv; exact hl.c2
    | 3 => simp [Se.cells] at hv; subst hv; exact hl.c3
    | 4 => simp [Se.cells] at hv; subst hv; exact hl.c4
    | 5 => simp [Se.cells] at hv; subst hv; exact hl.c5
    | 6 => simp [Se.cells] at hv; subst hv; exact hl.c6
    | 7 => simp [Se.cells] at hv; subst hv; exact hl.c7
    | j + 8 => simp [Se.cells] at hv) Tryz.underlying55 rfl (by kernel_rfl) h
/-- A load of its answer. -/
theorem load_last {ops : Array Oper} {rest : List Oper} {op : Oper} {a : Act} {w : World} {Q : Exit → Act → World → Prop} (hgd : op.guard = none) (x : Operand) (ho : op.op = .load 53 x)
    (g o : Nat) (s : Se.Ses) (hx : a.eval x = .pointer (some ⟨g, o + 2, none⟩)) (hl : SesAt w g o s)
    (h : wpList Tryz.prog ops Q rest (a.put op.dst (.agg (An.cells s.last))) w) : wpList Tryz.prog ops Q (op :: rest) a w :=
  wpList_load_mid hgd _ x ho g (o + 2) hx (An.cells s.last).toList _ (fun j v hv => by
    match j with
    | 0 => simp [An.cells] at hv; subst hv; exact hl.c2
    | 1 => simp [An.cells] at hv; subst hv; exact hl.c3
    | 2 => simp [An.cells] at hv; subst hv; exact hl.c4
    | 3 => simp [An.cells] at hv; subst hv; exact hl.c5
    | 4 => simp [An.cells] at hv; subst hv; exact hl.c6
    | 5 => simp [An.cells] at hv; subst hv; exact hl.c7
    | j + 6 => simp [An.cells] at hv) Tryz.underlying53 rfl (by kernel_rfl) h

/-! What came in. -/
section
variable {H : Type} {enc : TypeId × Value → H} {w : World} {b0 base : Nat} {held : Bool}
set_option maxRecDepth 20000 in
/-- An element's cells are an answer's. -/
theorem el_ans {sp : Nat → Bool} (m : Nat) (cs : List Value) (y : DataW H × List MemPlace)
    (h : DataW.trod enc Tryz.prog w base sp held m 53 cs = some y) : ∃ a : An.Ans, cs = (An.cells a).toList ∧ a.Fits ∧ a.val.length ≤ 9223372036854775807 := by
  obtain ⟨ys, n, _, _, hl, hlen, hat⟩ := DataW.trod_struct Tryz.underlying53 h
  have hce : Tryz.prog.cellsOf 53 = 6 := by kernel_rfl
  have hci : Tryz.prog.cellsOf 3 = 1 := by kernel_rfl
  have hcr : Tryz.prog.cellsOf 29 = 1 := by kernel_rfl
  have hcb : Tryz.prog.cellsOf 4 = 1 := by kernel_rfl
  have hcs : Tryz.prog.cellsOf 9 = 1 := by kernel_rfl
  have g0 := hat 0 _ rfl
  have g1 := hat 1 _ rfl
  have g2 := hat 2 _ rfl
  have g3 := hat 3 _ rfl
  have g4 := hat 4 _ rfl
  have g5 := hat 5 _ rfl
  rw [List.getElem?_eq_getElem (by rw [hlen]; simp)] at g0 g1 g2 g3 g4 g5
  obtain ⟨x0, e0, a0, b0⟩ := one_int Tryz.underlying3 g0 hci
  obtain ⟨x1, e1, a1, b1⟩ := one_int Tryz.underlying3 g1 hci
  obtain ⟨x2, e2, a2, b2⟩ := one_int Tryz.underlying29 g2 hcr
  obtain ⟨x3, e3⟩ := one_bool Tryz.underlying4 g3 hcb
  obtain ⟨x4, e4, a4⟩ := one_str Tryz.underlying9 g4 hcs
  obtain ⟨x5, e5, a5, b5⟩ := one_int Tryz.underlying3 g5 hci
  rw [hce] at hl
  match cs, hl with
  | [c0, c1, c2, c3, c4, c5], _ =>
    simp at e0 e1 e2 e3 e4 e5
    subst e0 e1 e2 e3 e4 e5
    refine ⟨⟨x0, x1, x2, x3, x4.data.toList, x5⟩, rfl, ⟨a0, b0, a1, b1, a2, b2, a5, b5⟩, ?_⟩
    show x4.size ≤ _; omega
set_option maxRecDepth 20000 in
/-- An element's cells are a session's. -/
theorem el_ses {sp : Nat → Bool} (m : Nat) (cs : List Value) (y : DataW H × List MemPlace)
    (h : DataW.trod enc Tryz.prog w base sp held m 55 cs = some y) : ∃ s : Se.Ses, cs = (Se.cells s).toList ∧ s.Fits ∧ s.last.val.length ≤ 9223372036854775807 := by
  obtain ⟨ys, n, _, _, hl, hlen, hat⟩ := DataW.trod_struct Tryz.underlying55 h
  have hce : Tryz.prog.cellsOf 55 = 8 := by kernel_rfl
  have hci : Tryz.prog.cellsOf 3 = 1 := by kernel_rfl
  have hca : Tryz.prog.cellsOf 53 = 6 := by kernel_rfl
  have g0 := hat 0 _ rfl
  have g1 := hat 1 _ rfl
  have g2 := hat 2 _ rfl
  rw [List.getElem?_eq_getElem (by rw [hlen]; simp)] at g0 g1 g2
  obtain ⟨x0, e0, a0, b0⟩ := one_int Tryz.underlying3 g0 hci
  obtain ⟨x1, e1, a1, b1⟩ := one_int Tryz.underlying3 g1 hci
  have g2' : DataW.trod enc Tryz.prog w base sp held n 53 ((cs.drop 2).take (Tryz.prog.cellsOf 53)) = some _ := g2
  rw [hca] at g2'
  obtain ⟨a, e2, fa, sa⟩ := el_ans _ _ _ g2'
  rw [hce] at hl
  match cs, hl with
  | [c0, c1, c2, c3, c4, c5, c6, c7], _ =>
    refine ⟨⟨x0, x1, a⟩, ?_, ⟨a0, b0, a1, b1, fa⟩, sa⟩
    simp [An.cells] at e0 e1 e2
    simp [Se.cells, e0, e1, e2]
/-- A row of sessions. -/
abbrev ReadsN (w : World) (v : Value) (l : List Se.Ses) : Prop := ReadsR w v 8 (l.map Se.cells)
set_option maxRecDepth 20000 in
theorem came_sess {v : Value} {d : DataW H} {p : List MemPlace} (hv : Value.okWide Tryz.prog w .any b0 23 v) (h : DataW.Trod enc Tryz.prog w base (fun _ => true) held 23 v d p) :
    ∃ l : List Se.Ses, ReadsN w v l ∧ ∀ s ∈ l, s.Fits ∧ s.last.val.length ≤ 9223372036854775807 :=
  came_rows Se.cells (fun s => s.Fits ∧ s.last.val.length ≤ 9223372036854775807) Tryz.underlying23 (by kernel_rfl) (fun m cs y hm => el_ses m cs y hm) hv h
end
theorem ReadsN.shape {w : World} {v : Value} {l : List Se.Ses} (h : ReadsN w v l) : ∃ ao cap, v = .slice ao l.length cap ∧ l.length ≤ cap ∧ cap ≤ 9223372036854775807 := by
  obtain ⟨ao, cap, h1, h2, h3⟩ := ReadsR.shape h
  rw [List.length_map] at h1 h2
  exact ⟨ao, cap, h1, h2, h3⟩
/-- Where there is a session: its eight cells, in every world behind. -/
theorem ReadsN.places {w : World} {ao : Option Addr} {n cap : Nat} {l : List Se.Ses} (h : ReadsN w (.slice ao n cap) l) (hl : 0 < l.length) :
    ∃ b off, ao = some ⟨b, off, none⟩ ∧ b < w.heap.size ∧ ∀ w', Below w.heap.size w w' → ∀ i s, l[i]? = some s → SesAt w' b (off + i * 8) s := by
  obtain ⟨b, off, e, hlt, hc⟩ := ReadsR.places h (r0 := Se.cells (l[0]'hl)) (u0 := .int .i64 (l[0]'hl).client) (by rw [List.getElem?_map, List.getElem?_eq_getElem hl]; rfl) rfl
  refine ⟨b, off, e, hlt, fun w' hb i c hi => SesAt.of fun j u hu => ?_⟩
  have := hc w' hb i (Se.cells c) (by rw [List.getElem?_map, hi]; rfl) j u hu
  rwa [← Nat.add_assoc] at this
theorem info_ses : (Tryz.prog.info? 55).map (fun i => (i.zero, i.size, i.bytes)) = some (some (.agg (Se.cells Se.zero)), 8, 72) := by kernel_rfl

end Go.Proofs.YtammfmmpldahhaaGreat


namespace Go.Proofs.YtammfmmpldahhaaGreat
open Go.RowKit

set_option maxRecDepth 4000 in
set_option maxHeartbeats 1600000 in
theorem isValid_any (s : Se.Ses) (w : World) (hs : s.last.val.length ≤ 140737488355328) : Calls Tryz.prog 91 #[.agg (Se.cells s)] w (Looks w (.bool (Se.valid s))) := by
  obtain ⟨w1, e1, hl1, hB1, hz1⟩ := box_ses w s
  obtain ⟨p0, p1, p2, p3, p4, p5, p6, p7⟩ := Sess.eight hl1
  have HB1 := Lib.hid hB1
  have hchk := acheck_any s.last w1 hs
  obtain ⟨r, hr⟩ : ∃ r, r = Se.valid s := ⟨_, rfl⟩
  rw [← hr]
  unfold Se.valid at hr
  obtain ⟨t1, h1⟩ : ∃ t, (s.last.client == s.client) = t := ⟨_, rfl⟩
  obtain ⟨t2, h2⟩ : ∃ t, (s.last.seq == s.seq) = t := ⟨_, rfl⟩
  obtain ⟨y, hy⟩ : ∃ y, y = An.check s.last := ⟨_, rfl⟩
  rw [← hy] at hchk hr
  rw [h1, h2] at hr
  have HR := Lib.hid hr
  clear hl1 hB1 hz1 hs hr hy
  cases t1 with
  | false =>
    have HZ : Hid (r = false) := by show _ = _; rw [HR.out]; rfl
    go_enter Tryz.func91, Tryz.ntmps91
    go_wp2
    go_ret
    exact ⟨by rw [HZ.out]; rfl, HB1.out⟩
  | true =>
    cases t2 with
    | false =>
      have HZ : Hid (r = false) := by show _ = _; rw [HR.out]; rfl
      go_enter Tryz.func91, Tryz.ntmps91
      go_wp2
      go_ret
      exact ⟨by rw [HZ.out]; rfl, HB1.out⟩
    | true =>
      have HZ : Hid (r = (y == 0)) := by show _ = _; rw [HR.out]; rfl
      go_enter Tryz.func91, Tryz.ntmps91
      go_wp2_with (go_at_call 103; refine hchk.mono ?_; rintro e w2 ⟨rfl, hB2⟩)
      go_ret
      exact ⟨by rw [HZ.out]; rfl, HB1.out.trans (hB2.mono HB1.out.size)⟩

set_option maxRecDepth 4000 in
set_option maxHeartbeats 3200000 in
theorem checkSe_any (v : Value) (l : List Se.Ses) (w : World) (hv : ReadsN w v l) (hs : ∀ s ∈ l, s.last.val.length ≤ 140737488355328) :
    Calls Tryz.prog 75 #[v] w (Looks w (.int .i64 (if Se.check 0 l = true then 0 else 3))) := by
  obtain ⟨ao, cap, rfl, hc1, hc2⟩ := ReadsN.shape hv
  have HP := Lib.hid (fun h => ReadsN.places hv h)
  have HS := Lib.hid hs
  obtain ⟨n, hnn⟩ : ∃ n, n = l.length := ⟨_, rfl⟩
  rw [← hnn] at hc1 ⊢
  have HN := Lib.hid hnn
  obtain ⟨r, hr⟩ : ∃ r, r = Se.check 0 l := ⟨_, rfl⟩
  rw [← hr]
  have HR := Lib.hid hr
  have hnb : n < 9223372036854775808 := by omega
  obtain ⟨y, hy⟩ : ∃ y : Int, y = if r = true then 0 else 3 := ⟨_, rfl⟩
  rw [← hy]
  have HY := Lib.hid hy
  clear hv hnn hr hs hy
  go_enter Tryz.func75, Tryz.ntmps75
  go_wp2
  go_loopw [3, 8] (fun b' i wr => ∃ (k : Nat) (b : Int), b' = .int .i64 b ∧ i = .int .i64 (k : Int) ∧ k ≤ n ∧ Hid (r = Se.check b (l.drop k)) ∧ Below w.heap.size w wr) (fun _ i _ => n - (intOf i).toNat)
  case atStart => exact ⟨0, 0, rfl, rfl, by omega, HR.out, Below.refl _ _⟩
  case round =>
    obtain ⟨k, b, rfl, rfl, hk, HI, hB⟩ := hrel
    have HB := Lib.hid hB
    clear hB
    by_cases hlt : k < n
    · obtain ⟨s, hse⟩ : ∃ s, l[k]? = some s := ⟨_, List.getElem?_eq_getElem (by have := HN.out; omega)⟩
      obtain ⟨g, off, rfl, hgl, hcell⟩ := HP.out (by have := HN.out; omega)
      have HC := Lib.hid (hcell wr HB.out k s hse)
      have HV := Lib.hid (fun W => isValid_any s W (HS.out s (List.mem_of_getElem? hse)))
      obtain ⟨t, ht⟩ : ∃ t, t = Se.valid s := ⟨_, rfl⟩
      rw [← ht] at HV
      have HST := Lib.hid (HI.out.trans (Se.check_step hse b))
      rw [← ht] at HST
      clear hcell hse ht
      by_cases h1 : s.client ≤ b
      · have HZ : Hid (y = 3) := by show _ = _; rw [HY.out, HST.out, if_pos h1]; rfl
        have d1 : decide (s.client ≤ b) = true := decide_eq_true h1
        clear h1
        go_wp2_with (first
          | (refine load_ses rfl _ rfl g (off + k * 8) s rfl HC.out ?_)
          | (refine store_ses (by rfl) _ _ (by rfl) wr.heap.size Se.zero s (by rfl) (by rfl) (Lies.new _ _ _) ?_; intro w4 hl4 hg4
             have hB4 : Below wr.heap.size wr w4 := ((Below.refl _ wr).alloc (Nat.le_refl _) _).grown hg4 (by simp) (by rintro j hj; cases hj; exact Nat.le_refl _)
             have HB4 := Lib.hid (HB.out.trans (hB4.mono HB.out.size))
             obtain ⟨q0, q1, q2, q3, q4, q5, q6, q7⟩ := Sess.eight hl4
             clear hl4 hg4 hB4))
        go_ret
        exact ⟨by rw [HZ.out]; rfl, HB4.out⟩
      · have d1 : decide (s.client ≤ b) = false := decide_eq_false h1
        cases t with
        | false =>
          have HZ : Hid (y = 3) := by show _ = _; rw [HY.out, HST.out, if_neg h1, if_pos rfl]; rfl
          clear h1
          go_wp2_with (first
            | (refine load_ses rfl _ rfl g (off + k * 8) s rfl HC.out ?_)
            | (refine store_ses (by rfl) _ _ (by rfl) wr.heap.size Se.zero s (by rfl) (by rfl) (Lies.new _ _ _) ?_; intro w4 hl4 hg4
               have hB4 : Below wr.heap.size wr w4 := ((Below.refl _ wr).alloc (Nat.le_refl _) _).grown hg4 (by simp) (by rintro j hj; cases hj; exact Nat.le_refl _)
               have HB4 := Lib.hid (HB.out.trans (hB4.mono HB.out.size))
               obtain ⟨q0, q1, q2, q3, q4, q5, q6, q7⟩ := Sess.eight hl4
               clear hl4 hg4 hB4)
            | (go_at_call 91; refine (HV.out _).mono ?_; rintro e w5 ⟨rfl, hB5⟩))
          go_ret
          exact ⟨by rw [HZ.out]; rfl, HB4.out.trans (hB5.mono HB4.out.size)⟩
        | true =>
          have HZ : Hid (r = Se.check s.client (l.drop (k + 1))) := by show _ = _; rw [HST.out, if_neg h1, if_neg (by simp)]
          clear h1
          go_wp2_with (first
            | (refine load_ses rfl _ rfl g (off + k * 8) s rfl HC.out ?_)
            | (refine store_ses (by rfl) _ _ (by rfl) wr.heap.size Se.zero s (by rfl) (by rfl) (Lies.new _ _ _) ?_; intro w4 hl4 hg4
               have hB4 : Below wr.heap.size wr w4 := ((Below.refl _ wr).alloc (Nat.le_refl _) _).grown hg4 (by simp) (by rintro j hj; cases hj; exact Nat.le_refl _)
               have HB4 := Lib.hid (HB.out.trans (hB4.mono HB.out.size))
               have HL4 := Lib.hid hl4
               obtain ⟨q0, q1, q2, q3, q4, q5, q6, q7⟩ := Sess.eight hl4
               clear hl4 hg4 hB4)
            | (go_at_call 91; refine (HV.out _).mono ?_; rintro e w5 ⟨rfl, hB5⟩; have x0 := (HL4.out.below hB5 HL4.out.lt).cell 0 _ rfl))
          go_roundw
          case rel => exact ⟨k + 1, s.client, rfl, by go_num, by omega, HZ.out, HB4.out.trans (hB5.mono HB4.out.size)⟩
          case measure => simp [intOf]; omega
    · have HZ : Hid (y = 0) := by show _ = _; rw [HY.out, HI.out, List.drop_of_length_le (by have := HN.out; omega)]; rfl
      go_wp2
      go_ret
      exact ⟨by rw [HZ.out]; rfl, HB.out⟩

end Go.Proofs.YtammfmmpldahhaaGreat


namespace Go.Proofs.YtammfmmpldahhaaGreat
open Go.RowKit

end Go.Proofs.YtammfmmpldahhaaGreat


namespace Go.Proofs.YtammfmmpldahhaaGreat
open Go.RowKit

/-- What a call leaves that makes a slice of sessions. -/
def MadeN (w : World) (l : List Se.Ses) (e : Ending) (w' : World) : Prop := ∃ v, e = .returned v ∧ OwnsR w' w.heap.size 55 8 v (l.map Se.cells) ∧ Below w.heap.size w w'
theorem run_rest_ses (w : World) (ao : Option Addr) (n cap f : Nat) (hf : f ≤ n) :
    (Instr.slice 23 (.slice ao n cap) (some (.int .i64 (f : Int))) none none).run Tryz.prog w = .ok (sliced ao f n cap 8) w := by
  have he : Tryz.prog.elem 23 = 55 := by kernel_rfl
  have hi : (Tryz.prog.info? 55).isSome = true := by kernel_rfl
  obtain ⟨i, hi⟩ := Option.isSome_iff_exists.1 hi
  have hrun := run_slice_l (P := Tryz.prog) (w := w) 23 ao n cap (by rw [he]; exact Tryz.underlying23) .i64 (f : Int) (by omega) (by omega)
  rw [he] at hrun
  refine hrun.trans ?_
  rw [run_sizeOf _ hi, show Tryz.prog.cellsOf 55 = 8 by kernel_rfl]
  simp only [Result.andThen, Int.toNat_natCast]
theorem run_first_ses (w : World) (ao : Option Addr) (n cap f : Nat) (hf : f ≤ cap) :
    (Instr.slice 23 (.slice ao n cap) none (some (.int .i64 (f : Int))) none).run Tryz.prog w = .ok (sliced ao 0 f cap 8) w := by
  have he : Tryz.prog.elem 23 = 55 := by kernel_rfl
  have hi : (Tryz.prog.info? 55).isSome = true := by kernel_rfl
  obtain ⟨i, hi⟩ := Option.isSome_iff_exists.1 hi
  have hrun := run_slice_h (P := Tryz.prog) (w := w) 23 ao n cap (by rw [he]; exact Tryz.underlying23) .i64 (f : Int) (by omega) (by omega)
  rw [he] at hrun
  refine hrun.trans ?_
  rw [run_sizeOf _ hi, show Tryz.prog.cellsOf 55 = 8 by kernel_rfl]
  simp only [Result.andThen, Int.toNat_natCast]

/-- Three slices of sessions, one behind the other in a block. -/
def ThreeN (w : World) (H : Nat) (ls : List (List Se.Ses)) : Prop := ∀ k l, ls[k]? = some l → ∃ u, w.cell? ⟨H, k, none⟩ = some u ∧ ReadsN w u l
theorem flatN_take {ls : List (List Se.Ses)} {k : Nat} {l : List Se.Ses} (h : ls[k]? = some l) : (ls.take (k + 1)).flatten = (ls.take k).flatten ++ l := by
  rw [List.take_add_one, h, List.flatten_append]; simp
theorem flatN_len {ls : List (List Se.Ses)} {k : Nat} {l : List Se.Ses} (h : ls[k]? = some l) : (ls.take k).flatten.length + l.length ≤ ls.flatten.length := by
  have e : ls.flatten = (ls.take (k + 1)).flatten ++ (ls.drop (k + 1)).flatten := by rw [← List.flatten_append, List.take_append_drop]
  rw [e, List.length_append, flatN_take h, List.length_append]
  omega

end Go.Proofs.YtammfmmpldahhaaGreat
